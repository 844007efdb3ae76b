/- A disk that is written (Written), the model's side. -/
import Derived.Test.YtkhinppphmfniaaWt
namespace Go.Proofs.Ytkhinppphmfniaa
open Go.RowKit

def writeNew (g : Nat) (ws : List Int) : Option (List Int × Nat) → List Int
  | none => []
  | some (ys, t) => if manyN ys < 64 then doneL ((moreL ys ws).set (t * 8 + g % 8) (manyN ys)) else []
def writeMid (xs : List Int) (g : Nat) (ws : List Int) : List Int :=
  if (ownIn (firstEntry xs 0 ((g / 8 : Nat) : Int)) && ownIn (entryAt xs 0 g)) = true then setCl xs (targetOf (entryAt xs 0 g)).toNat ws else writeNew g ws (secondL xs (g / 8))
def writtenL (xs : List Int) (g : Int) (ws : List Int) : List Int :=
  if soundB xs = true ∧ inB g 0 ((headOf xs).size - 1) = true ∧ eightB ws = true then writeMid xs g.toNat ws else []

theorem second_ok {xs : List Int} (h : soundB xs = true) {s : Nat} (hs : s < 8) {ys : List Int} {t : Nat} (e : secondL xs s = some (ys, t)) : t ≤ manyN ys ∧ ys.length ≤ 520 := by
  have hh := sound_head h
  have hl := hasHead_len hh
  have hm := manyN_le (hasHead_img hh)
  unfold secondL at e
  split at e
  · rename_i hc
    cases e
    have hfe := firstEntry_sound h s hs
    obtain ⟨c, hcm, hk, _, _, _, htc⟩ := second_claim (sound_first h).2 s hs (by rw [← hfe]; exact hc.1)
    rw [← hfe] at htc
    have hcg := sound_good h ((c6_prefix xs _).subset hcm)
    rcases (claims_ok xs c ((c6_prefix xs _).subset hcm)).lead hcg with h1 | h1
    · omega
    · rw [htc] at h1
      have := there_lt h1
      omega
  · split at e
    · rename_i hm64
      cases e
      have h8 : (if targetOf (firstEntry xs 0 s) ≠ 0 then cl xs (targetOf (firstEntry xs 0 s)).toNat else z8).length = 8 := by split; exact cl_length _ _; rfl
      rw [set_many, more_many _ _ h8, List.length_set, more_length _ _ h8]
      omega
    · cases e
theorem own_target {e : Int} (h : ownIn e = true) : wordB e = true ∧ 0 ≤ targetOf e := by
  unfold ownIn at h
  rw [Bool.and_eq_true] at h
  exact ⟨h.1, (target_nonneg h.1).1⟩
theorem rd_some {w : World} {B n : Nat} {A : Option Addr} {xs : List Int} (h : Rd w B A n xs) (hn : 0 < n) : ∃ b off, A = some ⟨b, off, none⟩ := by
  obtain ⟨b, off, e, _⟩ := h.2 hn
  exact ⟨b, off, e⟩

set_option maxRecDepth 100000 in
set_option maxHeartbeats 8000000 in
theorem specWritten_any (A : Option Addr) (n cb : Nat) (xs : List Int) (g : Int) (W : Option Addr) (nw cw : Nat) (ws : List Int) (w : World) (hr : Rd w w.heap.size A n xs) (hc : n ≤ cb) (hw : Rd w w.heap.size W nw ws) (hn : n ≤ 2097152) (hnw : nw ≤ 2097152) :
    Calls Try.prog 52 #[.slice A n cb, .int .i64 g, .slice W nw cw] w (Ret w (writtenL xs g ws)) := by
  have hno : ¬ (soundB xs = true ∧ inB g 0 ((headOf xs).size - 1) = true ∧ eightB ws = true) → writtenL xs g ws = [] := fun h => by unfold writtenL; rw [if_neg h]
  have HNO := Lib.hid hno
  clear hno
  go_enter Try.func52, Try.ntmps52
  go_wp2_with fail
  refine (specHeadIn_any _ _ _ xs _ hr hn).mono ?_
  rintro e w1 ⟨rfl, b1⟩
  generalize hh : headIn xs = r
  obtain ⟨⟨s, f, r, u, m⟩, is⟩ := r
  have HR := Lib.hid hh
  clear hh
  unfold hdV
  have b2 := b1.alloc b1.size (.cells #[.int .i64 s, .int .i64 f, .int .i64 r, .int .i64 u, .int .i64 m] 26)
  have c0 : (w1.alloc (.cells #[.int .i64 s, .int .i64 f, .int .i64 r, .int .i64 u, .int .i64 m] 26)).cell? ⟨w1.heap.size, 0, none⟩ = some (.int .i64 s) := World.cell?_alloc_new _ _ _ _
  have hz : (w1.alloc (.cells #[.int .i64 s, .int .i64 f, .int .i64 r, .int .i64 u, .int .i64 m] 26)).heap.size = w1.heap.size + 1 := by simp
  have HZ := Lib.hid hz
  clear hz
  go_wp2_with fail
  refine (specSound_any A n cb xs _ ((hr.below b2).more b2.size) hn).mono ?_
  rintro e w3 ⟨rfl, b3⟩
  have b03 := below_more b2 b3 b2.size
  have q0 : w3.cell? ⟨w1.heap.size, 0, none⟩ = some (.int .i64 s) := (b3.cell (p := ⟨w1.heap.size, 0, none⟩) (by show w1.heap.size < _; have := HZ.out; omega)).trans c0
  clear b3 b2 c0 HZ
  cases hsd : soundB xs
  · have HN := Lib.hid (HNO.out (by rw [hsd]; simp))
    clear hsd
    go_wp2_with fail
    go_ret
    rw [HN.out]
    exact Ret.emptyAt _ rfl b03
  have hh := sound_head hsd
  have his : is = true ∧ headOf xs = ⟨s, f, r, u, m⟩ := by
    have e := HR.out
    rw [headIn_yes hh] at e
    cases e; exact ⟨rfl, rfl⟩
  obtain ⟨rfl, hho⟩ := his
  have hall := headB_all (hasHead_ok hh)
  have HHO := Lib.hid hho
  rw [hho] at hall
  obtain ⟨⟨z1, z2⟩, _⟩ := hall
  simp only at z1 z2
  have HSD := Lib.hid hsd
  clear hsd hho
  cases hig : inB g 0 (s - 1)
  · have HN := Lib.hid (HNO.out (by rw [HHO.out, hig]; simp))
    have HIG := Lib.hid hig
    clear hig
    go_wp2_with fail
    refine (in_any _ _ _ _).mono ?_
    rintro e w' ⟨rfl, rfl⟩
    rw [HIG.out]
    go_wp2_with fail
    go_ret
    rw [HN.out]
    exact Ret.emptyAt _ rfl b03
  have HIG := Lib.hid hig
  obtain ⟨g0, g1⟩ := inB_true.1 hig
  obtain ⟨γ, rfl⟩ := Int.eq_ofNat_of_zero_le g0
  clear hig
  go_wp2_with fail
  refine (in_any _ _ _ _).mono ?_
  rintro e w' ⟨rfl, rfl⟩
  rw [HIG.out]
  go_wp2_with fail
  refine (specEight_any _ _ _ ws _ _ ((hw.below b03)) hnw).mono ?_
  rintro e w' ⟨rfl, rfl⟩
  cases h8 : eightB ws
  · have HN := Lib.hid (HNO.out (by rw [h8]; simp))
    clear h8
    go_wp2_with fail
    go_ret
    rw [HN.out]
    exact Ret.emptyAt _ rfl b03
  have HM : Hid (writtenL xs γ ws = writeMid xs γ ws) := by
    unfold writtenL; rw [if_pos ⟨HSD.out, by rw [HHO.out]; exact HIG.out, h8⟩, Int.toNat_natCast]; exact rfl
  have hw8 := eightB_len h8
  obtain rfl : nw = 8 := hw.len.symm.trans hw8
  have hlen := hasHead_len hh
  have hx := hr.len
  have hn512 : n ≤ 512 := by omega
  obtain ⟨ab, aoff, rfl⟩ := rd_some hr (by omega)
  have hpar := (sound_parts HSD.out).1
  have HX := Lib.hid hx
  have HMN : Hid (manyN xs * 8 = n) := by show _ = _; unfold manyN; omega
  have HSE := Lib.hid (sound_entry HSD.out γ (by rw [HHO.out]; show (γ : Int) < s; omega))
  have HW8 := Lib.hid hw8
  have r3 := (hr.below b03).more b03.size
  have rw3 := (hw.below b03).more b03.size
  clear h8 hw8 hx HNO HR
  go_wp2_with fail
  refine (specEntryAt_any _ n cb xs 0 γ w3 r3 hn).mono ?_
  rintro e w4 ⟨rfl, b4⟩
  have b04 := below_more b03 b4 b03.size
  have HMD : Hid (writeMid xs γ ws = if (ownIn (firstEntry xs 0 ((γ / 8 : Nat) : Int)) && ownIn (entryAt xs 0 γ)) = true then setCl xs (targetOf (entryAt xs 0 γ)).toNat ws else writeNew γ ws (secondL xs (γ / 8))) := rfl
  generalize entryAt xs 0 γ = e2 at *
  go_wp2_with fail
  have e8 : ((γ / 8 : Nat) : Int) = (γ : Int) / 8 := by omega
  rw [e8] at HMD
  have E8 := Lib.hid e8
  clear e8
  refine (specFirstEntry_any _ n cb xs 0 ((γ : Int) / 8) w4 ((hr.below b04).more b04.size) hn).mono ?_
  rintro e w5 ⟨rfl, b5⟩
  have b05 := below_more b04 b5 b04.size
  generalize firstEntry xs 0 ((γ : Int) / 8) = e1 at *
  go_wp2_with fail
  refine (specOwn_any _ _).mono ?_
  rintro e w' ⟨rfl, rfl⟩
  have hγ8 : γ / 8 < 8 := by omega
  cases ho1 : ownIn e1
  case' false =>
    have HNW : Hid (writtenL xs γ ws = writeNew γ ws (secondL xs (γ / 8))) := by rw [HM.out, HMD.out, ho1]; exact rfl
    clear ho1
    go_wp2_with fail
  case' true =>
    have HO1 := Lib.hid ho1
    clear ho1
    go_wp2_with fail
    refine (specOwn_any _ _).mono ?_
    rintro e w' ⟨rfl, rfl⟩
    cases ho2 : ownIn e2
    case' true =>
      have HNW : Hid (writtenL xs γ ws = setCl xs (targetOf e2).toNat ws) := by rw [HM.out, HMD.out, HO1.out, ho2]; exact rfl
      have ht0 := (own_target ho2).2
      clear ho2
      go_wp2_with fail
      refine (specTarget_any _ _).mono ?_
      rintro e w' ⟨rfl, rfl⟩
      generalize targetOf e2 = t2 at *
      obtain ⟨τ, rfl⟩ := Int.eq_ofNat_of_zero_le ht0
      have hτ : τ * 8 ≤ n := by
        by_cases h0 : τ = 0
        · omega
        · have := there_lt (HSE.out (by omega))
          have := HMN.out
          omega
      go_wp2_with fail
      refine (specWith_any ab aoff n cb τ xs ws W cw w5 ((hr.below b05).more b05.size) ((hw.below b05).more b05.size) hc hn (by have := HMN.out; omega) hτ).mono ?_
      rintro e w6 ⟨A6, n6, c6, rfl, o6, b6⟩
      go_wp2_with fail
      go_ret
      rw [HNW.out, Int.toNat_natCast]
      exact ⟨A6, n6, c6, rfl, o6.more b05.size (Nat.le_refl _), below_more b05 b6 b05.size⟩
    have HNW : Hid (writtenL xs γ ws = writeNew γ ws (secondL xs (γ / 8))) := by rw [HM.out, HMD.out, HO1.out, ho2]; exact rfl
    clear ho2 HO1
    go_wp2_with fail
  all_goals
    rw [← E8.out]
    refine (specSecond_any _ n cb xs (γ / 8) w5 ((hr.below b05).more b05.size) HSD.out hγ8).mono ?_
    rintro e w6 (⟨ys, t, A6, n6, c6, hsec, rfl, r6, b6⟩ | ⟨g6, hsec, rfl, b6⟩)
    · obtain ⟨k1, k2⟩ := second_ok HSD.out hγ8 hsec
      have hn6 := r6.len
      have hn6' : n6 ≤ 520 := by omega
      have HNW2 : Hid (writtenL xs γ ws = if manyN ys < 64 then doneL ((moreL ys ws).set (t * 8 + γ % 8) (manyN ys)) else []) := by rw [HNW.out, hsec]; exact rfl
      have b06 := below_more b05 b6 b05.size
      clear hsec hn6 HNW
      go_wp2_with fail
      refine (specMore_any A6 n6 c6 ys W cw ws w6 r6 ((hw.below b06).more b06.size) (by omega)).mono ?_
      rintro e w7 (⟨h64, g7, n7, c7, rfl, hc7, o7, b7⟩ | ⟨h64, g7, rfl, b7⟩)
      · have HNW3 : Hid (writtenL xs γ ws = doneL ((moreL ys ws).set (t * 8 + γ % 8) (manyN ys))) := by rw [HNW2.out, if_pos h64]; exact rfl
        have hn7 := o7.len
        rw [more_length _ _ HW8.out] at hn7
        have hidx : t * 8 + γ % 8 < n7 := by omega
        have hn7' : n7 ≤ 520 := by omega
        have hg7 : w.heap.size ≤ g7 := by
          rcases o7.form with ⟨h, _⟩ | ⟨x, hx, h1, h2, _⟩
          · cases h
          · injection hx with hx; injection hx with hx; have := b06.size; omega
        have b07 := below_more b06 b7 b06.size
        have hco := o7.cell hidx
        have hfo := o7.free (t * 8 + γ % 8)
        have HSt := Lib.hid (o7.set (t * 8 + γ % 8) (manyN ys))
        clear hn7 o7
        go_wp2_with fail
        obtain ⟨o8, hg8⟩ := HSt.out
        have b08 := b07.grown hg8 b07.size (fun q e => by cases e; exact hg7)
        have r8 := o8.rd.more hg8.size
        clear HSt hg8 o8 hco hfo
        generalize w7.setCell ⟨g7, t * 8 + γ % 8, none⟩ (.int .i64 (manyN ys)) = w8 at *
        refine (specDone_any (some ⟨g7, 0, none⟩) n7 c7 _ w8 r8 (by omega)).mono ?_
        rintro e w9 ⟨A9, n9, c9, rfl, o9, b9⟩
        go_wp2_with fail
        go_ret
        rw [HNW3.out]
        exact ⟨A9, n9, c9, rfl, o9.more b08.size (Nat.le_refl _), below_more b08 b9 b08.size⟩
      · have HNW3 : Hid (writtenL xs γ ws = []) := by rw [HNW2.out, if_neg (by omega)]; exact rfl
        go_wp2_with fail
        go_ret
        rw [HNW3.out]
        exact Ret.emptyAt _ rfl (below_more b06 b7 b06.size)
    · have HNW3 : Hid (writtenL xs γ ws = []) := by rw [HNW.out, hsec]; exact rfl
      clear hsec
      go_wp2_with fail
      go_ret
      rw [HNW3.out]
      exact Ret.emptyAt _ rfl (below_more b05 b6 b05.size)

end Go.Proofs.Ytkhinppphmfniaa
