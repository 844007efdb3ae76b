/- Flags (l15Owned): the model's side. Owned (chapter 15): the model's Go function computes it. The exact law of chapter 15, walked, given what the program's own function answers. -/
import Derived.Test.YtieknpkbmccimaaDfw
import Derived.Test.YtieknpkbmccimaaY5
namespace Go.Proofs.Ytieknpkbmccimaa
open Go.RowKit

/-- Where a wrong word stands. -/
theorem wr_mem (xs : List Int) (l : List Cm) (ct : List Int) (t : Int) : ∀ (k : Nat) (o : List Wr) (x : Wr), x ∈ (List.range k).foldl (wrStep xs l ct t) o → x ∈ o ∨ (x.frm = t ∧ 0 ≤ x.slot ∧ x.slot < k) := by
  intro k
  induction k with
  | zero => intro o x h; exact .inl h
  | succ k ih =>
    intro o x h
    rw [range_fold] at h
    unfold wrStep at h
    split at h
    · rw [List.mem_append] at h
      rcases h with h | h
      · rcases ih o x h with h1 | ⟨h1, h2, h3⟩
        · exact .inl h1
        · exact .inr ⟨h1, h2, by omega⟩
      · rw [List.mem_singleton] at h
        subst h
        exact .inr ⟨rfl, by simp, by simp; omega⟩
    · rcases ih o x h with h1 | ⟨h1, h2, h3⟩
      · exact .inl h1
      · exact .inr ⟨h1, h2, by omega⟩
theorem wrR_mem (xs : List Int) (l : List Cm) (ct : List Int) : ∀ (ts : List Int) (o : List Wr) (x : Wr), x ∈ ts.foldl (wrRound xs l ct) o → x ∈ o ∨ (x.frm ∈ ts ∧ 0 ≤ x.slot ∧ x.slot < 8) := by
  intro ts
  induction ts with
  | nil => intro o x h; exact .inl h
  | cons t ts ih =>
    intro o x h
    rw [List.foldl_cons] at h
    rcases ih _ x h with h1 | ⟨h1, h2⟩
    · rcases wr_mem xs l ct t 8 o x h1 with h3 | ⟨h3, h4, h5⟩
      · exact .inl h3
      · exact .inr ⟨by rw [h3]; simp, h4, h5⟩
    · exact .inr ⟨by simp [h1], h2⟩
theorem wrongs_at {xs : List Int} {x : Wr} (h : x ∈ wrongsC xs) : thereB xs x.frm = true ∧ 0 ≤ x.slot ∧ x.slot < 8 := by
  rcases wrR_mem _ _ _ _ _ _ h with h1 | ⟨h1, h2⟩
  · cases h1
  · exact ⟨tables_there h1, h2⟩

def owStep (o : List Int) (x : Wr) : List Int := o.set (x.frm.toNat * 8 + x.slot.toNat) x.must
def ownedC (xs : List Int) : List Int := (wrongsC xs).foldl owStep (whole xs)
theorem ow_length (l : List Wr) : ∀ o : List Int, (l.foldl owStep o).length = o.length := by
  induction l with
  | nil => intro o; rfl
  | cons x l ih => intro o; rw [List.foldl_cons, ih]; simp [owStep]
theorem owned_length (xs : List Int) : (ownedC xs).length = manyN xs * 8 := by unfold ownedC; rw [ow_length, whole_length]

def OwRel (w2 : World) (lo hi g n c : Nat) (xs : List Int) (l : List Wr) (i : Value) (wr : World) : Prop :=
  ∃ k : Nat, k ≤ l.length ∧ i = .int .i64 k ∧ Ow wr lo hi (some ⟨g, 0, none⟩) n c ((l.take k).foldl owStep (whole xs)) ∧ w2.grownBy wr (some g)

set_option maxRecDepth 100000 in
set_option maxHeartbeats 8000000 in
theorem specOwned_any (A : Option Addr) (n cb : Nat) (xs : List Int) (w : World) (hr : Rd w w.heap.size A n xs) (hh : hasHead xs = true) :
    Calls Try.prog 11 #[.slice A n cb] w (RetS w (ownedC xs)) := by
  have hx := Lib.hid hr.len
  have hlen := hasHead_len hh
  have hn : n ≤ 512 := by have := hx.out; omega
  have hmany := manyN_le (hasHead_img hh)
  have HH := Lib.hid hh
  have HWC : Hid (ownedC xs = (wrongsC xs).foldl owStep (whole xs)) := rfl
  clear hh
  go_enter Try.func11, Try.ntmps11
  go_wp2_with fail
  refine (specWhole_any A n cb xs w hr (by omega)).mono ?_
  rintro e w1 ⟨g, n1, c1, rfl, hc1, o1, b1⟩
  have hgl : w.heap.size ≤ g ∧ g < w1.heap.size := by
    rcases o1.form with ⟨h, _⟩ | ⟨x, hx, h1, h2, _⟩
    · cases h
    · injection hx with hx; injection hx with hx; omega
  obtain rfl : manyN xs * 8 = n1 := by have := o1.len; rw [whole_length] at this; exact this
  go_wp2_with fail
  refine (specWrongs_any A n cb xs w1 ((hr.below b1).more b1.size) (by omega) HH.out).mono ?_
  rintro e w2 ⟨gw, cw, rfl, ow, b2⟩
  have hgw := ow.low
  have hgwt := ow.lt
  have RW := ow.rd
  have b02 := below_more b1 b2 b1.size
  have o2 := o1.below b2 (Nat.le_refl _)
  have s2 := b2.size
  have hwl := wrongs_length xs
  have HMM := Lib.hid (fun x (hx : x ∈ wrongsC xs) => wrongs_at hx)
  clear ow b1 b2 o1
  generalize wrongsC xs = l at *
  go_wp2_with fail
  go_loopw [5] (fun i wr => OwRel w2 w.heap.size w1.heap.size g (manyN xs * 8) c1 xs l i wr) (fun i _ => l.length - (intOf i).toNat)
  case atStart => exact ⟨0, Nat.zero_le _, rfl, o2, grown_refl _ _⟩
  case round =>
    obtain ⟨k, hk, rfl, ho, hg⟩ := hrel
    have sr := hg.size
    by_cases hlt : k < l.length
    · have hce := wr_cells (RW.grown hg hgwt (by show gw ≠ _; omega)) hlt
      have HS := Lib.hid (take_fold owStep l (whole xs) k hlt)
      have hgd : l.getD k wr0 = l[k] := by simp [List.getD_eq_getElem?_getD, hlt]
      obtain ⟨m1, m2, m3⟩ := HMM.out _ (List.getElem_mem hlt)
      rw [hgd] at hce
      clear hgd
      generalize l[k] = x at *
      obtain ⟨xf, xs', xm⟩ := x
      have e0 : wr.cell? ⟨gw, k * 3, none⟩ = some (.int .i64 xf) := hce 0 (by omega)
      have e1 : wr.cell? ⟨gw, k * 3 + 1, none⟩ = some (.int .i64 xs') := hce 1 (by omega)
      have e2 : wr.cell? ⟨gw, k * 3 + 2, none⟩ = some (.int .i64 xm) := hce 2 (by omega)
      simp only at m1 m2 m3
      obtain ⟨t1, t2⟩ := there_lt m1
      obtain ⟨τ, rfl⟩ := Int.eq_ofNat_of_zero_le (show 0 ≤ xf by omega)
      obtain ⟨σ, rfl⟩ := Int.eq_ofNat_of_zero_le m2
      have HE : Hid ((l.take (k + 1)).foldl owStep (whole xs) = ((l.take k).foldl owStep (whole xs)).set (τ * 8 + σ) xm) := by rw [HS.out]; simp [owStep, Hid]
      have hidx : τ * 8 + σ < manyN xs * 8 := by omega
      have hco := ho.cell hidx
      have hfo := ho.free (τ * 8 + σ)
      have HSt := Lib.hid (ho.set (τ * 8 + σ) xm)
      clear hce m1 m2 m3 HS
      generalize ((l.take k).foldl owStep (whole xs)).getD (τ * 8 + σ) 0 = z at *
      go_wp2_with fail
      have n1 : (0 : Int) ≤ (k : Int) := by omega
      have n2 : (k : Int) < (l.length : Int) := by omega
      have n3 : IntKind.i64.wrap ((τ : Int) * 8) = (τ : Int) * 8 := IntWalk.i64_in _ (by omega)
      have n6 : IntKind.i64.wrap ((τ : Int) * 8 + (σ : Int)) = (τ : Int) * 8 + (σ : Int) := IntWalk.i64_in _ (by omega)
      have n6a : (0 : Int) ≤ (τ : Int) * 8 + (σ : Int) := by omega
      have n6b : (τ : Int) * 8 + (σ : Int) < (manyN xs : Int) * 8 := by omega
      have n6d : (τ : Int) * 8 + (σ : Int) < ((manyN xs * 8 : Nat) : Int) := by omega
      have n6c : ((τ : Int) * 8 + (σ : Int)).toNat = τ * 8 + σ := by omega
      go_still_tail 19, (by kernel_rfl)
      change wpList _ _ _ _ _ wr.drew
      clear n1 n2 n3 n6 n6a n6b n6c n6d
      go_wp2_with fail
      go_roundw
      case rel =>
        obtain ⟨h1, h2⟩ := HSt.out
        exact ⟨k + 1, by omega, by go_num, by rw [HE.out]; exact h1.drew, grown_trans hg (grown_drew h2)⟩
      case measure => simp [intOf]; omega
    · obtain rfl : k = l.length := by omega
      go_wp2_with fail
      go_ret
      rw [List.take_length] at ho
      rw [HWC.out]
      exact ⟨g, _, c1, rfl, by rcases ho.form with ⟨h, _⟩ | ⟨_, _, _, _, _, h⟩; cases h; exact h, ho.more (Nat.le_refl _) (by omega), below_of_grown b02 hg hgl.1⟩

/-- Owned. -/
def ownedL (b : List Int) : List Int := if hasHead b = true then ownedC b else []

theorem specOwnedF_any (A : Option Addr) (n c : Nat) (xs : List Int) (w : World) (h : Rd w w.heap.size A n xs) (hn : n ≤ 2097152) :
    Calls Try.prog 4 #[.slice A n c] w (Ret w (ownedL xs)) := by
  go_enter Try.func4, Try.ntmps4
  go_wp2_with fail
  refine (specHeadIn_any _ _ _ xs _ h hn).mono ?_
  rintro e w1 ⟨rfl, b1⟩
  generalize hr : headIn xs = r
  obtain ⟨⟨s, f, r, u, m⟩, is⟩ := r
  have HR := Lib.hid hr
  clear hr
  unfold hdV
  have b2 := b1.alloc b1.size (.cells #[.int .i64 s, .int .i64 f, .int .i64 r, .int .i64 u, .int .i64 m] 28)
  cases is
  · have HN : Hid (ownedL xs = []) := by unfold ownedL; rw [(headIn_false HR.out).1]; exact rfl
    go_wp2_with fail
    go_ret
    rw [HN.out]
    exact Ret.emptyAt _ (by simp) b2
  · have HN : Hid (ownedL xs = ownedC xs) := by unfold ownedL; rw [(headIn_true HR.out).1]; exact rfl
    go_wp2_with fail
    refine (specOwned_any A n c xs _ ((h.below b2).more b2.size) (headIn_true HR.out).1).mono ?_
    rintro e w3 ⟨g, ng, cg, rfl, _, oG, b3⟩
    go_wp2_with fail
    go_ret
    rw [HN.out]
    exact ⟨_, ng, cg, rfl, oG.more b2.size (Nat.le_refl _), below_more b2 b3 b2.size⟩

theorem ownedL_length (xs : List Int) : (ownedL xs).length ≤ 512 := by
  unfold ownedL
  split
  · rename_i h
    have := manyN_le (hasHead_img h)
    rw [owned_length]
    omega
  · simp

/-- In every world that has grown out of W. -/
def OwnedC (W : World) : Prop := ∀ (A : Option Addr) (n c : Nat) (xs : List Int) (w : World), Below W.heap.size W w → Rd w w.heap.size A n xs → n ≤ 2097152 → n ≤ c → Calls Try.prog 6 #[.slice A n c] w (Ret w (ownedL xs))

set_option maxHeartbeats 2000000 in
theorem law_Owned (w : World) (hI : OwnedC w) (A : Option Addr) (n c : Nat) (xs : List Int) (h : Rd w w.heap.size A n xs) :
    Calls Try.prog 3 #[.slice A n c] w fun e w' => e = .returned (.bool true) ∧ Below w.heap.size w w' := by
  by_cases hbig : 1048576 < n
  · have hb : decide ((1048576 : Int) < (n : Int)) = true := by simp; omega
    go_enter Try.func3, Try.ntmps3
    go_wp2
    go_ret
    exact ⟨rfl, Below.refl _ _⟩
  have hb : decide ((1048576 : Int) < (n : Int)) = false := by simp; omega
  have hee : (xs == xs) = true := by simp
  obtain ⟨ys, hys⟩ : ∃ ys, ys = ownedL xs := ⟨_, rfl⟩
  have hyy : (ys == ys) = true := by simp
  have hyl : ys.length ≤ 2097152 := by
    rw [hys]
    exact Nat.le_trans (ownedL_length xs) (by omega)
  go_enter Try.func3, Try.ntmps3
  go_wp2_with fail
  refine (to_any A n c xs w h (by omega)).mono ?_
  rintro e w1 ⟨B1, rfl, o1, b1⟩
  go_wp2_with fail
  refine (specOwnedF_any B1 n n xs w1 o1.rd (by omega)).mono ?_
  rintro e w2 ⟨S, ns, cs, rfl, oS, b2⟩
  rw [← hys] at oS
  have b02 := below_more b1 b2 b1.size
  go_wp2_with fail
  refine (to_any A n c xs w2 ((h.below b02).more b02.size) (by omega)).mono ?_
  rintro e w3 ⟨X, rfl, oX, b3⟩
  have b03 := below_more b02 b3 b02.size
  have oS := oS.below b3 (Nat.le_refl _)
  go_wp2_with fail
  refine (hI X n n xs w3 b03 oX.rd (by omega) (Nat.le_refl _)).mono ?_
  rintro e w4 ⟨G, ng, cg, rfl, oG, b4⟩
  rw [← hys] at oG
  have HY := Lib.hid hys
  clear hys
  have b04 := below_more b03 b4 b03.size
  have oS := oS.below b4 b3.size
  have oX := oX.below b4 (Nat.le_refl _)
  have lS := Lib.hid oS.len
  have lG := Lib.hid oG.len
  go_wp2_with fail
  refine (eq_any G S ng cg ns cs ys ys w4.heap.size w4 oG.rd (oS.rd.more (Nat.le_trans b3.size b4.size)) (by have := lG.out; omega)).mono ?_
  rintro e w4' ⟨rfl, d1, rfl⟩
  go_wp2_with fail
  refine (to_any A n c xs (w4.drewN d1) ((h.below b04).more b04.size) (by omega)).mono ?_
  rintro e w5 ⟨Y, rfl, oY, b5⟩
  have b05 := below_more (below_drewN b04 d1) b5 b04.size
  have oS := (oS.drewN d1).below b5 (Nat.le_trans b3.size b4.size)
  have oX := (oX.drewN d1).below b5 b4.size
  have oG := (oG.drewN d1).below b5 (Nat.le_refl _)
  have s3 := b3.size
  have s4 := b4.size
  have s5 : w4.heap.size ≤ w5.heap.size := b5.size
  have s02 := b02.size
  go_wp2_with fail
  refine (eq_any X Y n n n n xs xs w5.heap.size w5 (oX.rd.more (by omega)) oY.rd (by omega)).mono ?_
  rintro e w5' ⟨rfl, d2, rfl⟩
  go_wp2_with fail
  refine (mark_any X n n _ _ xs 1 (w5.drewN d2) (oX.drewN d2) (by omega) (by omega) (by omega)).mono ?_
  rintro e w6 ⟨rfl, oX6, g6⟩
  have rX := row_of oX6
  have b06 : Below w.heap.size w w6 := (below_drewN b05 d2).grown g6 b05.size (fun g hg => by have := rX g hg; omega)
  have s6 : w5.heap.size ≤ w6.heap.size := g6.size
  have oS := (oS.drewN d2).grown g6 (fun g hg => by have := rX g hg; omega)
  have oG := (oG.drewN d2).grown g6 (fun g hg => by have := rX g hg; omega)
  have hk : decide ((1 : Int) + (n : Int) < 0) = false := by simp; omega
  go_wp2_with fail
  refine (eq_any G S ng cg ns cs ys ys w4.heap.size w6 oG.rd (oS.rd.more (by omega)) (by have := lG.out; omega)).mono ?_
  rintro e w6' ⟨rfl, d3, rfl⟩
  go_wp2_with fail
  refine (mark_any G ng cg _ _ ys 1 (w6.drewN d3) (oG.drewN d3) (by have := lG.out; omega) (by omega) (by omega)).mono ?_
  rintro e w7 ⟨rfl, oG7, g7⟩
  have rG := row_of oG7
  have b07 : Below w.heap.size w w7 := (below_drewN b06 d3).grown g7 b06.size (fun g hg => by have := rG g hg; omega)
  have s7 : w6.heap.size ≤ w7.heap.size := g7.size
  have oS := (oS.drewN d3).grown g7 (fun g hg => by have := rG g hg; omega)
  go_wp2_with fail
  refine (held_any G ng cg w4.heap.size 1 w7 oG7.rd (by have := lG.out; omega) (by omega) (by omega)).mono ?_
  rintro e w7' ⟨rfl, rfl⟩
  have hq : decide ((1 : Int) + (ng : Int) < 0) = false := by simp; omega
  have hq2 : ((1 : Int) + (ng : Int) != 1 + (ng : Int)) = false := by simp
  go_wp2_with fail
  refine (to_any A n c xs w7 ((h.below b07).more b07.size) (by omega)).mono ?_
  rintro e w8 ⟨Z, rfl, oZ, b8⟩
  have b08 := below_more b07 b8 b07.size
  have s8 := b8.size
  have oS := oS.below b8 (by omega)
  have oG8 := oG7.below b8 (by omega)
  go_wp2_with fail
  refine (hI Z n n xs w8 b08 oZ.rd (by omega) (Nat.le_refl _)).mono ?_
  rintro e w9 ⟨K, nk, ck, rfl, oK, b9⟩
  rw [← HY.out] at oK
  have lK := Lib.hid oK.len
  have b09 := below_more b08 b9 b08.size
  have s9 := b9.size
  have oS := oS.below b9 (by omega)
  have oG9 := oG8.below b9 (by omega)
  go_wp2_with fail
  refine (eq_any K S nk ck ns cs ys ys w9.heap.size w9 oK.rd (oS.rd.more (by omega)) (by have := lK.out; omega)).mono ?_
  rintro e w9' ⟨rfl, d4, rfl⟩
  go_wp2_with fail
  refine (held_any G ng cg w4.heap.size 1 (w9.drewN d4) (oG9.drewN d4).rd (by have := lG.out; omega) (by omega) (by omega)).mono ?_
  rintro e w9' ⟨rfl, rfl⟩
  go_wp2_with fail
  go_ret
  exact ⟨rfl, below_drewN b09 d4⟩

end Go.Proofs.Ytieknpkbmccimaa
