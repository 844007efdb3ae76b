/- The law FnScans, walked, given what the program's own functions answer. -/
import Derived.Test.YtimbfilbojejiabGreatD13
import Derived.Test.YtimbfilbojejiabGreatLawScn
import Derived.Test.YtimbfilbojejiabGreatY5
import Derived.Test.YtimbfilbojejiabGreatHdj
import Derived.Test.YtimbfilbojejiabGreatH7
import Derived.Test.YtimbfilbojejiabGreatLawWords
namespace Go.Proofs.YtimbfilbojejiabGreat
open Go.RowKit

/-- What is asked of each that is found. -/
theorem lost_get {b : List Int} {i : Nat} (hi : i < (lostL b).length) : 1 ≤ (lostL b).getD i 0 ∧ (lostL b).getD i 0 < (rolesL b).length ∧ (rolesL b).getD ((lostL b).getD i 0).toNat 0 = 0 ∧ secLikeB b ((lostL b).getD i 0) = true ∧ ∀ j, j < i → (lostL b).getD j 0 < (lostL b).getD i 0 := by
  have e : ∀ k, (h : k < (lostL b).length) → (lostL b).getD k 0 = (lostL b)[k] := fun k h => by simp [List.getD_eq_getElem?_getD, h]
  obtain ⟨h1, h2, h3, h4, h5⟩ := lost_law hi
  rw [e i hi]
  exact ⟨h1, h2, h3, h4, fun j hj => by rw [e j (by omega)]; exact h5 j hj (by omega)⟩

theorem wpAnyH_take_at {P : Program} {ops : Array Oper} {Q : Exit → Act → World → Prop} {md : Region.Mode} {S : World → Prop} {i : Nat} {oi : Oper} {d : Option Tmp} {v : Value} {fuel : Nat} {listed : Array Bool} {a : Act} {w : World} (hi : ops[i]? = some oi) (hd : oi.dst = d)
    (hs : Region.noSelect ops = true) (hf : Region.free md ops listed i = true) (hr : (Region.ready md ops listed).contains i = true)
    (hQ : ∀ c a w, Q (.panic c) (a.put d v) w → Q (.panic c) a w) (hy : YieldsIf P ops S oi v a) (hS : S w)
    (h : wpAnyH P md ops Q S fuel (listed.setIfInBounds i true) (a.put d v) w) : wpAnyH P md ops Q S (fuel + 1) listed a w := by
  subst hd
  exact wpAnyH_take hi hs hf hr hQ hy hS h

theorem Rd.cell0 {w : World} {B g n : Nat} {xs : List Int} (h : Rd w B (some ⟨g, 0, none⟩) n xs) {j : Nat} (hj : j < n) : w.cell? ⟨g, j, none⟩ = some (.int .i64 (xs.getD j 0)) ∧ g < B := by
  obtain ⟨b, off, e, hb, hc⟩ := h.2 (by omega)
  injection e with e
  injection e with e1 e2
  subst e1; subst e2
  have := hc j hj
  rw [Nat.zero_add] at this
  exact ⟨this, hb⟩

set_option maxRecDepth 100000 in
set_option maxHeartbeats 16000000 in
theorem law_Scans (hRf : RefoundC) (hLs : LostC) (hSl : SecLikeC) (hT : TableC) (A : Option Addr) (n c : Nat) (xs : List Int) (w : World) (hr : Rd8 w w.heap.size A n xs) :
    Calls Tryz.prog 3 #[.slice A n c] w fun e w' => e = .returned (.bool true) ∧ Below w.heap.size w w' := by
  by_cases hbig : 4096 < n
  · have hb : decide ((4096 : Int) < (n : Int)) = true := by simp; omega
    go_enter Tryz.func3, Tryz.ntmps3
    go_wp2_with fail
    refine (big_words _ _ _ _).mono ?_
    rintro e w' ⟨rfl, rfl⟩
    rw [hb]
    go_wp2_with fail
    go_ret
    exact ⟨rfl, Below.refl _ _⟩
  have hb : decide ((4096 : Int) < (n : Int)) = false := by simp; omega
  go_enter Tryz.func3, Tryz.ntmps3
  go_wp2_with fail
  refine (big_words _ _ _ _).mono ?_
  rintro e w' ⟨rfl, rfl⟩
  rw [hb]
  clear hb
  go_wp2_with fail
  refine (drawRefound_any A n c xs w hr (by omega)).mono ?_
  rintro e w1 ⟨B, nb, cb, bs, hnb, rfl, rB, b1⟩
  have hfl := refoundL_length bs
  have HF := Lib.hid (fun h => refound_law (b := bs) h)
  obtain ⟨fs, hfs⟩ : ∃ fs, fs = refoundL bs := ⟨_, rfl⟩
  rw [← hfs] at hfl HF
  have HFS := Lib.hid hfs
  clear hfs
  have hff : (fs == fs) = true := by simp
  go_wp2_with fail
  refine (hRf B nb cb bs w1 rB (by omega) (by omega)).mono ?_
  rintro e w2 ⟨X, nx, cx, rfl, oX, b2⟩
  rw [← HFS.out] at oX
  have rX := oX.rd
  have B2 := below_more b1 b2 b1.size
  replace rB := (rB.below b2).more b2.size
  have lX := Lib.hid rX.len
  have hnx : nx ≤ 1024 := by have := lX.out; omega
  have hcx : nx ≤ cx := by
    rcases oX.form with ⟨_, h0, h1⟩ | ⟨_, _, _, _, _, h1⟩
    · omega
    · exact h1
  clear b1 b2 oX
  go_wp2_with fail
  refine (drawLostIn_any A n c xs w2 ((hr.below B2).more B2.size) (by omega)).mono ?_
  rintro e w3 ⟨C, nc, cc, cs, hnc, rfl, rC, b3⟩
  have B3 := below_more B2 b3 B2.size
  replace rB := (rB.below b3).more b3.size
  replace rX := (rX.below b3).more b3.size
  clear b3 B2
  have hll := lost_len cs
  have HG := Lib.hid (fun i hi => lost_get (b := cs) (i := i) hi)
  obtain ⟨ls, hls⟩ : ∃ ls, ls = lostL cs := ⟨_, rfl⟩
  rw [← hls] at hll HG
  have HLS := Lib.hid hls
  clear hls
  have hgg : (ls == ls) = true := by simp
  go_wp2_with fail
  refine (hLs C nc cc cs w3 rC (by omega) (by omega)).mono ?_
  rintro e w4 ⟨L, nl, cl, rfl, oL, b4⟩
  rw [← HLS.out] at oL
  have rL := oL.rd
  have HL0 : Hid (nl = 0 ∨ ∃ g0, L = some ⟨g0, 0, none⟩) := by
    rcases oL.form with ⟨_, h0, _⟩ | ⟨g, e, _⟩
    · exact .inl h0
    · exact .inr ⟨g, e⟩
  have lL := Lib.hid rL.len
  have hnl : nl ≤ 8 := by have := lL.out; omega
  have B4 := below_more B3 b4 B3.size
  replace rB := (rB.below b4).more b4.size
  replace rX := (rX.below b4).more b4.size
  replace rC := (rC.below b4).more b4.size
  clear b4 B3 oL
  go_wp2_with fail
  refine (drawSecondLike_any A n c xs w4 ((hr.below B4).more B4.size) (by omega)).mono ?_
  rintro e w5 ⟨S, ns, cs', ss, at_, hns, rfl, rS, b5⟩
  have B5 := below_more B4 b5 B4.size
  replace rB := (rB.below b5).more b5.size
  replace rX := (rX.below b5).more b5.size
  replace rC := (rC.below b5).more b5.size
  replace rL := (rL.below b5).more b5.size
  clear b5 B4
  go_wp2_with fail
  refine (specRefound_any B nb cb bs w5 rB (by omega)).mono ?_
  rintro e w6 ⟨Y, ny, cy, rfl, oY, b6⟩
  rw [← HFS.out] at oY
  have B6 := below_more B5 b6 B5.size
  replace rB := (rB.below b6).more b6.size
  replace rX := (rX.below b6).more b6.size
  replace rC := (rC.below b6).more b6.size
  replace rL := (rL.below b6).more b6.size
  replace rS := (rS.below b6).more b6.size
  clear b6 B5
  go_wp2_with fail
  refine (like_any X Y nx cx ny cy fs fs w6.heap.size w6 rX oY.rd (by omega)).mono ?_
  rintro e w6' ⟨rfl, d6, rfl⟩
  rw [hff]
  replace rB := rB.drewN d6
  replace rX := rX.drewN d6
  replace rC := rC.drewN d6
  replace rL := rL.drewN d6
  replace rS := rS.drewN d6
  replace B6 := below_drewN B6 d6
  clear oY hff HFS
  go_wp2_with fail
  refine (specLostR_any C nc cc cs _ rC (by omega)).mono ?_
  rintro e w7 ⟨Y, ny, cy, rfl, oY, b7⟩
  rw [← HLS.out] at oY
  have B7 := below_more B6 b7 B6.size
  replace rB := (rB.below b7).more b7.size
  replace rX := (rX.below b7).more b7.size
  replace rC := (rC.below b7).more b7.size
  replace rL := (rL.below b7).more b7.size
  replace rS := (rS.below b7).more b7.size
  clear b7 B6
  go_wp2_with fail
  refine (like_any L Y nl cl ny cy ls ls w7.heap.size w7 rL oY.rd (by omega)).mono ?_
  rintro e w7' ⟨rfl, d7, rfl⟩
  rw [hgg]
  replace rB := rB.drewN d7
  replace rX := rX.drewN d7
  replace rC := rC.drewN d7
  replace rL := rL.drewN d7
  replace rS := rS.drewN d7
  replace B7 := below_drewN B7 d7
  clear oY hgg HLS
  go_wp2_with fail
  refine (hSl S ns cs' ss at_ _ rS (by omega) (by omega)).mono ?_
  rintro e w8 ⟨rfl, b8⟩
  have B8 := below_more B7 b8 B7.size
  replace rB := (rB.below b8).more b8.size
  replace rX := (rX.below b8).more b8.size
  replace rC := (rC.below b8).more b8.size
  replace rL := (rL.below b8).more b8.size
  replace rS := (rS.below b8).more b8.size
  clear b8 B7
  go_wp2_with fail
  refine (specSecLike_any S ns cs' ss at_ w8 rS (by omega)).mono ?_
  rintro e w9 ⟨rfl, b9⟩
  have B9 := below_more B8 b9 B8.size
  replace rB := (rB.below b9).more b9.size
  replace rX := (rX.below b9).more b9.size
  replace rC := (rC.below b9).more b9.size
  replace rL := (rL.below b9).more b9.size
  clear b9 B8 rS
  generalize secLikeB ss at_ = s0 at *
  have hs0 : (s0 != s0) = false := by simp
  go_wp2_with fail
  refine (specRolesIn_any C nc cc cs w9 rC (by omega)).mono ?_
  rintro e w10 ⟨R, nr, cr, rfl, oR, b10⟩
  have rR := oR.rd
  have HR0 : Hid (nr = 0 ∨ ∃ g0, R = some ⟨g0, 0, none⟩) := by
    rcases oR.form with ⟨_, h0, _⟩ | ⟨g, e, _⟩
    · exact .inl h0
    · exact .inr ⟨g, e⟩
  have lR := Lib.hid rR.len
  have hrl := rolesL_length (xs := cs)
  have hnr : nr ≤ 64 := by have := lR.out; omega
  have B10 := below_more B9 b10 B9.size
  replace rB := (rB.below b10).more b10.size
  replace rX := (rX.below b10).more b10.size
  replace rC := (rC.below b10).more b10.size
  replace rL := (rL.below b10).more b10.size
  clear b10 B9 oR hrl
  generalize rolesL cs = rs at *
  go_wp2_with fail
  go_loopw [10] (fun v wr => ∃ i : Nat, i ≤ nl ∧ v = .int .i64 i ∧ Below w10.heap.size w10 wr) (fun v _ => nl - (intOf v).toNat)
  case atStart => exact ⟨0, Nat.zero_le _, rfl, Below.refl _ _⟩
  case round =>
    obtain ⟨i, hi, rfl, bw⟩ := hrel
    have sw := bw.size
    by_cases hlt : i < nl
    · obtain ⟨g0, rfl⟩ : ∃ g0, L = some ⟨g0, 0, none⟩ := by
        rcases HL0.out with h | h
        · omega
        · exact h
      obtain ⟨v1, v2, v3, v4, v5⟩ := HG.out i (by have := lL.out; omega)
      have hr0 : 0 < nr := by have := lR.out; omega
      obtain ⟨g1, rfl⟩ : ∃ g1, R = some ⟨g1, 0, none⟩ := by
        rcases HR0.out with h | h
        · omega
        · exact h
      have hin : i < ls.length := by have := lL.out; omega
      obtain ⟨pL, gL⟩ := (rL.below bw).cell0 hlt
      generalize hv : ls.getD i 0 = v at *
      have HV := Lib.hid hv
      clear hv
      obtain ⟨τ, rfl⟩ := Int.eq_ofNat_of_zero_le (show 0 ≤ v by omega)
      rw [Int.toNat_natCast] at v3
      have hτ : τ < nr := by have := lR.out; omega
      obtain ⟨pR, gR⟩ := (rR.below bw).cell0 hτ
      rw [v3] at pR
      have rC' : Rd wr.drew wr.drew.heap.size C nc cs := (rC.below bw).more sw
      have hL1 : g0 < wr.heap.size := by omega
      have hR1 : g1 < wr.heap.size := by omega
      have t1 : decide ((τ : Int) < 1) = false := by simp; omega
      have t2 : decide ((nr : Int) ≤ (τ : Int)) = false := by simp; omega
      have t2' : decide (nr ≤ τ) = false := by simp; omega
      have n1 : (0 : Int) ≤ (i : Int) := by omega
      have n2 : (i : Int) < (nl : Int) := by omega
      have n3 : (0 : Int) ≤ (τ : Int) := by omega
      have n4 : (τ : Int) < (nr : Int) := by omega
      have HB := Lib.hid bw
      by_cases hi0 : i = 0
      · have t3 : decide ((0 : Int) < (i : Int)) = false := by simp; omega
        have t3' : decide (0 < i) = false := by simp; omega
        have HI0 := Lib.hid hi0
        have HSL := Lib.hid (hSl C nc cc cs (τ : Int) wr.drew rC' (by omega) (by omega))
        clear v1 v2 v3 v5 bw rC' hi0
        go_wp2_with fail
        refine wp_region_held_drew (S := fun w' => w'.cell? ⟨g0, i, none⟩ = some (.int .i64 (τ : Int)) ∧ w'.cell? ⟨g1, τ, none⟩ = some (.int .i64 0)) (by kernel_rfl) ⟨pL, pR⟩ (fun hHeld => ?_)
        refine wpAnyH_take_at (i := 0) (d := some 57) (v := ?_) rfl rfl (by kernel_rfl) (by kernel_rfl) (by kernel_rfl) (fun _ _ _ h => h) (Or.inl ⟨by rfl, ?_⟩) (by assumption) ?_
        rotate_left 1
        · intro w hSw
          (try dsimp only at hSw)
          go_simp <;> with_reducible rfl
        simp only [Act.put, List.setIfInBounds_toArray, List.set_cons_zero, List.set_cons_succ]
        refine wpAnyH_take_at (i := 1) (d := some 58) (v := ?_) rfl rfl (by kernel_rfl) (by kernel_rfl) (by kernel_rfl) (fun _ _ _ h => h) (Or.inl ⟨by rfl, ?_⟩) (by assumption) ?_
        rotate_left 1
        · intro w hSw
          (try dsimp only at hSw)
          go_simp <;> with_reducible rfl
        simp only [Act.put, List.setIfInBounds_toArray, List.set_cons_zero, List.set_cons_succ]
        refine wpAnyH_take_at (i := 2) (d := some 59) (v := ?_) rfl rfl (by kernel_rfl) (by kernel_rfl) (by kernel_rfl) (fun _ _ _ h => h) (Or.inl ⟨by rfl, ?_⟩) (by assumption) ?_
        rotate_left 1
        · intro w hSw
          (try dsimp only at hSw)
          go_simp <;> with_reducible rfl
        simp only [Act.put, List.setIfInBounds_toArray, List.set_cons_zero, List.set_cons_succ]
        refine wpAnyH_take_at (i := 3) (d := some 60) (v := ?_) rfl rfl (by kernel_rfl) (by kernel_rfl) (by kernel_rfl) (fun _ _ _ h => h) (Or.inl ⟨by rfl, ?_⟩) (by assumption) ?_
        rotate_left 1
        · intro w hSw
          (try dsimp only at hSw)
          go_simp <;> with_reducible rfl
        simp only [Act.put, List.setIfInBounds_toArray, List.set_cons_zero, List.set_cons_succ]
        refine wpAnyH_take_at (i := 4) (d := some 61) (v := ?_) rfl rfl (by kernel_rfl) (by kernel_rfl) (by kernel_rfl) (fun _ _ _ h => h) (Or.inl ⟨by rfl, ?_⟩) (by assumption) ?_
        rotate_left 1
        · intro w hSw
          (try dsimp only at hSw)
          go_simp <;> with_reducible rfl
        simp only [Act.put, List.setIfInBounds_toArray, List.set_cons_zero, List.set_cons_succ]
        refine wpAnyH_take_at (i := 5) (d := some 62) (v := ?_) rfl rfl (by kernel_rfl) (by kernel_rfl) (by kernel_rfl) (fun _ _ _ h => h) (Or.inl ⟨by rfl, ?_⟩) (by assumption) ?_
        rotate_left 1
        · intro w hSw
          (try dsimp only at hSw)
          go_simp <;> with_reducible rfl
        simp only [Act.put, List.setIfInBounds_toArray, List.set_cons_zero, List.set_cons_succ]
        refine wpAnyH_take_at (i := 6) (d := some 63) (v := ?_) rfl rfl (by kernel_rfl) (by kernel_rfl) (by kernel_rfl) (fun _ _ _ h => h) (Or.inl ⟨by rfl, ?_⟩) (by assumption) ?_
        rotate_left 1
        · intro w hSw
          (try dsimp only at hSw)
          go_simp <;> with_reducible rfl
        simp only [Act.put, List.setIfInBounds_toArray, List.set_cons_zero, List.set_cons_succ]
        refine wpAnyH_take_at (i := 7) (d := some 64) (v := ?_) rfl rfl (by kernel_rfl) (by kernel_rfl) (by kernel_rfl) (fun _ _ _ h => h) (Or.inl ⟨by rfl, ?_⟩) (by assumption) ?_
        rotate_left 1
        · intro w hSw
          (try dsimp only at hSw)
          go_simp <;> with_reducible rfl
        simp only [Act.put, List.setIfInBounds_toArray, List.set_cons_zero, List.set_cons_succ]
        refine wpAnyH_take_at (i := 8) (d := some 65) (v := ?_) rfl rfl (by kernel_rfl) (by kernel_rfl) (by kernel_rfl) (fun _ _ _ h => h) (Or.inl ⟨by rfl, ?_⟩) (by assumption) ?_
        rotate_left 1
        · intro w hSw
          (try dsimp only at hSw)
          go_simp <;> with_reducible rfl
        simp only [Act.put, List.setIfInBounds_toArray, List.set_cons_zero, List.set_cons_succ]
        refine wpAnyH_take_at (i := 9) (d := some 66) (v := ?_) rfl rfl (by kernel_rfl) (by kernel_rfl) (by kernel_rfl) (fun _ _ _ h => h) (Or.inl ⟨by rfl, ?_⟩) (by assumption) ?_
        rotate_left 1
        · intro w hSw
          (try dsimp only at hSw)
          go_simp <;> with_reducible rfl
        simp only [Act.put, List.setIfInBounds_toArray, List.set_cons_zero, List.set_cons_succ]
        refine wpAnyH_take_at (i := 10) (d := some 67) (v := ?_) rfl rfl (by kernel_rfl) (by kernel_rfl) (by kernel_rfl) (fun _ _ _ h => h) (Or.inl ⟨by rfl, ?_⟩) (by assumption) ?_
        rotate_left 1
        · intro w hSw
          (try dsimp only at hSw)
          go_simp <;> with_reducible rfl
        simp only [Act.put, List.setIfInBounds_toArray, List.set_cons_zero, List.set_cons_succ]
        refine wpAnyH_take_at (i := 11) (d := some 68) (v := ?_) rfl rfl (by kernel_rfl) (by kernel_rfl) (by kernel_rfl) (fun _ _ _ h => h) (Or.inl ⟨by rfl, ?_⟩) (by assumption) ?_
        rotate_left 1
        · intro w hSw
          (try dsimp only at hSw)
          go_simp <;> with_reducible rfl
        simp only [Act.put, List.setIfInBounds_toArray, List.set_cons_zero, List.set_cons_succ]
        refine wpAnyH_take_at (i := 12) (d := some 69) (v := ?_) rfl rfl (by kernel_rfl) (by kernel_rfl) (by kernel_rfl) (fun _ _ _ h => h) (Or.inl ⟨by rfl, ?_⟩) (by assumption) ?_
        rotate_left 1
        · intro w hSw
          (try dsimp only at hSw)
          go_simp <;> with_reducible rfl
        simp only [Act.put, List.setIfInBounds_toArray, List.set_cons_zero, List.set_cons_succ]
        refine wpAnyH_take_at (i := 13) (d := some 70) (v := ?_) rfl rfl (by kernel_rfl) (by kernel_rfl) (by kernel_rfl) (fun _ _ _ h => h) (Or.inl ⟨by rfl, ?_⟩) (by assumption) ?_
        rotate_left 1
        · intro w hSw
          (try dsimp only at hSw)
          go_simp <;> with_reducible rfl
        simp only [Act.put, List.setIfInBounds_toArray, List.set_cons_zero, List.set_cons_succ]
        refine wpAnyH_take_at (i := 14) (d := some 71) (v := ?_) rfl rfl (by kernel_rfl) (by kernel_rfl) (by kernel_rfl) (fun _ _ _ h => h) (Or.inl ⟨by rfl, ?_⟩) (by assumption) ?_
        rotate_left 1
        · intro w hSw
          (try dsimp only at hSw)
          go_simp <;> with_reducible rfl
        simp only [Act.put, List.setIfInBounds_toArray, List.set_cons_zero, List.set_cons_succ]
        refine wpAnyH_take_at (i := 15) (d := some 72) (v := ?_) rfl rfl (by kernel_rfl) (by kernel_rfl) (by kernel_rfl) (fun _ _ _ h => h) (Or.inl ⟨by rfl, ?_⟩) (by assumption) ?_
        rotate_left 1
        · intro w hSw
          (try dsimp only at hSw)
          go_simp <;> with_reducible rfl
        simp only [Act.put, List.setIfInBounds_toArray, List.set_cons_zero, List.set_cons_succ]
        refine wpAnyH_take_at (i := 16) (d := some 73) (v := ?_) rfl rfl (by kernel_rfl) (by kernel_rfl) (by kernel_rfl) (fun _ _ _ h => h) (Or.inl ⟨by rfl, ?_⟩) (by assumption) ?_
        rotate_left 1
        · intro w hSw
          (try dsimp only at hSw)
          go_simp <;> with_reducible rfl
        simp only [Act.put, List.setIfInBounds_toArray, List.set_cons_zero, List.set_cons_succ]
        refine wpAnyH_take_at (i := 17) (d := some 74) (v := ?_) rfl rfl (by kernel_rfl) (by kernel_rfl) (by kernel_rfl) (fun _ _ _ h => h) (Or.inl ⟨by rfl, ?_⟩) (by assumption) ?_
        rotate_left 1
        · intro w hSw
          (try dsimp only at hSw)
          go_simp <;> with_reducible rfl
        simp only [Act.put, List.setIfInBounds_toArray, List.set_cons_zero, List.set_cons_succ]
        refine wpAnyH_take_at (i := 18) (d := some 75) (v := ?_) rfl rfl (by kernel_rfl) (by kernel_rfl) (by kernel_rfl) (fun _ _ _ h => h) (Or.inl ⟨by rfl, ?_⟩) (by assumption) ?_
        rotate_left 1
        · intro w hSw
          (try dsimp only at hSw)
          go_simp <;> with_reducible rfl
        simp only [Act.put, List.setIfInBounds_toArray, List.set_cons_zero, List.set_cons_succ]
        refine wpAnyH_take_at (i := 19) (d := some 76) (v := ?_) rfl rfl (by kernel_rfl) (by kernel_rfl) (by kernel_rfl) (fun _ _ _ h => h) (Or.inl ⟨by rfl, ?_⟩) (by assumption) ?_
        rotate_left 1
        · intro w hSw
          (try dsimp only at hSw)
          go_simp <;> with_reducible rfl
        simp only [Act.put, List.setIfInBounds_toArray, List.set_cons_zero, List.set_cons_succ]
        refine wpAnyH_take_at (i := 20) (d := some 77) (v := ?_) rfl rfl (by kernel_rfl) (by kernel_rfl) (by kernel_rfl) (fun _ _ _ h => h) (Or.inl ⟨by rfl, ?_⟩) (by assumption) ?_
        rotate_left 1
        · intro w hSw
          (try dsimp only at hSw)
          go_simp <;> with_reducible rfl
        simp only [Act.put, List.setIfInBounds_toArray, List.set_cons_zero, List.set_cons_succ]
        refine wpAnyH_take_at (i := 21) (d := some 78) (v := ?_) rfl rfl (by kernel_rfl) (by kernel_rfl) (by kernel_rfl) (fun _ _ _ h => h) (Or.inl ⟨by rfl, ?_⟩) (by assumption) ?_
        rotate_left 1
        · intro w hSw
          (try dsimp only at hSw)
          go_simp <;> with_reducible rfl
        simp only [Act.put, List.setIfInBounds_toArray, List.set_cons_zero, List.set_cons_succ]
        refine wpAnyH_take_at (i := 22) (d := some 79) (v := ?_) rfl rfl (by kernel_rfl) (by kernel_rfl) (by kernel_rfl) (fun _ _ _ h => h) (Or.inl ⟨by rfl, ?_⟩) (by assumption) ?_
        rotate_left 1
        · intro w hSw
          (try dsimp only at hSw)
          go_simp <;> with_reducible rfl
        simp only [Act.put, List.setIfInBounds_toArray, List.set_cons_zero, List.set_cons_succ]
        refine wpAnyH_take_at (i := 23) (d := some 80) (v := ?_) rfl rfl (by kernel_rfl) (by kernel_rfl) (by kernel_rfl) (fun _ _ _ h => h) (Or.inl ⟨by rfl, ?_⟩) (by assumption) ?_
        rotate_left 1
        · intro w hSw
          (try dsimp only at hSw)
          go_simp <;> with_reducible rfl
        simp only [Act.put, List.setIfInBounds_toArray, List.set_cons_zero, List.set_cons_succ]
        refine wpAnyH_take_at (i := 24) (d := some 81) (v := ?_) rfl rfl (by kernel_rfl) (by kernel_rfl) (by kernel_rfl) (fun _ _ _ h => h) (Or.inl ⟨by rfl, ?_⟩) (by assumption) ?_
        rotate_left 1
        · intro w hSw
          (try dsimp only at hSw)
          go_simp <;> with_reducible rfl
        simp only [Act.put, List.setIfInBounds_toArray, List.set_cons_zero, List.set_cons_succ]
        refine wpAnyH_take_at (i := 25) (d := some 82) (v := ?_) rfl rfl (by kernel_rfl) (by kernel_rfl) (by kernel_rfl) (fun _ _ _ h => h) (Or.inl ⟨by rfl, ?_⟩) (by assumption) ?_
        rotate_left 1
        · intro w hSw
          (try dsimp only at hSw)
          go_simp <;> with_reducible rfl
        simp only [Act.put, List.setIfInBounds_toArray, List.set_cons_zero, List.set_cons_succ]
        refine wpAnyH_take_at (i := 26) (d := some 83) (v := ?_) rfl rfl (by kernel_rfl) (by kernel_rfl) (by kernel_rfl) (fun _ _ _ h => h) (Or.inl ⟨by rfl, ?_⟩) (by assumption) ?_
        rotate_left 1
        · intro w hSw
          (try dsimp only at hSw)
          go_simp <;> with_reducible rfl
        simp only [Act.put, List.setIfInBounds_toArray, List.set_cons_zero, List.set_cons_succ]
        refine wpAnyH_take_at (i := 27) (d := some 84) (v := ?_) rfl rfl (by kernel_rfl) (by kernel_rfl) (by kernel_rfl) (fun _ _ _ h => h) (Or.inl ⟨by rfl, ?_⟩) (by assumption) ?_
        rotate_left 1
        · intro w hSw
          (try dsimp only at hSw)
          go_simp <;> with_reducible rfl
        simp only [Act.put, List.setIfInBounds_toArray, List.set_cons_zero, List.set_cons_succ]
        refine wpAnyH_take_at (i := 28) (d := some 85) (v := ?_) rfl rfl (by kernel_rfl) (by kernel_rfl) (by kernel_rfl) (fun _ _ _ h => h) (Or.inl ⟨by rfl, ?_⟩) (by assumption) ?_
        rotate_left 1
        · intro w hSw
          (try dsimp only at hSw)
          go_simp <;> with_reducible rfl
        simp only [Act.put, List.setIfInBounds_toArray, List.set_cons_zero, List.set_cons_succ]
        refine wpAnyH_take_at (i := 29) (d := some 86) (v := ?_) rfl rfl (by kernel_rfl) (by kernel_rfl) (by kernel_rfl) (fun _ _ _ h => h) (Or.inl ⟨by rfl, ?_⟩) (by assumption) ?_
        rotate_left 1
        · intro w hSw
          (try dsimp only at hSw)
          go_simp <;> with_reducible rfl
        simp only [Act.put, List.setIfInBounds_toArray, List.set_cons_zero, List.set_cons_succ]
        refine wpAnyH_ready (rs := [30]) (by kernel_rfl) (by simp) ?_
        refine AllReadyH.cons rfl (fun K hK => ?_) AllReadyH.nil
        rw [if_pos (by rfl)]
        go_simp
        refine HSL.out.mono ?_
        rintro e w11 ⟨rfl, b11⟩
        rw [v4]
        refine hK.out _ _ ⟨(b11.cell (p := ⟨g0, i, none⟩) hL1).trans hHeld.1, (b11.cell (p := ⟨g1, τ, none⟩) hR1).trans hHeld.2⟩ (fun hHeld2 => ?_)
        refine wpAnyH_take_at (i := 31) (d := some 88) (v := ?_) rfl rfl (by kernel_rfl) (by kernel_rfl) (by kernel_rfl) (fun _ _ _ h => h) (Or.inl ⟨by rfl, ?_⟩) (by assumption) ?_
        rotate_left 1
        · intro w hSw
          (try dsimp only at hSw)
          go_simp <;> with_reducible rfl
        simp only [Act.put, List.setIfInBounds_toArray, List.set_cons_zero, List.set_cons_succ]
        refine wpAnyH_take_at (i := 32) (d := some 89) (v := ?_) rfl rfl (by kernel_rfl) (by kernel_rfl) (by kernel_rfl) (fun _ _ _ h => h) (Or.inl ⟨by rfl, ?_⟩) (by assumption) ?_
        rotate_left 1
        · intro w hSw
          (try dsimp only at hSw)
          go_simp <;> with_reducible rfl
        simp only [Act.put, List.setIfInBounds_toArray, List.set_cons_zero, List.set_cons_succ]
        refine wpAnyH_take_at (i := 33) (d := some 90) (v := ?_) rfl rfl (by kernel_rfl) (by kernel_rfl) (by kernel_rfl) (fun _ _ _ h => h) (Or.inl ⟨by rfl, ?_⟩) (by assumption) ?_
        rotate_left 1
        · intro w hSw
          (try dsimp only at hSw)
          go_simp <;> with_reducible rfl
        simp only [Act.put, List.setIfInBounds_toArray, List.set_cons_zero, List.set_cons_succ]
        refine wpAnyH_take_at (i := 34) (d := some 91) (v := ?_) rfl rfl (by kernel_rfl) (by kernel_rfl) (by kernel_rfl) (fun _ _ _ h => h) (Or.inl ⟨by rfl, ?_⟩) (by assumption) ?_
        rotate_left 1
        · intro w hSw
          (try dsimp only at hSw)
          go_simp <;> with_reducible rfl
        simp only [Act.put, List.setIfInBounds_toArray, List.set_cons_zero, List.set_cons_succ]
        refine wpAnyH_take_at (i := 35) (d := some 92) (v := ?_) rfl rfl (by kernel_rfl) (by kernel_rfl) (by kernel_rfl) (fun _ _ _ h => h) (Or.inl ⟨by rfl, ?_⟩) (by assumption) ?_
        rotate_left 1
        · intro w hSw
          (try dsimp only at hSw)
          go_simp <;> with_reducible rfl
        simp only [Act.put, List.setIfInBounds_toArray, List.set_cons_zero, List.set_cons_succ]
        refine wpAnyH_take_at (i := 36) (d := some 93) (v := ?_) rfl rfl (by kernel_rfl) (by kernel_rfl) (by kernel_rfl) (fun _ _ _ h => h) (Or.inl ⟨by rfl, ?_⟩) (by assumption) ?_
        rotate_left 1
        · intro w hSw
          (try dsimp only at hSw)
          go_simp <;> with_reducible rfl
        simp only [Act.put, List.setIfInBounds_toArray, List.set_cons_zero, List.set_cons_succ]
        refine wpAnyH_take_at (i := 37) (d := some 94) (v := undef) rfl rfl (by kernel_rfl) (by kernel_rfl) (by kernel_rfl) (fun _ _ _ h => h) (Or.inr ⟨by rfl, rfl⟩) (by assumption) ?_
        simp only [Act.put, List.setIfInBounds_toArray, List.set_cons_zero, List.set_cons_succ]
        refine wpAnyH_take_at (i := 38) (d := some 95) (v := undef) rfl rfl (by kernel_rfl) (by kernel_rfl) (by kernel_rfl) (fun _ _ _ h => h) (Or.inr ⟨by rfl, rfl⟩) (by assumption) ?_
        simp only [Act.put, List.setIfInBounds_toArray, List.set_cons_zero, List.set_cons_succ]
        refine wpAnyH_take_at (i := 39) (d := some 96) (v := undef) rfl rfl (by kernel_rfl) (by kernel_rfl) (by kernel_rfl) (fun _ _ _ h => h) (Or.inr ⟨by rfl, rfl⟩) (by assumption) ?_
        simp only [Act.put, List.setIfInBounds_toArray, List.set_cons_zero, List.set_cons_succ]
        refine wpAnyH_take_at (i := 40) (d := some 97) (v := undef) rfl rfl (by kernel_rfl) (by kernel_rfl) (by kernel_rfl) (fun _ _ _ h => h) (Or.inr ⟨by rfl, rfl⟩) (by assumption) ?_
        simp only [Act.put, List.setIfInBounds_toArray, List.set_cons_zero, List.set_cons_succ]
        refine wpAnyH_take_at (i := 41) (d := some 98) (v := undef) rfl rfl (by kernel_rfl) (by kernel_rfl) (by kernel_rfl) (fun _ _ _ h => h) (Or.inr ⟨by rfl, rfl⟩) (by assumption) ?_
        simp only [Act.put, List.setIfInBounds_toArray, List.set_cons_zero, List.set_cons_succ]
        refine wpAnyH_take_at (i := 42) (d := some 99) (v := undef) rfl rfl (by kernel_rfl) (by kernel_rfl) (by kernel_rfl) (fun _ _ _ h => h) (Or.inr ⟨by rfl, rfl⟩) (by assumption) ?_
        simp only [Act.put, List.setIfInBounds_toArray, List.set_cons_zero, List.set_cons_succ]
        refine wpAnyH_take_at (i := 43) (d := some 100) (v := undef) rfl rfl (by kernel_rfl) (by kernel_rfl) (by kernel_rfl) (fun _ _ _ h => h) (Or.inr ⟨by rfl, rfl⟩) (by assumption) ?_
        simp only [Act.put, List.setIfInBounds_toArray, List.set_cons_zero, List.set_cons_succ]
        refine wpAnyH_take_at (i := 44) (d := some 101) (v := undef) rfl rfl (by kernel_rfl) (by kernel_rfl) (by kernel_rfl) (fun _ _ _ h => h) (Or.inr ⟨by rfl, rfl⟩) (by assumption) ?_
        simp only [Act.put, List.setIfInBounds_toArray, List.set_cons_zero, List.set_cons_succ]
        refine wpAnyH_take_at (i := 45) (d := some 102) (v := undef) rfl rfl (by kernel_rfl) (by kernel_rfl) (by kernel_rfl) (fun _ _ _ h => h) (Or.inr ⟨by rfl, rfl⟩) (by assumption) ?_
        simp only [Act.put, List.setIfInBounds_toArray, List.set_cons_zero, List.set_cons_succ]
        refine wpAnyH_take_at (i := 46) (d := some 103) (v := undef) rfl rfl (by kernel_rfl) (by kernel_rfl) (by kernel_rfl) (fun _ _ _ h => h) (Or.inr ⟨by rfl, rfl⟩) (by assumption) ?_
        simp only [Act.put, List.setIfInBounds_toArray, List.set_cons_zero, List.set_cons_succ]
        refine wpAnyH_take_at (i := 47) (d := some 104) (v := ?_) rfl rfl (by kernel_rfl) (by kernel_rfl) (by kernel_rfl) (fun _ _ _ h => h) (Or.inl ⟨by rfl, ?_⟩) (by assumption) ?_
        rotate_left 1
        · intro w hSw
          (try dsimp only at hSw)
          go_simp <;> with_reducible rfl
        simp only [Act.put, List.setIfInBounds_toArray, List.set_cons_zero, List.set_cons_succ]
        refine wpAnyH_take_at (i := 48) (d := some 105) (v := ?_) rfl rfl (by kernel_rfl) (by kernel_rfl) (by kernel_rfl) (fun _ _ _ h => h) (Or.inl ⟨by rfl, ?_⟩) (by assumption) ?_
        rotate_left 1
        · intro w hSw
          (try dsimp only at hSw)
          go_simp <;> with_reducible rfl
        simp only [Act.put, List.setIfInBounds_toArray, List.set_cons_zero, List.set_cons_succ]
        refine wpAnyH_done (by kernel_rfl) ?_ _
        go_wp2_with fail
        go_roundw
        case rel => exact ⟨i + 1, by omega, by go_num, below_more HB.out.drew b11 HB.out.size⟩
        case measure => simp [intOf]; omega
      · obtain ⟨j, hj⟩ : ∃ j, i = j + 1 := ⟨i - 1, by omega⟩
        obtain ⟨pJ, _⟩ := (rL.below bw).cell0 (show j < nl by omega)
        have v6 := v5 j (by omega)
        generalize ls.getD j 0 = u at *
        have hw : IntKind.i64.wrap ((i : Int) - 1) = (j : Int) := by rw [IntWalk.i64_in _ (by omega)]; omega
        have n5 : (0 : Int) ≤ (j : Int) := by omega
        have n6 : (j : Int) < (nl : Int) := by omega
        have t3 : decide ((0 : Int) < (i : Int)) = true := by simp; omega
        have t3' : decide (0 < i) = true := by simp; omega
        have t4 : decide ((τ : Int) ≤ u) = false := by simp; omega
        have HSL := Lib.hid (hSl C nc cc cs (τ : Int) wr.drew rC' (by omega) (by omega))
        have HJ := Lib.hid hj
        clear v1 v2 v3 v5 bw rC' hj v6 hi0
        go_wp2_with fail
        go_region_held3 (fun w' => w'.cell? ⟨g0, i, none⟩ = some (.int .i64 (τ : Int)) ∧ w'.cell? ⟨g1, τ, none⟩ = some (.int .i64 0) ∧ w'.cell? ⟨g0, j, none⟩ = some (.int .i64 u))
          (first | go_keep | (go_split_ands; exact ⟨(b11.cell (p := ⟨g0, i, none⟩) hL1).trans (by assumption), (b11.cell (p := ⟨g1, τ, none⟩) hR1).trans (by assumption), (b11.cell (p := ⟨g0, j, none⟩) hL1).trans (by assumption)⟩))
          ((go_at_call 13; refine HSL.out.mono ?_; rintro e w11 ⟨rfl, b11⟩; rw [v4]))
        go_wp2_with fail
        go_roundw
        case rel => exact ⟨i + 1, by omega, by go_num, below_more HB.out.drew b11 HB.out.size⟩
        case measure => simp [intOf]; omega
    · have B11 := below_more B10 bw B10.size
      replace rB := (rB.below bw).more sw
      replace rX := (rX.below bw).more sw
      clear rL rC rR HG B10
      by_cases hx0 : nx = 0
      · have hz : ((nx : Int) == 0) = true := by simp; omega
        go_wp2_with fail
        go_ret
        exact ⟨rfl, B11⟩
      · have hz : ((nx : Int) == 0) = false := by simp; omega
        obtain ⟨hh, hm, hh2, hf, ht8⟩ := HF.out (fun e => by have := lX.out; rw [e] at this; simp at this; omega)
        have HHI := Lib.hid (implHeadIn_any X nx cx fs wr rX (by omega))
        have HHD := Lib.hid (headIn_yes hh2)
        obtain ⟨⟨s, f, r, u, m⟩, hhd⟩ : ∃ q, headOf fs = q := ⟨_, rfl⟩
        rw [hhd] at HHD hf ht8
        simp only at hf ht8
        have HFM := Lib.hid hf
        have HT8 := Lib.hid ht8
        clear hf ht8 hhd hh2 hh hm
        go_wp2_with fail
        refine HHI.out.mono ?_
        rintro e w12 ⟨rfl, b12⟩
        rw [HHD.out]
        unfold hdV
        have b13 := b12.alloc b12.size (.cells #[.int .i64 s, .int .i64 f, .int .i64 r, .int .i64 u, .int .i64 m] 32)
        have pf : (w12.alloc (.cells #[.int .i64 s, .int .i64 f, .int .i64 r, .int .i64 u, .int .i64 m] 32)).cell? ⟨w12.heap.size, 1, none⟩ = some (.int .i64 f) := World.cell?_alloc_new _ _ _ _
        have hlt12 : w12.heap.size < (w12.alloc (.cells #[.int .i64 s, .int .i64 f, .int .i64 r, .int .i64 u, .int .i64 m] 32)).heap.size := by simp
        have B13 := below_more B11 b13 B11.size
        have rB13 := (rB.below b13).more b13.size
        have rX13 := (rX.below b13).more b13.size
        clear b12 b13 B11 rB rX HHI HHD
        go_wp2_with fail
        generalize (w12.alloc (.cells #[.int .i64 s, .int .i64 f, .int .i64 r, .int .i64 u, .int .i64 m] 32)) = v13 at *
        generalize w12.heap.size = gh at *
        have hTT := Lib.hid (fun (wx : World) (hx : Rd wx wx.heap.size X nx fs) => hT X nx cx fs f wx hx (by omega) hcx)
        have rB14 : Rd v13.drew v13.drew.heap.size B nb bs := rB13
        go_region_held3 (fun w' => w'.cell? ⟨gh, 1, none⟩ = some (.int .i64 f))
          (first | go_keep | (exact (b14.cell (p := ⟨gh, 1, none⟩) hlt12).trans (by assumption)))
          (first
            | (go_at_call 17; refine (specClin_any B nb cb bs v13.drew.heap.size v13.drew rB14 (by omega)).mono ?_; rintro e w' ⟨rfl, rfl⟩; rw [← HFM.out])
            | (go_at_call 18; refine (hTT.out v13.drew rX13).mono ?_; rintro e w14 ⟨T, nt, ct, rfl, oT, b14⟩; obtain rfl : nt = 8 := by rw [← oT.len]; exact HT8.out))
        go_wp2_with fail
        go_ret
        exact ⟨rfl, below_more B13.drew b14 B13.size⟩
end Go.Proofs.YtimbfilbojejiabGreat
