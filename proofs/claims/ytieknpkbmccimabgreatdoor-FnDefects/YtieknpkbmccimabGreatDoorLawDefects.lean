/- The law FnDefects, walked, given what the program's own functions answer. -/
import Derived.Test.YtieknpkbmccimabGreatDoorD6
import Derived.Test.YtieknpkbmccimabGreatDoorY3
import Derived.Test.YtieknpkbmccimabGreatDoorY4
import Derived.Test.YtieknpkbmccimabGreatDoorFq
import Derived.Test.YtieknpkbmccimabGreatDoorLawWords
namespace Go.Proofs.YtieknpkbmccimabGreatDoor
open Go.RowKit

theorem defects_next {b : List Int} {j : Nat} (h : j + 1 < (defectsL b).length) : dfOrder ((defectsL b).getD j dc0) ((defectsL b).getD (j + 1) dc0) := by
  have := List.pairwise_iff_getElem.1 (defects_order b) j (j + 1) (by omega) h (by omega)
  rw [List.getD_eq_getElem?_getD, List.getD_eq_getElem?_getD, List.getElem?_eq_getElem h, List.getElem?_eq_getElem (by omega)]
  exact this

set_option maxRecDepth 100000 in
set_option maxHeartbeats 16000000 in
theorem law_Defects (w : World) (hD : DefectsC w) (hSo : SoundC w) (hMi : MildC w) (A : Option Addr) (n c : Nat) (xs : List Int) (hr : Rd8 w w.heap.size A n xs) :
    Calls Tryz.prog 3 #[.slice A n c] w fun e w' => e = .returned (.bool true) ∧ Below w.heap.size w w' := by
  by_cases hbig : 4096 < n
  · have hb : decide ((4096 : Int) < (n : Int)) = true := by simp; omega
    go_enter Tryz.func3, Tryz.ntmps3
    go_wp2_with fail
    refine (big_words _ _ _ _).mono ?_
    rintro e w' ⟨rfl, rfl⟩
    rw [hb]
    go_wp2_with fail
    go_ret
    exact ⟨rfl, Below.refl _ _⟩
  have hb : decide ((4096 : Int) < (n : Int)) = false := by simp; omega
  go_enter Tryz.func3, Tryz.ntmps3
  go_wp2_with fail
  refine (big_words _ _ _ _).mono ?_
  rintro e w' ⟨rfl, rfl⟩
  rw [hb]
  clear hb
  go_wp2_with fail
  refine (drawDefectsIn_any A n c xs w hr (by omega)).mono ?_
  rintro e w1 ⟨B, nb, cb, bs, hnb, rfl, rB, b1⟩
  obtain ⟨l, hl⟩ : ∃ l, l = defectsL bs := ⟨_, rfl⟩
  have hll : l.length ≤ 40000 := by rw [hl]; exact defects_length bs
  have HO := Lib.hid (fun j h => defects_next (b := bs) (j := j) h)
  have HSB : Hid (soundB bs = (imgB bs && decide ((defectsL bs).length = 0))) := rfl
  have HSM := Lib.hid (fun h => sound_mild (b := bs) h)
  rw [← hl] at HO HSB
  have HL := Lib.hid hl
  clear hl
  obtain ⟨nl, hnl⟩ : ∃ nl, l.length = nl := ⟨_, rfl⟩
  have hn4 : nl ≤ 40000 := by omega
  go_wp2_with fail
  refine (hD B nb cb bs w1 b1 rB (by omega) (by omega)).mono ?_
  rintro e w2 ⟨L, cl', rfl, oL, b2⟩
  rw [← HL.out, hnl] at oL ⊢
  have rL := oL.rd
  have HL0 : Hid (nl = 0 ∨ ∃ g0, L = some ⟨g0, 0, none⟩) := by
    rcases oL.form with ⟨_, h0, _⟩ | ⟨g, e, _⟩
    · exact .inl h0
    · exact .inr ⟨g, e⟩
  have B2 := below_more b1 b2 b1.size
  replace rB := (rB.below b2).more b2.size
  clear b1 b2 oL
  go_wp2_with fail
  refine (drawSound_any A n c xs w2 ((hr.below B2).more B2.size) (by omega)).mono ?_
  rintro e w3 ⟨S, ns, cs, ss, hns, rfl, rS, b3⟩
  have B3 := below_more B2 b3 B2.size
  replace rB := (rB.below b3).more b3.size
  replace rL := (rL.below b3).more b3.size
  clear b3 B2
  go_wp2_with fail
  refine (drawMild_any A n c xs w3 ((hr.below B3).more B3.size) (by omega)).mono ?_
  rintro e w4 ⟨M, nm, cm, ms, hnm, rfl, rM, b4⟩
  have B4 := below_more B3 b4 B3.size
  replace rB := (rB.below b4).more b4.size
  replace rL := (rL.below b4).more b4.size
  replace rS := (rS.below b4).more b4.size
  clear b4 B3
  go_wp2_with fail
  refine (specDefectsR_any B nb cb bs w4 rB (by omega)).mono ?_
  rintro e w5 ⟨Y, cy, rfl, oY, b5⟩
  rw [← HL.out, hnl] at oY ⊢
  have B5 := below_more B4 b5 B4.size
  replace rB := (rB.below b5).more b5.size
  replace rL := (rL.below b5).more b5.size
  replace rS := (rS.below b5).more b5.size
  replace rM := (rM.below b5).more b5.size
  clear b5 B4
  go_wp2_with fail
  refine (likeDefects_any L Y nl cl' cy l w5.heap.size w5 rL oY.rd hnl (by omega)).mono ?_
  rintro e w5' ⟨rfl, d5, rfl⟩
  replace rB := rB.drewN d5
  replace rL := rL.drewN d5
  replace rS := rS.drewN d5
  replace rM := rM.drewN d5
  replace B5 := below_drewN B5 d5
  clear oY HL
  go_wp2_with fail
  refine (hSo S ns cs ss _ B5 rS (by omega) (by omega)).mono ?_
  rintro e w6 ⟨rfl, b6⟩
  have B6 := below_more B5 b6 B5.size
  replace rB := (rB.below b6).more b6.size
  replace rL := (rL.below b6).more b6.size
  replace rS := (rS.below b6).more b6.size
  replace rM := (rM.below b6).more b6.size
  clear b6 B5
  go_wp2_with fail
  refine (specSound_any S ns cs ss w6 rS (by omega)).mono ?_
  rintro e w7 ⟨rfl, b7⟩
  have B7 := below_more B6 b7 B6.size
  replace rB := (rB.below b7).more b7.size
  replace rL := (rL.below b7).more b7.size
  replace rM := (rM.below b7).more b7.size
  clear b7 B6 rS
  generalize soundB ss = s0 at *
  have hs0 : (s0 != s0) = false := by simp
  go_wp2_with fail
  refine (hMi M nm cm ms w7 B7 rM (by omega) (by omega)).mono ?_
  rintro e w8 ⟨rfl, b8⟩
  have B8 := below_more B7 b8 B7.size
  replace rB := (rB.below b8).more b8.size
  replace rL := (rL.below b8).more b8.size
  replace rM := (rM.below b8).more b8.size
  clear b8 B7
  go_wp2_with fail
  refine (specMild_any M nm cm ms w8 rM (by omega)).mono ?_
  rintro e w9 ⟨rfl, b9⟩
  have B9 := below_more B8 b9 B8.size
  replace rB := (rB.below b9).more b9.size
  replace rL := (rL.below b9).more b9.size
  clear b9 B8 rM
  generalize mildB ms = m0 at *
  have hm0 : (m0 != m0) = false := by simp
  go_wp2_with fail
  go_loopw [7] (fun v wr => ∃ i : Nat, 1 ≤ i ∧ i ≤ nl + 1 ∧ v = .int .i64 i ∧ ∃ d, wr = w9.drewN d) (fun v _ => nl + 1 - (intOf v).toNat)
  case atStart => exact ⟨1, by omega, by omega, rfl, 0, rfl⟩
  case round =>
    obtain ⟨i, hi1, hi, rfl, d, rfl⟩ := hrel
    by_cases hlt : i < nl
    · obtain ⟨j, hj⟩ : ∃ j, i = j + 1 := ⟨i - 1, by omega⟩
      have hil : j + 1 < l.length := by omega
      have HOj := Lib.hid (HO.out j hil)
      obtain ⟨g0, rfl⟩ : ∃ g0, L = some ⟨g0, 0, none⟩ := by
        rcases HL0.out with h | h
        · omega
        · exact h
      obtain ⟨p0, _, _, _⟩ := rL.dc hil hnl
      obtain ⟨q0, _, _, _⟩ := rL.dc (show j < l.length by omega) hnl
      rw [Nat.zero_add] at p0 q0
      generalize l.getD j dc0 = x at *
      generalize l.getD (j + 1) dc0 = y at *
      obtain ⟨xk, xa, xb⟩ := x
      obtain ⟨yk, ya, yb⟩ := y
      simp only at p0 q0
      have hjn : j < nl := by omega
      have hw : IntKind.i64.wrap ((i : Int) - 1) = (j : Int) := by rw [IntWalk.i64_in _ (by omega)]; omega
      rw [← hj] at p0
      have HJ := Lib.hid hj
      clear hj
      have n1 : (0 : Int) ≤ (i : Int) := by omega
      have n2 : (i : Int) < (nl : Int) := by omega
      have n3 : (0 : Int) ≤ (j : Int) := by omega
      have n4 : (j : Int) < (nl : Int) := by omega
      have hO := HOj.out
      unfold dfOrder at hO
      simp only at hO
      by_cases hlk : yk < xk
      · obtain ⟨h5, h6⟩ : yk = 5 ∧ xk = 6 := by omega
        subst h5
        subst h6
        clear HOj hO hlk
        go_wp2_with fail
        go_quiet (fail)
        go_wp2_with fail
        go_roundw
        case rel => exact ⟨i + 1, by omega, by omega, by go_num, _, (by first | rfl | exact World.drewN_drewN _ _ _)⟩
        case measure => simp [intOf]; omega
      · have hd : decide (yk < xk) = false := by simpa using hlk
        clear HOj hO hlk
        go_wp2_with fail
        go_quiet (fail)
        go_wp2_with fail
        go_roundw
        case rel => exact ⟨i + 1, by omega, by omega, by go_num, _, (by first | rfl | exact World.drewN_drewN _ _ _)⟩
        case measure => simp [intOf]; omega
    · replace B9 := below_drewN B9 d
      replace rB := rB.drewN d
      have hSB := HSB.out
      rw [hnl] at hSB
      go_wp2_with fail
      refine (hSo B nb cb bs _ B9 rB (by omega) (by omega)).mono ?_
      rintro e w10 ⟨rfl, b10⟩
      have B10 := below_more B9 b10 B9.size
      replace rB := (rB.below b10).more b10.size
      clear b10 B9
      cases hso : soundB bs
      · rw [hso] at hSB
        by_cases h0 : nl = 0
        · have hi : imgB bs = false := by
            have h1 : decide (nl = 0) = true := by simpa using h0
            rw [h1, Bool.and_true] at hSB
            exact hSB.symm
          have hz : ((nl : Int) == 0) = true := by simp; omega
          clear hSB h0
          go_wp2_with fail
          refine (specImg_any B nb cb bs _ _ rB (by omega)).mono ?_
          rintro e w10' ⟨rfl, rfl⟩
          rw [hi]
          go_wp2_with fail
          refine (hSo B nb cb bs w10 B10 rB (by omega) (by omega)).mono ?_
          rintro e w11 ⟨rfl, b11⟩
          rw [hso]
          have B11 := below_more B10 b11 B10.size
          clear b11
          go_wp2_with fail
          go_ret
          exact ⟨rfl, B11⟩
        · have hz : ((nl : Int) == 0) = false := by simp; omega
          clear hSB h0
          go_wp2_with fail
          refine (hSo B nb cb bs w10 B10 rB (by omega) (by omega)).mono ?_
          rintro e w11 ⟨rfl, b11⟩
          rw [hso]
          have B11 := below_more B10 b11 B10.size
          clear b11
          go_wp2_with fail
          go_ret
          exact ⟨rfl, B11⟩
      · rw [hso] at hSB
        have h2 := hSB.symm
        rw [Bool.and_eq_true, decide_eq_true_eq] at h2
        obtain ⟨hi, h0⟩ := h2
        have hz : ((nl : Int) == 0) = true := by simp; omega
        have hmi := HSM.out hso
        clear hSB h0
        go_wp2_with fail
        refine (specImg_any B nb cb bs _ _ rB (by omega)).mono ?_
        rintro e w10' ⟨rfl, rfl⟩
        rw [hi]
        go_wp2_with fail
        refine (hSo B nb cb bs w10 B10 rB (by omega) (by omega)).mono ?_
        rintro e w11 ⟨rfl, b11⟩
        rw [hso]
        have B11 := below_more B10 b11 B10.size
        replace rB := (rB.below b11).more b11.size
        clear b11
        go_wp2_with fail
        refine (hMi B nb cb bs w11 B11 rB (by omega) (by omega)).mono ?_
        rintro e w12 ⟨rfl, b12⟩
        rw [hmi]
        have B12 := below_more B11 b12 B11.size
        go_wp2_with fail
        go_ret
        exact ⟨rfl, B12⟩
end Go.Proofs.YtieknpkbmccimabGreatDoor
