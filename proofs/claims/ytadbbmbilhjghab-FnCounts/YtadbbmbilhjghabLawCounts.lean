/- The law FnCounts, walked, given what the program's own functions answer. -/
import Derived.Test.YtadbbmbilhjghabD6
import Derived.Test.YtadbbmbilhjghabLawRo
import Derived.Test.YtadbbmbilhjghabLawCo
import Derived.Test.YtadbbmbilhjghabRoQ
import Derived.Test.YtadbbmbilhjghabLawWords
namespace Go.Proofs.Ytadbbmbilhjghab
open Go.RowKit

theorem counts_or (xs : List Int) : (countsL xs).length = 64 ∨ ((rolesL xs).length = 0 ∧ (countsL xs).length = 0) := by
  unfold countsL rolesL
  cases hasHead xs
  · right; simp
  · left; simp [counts_length]

set_option maxRecDepth 100000 in
set_option maxHeartbeats 16000000 in
theorem law_Counts (hCo : CountsC) (hRo : RolesC) (A : Option Addr) (n c : Nat) (xs : List Int) (w : World) (hr : Rd8 w w.heap.size A n xs) :
    Calls Try.prog 3 #[.slice A n c] w fun e w' => e = .returned (.bool true) ∧ Below w.heap.size w w' := by
  by_cases hbig : 4096 < n
  · have hb : decide ((4096 : Int) < (n : Int)) = true := by simp; omega
    go_enter Try.func3, Try.ntmps3
    go_wp2_with fail
    refine (big_words _ _ _ _).mono ?_
    rintro e w' ⟨rfl, rfl⟩
    rw [hb]
    go_wp2_with fail
    go_ret
    exact ⟨rfl, Below.refl _ _⟩
  have hb : decide ((4096 : Int) < (n : Int)) = false := by simp; omega
  go_enter Try.func3, Try.ntmps3
  go_wp2_with fail
  refine (big_words _ _ _ _).mono ?_
  rintro e w' ⟨rfl, rfl⟩
  rw [hb]
  clear hb
  go_wp2_with fail
  refine (drawCountsIn_any A n c xs w hr (by omega)).mono ?_
  rintro e w1 ⟨B, nb, cb, bs, hnb, rfl, rB, b1⟩
  have HQ := Lib.hid (fun j hj => count_role (xs := bs) (j := j) hj)
  have HO := Lib.hid (counts_or bs)
  have hcl := countsL_length (xs := bs)
  have hrl := rolesL_length (xs := bs)
  obtain ⟨cs, hcs⟩ : ∃ cs, cs = countsL bs := ⟨_, rfl⟩
  obtain ⟨rs, hrs⟩ : ∃ rs, rs = rolesL bs := ⟨_, rfl⟩
  rw [← hcs] at HQ HO hcl
  rw [← hrs] at HQ HO hrl
  have HC := Lib.hid hcs
  have HR := Lib.hid hrs
  clear hcs hrs
  have hyy : (cs == cs) = true := by simp
  go_wp2_with fail
  refine (hCo B nb cb bs w1 rB (by omega) (by omega)).mono ?_
  rintro e w2 ⟨X, nx, cx, rfl, oX, b2⟩
  rw [← HC.out] at oX
  have rX := oX.rd
  have B2 := below_more b1 b2 b1.size
  replace rB := (rB.below b2).more b2.size
  have lX := Lib.hid rX.len
  have hnx : nx ≤ 64 := by have := lX.out; omega
  clear b1 b2 oX
  go_wp2_with fail
  refine (specCountsIn_any B nb cb bs w2 rB (by omega)).mono ?_
  rintro e w3 ⟨Y, ny, cy, rfl, oY, b3⟩
  rw [← HC.out] at oY
  have B3 := below_more B2 b3 B2.size
  replace rB := (rB.below b3).more b3.size
  replace rX := (rX.below b3).more b3.size
  clear b3 B2
  go_wp2_with fail
  refine (like_any X Y nx cx ny cy cs cs w3.heap.size w3 rX oY.rd (by omega)).mono ?_
  rintro e w3' ⟨rfl, d3, rfl⟩
  rw [hyy]
  replace rB := rB.drewN d3
  replace rX := rX.drewN d3
  replace B3 := below_drewN B3 d3
  clear oY hyy
  go_wp2_with fail
  refine (hRo B nb cb bs _ rB (by omega) (by omega)).mono ?_
  rintro e w4 ⟨R, nr, cr, rfl, oR, b4⟩
  rw [← HR.out] at oR
  have rR := oR.rd
  have B4 := below_more B3 b4 B3.size
  replace rX := (rX.below b4).more b4.size
  have lR := Lib.hid rR.len
  have hnr : nr ≤ 64 := by have := lR.out; omega
  clear b4 B3 oR rB HC HR hcl hrl
  go_wp2_with fail
  go_loopw [6] (fun v wr => ∃ i : Nat, i ≤ nx ∧ v = .int .i64 i ∧ ∃ d, wr = w4.drewN d) (fun v _ => nx - (intOf v).toNat)
  case atStart => exact ⟨0, Nat.zero_le _, rfl, 0, rfl⟩
  case round =>
    obtain ⟨i, hi, rfl, d, rfl⟩ := hrel
    by_cases hlt : i < nx
    · obtain ⟨b, off, rfl, _, hcx⟩ := rX.2 (by omega)
      have px := hcx i hlt
      have HQi := Lib.hid (HQ.out i (by have := lX.out; omega))
      generalize cs.getD i 0 = u at *
      have n1 : (0 : Int) ≤ (i : Int) := by omega
      have n2 : (i : Int) < (nx : Int) := by omega
      clear hcx HQ
      by_cases hir : i < nr
      · obtain ⟨b', off', rfl, _, hcr⟩ := rR.2 (by omega)
        have pr := hcr i hir
        have hQ := HQi.out
        have e1 : decide (i < rs.length) = true := by have := lR.out; simp; omega
        rw [e1, Bool.true_and] at hQ
        generalize rs.getD i 0 = v at *
        have m1 : decide ((i : Int) < (nr : Int)) = true := by simp; omega
        clear hcr HQi e1
        cases hu : decide (0 < u)
        · have hv : (v != 0) = false := by rw [← hQ]; exact hu
          clear hQ
          go_wp2_with fail
          go_quiet (fail)
          go_wp2_with fail
          go_roundw
          case rel => exact ⟨i + 1, by omega, by go_num, _, (by first | rfl | exact World.drewN_drewN _ _ _)⟩
          case measure => simp [intOf]; omega
        · have hv : (v != 0) = true := by rw [← hQ]; exact hu
          clear hQ
          go_wp2_with fail
          go_quiet (fail)
          go_wp2_with fail
          go_roundw
          case rel => exact ⟨i + 1, by omega, by go_num, _, (by first | rfl | exact World.drewN_drewN _ _ _)⟩
          case measure => simp [intOf]; omega
      · have hQ := HQi.out
        have e1 : decide (i < rs.length) = false := by have := lR.out; simp; omega
        rw [e1, Bool.false_and] at hQ
        have m1 : decide ((i : Int) < (nr : Int)) = false := by simp; omega
        clear HQi e1
        go_wp2_with fail
        go_quiet (fail)
        go_wp2_with fail
        go_roundw
        case rel => exact ⟨i + 1, by omega, by go_num, _, (by first | rfl | exact World.drewN_drewN _ _ _)⟩
        case measure => simp [intOf]; omega
    · have B5 := below_drewN B4 d
      have l1 := lX.out
      have l2 := lR.out
      rcases HO.out with h | ⟨h1, h2⟩
      · have hx64 : ((nx : Int) == 64) = true := by simp; omega
        clear h l1 l2 HO HQ
        go_wp2_with fail
        go_ret
        exact ⟨rfl, B5⟩
      · have hx64 : ((nx : Int) == 64) = false := by simp; omega
        have hx0 : ((nx : Int) == 0) = true := by simp; omega
        have hr0 : ((nr : Int) == 0) = true := by simp; omega
        clear h1 h2 l1 l2 HO HQ
        go_wp2_with fail
        go_ret
        exact ⟨rfl, B5⟩
end Go.Proofs.Ytadbbmbilhjghab
