/- How many clusters: both sides. -/
import Derived.Test.YtiokfhdkbpoadaaCl
namespace Go.Proofs.Ytiokfhdkbpoadaa
open Go.RowKit

def manyN (xs : List Int) : Nat := (xs.length + 7) / 8
def manyI (xs : List Int) : Int := if imgB xs = true then (manyN xs : Int) else -1

theorem specMany_any (A : Option Addr) (n c : Nat) (xs : List Int) (w : World) (h : xs.length = n) (hn : n ≤ 2097152) :
    Calls Try.prog 17 #[.slice A n c] w fun e w' => e = .returned (.int .i64 (manyN xs)) ∧ w = w' := by
  have H := Lib.hid h
  clear h
  go_enter Try.func17, Try.ntmps17
  go_wp2
  go_ret
  have := H.out
  exact ⟨ret_int (by unfold manyN; omega), rfl⟩

theorem specClin_any (A : Option Addr) (n c : Nat) (xs : List Int) (B : Nat) (w : World) (h : Rd w B A n xs) (hn : n ≤ 2097152) :
    Calls Try.prog 6 #[.slice A n c] w fun e w' => e = .returned (.int .i64 (manyI xs)) ∧ w = w' := by
  have H := Lib.hid h.len
  cases hi : imgB xs
  · have H2 := Lib.hid hi
    go_enter Try.func6, Try.ntmps6
    go_wp2_with (go_at_call 16; refine (specImg_any _ _ _ _ _ _ h hn).mono ?_; rintro e w' ⟨rfl, rfl⟩)
    go_ret
    exact ⟨ret_int (by simp [manyI, H2.out]), rfl⟩
  · have H2 := Lib.hid hi
    go_enter Try.func6, Try.ntmps6
    go_wp2_with (first | (go_at_call 16; refine (specImg_any _ _ _ _ _ _ h hn).mono ?_; rintro e w' ⟨rfl, rfl⟩) | (go_at_call 17; refine (specMany_any _ _ _ _ _ H.out hn).mono ?_; rintro e w' ⟨rfl, rfl⟩))
    go_ret
    exact ⟨ret_int (by simp [manyI, H2.out]), rfl⟩

theorem implClin_any (A : Option Addr) (n c : Nat) (xs : List Int) (w : World) (h : Rd w w.heap.size A n xs) (hn : n ≤ 2097152) :
    Calls Try.prog 8 #[.slice A n c] w fun e w' => e = .returned (.int .i64 (manyI xs)) ∧ Below w.heap.size w w' := by
  have H := Lib.hid h.len
  cases hi : imgB xs
  · have H2 := Lib.hid hi
    go_enter Try.func8, Try.ntmps8
    go_wp2_with (go_at_call 18; refine (implImg_any _ _ _ _ _ _ h hn).mono ?_; rintro e w' ⟨rfl, rfl⟩)
    go_ret
    exact ⟨ret_int (by simp [manyI, H2.out]), Below.refl _ _⟩
  · have H2 := Lib.hid hi
    go_enter Try.func8, Try.ntmps8
    go_wp2_with (go_at_call 18; refine (implImg_any _ _ _ _ _ _ h hn).mono ?_; rintro e w' ⟨rfl, rfl⟩)
    refine (clustersFor_any n w hn).mono ?_
    rintro e w' ⟨rfl, rfl⟩
    go_wp2
    go_ret
    refine ⟨ret_int ?_, Below.refl _ _⟩
    have h2 := H.out
    simp [manyI, H2.out, manyN, h2]

set_option maxHeartbeats 1000000 in
theorem law_ClustersIn (A : Option Addr) (n c : Nat) (xs : List Int) (w : World) (h : Rd w w.heap.size A n xs) :
    Calls Try.prog 3 #[.slice A n c] w fun e w' => e = .returned (.bool true) ∧ Below w.heap.size w w' := by
  by_cases hbig : 1048576 < n
  · have hb : decide ((1048576 : Int) < (n : Int)) = true := by simp; omega
    go_enter Try.func3, Try.ntmps3
    go_wp2
    go_ret
    exact ⟨rfl, Below.refl _ _⟩
  · have hb : decide ((1048576 : Int) < (n : Int)) = false := by simp; omega
    go_enter Try.func3, Try.ntmps3
    go_wp2_with fail
    refine (to_any A n c xs _ h (by omega)).mono ?_
    rintro e w1 ⟨B1, rfl, o1, b1⟩
    go_wp2_with fail
    refine (specClin_any B1 n n xs _ _ o1.rd (by omega)).mono ?_
    rintro e w1' ⟨rfl, rfl⟩
    go_wp2_with fail
    refine (to_any A n c xs w1 ((h.below b1).more b1.size) (by omega)).mono ?_
    rintro e w2 ⟨B2, rfl, o2, b2⟩
    go_wp2_with fail
    refine (implClin_any B2 n n xs _ o2.rd (by omega)).mono ?_
    rintro e w3 ⟨rfl, b3⟩
    have hbb : (manyI xs != manyI xs) = false := by simp
    have b03 := below_more (below_more b1 b2 b1.size) b3 (Nat.le_trans b1.size b2.size)
    have o2' := o2.below b3 (Nat.le_refl _)
    go_wp2_with fail
    refine (to_any A n c xs w3 ((h.below b03).more b03.size) (by omega)).mono ?_
    rintro e w4 ⟨B3, rfl, o3, b4⟩
    have b04 := below_more b03 b4 b03.size
    go_wp2_with fail
    refine (eq_any B2 B3 n n n n xs xs w4.heap.size w4 ((o2'.below b4 b3.size).rd.more (Nat.le_trans b3.size b4.size)) o3.rd (by omega)).mono ?_
    rintro e w5 ⟨rfl, d, rfl⟩
    have hee : (xs == xs) = true := by simp
    go_wp2_with fail
    go_ret
    exact ⟨rfl, below_drewN b04 d⟩
end Go.Proofs.Ytiokfhdkbpoadaa
