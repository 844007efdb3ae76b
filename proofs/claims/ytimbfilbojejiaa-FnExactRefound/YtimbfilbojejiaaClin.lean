/- How many clusters: both sides. -/
import Derived.Test.YtimbfilbojejiaaCl
namespace Go.Proofs.Ytimbfilbojejiaa
open Go.RowKit

def manyN (xs : List Int) : Nat := (xs.length + 7) / 8
def manyI (xs : List Int) : Int := if imgB xs = true then (manyN xs : Int) else -1

theorem specMany_any (A : Option Addr) (n c : Nat) (xs : List Int) (w : World) (h : xs.length = n) (hn : n ≤ 2097152) :
    Calls Try.prog 27 #[.slice A n c] w fun e w' => e = .returned (.int .i64 (manyN xs)) ∧ w = w' := by
  have H := Lib.hid h
  clear h
  go_enter Try.func27, Try.ntmps27
  go_wp2
  go_ret
  have := H.out
  exact ⟨ret_int (by unfold manyN; omega), rfl⟩

theorem implClin_any (A : Option Addr) (n c : Nat) (xs : List Int) (w : World) (h : Rd w w.heap.size A n xs) (hn : n ≤ 2097152) :
    Calls Try.prog 33 #[.slice A n c] w fun e w' => e = .returned (.int .i64 (manyI xs)) ∧ Below w.heap.size w w' := by
  have H := Lib.hid h.len
  cases hi : imgB xs
  · have H2 := Lib.hid hi
    go_enter Try.func33, Try.ntmps33
    go_wp2_with (go_at_call 53; refine (implImg_any _ _ _ _ _ _ h hn).mono ?_; rintro e w' ⟨rfl, rfl⟩)
    go_ret
    exact ⟨ret_int (by simp [manyI, H2.out]), Below.refl _ _⟩
  · have H2 := Lib.hid hi
    go_enter Try.func33, Try.ntmps33
    go_wp2_with (go_at_call 53; refine (implImg_any _ _ _ _ _ _ h hn).mono ?_; rintro e w' ⟨rfl, rfl⟩)
    refine (clustersOf_any _ _ _ _ _ h hn).mono ?_
    rintro e w1 ⟨B1, m, hm, rfl, o1, b1⟩
    have HM := Lib.hid hm
    clear hm
    go_wp2
    go_ret
    refine ⟨ret_int ?_, b1⟩
    have h1 := HM.out
    have h2 := H.out
    simp [manyI, H2.out, manyN, h2, h1]

end Go.Proofs.Ytimbfilbojejiaa