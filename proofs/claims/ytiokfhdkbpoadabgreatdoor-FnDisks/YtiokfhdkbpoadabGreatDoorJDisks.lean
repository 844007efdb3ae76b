/- FnDisks: the law with what the program's own functions answer, given what the row's list says. -/
import Derived.Test.YtiokfhdkbpoadabGreatDoorJDk
import Derived.Test.YtiokfhdkbpoadabGreatDoorLawDisks
import Derived.Test.YtiokfhdkbpoadabGreatDoorQP
namespace Go.Proofs.YtiokfhdkbpoadabGreatDoor
open Go.RowKit

theorem law_Disks_all {W : World} (hL : laidMetH Tryz.prog errsLaid W) (A : Option Addr) (n c : Nat) (xs : List Int) (h : Rd8 W W.heap.size A n xs) :
    Calls Tryz.prog 3 #[.slice A n c] W fun e W' => e = .returned (.bool true) ∧ Below W.heap.size W W' := by
  have h' : laidMet Tryz.prog errsLaid W := hL
  obtain ⟨aN, aM, aG, hG, _⟩ := errs_of_laid h'
  exact law_Disks W (implWritten_all hG) (implPictured_all hG) implContent_any (implSound_any implClaims_any implLoose_all implCounts_all implStored_all implTable_any hG) A n c xs h

end Go.Proofs.YtiokfhdkbpoadabGreatDoor
