/- FnDefects: the law with what the program's own functions answer, given what the row's list says. -/
import Derived.Test.YtieknpkbmccimabGreatDoorX8
import Derived.Test.YtieknpkbmccimabGreatDoorLawDefects
namespace Go.Proofs.YtieknpkbmccimabGreatDoor
open Go.RowKit

theorem law_Defects_all {W : World} (hL : laidMetH Tryz.prog (("errors.errorType", Rows.laid_errors_errorType) :: errsLaid) W) (A : Option Addr) (n c : Nat) (xs : List Int) (h : Rd8 W W.heap.size A n xs) :
    Calls Tryz.prog 3 #[.slice A n c] W fun e w' => e = .returned (.bool true) ∧ Below W.heap.size W w' := by
  have h' : laidMet Tryz.prog errsLaid W ∧ handlesMet Tryz.prog [("errors.errorType", Rows.laid_errors_errorType)] W := hL
  obtain ⟨aN, aM, aG, hG, hA⟩ := errs_of_laid h'.1
  exact law_Defects W (implDefects_all hG (handle_of_laid h'.2)) (implSound_all hG) (implMild_all hG hA) A n c xs h

end Go.Proofs.YtieknpkbmccimabGreatDoor
