/- FnBlanks: the law with what the program's own functions answer, given what the row's list says. -/
import Derived.Test.YtibokhkohanoaabDoorJBlk
import Derived.Test.YtibokhkohanoaabDoorLawBlanks
import Derived.Test.YtibokhkohanoaabDoorQP
import Derived.Test.YtibokhkohanoaabDoorQS
import Derived.Test.YtibokhkohanoaabDoorX2
namespace Go.Proofs.YtibokhkohanoaabDoor
open Go.RowKit

theorem law_Blanks_all {W : World} (hL : laidMetH Tryd.prog errsLaid W) (A : Option Addr) (n c : Nat) (xs : List Int) (h : Rd8 W W.heap.size A n xs) :
    Calls Tryd.prog 3 #[.slice A n c] W fun e w' => e = .returned (.bool true) ∧ Below W.heap.size W w' := by
  have h' : laidMet Tryd.prog errsLaid W := hL
  obtain ⟨aN, aM, aG, hG, _⟩ := errs_of_laid h'
  exact law_Blanks W (implBlank_all W) implContent_any (implSound_any implClaims_any implLoose_all implCounts_all implStored_all implTable_any hG) implNames_any A n c xs h

end Go.Proofs.YtibokhkohanoaabDoor
