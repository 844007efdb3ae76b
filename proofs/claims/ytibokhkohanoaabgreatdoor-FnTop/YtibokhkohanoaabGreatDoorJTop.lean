/- FnTop: the law with what the program's own functions answer, given what the row's list says. -/
import Derived.Test.YtibokhkohanoaabGreatDoorJRep
import Derived.Test.YtibokhkohanoaabGreatDoorLawTop
import Derived.Test.YtibokhkohanoaabGreatDoorQP
import Derived.Test.YtibokhkohanoaabGreatDoorQS
import Derived.Test.YtibokhkohanoaabGreatDoorX2
namespace Go.Proofs.YtibokhkohanoaabGreatDoor
open Go.RowKit
theorem law_Top_all {W:World}(hL:laidMetH Tryz.prog errsLaid W)(A:Option Addr)(n c:Nat)(xs:List Int)(h:Rd8 W W.heap.size A n xs) :
    Calls Tryz.prog 3 #[.slice A n c] W fun e w'=>e=.returned (.bool true)∧Below W.heap.size W w':=by
  have h':laidMet Tryz.prog errsLaid W:=hL
  obtain⟨aN,aM,aG,hG,_⟩:=errs_of_laid h'
  exact law_Top W (implRepaired_all W) (implSound_any implClaims_any implLoose_all implCounts_all implStored_all implTable_any hG) implNames_any implContent_any A n c xs h
end Go.Proofs.YtibokhkohanoaabGreatDoor
