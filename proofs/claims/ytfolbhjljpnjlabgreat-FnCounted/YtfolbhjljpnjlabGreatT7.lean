/- Counting anew (chapter 14): what the program's own function answers. The law FnCounted, of the program itself. -/
import Derived.Test.YtfolbhjljpnjlabGreatT3
import Derived.Test.YtfolbhjljpnjlabGreatT5
import Derived.Test.YtfolbhjljpnjlabGreatJSto
import Derived.Test.YtfolbhjljpnjlabGreatLawCounted
namespace Go.Proofs.YtfolbhjljpnjlabGreat
open Go.RowKit

theorem implCounted_all (W : World) : CountedC W := fun A n c xs w _ h hn hnc => implCounted_one implClaims_any implLoose_all implCounts_all implTable_any A n c xs w h hn hnc

theorem law_Counted_all (w : World) (A : Option Addr) (n c : Nat) (xs : List Int) (hr : Rd8 w w.heap.size A n xs) :
    Calls Tryz.prog 3 #[.slice A n c] w fun e w' => e = .returned (.bool true) ∧ Below w.heap.size w w' :=
  law_Counted_ w (implCounted_all w) implStored_all implCounts_all implLoose_all A n c xs hr

end Go.Proofs.YtfolbhjljpnjlabGreat
