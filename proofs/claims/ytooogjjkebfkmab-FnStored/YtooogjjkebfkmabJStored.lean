/- FnStored, with what the program's own functions answer. -/
import Derived.Test.YtooogjjkebfkmabJSto
import Derived.Test.YtooogjjkebfkmabJCo
import Derived.Test.YtooogjjkebfkmabLawStored
namespace Go.Proofs.Ytooogjjkebfkmab
open Go.RowKit

theorem law_Stored_all (A : Option Addr) (n c : Nat) (xs : List Int) (w : World) (hr : Rd8 w w.heap.size A n xs) :
    Calls Try.prog 3 #[.slice A n c] w fun e w' => e = .returned (.bool true) ∧ Below w.heap.size w w' :=
  law_Stored implStored_all implCounts_all A n c xs w hr
end Go.Proofs.Ytooogjjkebfkmab
