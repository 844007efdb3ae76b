/- FnCounts, with what the program's own functions answer. -/
import Derived.Test.YtadbbmbilhjghabJRo
import Derived.Test.YtadbbmbilhjghabJCo
import Derived.Test.YtadbbmbilhjghabLawCounts
namespace Go.Proofs.Ytadbbmbilhjghab
open Go.RowKit

theorem law_Counts_all (A : Option Addr) (n c : Nat) (xs : List Int) (w : World) (hr : Rd8 w w.heap.size A n xs) :
    Calls Try.prog 3 #[.slice A n c] w fun e w' => e = .returned (.bool true) ∧ Below w.heap.size w w' :=
  law_Counts implCounts_all implRoles_all A n c xs w hr
end Go.Proofs.Ytadbbmbilhjghab
