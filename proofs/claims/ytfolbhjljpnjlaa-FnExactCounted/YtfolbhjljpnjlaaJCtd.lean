/- Counting anew (chapter 14): what the program's own function answers. -/
import Derived.Test.YtfolbhjljpnjlaaCto
import Derived.Test.YtfolbhjljpnjlaaJCo
import Derived.Test.YtfolbhjljpnjlaaJRo
namespace Go.Proofs.Ytfolbhjljpnjlaa
open Go.RowKit

theorem implCounted_all (W : World) : CountedC W := fun A n c xs w _ h hn hnc => implCounted_one implClaims_any implLoose_all implCounts_all implTable_any A n c xs w h hn hnc
end Go.Proofs.Ytfolbhjljpnjlaa
