/- Counts (chapter 8): what the program's own function answers. -/
import Derived.Test.YtfolbhjljpnjlaaX1
import Derived.Test.YtfolbhjljpnjlaaCoi
namespace Go.Proofs.Ytfolbhjljpnjlaa
open Go.RowKit

theorem implCounts_all : CountsC := implCounts_any implClaims_any
end Go.Proofs.Ytfolbhjljpnjlaa
