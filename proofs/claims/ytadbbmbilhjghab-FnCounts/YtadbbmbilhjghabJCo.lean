/- Counts (chapter 8): what the program's own function answers. -/
import Derived.Test.YtadbbmbilhjghabCmf
import Derived.Test.YtadbbmbilhjghabCoi
namespace Go.Proofs.Ytadbbmbilhjghab
open Go.RowKit

theorem implCounts_all : CountsC := implCounts_any implClaims_any
end Go.Proofs.Ytadbbmbilhjghab
