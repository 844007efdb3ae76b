/- Counts (chapter 8): what the program's own function answers. -/
import Derived.Test.YtadbbmbilhjghaaCmf
import Derived.Test.YtadbbmbilhjghaaCoi
namespace Go.Proofs.Ytadbbmbilhjghaa
open Go.RowKit

theorem implCounts_all : CountsC := implCounts_any implClaims_any
end Go.Proofs.Ytadbbmbilhjghaa
