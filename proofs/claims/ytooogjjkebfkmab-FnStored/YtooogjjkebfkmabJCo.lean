/- Counts (chapter 8): what the program's own function answers. -/
import Derived.Test.YtooogjjkebfkmabCmf
import Derived.Test.YtooogjjkebfkmabCoi
namespace Go.Proofs.Ytooogjjkebfkmab
open Go.RowKit

theorem implCounts_all : CountsC := implCounts_any implClaims_any
end Go.Proofs.Ytooogjjkebfkmab
