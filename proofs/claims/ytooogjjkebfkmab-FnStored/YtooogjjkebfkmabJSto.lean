/- What is stored (chapter 9): what the program's own function answers. -/
import Derived.Test.YtooogjjkebfkmabCmf
import Derived.Test.YtooogjjkebfkmabTbi
import Derived.Test.YtooogjjkebfkmabSti
namespace Go.Proofs.Ytooogjjkebfkmab
open Go.RowKit

theorem implStored_all : StoredC := implStored_any implClaims_any implTable_any
end Go.Proofs.Ytooogjjkebfkmab
