/- What is stored (chapter 9): what the program's own function answers. -/
import Derived.Test.YtooogjjkebfkmaaCmf
import Derived.Test.YtooogjjkebfkmaaTbi
import Derived.Test.YtooogjjkebfkmaaSti
namespace Go.Proofs.Ytooogjjkebfkmaa
open Go.RowKit

theorem implStored_all : StoredC := implStored_any implClaims_any implTable_any
end Go.Proofs.Ytooogjjkebfkmaa
