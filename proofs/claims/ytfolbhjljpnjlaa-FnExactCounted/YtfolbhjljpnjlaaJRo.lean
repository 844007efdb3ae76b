/- Roles (chapter 7): what the program's own functions answer. -/
import Derived.Test.YtfolbhjljpnjlaaX1
import Derived.Test.YtfolbhjljpnjlaaRoi
namespace Go.Proofs.Ytfolbhjljpnjlaa
open Go.RowKit

/-- Function 41. -/
theorem implLoose_all : LooseC := implLoose_any implClaims_any

end Go.Proofs.Ytfolbhjljpnjlaa
