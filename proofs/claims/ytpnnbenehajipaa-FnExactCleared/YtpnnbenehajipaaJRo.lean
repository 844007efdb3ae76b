/- Roles (chapter 7): what the program's own functions answer. -/
import Derived.Test.YtpnnbenehajipaaCmf
import Derived.Test.YtpnnbenehajipaaRoi
namespace Go.Proofs.Ytpnnbenehajipaa
open Go.RowKit

/-- Function 15. -/
theorem implLoose_all : LooseC := implLoose_any implClaims_any

end Go.Proofs.Ytpnnbenehajipaa
