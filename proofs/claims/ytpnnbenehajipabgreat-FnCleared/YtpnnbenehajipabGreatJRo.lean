/- Roles (chapter 7): what the program's own functions answer. -/
import Derived.Test.YtpnnbenehajipabGreatX1
import Derived.Test.YtpnnbenehajipabGreatRoi
namespace Go.Proofs.YtpnnbenehajipabGreat
open Go.RowKit

/-- Function 10. -/
theorem implLoose_all : LooseC := implLoose_any implClaims_any

end Go.Proofs.YtpnnbenehajipabGreat
