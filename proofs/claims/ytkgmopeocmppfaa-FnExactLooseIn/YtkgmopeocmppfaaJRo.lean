/- Roles (chapter 7): what the program's own functions answer. -/
import Derived.Test.YtkgmopeocmppfaaCmf
import Derived.Test.YtkgmopeocmppfaaRoi
namespace Go.Proofs.Ytkgmopeocmppfaa
open Go.RowKit

theorem implRoles_all : RolesC := implRoles_any implClaims_any
theorem implLoose_all : LooseC := implLoose_any implClaims_any
end Go.Proofs.Ytkgmopeocmppfaa
