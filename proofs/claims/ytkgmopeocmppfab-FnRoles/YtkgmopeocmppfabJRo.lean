/- Roles (chapter 7): what the program's own functions answer. -/
import Derived.Test.YtkgmopeocmppfabCmf
import Derived.Test.YtkgmopeocmppfabRoi
namespace Go.Proofs.Ytkgmopeocmppfab
open Go.RowKit

theorem implRoles_all : RolesC := implRoles_any implClaims_any
theorem implLoose_all : LooseC := implLoose_any implClaims_any
end Go.Proofs.Ytkgmopeocmppfab
