/- Roles (chapter 7): what the program's own functions answer. -/
import Derived.Test.YtadbbmbilhjghabCmf
import Derived.Test.YtadbbmbilhjghabRoi
namespace Go.Proofs.Ytadbbmbilhjghab
open Go.RowKit

theorem implRoles_all : RolesC := implRoles_any implClaims_any

end Go.Proofs.Ytadbbmbilhjghab
