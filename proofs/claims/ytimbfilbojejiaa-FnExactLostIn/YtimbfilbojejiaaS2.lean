/- Roles (chapter 7): what the program's own functions answer. Scans (chapter 13): what the program's own functions answer. -/
import Derived.Test.YtimbfilbojejiaaX1
import Derived.Test.YtimbfilbojejiaaS1
namespace Go.Proofs.Ytimbfilbojejiaa
open Go.RowKit

/-- Function 23. -/
theorem implRoles_all : RolesC := implRoles_any implClaims_any

/-- Function 8. -/
theorem implSecLike_all : SecLikeC := implSecLike_any implTable_any implRoles_all

/-- Function 11. -/
theorem implLost_all : LostC := implLost_any implTable_any implRoles_all

/-- Function 15. -/
theorem implRefound_all : RefoundC := implRefound_any implLost_all

end Go.Proofs.Ytimbfilbojejiaa
