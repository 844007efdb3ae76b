/- Roles (chapter 7): what the program's own functions answer. Scans (chapter 13): what the program's own functions answer. The law FnScans with what the program's own functions answer. -/
import Derived.Test.YtimbfilbojejiabGreatX1
import Derived.Test.YtimbfilbojejiabGreatS1
import Derived.Test.YtimbfilbojejiabGreatLawScans
namespace Go.Proofs.YtimbfilbojejiabGreat
open Go.RowKit

/-- Function 27. -/
theorem implRoles_all : RolesC := implRoles_any implClaims_any

/-- Function 13. -/
theorem implSecLike_all : SecLikeC := implSecLike_any implTable_any implRoles_all

/-- Function 8. -/
theorem implLost_all : LostC := implLost_any implTable_any implRoles_all

/-- Function 6. -/
theorem implRefound_all : RefoundC := implRefound_any implLost_all

theorem law_Scans_all (A : Option Addr) (n c : Nat) (xs : List Int) (w : World) (hr : Rd8 w w.heap.size A n xs) :
    Calls Tryz.prog 3 #[.slice A n c] w fun e w' => e = .returned (.bool true) ∧ Below w.heap.size w w' := law_Scans implRefound_all implLost_all implSecLike_all implTable_any A n c xs w hr

end Go.Proofs.YtimbfilbojejiabGreat
