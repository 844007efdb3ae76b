/- FnRoles, with what the program's own functions answer. -/
import Derived.Test.YtkgmopeocmppfabJRo
import Derived.Test.YtkgmopeocmppfabLawRoles
namespace Go.Proofs.Ytkgmopeocmppfab
open Go.RowKit

theorem law_Roles_all (A : Option Addr) (n c : Nat) (xs : List Int) (w : World) (hr : Rd8 w w.heap.size A n xs) :
    Calls Try.prog 3 #[.slice A n c] w fun e w' => e = .returned (.bool true) ∧ Below w.heap.size w w' :=
  law_Roles implRoles_all implLoose_all implClaims_any A n c xs w hr
end Go.Proofs.Ytkgmopeocmppfab
