/- FnPlaces, with what the program's own functions answer. -/
import Derived.Test.YtaddgimhdmccbabPli
import Derived.Test.YtaddgimhdmccbabLawPlaces
namespace Go.Proofs.Ytaddgimhdmccbab
open Go.RowKit

theorem law_Places_all (A : Option Addr) (n c : Nat) (xs : List Int) (w : World) (hr : Rd8 w w.heap.size A n xs) :
    Calls Try.prog 3 #[.slice A n c] w fun e w' => e = .returned (.bool true) ∧ Below w.heap.size w w' :=
  law_Places implTable_any implEntryAt_any implFirstEntry_any A n c xs w hr
end Go.Proofs.Ytaddgimhdmccbab
