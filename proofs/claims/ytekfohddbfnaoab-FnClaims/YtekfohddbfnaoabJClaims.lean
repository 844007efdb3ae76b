/- FnClaims, with what the program's own function answers. -/
import Derived.Test.YtekfohddbfnaoabCmf
import Derived.Test.YtekfohddbfnaoabLawClaims
namespace Go.Proofs.Ytekfohddbfnaoab
open Go.RowKit

theorem law_Claims_all (A : Option Addr) (n c : Nat) (xs : List Int) (w : World) (hr : Rd8 w w.heap.size A n xs) :
    Calls Try.prog 3 #[.slice A n c] w fun e w' => e = .returned (.bool true) ∧ Below w.heap.size w w' :=
  law_Claims implClaims_any A n c xs w hr
end Go.Proofs.Ytekfohddbfnaoab
