/- The exact law of chapter 8, walked, given what the program's own function answers. -/
import Derived.Test.YtbilgjloeobbmaaDoorRo
import Derived.Test.YtbilgjloeobbmaaDoorLawClusterAt
namespace Go.Proofs.YtbilgjloeobbmaaDoor
open Go.RowKit

def CountsC : Prop := ∀ (A : Option Addr) (n c : Nat) (xs : List Int) (w : World), Rd w w.heap.size A n xs → n ≤ 2097152 → n ≤ c → Calls Tryd.prog 42 #[.slice A n c] w (Ret w (countsL xs))

end Go.Proofs.YtbilgjloeobbmaaDoor
