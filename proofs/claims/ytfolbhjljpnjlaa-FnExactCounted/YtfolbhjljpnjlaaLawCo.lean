/- The exact law of chapter 8, walked, given what the program's own function answers. -/
import Derived.Test.YtfolbhjljpnjlaaY2
import Derived.Test.YtfolbhjljpnjlaaY5
namespace Go.Proofs.Ytfolbhjljpnjlaa
open Go.RowKit

def CountsC : Prop := ∀ (A : Option Addr) (n c : Nat) (xs : List Int) (w : World), Rd w w.heap.size A n xs → n ≤ 2097152 → n ≤ c → Calls Try.prog 32 #[.slice A n c] w (Ret w (countsL xs))

end Go.Proofs.Ytfolbhjljpnjlaa
