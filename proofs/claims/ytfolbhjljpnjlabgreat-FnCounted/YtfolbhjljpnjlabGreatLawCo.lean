/- The exact law of chapter 8, walked, given what the program's own function answers. -/
import Derived.Test.YtfolbhjljpnjlabGreatY2
import Derived.Test.YtfolbhjljpnjlabGreatY5
namespace Go.Proofs.YtfolbhjljpnjlabGreat
open Go.RowKit

def CountsC : Prop := ∀ (A : Option Addr) (n c : Nat) (xs : List Int) (w : World), Rd w w.heap.size A n xs → n ≤ 2097152 → n ≤ c → Calls Tryz.prog 10 #[.slice A n c] w (Ret w (countsL xs))

end Go.Proofs.YtfolbhjljpnjlabGreat
