/- The exact law of chapter 9, walked, given what the program's own function answers. -/
import Derived.Test.YtfolbhjljpnjlabGreatG7
import Derived.Test.YtfolbhjljpnjlabGreatY5
namespace Go.Proofs.YtfolbhjljpnjlabGreat
open Go.RowKit

theorem storedL_length (xs : List Int) : (storedL xs).length ≤ 64 := by
  unfold storedL
  split
  · simp [storedC]
  · simp

def StoredC : Prop := ∀ (A : Option Addr) (n c : Nat) (xs : List Int) (w : World), Rd w w.heap.size A n xs → n ≤ 2097152 → n ≤ c → Calls Tryz.prog 9 #[.slice A n c] w (Ret w (storedL xs))

end Go.Proofs.YtfolbhjljpnjlabGreat
