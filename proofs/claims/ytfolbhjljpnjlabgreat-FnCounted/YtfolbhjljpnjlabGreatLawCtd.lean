/- The exact law of chapter 14, walked, given what the program's own function answers. -/
import Derived.Test.YtfolbhjljpnjlabGreatG4
import Derived.Test.YtfolbhjljpnjlabGreatY5
namespace Go.Proofs.YtfolbhjljpnjlabGreat
open Go.RowKit

theorem countedL_length (xs : List Int) : (countedL xs).length ≤ 512 := by
  rcases counted_head xs with h | ⟨h, _⟩
  · rw [h]; simp
  · exact imgB_len (hasHead_img h)

/-- In every world that has grown out of W. -/
def CountedC (W : World) : Prop := ∀ (A : Option Addr) (n c : Nat) (xs : List Int) (w : World), Below W.heap.size W w → Rd w w.heap.size A n xs → n ≤ 2097152 → n ≤ c → Calls Tryz.prog 6 #[.slice A n c] w (Ret w (countedL xs))

end Go.Proofs.YtfolbhjljpnjlabGreat
