/- The exact law of Blank, walked, given what the program's own function answers. -/
import Derived.Test.YtibokhkohanoaabDoorG5
import Derived.Test.YtibokhkohanoaabDoorY5
namespace Go.Proofs.YtibokhkohanoaabDoor
open Go.RowKit

theorem blankL_length (a : Int) : (blankL a).length ≤ 32 := by
  unfold blankL
  split
  · simp [hdW]
  · simp

def BlankC (W : World) : Prop := ∀ (a : Int) (w : World), Below W.heap.size W w → Calls Tryd.prog 6 #[.int .i64 a] w (Ret w (blankL a))

end Go.Proofs.YtibokhkohanoaabDoor
