/- Blank (chapter 16): what the program's own function answers. -/
import Derived.Test.YtibokhkohanoaabDoorRpa
import Derived.Test.YtibokhkohanoaabDoorLawBlk
namespace Go.Proofs.YtibokhkohanoaabDoor
open Go.RowKit

theorem blank_words (a : Int) : blkL a = blankL a := by
  unfold blkL blankL
  split
  · rw [List.append_assoc, List.append_assoc]; rfl
  · rfl

/-- Function 6. -/
theorem implBlank_all (W : World) : BlankC W := by
  intro a w _
  have H := blank_any a w
  rw [blank_words] at H
  exact H

end Go.Proofs.YtibokhkohanoaabDoor
