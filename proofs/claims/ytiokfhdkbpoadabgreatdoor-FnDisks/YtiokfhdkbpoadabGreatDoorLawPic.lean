/- The exact law of Pictured, walked, given what the program's own function answers. -/
import Derived.Test.YtiokfhdkbpoadabGreatDoorH5
import Derived.Test.YtiokfhdkbpoadabGreatDoorY5
namespace Go.Proofs.YtiokfhdkbpoadabGreatDoor
open Go.RowKit

theorem picturedL_length (xs : List Int) (a : Int) : (picturedL xs a).length ≤ 512 := by
  by_cases h : picturedL xs a = []
  · rw [h]; simp
  · exact imgB_len (hasHead_img (sound_head (pictured_law h).2.1))

/-- In every world that has grown out of W. -/
def PicturedC (W : World) : Prop := ∀ (A : Option Addr) (n c : Nat) (xs : List Int) (a : Int) (w : World), Below W.heap.size W w → Rd w w.heap.size A n xs → n ≤ 2097152 → n ≤ c → Calls Tryz.prog 8 #[.slice A n c, .int .i64 a] w (Ret w (picturedL xs a))

end Go.Proofs.YtiokfhdkbpoadabGreatDoor
