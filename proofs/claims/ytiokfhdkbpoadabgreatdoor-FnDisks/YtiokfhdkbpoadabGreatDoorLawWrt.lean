/- The exact law of Written, walked, given what the program's own function answers. -/
import Derived.Test.YtiokfhdkbpoadabGreatDoorH5
import Derived.Test.YtiokfhdkbpoadabGreatDoorY5
namespace Go.Proofs.YtiokfhdkbpoadabGreatDoor
open Go.RowKit

theorem writtenL_length (xs : List Int) (a : Int) (ws : List Int) : (writtenL xs a ws).length ≤ 512 := by
  by_cases h : writtenL xs a ws = []
  · rw [h]; simp
  · exact imgB_len (hasHead_img (sound_head (written_law h).2.2.2.2.1))

def WrittenC (W : World) : Prop := ∀ (A : Option Addr) (n c : Nat) (xs : List Int) (a : Int) (V : Option Addr) (m cv : Nat) (ws : List Int) (w : World), Below W.heap.size W w → Rd w w.heap.size A n xs → n ≤ 2097152 → n ≤ c → Rd w w.heap.size V m ws → m ≤ 2097152 → m ≤ cv → Calls Tryz.prog 6 #[.slice A n c, .int .i64 a, .slice V m cv] w (Ret w (writtenL xs a ws))

end Go.Proofs.YtiokfhdkbpoadabGreatDoor
