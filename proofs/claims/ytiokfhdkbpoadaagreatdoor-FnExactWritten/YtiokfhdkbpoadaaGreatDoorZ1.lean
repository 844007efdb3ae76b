/- Owned (chapter 15): the model's Go function computes it. The exact law of chapter 15, walked, given what the program's own function answers. -/
import Derived.Test.YtiokfhdkbpoadaaGreatDoorG4
import Derived.Test.YtiokfhdkbpoadaaGreatDoorY5
namespace Go.Proofs.YtiokfhdkbpoadaaGreatDoor
open Go.RowKit

/-- Owned. -/
def ownedL (b : List Int) : List Int := if hasHead b = true then ownedC b else []

theorem ownedL_length (xs : List Int) : (ownedL xs).length ≤ 512 := by
  unfold ownedL
  split
  · rename_i h
    have := manyN_le (hasHead_img h)
    rw [owned_length]
    omega
  · simp

/-- In every world that has grown out of W. -/
def OwnedC (W : World) : Prop := ∀ (A : Option Addr) (n c : Nat) (xs : List Int) (w : World), Below W.heap.size W w → Rd w w.heap.size A n xs → n ≤ 2097152 → n ≤ c → Calls Tryz.prog 73 #[.slice A n c] w (Ret w (ownedL xs))

end Go.Proofs.YtiokfhdkbpoadaaGreatDoor
