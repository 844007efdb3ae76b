/- The exact laws of chapter 10, walked, given what the program's own functions answer. -/
import Derived.Test.YtiokfhdkbpoadabGreatDoorH6
import Derived.Test.YtiokfhdkbpoadabGreatDoorY5
namespace Go.Proofs.YtiokfhdkbpoadabGreatDoor
open Go.RowKit

theorem contentL_length (xs : List Int) (q g : Int) : (contentL xs q g).length ≤ 8 := by
  unfold contentL
  split
  · rw [orZero_length]; omega
  · simp

def ContentC : Prop := ∀ (A : Option Addr) (n c : Nat) (xs : List Int) (q : Int) (g : Int) (w : World), Rd w w.heap.size A n xs → n ≤ 2097152 → n ≤ c → Calls Tryz.prog 15 #[.slice A n c, .int .i64 q, .int .i64 g] w (Ret w (contentL xs q g))

end Go.Proofs.YtiokfhdkbpoadabGreatDoor
