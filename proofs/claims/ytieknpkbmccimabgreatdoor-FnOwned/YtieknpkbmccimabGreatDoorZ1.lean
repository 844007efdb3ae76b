/- Owned (chapter 15): the model's Go function computes it. The exact law of chapter 15, walked, given what the program's own function answers. -/
import Derived.Test.YtieknpkbmccimabGreatDoorG4
import Derived.Test.YtieknpkbmccimabGreatDoorY5
namespace Go.Proofs.YtieknpkbmccimabGreatDoor
open Go.RowKit

/-- Owned. -/
def ownedL (b : List Int) : List Int := if hasHead b = true then ownedC b else []

theorem specOwnedF_any (A : Option Addr) (n c : Nat) (xs : List Int) (w : World) (h : Rd w w.heap.size A n xs) (hn : n ≤ 2097152) :
    Calls Tryz.prog 20 #[.slice A n c] w (Ret w (ownedL xs)) := by
  go_enter Tryz.func20, Tryz.ntmps20
  go_wp2_with fail
  refine (specHeadIn_any _ _ _ xs _ h hn).mono ?_
  rintro e w1 ⟨rfl, b1⟩
  generalize hr : headIn xs = r
  obtain ⟨⟨s, f, r, u, m⟩, is⟩ := r
  have HR := Lib.hid hr
  clear hr
  unfold hdV
  have b2 := b1.alloc b1.size (.cells #[.int .i64 s, .int .i64 f, .int .i64 r, .int .i64 u, .int .i64 m] 50)
  cases is
  · have HN : Hid (ownedL xs = []) := by unfold ownedL; rw [(headIn_false HR.out).1]; exact rfl
    go_wp2_with fail
    go_ret
    rw [HN.out]
    exact Ret.emptyAt _ (by simp) b2
  · have HN : Hid (ownedL xs = ownedC xs) := by unfold ownedL; rw [(headIn_true HR.out).1]; exact rfl
    go_wp2_with fail
    refine (specOwned_any A n c xs _ ((h.below b2).more b2.size) (headIn_true HR.out).1).mono ?_
    rintro e w3 ⟨g, ng, cg, rfl, _, oG, b3⟩
    go_wp2_with fail
    go_ret
    rw [HN.out]
    exact ⟨_, ng, cg, rfl, oG.more b2.size (Nat.le_refl _), below_more b2 b3 b2.size⟩

theorem ownedL_length (xs : List Int) : (ownedL xs).length ≤ 512 := by
  unfold ownedL
  split
  · rename_i h
    have := manyN_le (hasHead_img h)
    rw [owned_length]
    omega
  · simp

/-- In every world that has grown out of W. -/
def OwnedC (W : World) : Prop := ∀ (A : Option Addr) (n c : Nat) (xs : List Int) (w : World), Below W.heap.size W w → Rd w w.heap.size A n xs → n ≤ 2097152 → n ≤ c → Calls Tryz.prog 18 #[.slice A n c] w (Ret w (ownedL xs))

end Go.Proofs.YtieknpkbmccimabGreatDoor
