/- Counts, blocks, what is stored: that the model's Go functions compute them. -/
import Derived.Test.YtimbfilbojejiaaCt
namespace Go.Proofs.Ytimbfilbojejiaa
open Go.RowKit

theorem ow_lt {w : World} {lo hi g n c : Nat} {xs : List Int} (h : Ow w lo hi (some ⟨g, 0, none⟩) n c xs) : g < w.heap.size := (h.own.lt g rfl).2

/-- A new slice of zeros. -/
theorem zeros_ow {w w1 : World} {n : Nat} (hown : w1.ownsRow w.heap.size 2 1 (.slice (some ⟨w.heap.size, 0, none⟩) n n) n (iv (List.replicate n 0))) : Ow w1 w.heap.size (w.heap.size + 1) (some ⟨w.heap.size, 0, none⟩) n n (List.replicate n 0) :=
  ⟨hown, fun g hg => by simp [Value.ownBlock] at hg; omega⟩

/-- What is stored, as far as it has been looked up. -/
def stored_at (xs bs : List Int) (c : Nat) : Int := if bs.getD (c / 8) 0 ≠ 0 then (cl xs (bs.getD (c / 8) 0).toNat).getD (c % 8) 0 else 0
def storedTo (xs bs : List Int) (k : Nat) : List Int := (List.range k).map (stored_at xs bs) ++ List.replicate (64 - k) 0
theorem storedTo_zero (xs bs : List Int) : storedTo xs bs 0 = List.replicate 64 0 := rfl
theorem storedTo_all (xs bs : List Int) : storedTo xs bs 64 = storedC xs bs := by simp [storedTo, storedC, stored_at]
theorem storedTo_step (xs bs : List Int) (k : Nat) (hk : k < 64) : (storedTo xs bs k).set k (stored_at xs bs k) = storedTo xs bs (k + 1) := by
  unfold storedTo
  rw [List.set_append, if_neg (by simp), List.range_succ, List.map_append, show 64 - k = (64 - (k + 1)) + 1 by omega, List.replicate_succ]
  simp
theorem storedTo_skip (xs bs : List Int) (k : Nat) (hk : k < 64) (h : stored_at xs bs k = 0) : storedTo xs bs (k + 1) = storedTo xs bs k := by
  rw [← storedTo_step xs bs k hk, h]
  apply List.ext_getElem?
  intro j
  rw [List.getElem?_set]
  by_cases hj : k = j
  · subst hj
    simp only [if_true]
    have hl : (storedTo xs bs k).length = 64 := by simp [storedTo]; omega
    rw [if_pos (by omega)]
    unfold storedTo
    rw [List.getElem?_append_right (by simp), List.getElem?_replicate]
    simp; omega
  · simp [hj]

end Go.Proofs.Ytimbfilbojejiaa
