/- What is stored (StoredIn), the model's side. -/
import Derived.Test.YtimbfilbojejiaaCnt
namespace Go.Proofs.Ytimbfilbojejiaa
open Go.RowKit

theorem cl_word_get (xs : List Int) (a j : Nat) (h : j < 8) : (cl xs a).getD j 0 = xs.getD (a * 8 + j) 0 := by unfold cl; rw [f8_get _ j h]
theorem word_get {xs : List Int} (h : imgB xs = true) (j : Nat) : 0 ≤ xs.getD j 0 ∧ xs.getD j 0 ≤ 65535 := by
  by_cases hj : j < xs.length
  · have hw : wordsB xs = true := by simp [imgB] at h; exact h.1
    unfold wordsB at hw
    rw [List.all_eq_true] at hw
    have := inB_true.1 (hw xs[j] (List.getElem_mem hj))
    rw [List.getD_eq_getElem?_getD, List.getElem?_eq_getElem hj]
    exact this
  · rw [getD_past _ _ (by omega)]; omega

end Go.Proofs.Ytimbfilbojejiaa
