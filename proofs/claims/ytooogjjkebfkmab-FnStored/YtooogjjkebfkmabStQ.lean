/- What is stored of a sound image is what is counted: plain mathematics. -/
import Derived.Test.YtooogjjkebfkmabG4
import Derived.Test.YtooogjjkebfkmabRo
namespace Go.Proofs.Ytooogjjkebfkmab
open Go.RowKit

theorem cd_none (st ct : List Int) : ∀ k : Nat, (List.range k).foldl (cdStep st ct) [] = [] → ∀ c, c < k → st.getD c 0 = ct.getD c 0
  | 0, _, c, hc => by omega
  | k + 1, h, c, hc => by
    rw [List.range_succ, List.foldl_append, List.foldl_cons, List.foldl_nil] at h
    unfold cdStep at h
    split at h
    · simp at h
    · split at h
      · simp at h
      · by_cases hk : c = k
        · subst hk; omega
        · exact cd_none st ct k h c (by omega)
theorem list64 {a b : List Int} (ha : a.length = 64) (hb : b.length = 64) (h : ∀ c, c < 64 → a.getD c 0 = b.getD c 0) : a = b := by
  apply List.ext_getElem?
  intro j
  by_cases hj : j < 64
  · have := h j hj
    rw [List.getD_eq_getElem?_getD, List.getD_eq_getElem?_getD, List.getElem?_eq_getElem (by omega), List.getElem?_eq_getElem (by omega), Option.getD_some, Option.getD_some] at this
    rw [List.getElem?_eq_getElem (by omega), List.getElem?_eq_getElem (by omega), this]
  · rw [List.getElem?_eq_none (by omega), List.getElem?_eq_none (by omega)]
theorem sound_stored {xs : List Int} (h : soundB xs = true) : storedL xs = countsL xs := by
  have hh := sound_head h
  have h5 := sound_d5 h
  unfold d5L at h5
  rw [List.append_eq_nil_iff] at h5
  obtain ⟨h4, _⟩ := h5
  unfold d4L at h4
  rw [List.append_eq_nil_iff] at h4
  have e1 : countsL xs = countsC (claimsC xs) := by unfold countsL; rw [if_pos hh]
  have e2 : (storedL xs).length = 64 := by unfold storedL; rw [if_pos hh, storedC_length]
  rw [e1]
  exact list64 e2 (counts_length _) (cd_none _ _ 64 h4.2)
end Go.Proofs.Ytooogjjkebfkmab
