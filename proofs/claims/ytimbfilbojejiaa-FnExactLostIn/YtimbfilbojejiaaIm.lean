/- Images that are changed: plain mathematics of whole, setCl and set. -/
import Derived.Test.YtimbfilbojejiaaSto
namespace Go.Proofs.Ytimbfilbojejiaa
open Go.RowKit

theorem imgB_iff {xs : List Int} : imgB xs = true ↔ (∀ x ∈ xs, wordB x = true) ∧ xs.length ≤ 512 := by
  unfold imgB wordsB
  rw [Bool.and_eq_true, List.all_eq_true, decide_eq_true_eq]
theorem wordB_zero : wordB 0 = true := rfl
theorem img_whole {xs : List Int} (h : imgB xs = true) : imgB (whole xs) = true := by
  rw [imgB_iff] at *
  refine ⟨?_, ?_⟩
  · intro x hx
    unfold whole at hx
    rw [List.mem_append] at hx
    rcases hx with hx | hx
    · exact h.1 x hx
    · have := List.eq_of_mem_replicate hx; subst this; rfl
  · rw [whole_length]; have := h.2; unfold manyN; omega
theorem many_whole (xs : List Int) : manyN (whole xs) = manyN xs := by
  show ((whole xs).length + 7) / 8 = _
  rw [whole_length]; omega
theorem cl_whole (xs : List Int) (a : Nat) : cl (whole xs) a = cl xs a := by
  unfold cl; exact f8_congr (fun j _ => whole_get xs _)
theorem headOf_congr {xs ys : List Int} (h : ∀ j, j < 8 → ys.getD j 0 = xs.getD j 0) : headOf ys = headOf xs := by
  unfold headOf; rw [h 2 (by omega), h 3 (by omega), h 4 (by omega), h 5 (by omega), h 6 (by omega)]
/-- The same first words: the same head. -/
theorem head_congr {xs ys : List Int} (h : ∀ j, j < 8 → ys.getD j 0 = xs.getD j 0) (hi : imgB ys = true) (hl : ys.length ≠ 0) (hh : hasHead xs = true) : hasHead ys = true := by
  unfold hasHead at *
  rw [headOf_congr h, h 0 (by omega), h 1 (by omega), h 7 (by omega), hi]
  simp at hh ⊢
  exact ⟨fun e => hl (by rw [e]; rfl), hh.2.2⟩
theorem whole_pos {xs : List Int} (h : hasHead xs = true) : 0 < manyN xs := by have := hasHead_len h; unfold manyN; omega
theorem head_whole {xs : List Int} (h : hasHead xs = true) : hasHead (whole xs) = true ∧ headOf (whole xs) = headOf xs := by
  have hc : ∀ j, j < 8 → (whole xs).getD j 0 = xs.getD j 0 := fun j _ => whole_get xs j
  refine ⟨head_congr hc (img_whole (hasHead_img h)) ?_ h, headOf_congr hc⟩
  rw [whole_length]; have := whole_pos h; omega

theorem setCl_length {zs ws : List Int} {a : Nat} (h8 : zs.length % 8 = 0) (ha : a * 8 ≤ zs.length) (hw : ws.length = 8) : (setCl zs a ws).length = if a * 8 = zs.length then zs.length + 8 else zs.length := by
  unfold setCl
  simp only [List.length_append, List.length_take, List.length_drop, hw]
  split <;> omega
theorem setCl_get {zs ws : List Int} {a j : Nat} (ha : a * 8 ≤ zs.length) (hw : ws.length = 8) : (setCl zs a ws).getD j 0 = if a * 8 ≤ j ∧ j < a * 8 + 8 then ws.getD (j - a * 8) 0 else zs.getD j 0 := by
  unfold setCl
  rw [List.getD_eq_getElem?_getD, List.getElem?_append, List.length_append, List.length_take, hw, Nat.min_eq_left ha]
  by_cases h1 : j < a * 8
  · rw [if_pos (by omega), List.getElem?_append_left (by simp; omega), if_neg (by omega), List.getElem?_take_of_lt h1, List.getD_eq_getElem?_getD]
  · by_cases h2 : j < a * 8 + 8
    · rw [if_pos h2, List.getElem?_append_right (by simp; omega), if_pos ⟨by omega, h2⟩, List.length_take, Nat.min_eq_left ha, List.getD_eq_getElem?_getD]
    · rw [if_neg h2, if_neg (by omega), List.getElem?_drop, List.getD_eq_getElem?_getD]
      congr 2
      omega
theorem setCl_img {zs ws : List Int} {a : Nat} (hz : imgB zs = true) (hw : ∀ x ∈ ws, wordB x = true) (hl : (setCl zs a ws).length ≤ 512) : imgB (setCl zs a ws) = true := by
  rw [imgB_iff] at *
  refine ⟨?_, hl⟩
  intro x hx
  unfold setCl at hx
  rw [List.mem_append, List.mem_append] at hx
  rcases hx with (hx | hx) | hx
  · exact hz.1 x (List.mem_of_mem_take hx)
  · exact hw x hx
  · exact hz.1 x (List.mem_of_mem_drop hx)
theorem set_img {zs : List Int} {j : Nat} {x : Int} (hz : imgB zs = true) (hx : wordB x = true) : imgB (zs.set j x) = true := by
  rw [imgB_iff] at *
  refine ⟨?_, by simpa using hz.2⟩
  intro y hy
  rcases List.mem_or_eq_of_mem_set hy with h | h
  · exact hz.1 y h
  · subst h; exact hx

/-- A new cluster behind the others. -/
def moreL (xs ws : List Int) : List Int := setCl (whole xs) (manyN xs) ws
theorem more_length (xs ws : List Int) (hw : ws.length = 8) : (moreL xs ws).length = manyN xs * 8 + 8 := by
  unfold moreL
  rw [setCl_length (by rw [whole_length]; omega) (by rw [whole_length]; exact Nat.le_refl _) hw, whole_length, if_pos rfl]
theorem more_many (xs ws : List Int) (hw : ws.length = 8) : manyN (moreL xs ws) = manyN xs + 1 := by
  show ((moreL xs ws).length + 7) / 8 = _
  rw [more_length xs ws hw]; omega
theorem more_get (xs ws : List Int) (hw : ws.length = 8) (j : Nat) : (moreL xs ws).getD j 0 = if manyN xs * 8 ≤ j then ws.getD (j - manyN xs * 8) 0 else xs.getD j 0 := by
  unfold moreL
  rw [setCl_get (by rw [whole_length]; exact Nat.le_refl _) hw, whole_get]
  by_cases h1 : manyN xs * 8 ≤ j
  · rw [if_pos h1]
    by_cases h2 : j < manyN xs * 8 + 8
    · rw [if_pos ⟨h1, h2⟩]
    · rw [if_neg (by omega), getD_past ws _ (by omega), getD_past xs _ (by unfold manyN at *; omega)]
  · rw [if_neg h1, if_neg (by omega)]
theorem more_img {xs ws : List Int} (h : imgB xs = true) (hw : eightB ws = true) (hm : manyN xs < 64) : imgB (moreL xs ws) = true := by
  have h8 := eightB_len hw
  have hww : ∀ x ∈ ws, wordB x = true := by
    simp [eightB] at hw
    have := hw.2
    unfold wordsB at this
    rw [List.all_eq_true] at this
    exact this
  refine setCl_img (img_whole h) hww ?_
  have := more_length xs ws h8
  unfold moreL at this
  omega
theorem more_head {xs ws : List Int} (h : hasHead xs = true) (hw : eightB ws = true) (hm : manyN xs < 64) : hasHead (moreL xs ws) = true ∧ headOf (moreL xs ws) = headOf xs := by
  have h8 := eightB_len hw
  have hp := whole_pos h
  have hc : ∀ j, j < 8 → (moreL xs ws).getD j 0 = xs.getD j 0 := fun j hj => by rw [more_get xs ws h8, if_neg (by omega)]
  refine ⟨head_congr hc (more_img (hasHead_img h) hw hm) ?_ h, headOf_congr hc⟩
  rw [more_length xs ws h8]; omega
theorem set_head {xs : List Int} {j : Nat} {x : Int} (h : hasHead xs = true) (hj : 8 ≤ j) (hx : wordB x = true) : hasHead (xs.set j x) = true ∧ headOf (xs.set j x) = headOf xs := by
  have hc : ∀ i, i < 8 → (xs.set j x).getD i 0 = xs.getD i 0 := fun i hi => by rw [getD_set, if_neg (by omega)]
  refine ⟨head_congr hc (set_img (hasHead_img h) hx) ?_ h, headOf_congr hc⟩
  have := hasHead_len h
  simp; intro e; rw [e] at this; simp at this
theorem set_many (xs : List Int) (j : Nat) (x : Int) : manyN (xs.set j x) = manyN xs := by unfold manyN; simp
theorem zeros8 : eightB (List.replicate 8 0) = true := by decide

end Go.Proofs.Ytimbfilbojejiaa
