/- ClaimsIn, LooseIn, counts and blocks: plain functions, and that the model's Go functions compute them. Counts, blocks, what is stored: that the model's Go functions compute them. What is stored (StoredIn), the model's side. -/
import Derived.Test.YtibokhkohanoaabDoorG2
namespace Go.Proofs.YtibokhkohanoaabDoor
open Go.RowKit

def claimsL (xs : List Int) : List Cm := if hasHead xs = true then claimsC xs else []
def looseL (xs : List Int) : List Cm := (claimsL xs).filter (fun c => !c.good)
def cntStep (o : List Int) (c : Cm) : List Int := if c.good = true then o.set c.target.toNat (o.getD c.target.toNat 0 + 1) else o
def countsC (l : List Cm) : List Int := l.foldl cntStep (List.replicate 64 0)
def blkStep (o : List Int) (c : Cm) : List Int := if c.good = true ∧ c.kind = 4 then o.set c.slot.toNat c.target else o
def blocksC (l : List Cm) : List Int := l.foldl blkStep (List.replicate 8 0)
def storedC (xs bs : List Int) : List Int := (List.range 64).map (fun c => if bs.getD (c / 8) 0 ≠ 0 then (cl xs (bs.getD (c / 8) 0).toNat).getD (c % 8) 0 else 0)
def storedL (xs : List Int) : List Int := if hasHead xs = true then storedC xs (blocksC (claimsC xs)) else []

theorem getD_set (o : List Int) (i j : Nat) (x : Int) : (o.set i x).getD j 0 = if i = j ∧ i < o.length then x else o.getD j 0 := by
  rw [List.getD_eq_getElem?_getD, List.getElem?_set, List.getD_eq_getElem?_getD]
  by_cases h : i = j
  · subst h
    by_cases h2 : i < o.length
    · simp [h2]
    · simp [h2]
  · simp [h]

theorem cnt_inv (l : List Cm) : ∀ (o : List Int) (B : Int), (∀ j, 0 ≤ o.getD j 0 ∧ o.getD j 0 ≤ B) → (l.foldl cntStep o).length = o.length ∧ ∀ j, 0 ≤ (l.foldl cntStep o).getD j 0 ∧ (l.foldl cntStep o).getD j 0 ≤ B + l.length := by
  induction l with
  | nil => intro o B h; exact ⟨rfl, fun j => by simpa using h j⟩
  | cons c l ih =>
    intro o B h
    have h1 : (cntStep o c).length = o.length := by unfold cntStep; split <;> simp
    have h2 : ∀ j, 0 ≤ (cntStep o c).getD j 0 ∧ (cntStep o c).getD j 0 ≤ B + 1 := by
      intro j
      unfold cntStep
      split
      · rw [getD_set]
        have := h j
        have := h c.target.toNat
        split <;> omega
      · have := h j; omega
    obtain ⟨h3, h4⟩ := ih (cntStep o c) (B + 1) h2
    refine ⟨by rw [List.foldl_cons, h3, h1], fun j => ?_⟩
    have := h4 j
    rw [List.foldl_cons, List.length_cons]
    omega
theorem zeros_get (n j : Nat) : (List.replicate n (0 : Int)).getD j 0 = 0 := by
  rw [List.getD_eq_getElem?_getD, List.getElem?_replicate]; split <;> rfl
theorem cnt_take (l : List Cm) (k : Nat) : ((l.take k).foldl cntStep (List.replicate 64 0)).length = 64 ∧ ∀ j, 0 ≤ ((l.take k).foldl cntStep (List.replicate 64 0)).getD j 0 ∧ ((l.take k).foldl cntStep (List.replicate 64 0)).getD j 0 ≤ k := by
  obtain ⟨h1, h2⟩ := cnt_inv (l.take k) (List.replicate 64 0) 0 (fun j => by rw [zeros_get]; omega)
  refine ⟨by rw [h1]; simp, fun j => ?_⟩
  have := h2 j
  have : (l.take k).length ≤ k := List.length_take_le _ _
  omega
theorem blk_len (l : List Cm) : ∀ o : List Int, (l.foldl blkStep o).length = o.length := by
  induction l with
  | nil => intro o; rfl
  | cons c l ih => intro o; rw [List.foldl_cons, ih]; unfold blkStep; split <;> simp
theorem blk_all (P : Int → Prop) (l : List Cm) : ∀ o : List Int, (∀ j, P (o.getD j 0)) → (∀ c ∈ l, c.good = true → c.kind = 4 → P c.target) → ∀ j, P ((l.foldl blkStep o).getD j 0) := by
  induction l with
  | nil => intro o h _; exact h
  | cons c l ih =>
    intro o h hc
    rw [List.foldl_cons]
    refine ih _ (fun j => ?_) (fun x hx => hc x (by simp [hx]))
    unfold blkStep
    split
    · rename_i hk
      rw [getD_set]
      split
      · exact hc c (by simp) hk.1 hk.2
      · exact h j
    · exact h j
/-- A block is none, or there. -/
theorem blocks_there (xs : List Int) (j : Nat) : (blocksC (claimsC xs)).getD j 0 = 0 ∨ thereB xs ((blocksC (claimsC xs)).getD j 0) = true := by
  refine blk_all (fun b => b = 0 ∨ thereB xs b = true) (claimsC xs) _ (fun j => .inl (zeros_get _ _)) ?_ j
  intro c hc hg hk
  rcases (claims_ok xs c hc).lead hg with h | h
  · omega
  · exact .inr h
theorem blocks_length (l : List Cm) : (blocksC l).length = 8 := by unfold blocksC; rw [blk_len]; simp
theorem counts_length (l : List Cm) : (countsC l).length = 64 := by
  have := (cnt_take l l.length).1
  rwa [List.take_length] at this
/-- Where a good claim leads. -/
theorem good_target {xs : List Int} (hh : hasHead xs = true) {c : Cm} (hc : c ∈ claimsC xs) (hg : c.good = true) : 0 ≤ c.target ∧ c.target < manyN xs := by
  have hl := hasHead_len hh
  rcases (claims_ok xs c hc).lead hg with h | h
  · have : 0 < manyN xs := by unfold manyN; omega
    omega
  · have := there_lt h
    omega

theorem loose_step (l : List Cm) (k : Nat) (hk : k < l.length) : (l.take (k + 1)).filter (fun c => !c.good) = if (l.getD k cm0).good = true then (l.take k).filter (fun c => !c.good) else (l.take k).filter (fun c => !c.good) ++ [l.getD k cm0] := by
  rw [List.take_succ_eq_append_getElem hk, List.filter_append, List.getD_eq_getElem?_getD, List.getElem?_eq_getElem hk]
  simp only [Option.getD_some]
  by_cases h : l[k].good = true
  · rw [if_pos h]; simp [h]
  · rw [if_neg h]; simp [h]
theorem claimsL_length (xs : List Int) : (claimsL xs).length ≤ 1296 := by
  unfold claimsL; split
  · exact claims_length xs
  · simp

theorem ow_lt {w : World} {lo hi g n c : Nat} {xs : List Int} (h : Ow w lo hi (some ⟨g, 0, none⟩) n c xs) : g < w.heap.size := (h.own.lt g rfl).2

/-- A new slice of zeros. -/
theorem zeros_ow {w w1 : World} {n : Nat} (hown : w1.ownsRow w.heap.size 2 1 (.slice (some ⟨w.heap.size, 0, none⟩) n n) n (iv (List.replicate n 0))) : Ow w1 w.heap.size (w.heap.size + 1) (some ⟨w.heap.size, 0, none⟩) n n (List.replicate n 0) :=
  ⟨hown, fun g hg => by simp [Value.ownBlock] at hg; omega⟩

/-- What is stored, as far as it has been looked up. -/
def stored_at (xs bs : List Int) (c : Nat) : Int := if bs.getD (c / 8) 0 ≠ 0 then (cl xs (bs.getD (c / 8) 0).toNat).getD (c % 8) 0 else 0
def storedTo (xs bs : List Int) (k : Nat) : List Int := (List.range k).map (stored_at xs bs) ++ List.replicate (64 - k) 0
theorem storedTo_zero (xs bs : List Int) : storedTo xs bs 0 = List.replicate 64 0 := rfl
theorem storedTo_all (xs bs : List Int) : storedTo xs bs 64 = storedC xs bs := by simp [storedTo, storedC, stored_at]
theorem storedTo_step (xs bs : List Int) (k : Nat) (hk : k < 64) : (storedTo xs bs k).set k (stored_at xs bs k) = storedTo xs bs (k + 1) := by
  unfold storedTo
  rw [List.set_append, if_neg (by simp), List.range_succ, List.map_append, show 64 - k = (64 - (k + 1)) + 1 by omega, List.replicate_succ]
  simp
theorem storedTo_skip (xs bs : List Int) (k : Nat) (hk : k < 64) (h : stored_at xs bs k = 0) : storedTo xs bs (k + 1) = storedTo xs bs k := by
  rw [← storedTo_step xs bs k hk, h]
  apply List.ext_getElem?
  intro j
  rw [List.getElem?_set]
  by_cases hj : k = j
  · subst hj
    simp only [if_true]
    have hl : (storedTo xs bs k).length = 64 := by simp [storedTo]; omega
    rw [if_pos (by omega)]
    unfold storedTo
    rw [List.getElem?_append_right (by simp), List.getElem?_replicate]
    simp; omega
  · simp [hj]

theorem cl_word_get (xs : List Int) (a j : Nat) (h : j < 8) : (cl xs a).getD j 0 = xs.getD (a * 8 + j) 0 := by unfold cl; rw [f8_get _ j h]
theorem word_get {xs : List Int} (h : imgB xs = true) (j : Nat) : 0 ≤ xs.getD j 0 ∧ xs.getD j 0 ≤ 65535 := by
  by_cases hj : j < xs.length
  · have hw : wordsB xs = true := by simp [imgB] at h; exact h.1
    unfold wordsB at hw
    rw [List.all_eq_true] at hw
    have := inB_true.1 (hw xs[j] (List.getElem_mem hj))
    rw [List.getD_eq_getElem?_getD, List.getElem?_eq_getElem hj]
    exact this
  · rw [getD_past _ _ (by omega)]; omega

end Go.Proofs.YtibokhkohanoaabDoor
