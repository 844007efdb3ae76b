/- ClaimsIn, LooseIn, counts and blocks: plain functions, and that the model's Go functions compute them. -/
import Derived.Test.YtimbfilbojejiaaCmc
namespace Go.Proofs.Ytimbfilbojejiaa
open Go.RowKit

def claimsL (xs : List Int) : List Cm := if hasHead xs = true then claimsC xs else []
def looseL (xs : List Int) : List Cm := (claimsL xs).filter (fun c => !c.good)
def cntStep (o : List Int) (c : Cm) : List Int := if c.good = true then o.set c.target.toNat (o.getD c.target.toNat 0 + 1) else o
def countsC (l : List Cm) : List Int := l.foldl cntStep (List.replicate 64 0)
def blkStep (o : List Int) (c : Cm) : List Int := if c.good = true ∧ c.kind = 4 then o.set c.slot.toNat c.target else o
def blocksC (l : List Cm) : List Int := l.foldl blkStep (List.replicate 8 0)
def storedC (xs bs : List Int) : List Int := (List.range 64).map (fun c => if bs.getD (c / 8) 0 ≠ 0 then (cl xs (bs.getD (c / 8) 0).toNat).getD (c % 8) 0 else 0)
def storedL (xs : List Int) : List Int := if hasHead xs = true then storedC xs (blocksC (claimsC xs)) else []

theorem getD_set (o : List Int) (i j : Nat) (x : Int) : (o.set i x).getD j 0 = if i = j ∧ i < o.length then x else o.getD j 0 := by
  rw [List.getD_eq_getElem?_getD, List.getElem?_set, List.getD_eq_getElem?_getD]
  by_cases h : i = j
  · subst h
    by_cases h2 : i < o.length
    · simp [h2]
    · simp [h2]
  · simp [h]

theorem cnt_inv (l : List Cm) : ∀ (o : List Int) (B : Int), (∀ j, 0 ≤ o.getD j 0 ∧ o.getD j 0 ≤ B) → (l.foldl cntStep o).length = o.length ∧ ∀ j, 0 ≤ (l.foldl cntStep o).getD j 0 ∧ (l.foldl cntStep o).getD j 0 ≤ B + l.length := by
  induction l with
  | nil => intro o B h; exact ⟨rfl, fun j => by simpa using h j⟩
  | cons c l ih =>
    intro o B h
    have h1 : (cntStep o c).length = o.length := by unfold cntStep; split <;> simp
    have h2 : ∀ j, 0 ≤ (cntStep o c).getD j 0 ∧ (cntStep o c).getD j 0 ≤ B + 1 := by
      intro j
      unfold cntStep
      split
      · rw [getD_set]
        have := h j
        have := h c.target.toNat
        split <;> omega
      · have := h j; omega
    obtain ⟨h3, h4⟩ := ih (cntStep o c) (B + 1) h2
    refine ⟨by rw [List.foldl_cons, h3, h1], fun j => ?_⟩
    have := h4 j
    rw [List.foldl_cons, List.length_cons]
    omega
theorem zeros_get (n j : Nat) : (List.replicate n (0 : Int)).getD j 0 = 0 := by
  rw [List.getD_eq_getElem?_getD, List.getElem?_replicate]; split <;> rfl
theorem cnt_take (l : List Cm) (k : Nat) : ((l.take k).foldl cntStep (List.replicate 64 0)).length = 64 ∧ ∀ j, 0 ≤ ((l.take k).foldl cntStep (List.replicate 64 0)).getD j 0 ∧ ((l.take k).foldl cntStep (List.replicate 64 0)).getD j 0 ≤ k := by
  obtain ⟨h1, h2⟩ := cnt_inv (l.take k) (List.replicate 64 0) 0 (fun j => by rw [zeros_get]; omega)
  refine ⟨by rw [h1]; simp, fun j => ?_⟩
  have := h2 j
  have : (l.take k).length ≤ k := List.length_take_le _ _
  omega
theorem blk_len (l : List Cm) : ∀ o : List Int, (l.foldl blkStep o).length = o.length := by
  induction l with
  | nil => intro o; rfl
  | cons c l ih => intro o; rw [List.foldl_cons, ih]; unfold blkStep; split <;> simp
theorem blk_all (P : Int → Prop) (l : List Cm) : ∀ o : List Int, (∀ j, P (o.getD j 0)) → (∀ c ∈ l, c.good = true → c.kind = 4 → P c.target) → ∀ j, P ((l.foldl blkStep o).getD j 0) := by
  induction l with
  | nil => intro o h _; exact h
  | cons c l ih =>
    intro o h hc
    rw [List.foldl_cons]
    refine ih _ (fun j => ?_) (fun x hx => hc x (by simp [hx]))
    unfold blkStep
    split
    · rename_i hk
      rw [getD_set]
      split
      · exact hc c (by simp) hk.1 hk.2
      · exact h j
    · exact h j
/-- A block is none, or there. -/
theorem blocks_there (xs : List Int) (j : Nat) : (blocksC (claimsC xs)).getD j 0 = 0 ∨ thereB xs ((blocksC (claimsC xs)).getD j 0) = true := by
  refine blk_all (fun b => b = 0 ∨ thereB xs b = true) (claimsC xs) _ (fun j => .inl (zeros_get _ _)) ?_ j
  intro c hc hg hk
  rcases (claims_ok xs c hc).lead hg with h | h
  · omega
  · exact .inr h
theorem blocks_length (l : List Cm) : (blocksC l).length = 8 := by unfold blocksC; rw [blk_len]; simp
theorem counts_length (l : List Cm) : (countsC l).length = 64 := by
  have := (cnt_take l l.length).1
  rwa [List.take_length] at this
/-- Where a good claim leads. -/
theorem good_target {xs : List Int} (hh : hasHead xs = true) {c : Cm} (hc : c ∈ claimsC xs) (hg : c.good = true) : 0 ≤ c.target ∧ c.target < manyN xs := by
  have hl := hasHead_len hh
  rcases (claims_ok xs c hc).lead hg with h | h
  · have : 0 < manyN xs := by unfold manyN; omega
    omega
  · have := there_lt h
    omega

theorem loose_step (l : List Cm) (k : Nat) (hk : k < l.length) : (l.take (k + 1)).filter (fun c => !c.good) = if (l.getD k cm0).good = true then (l.take k).filter (fun c => !c.good) else (l.take k).filter (fun c => !c.good) ++ [l.getD k cm0] := by
  rw [List.take_succ_eq_append_getElem hk, List.filter_append, List.getD_eq_getElem?_getD, List.getElem?_eq_getElem hk]
  simp only [Option.getD_some]
  by_cases h : l[k].good = true
  · rw [if_pos h]; simp [h]
  · rw [if_neg h]; simp [h]
theorem claimsL_length (xs : List Int) : (claimsL xs).length ≤ 1296 := by
  unfold claimsL; split
  · exact claims_length xs
  · simp

end Go.Proofs.Ytimbfilbojejiaa
