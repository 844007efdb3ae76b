/- Images that are changed: plain mathematics of whole, setCl and set. A new cluster behind the others (l14More), and whether an image may be counted (l14Ready): the model's side. Sound; counting anew (chapter 14): a new cluster (l14More), whether it is ready (l14Ready), which block lacks (l14Lacks): the model's side. Counting anew: which block lacks (l14Lacks), all that are needed (l14Blocks): the model's side. Counting anew: all blocks that are needed (l14Blocks), the model's side. Counting anew: the counts are written (l14Write), the model's side. Counting anew (Counted), the model's side. -/
import Derived.Test.YtibokhkohanoaabDoorG7
import Derived.Test.YtibokhkohanoaabDoorQ2
import Derived.Test.YtibokhkohanoaabDoorH0
namespace Go.Proofs.YtibokhkohanoaabDoor
open Go.RowKit

theorem imgB_iff {xs : List Int} : imgB xs = true ↔ (∀ x ∈ xs, wordB x = true) ∧ xs.length ≤ 512 := by
  unfold imgB wordsB
  rw [Bool.and_eq_true, List.all_eq_true, decide_eq_true_eq]
theorem wordB_zero : wordB 0 = true := rfl
theorem img_whole {xs : List Int} (h : imgB xs = true) : imgB (whole xs) = true := by
  rw [imgB_iff] at *
  refine ⟨?_, ?_⟩
  · intro x hx
    unfold whole at hx
    rw [List.mem_append] at hx
    rcases hx with hx | hx
    · exact h.1 x hx
    · have := List.eq_of_mem_replicate hx; subst this; rfl
  · rw [whole_length]; have := h.2; unfold manyN; omega
theorem many_whole (xs : List Int) : manyN (whole xs) = manyN xs := by
  show ((whole xs).length + 7) / 8 = _
  rw [whole_length]; omega
theorem cl_whole (xs : List Int) (a : Nat) : cl (whole xs) a = cl xs a := by
  unfold cl; exact f8_congr (fun j _ => whole_get xs _)
theorem headOf_congr {xs ys : List Int} (h : ∀ j, j < 8 → ys.getD j 0 = xs.getD j 0) : headOf ys = headOf xs := by
  unfold headOf; rw [h 2 (by omega), h 3 (by omega), h 4 (by omega), h 5 (by omega), h 6 (by omega)]
/-- The same first words: the same head. -/
theorem head_congr {xs ys : List Int} (h : ∀ j, j < 8 → ys.getD j 0 = xs.getD j 0) (hi : imgB ys = true) (hl : ys.length ≠ 0) (hh : hasHead xs = true) : hasHead ys = true := by
  unfold hasHead at *
  rw [headOf_congr h, h 0 (by omega), h 1 (by omega), h 7 (by omega), hi]
  simp at hh ⊢
  exact ⟨fun e => hl (by rw [e]; rfl), hh.2.2⟩
theorem whole_pos {xs : List Int} (h : hasHead xs = true) : 0 < manyN xs := by have := hasHead_len h; unfold manyN; omega
theorem head_whole {xs : List Int} (h : hasHead xs = true) : hasHead (whole xs) = true ∧ headOf (whole xs) = headOf xs := by
  have hc : ∀ j, j < 8 → (whole xs).getD j 0 = xs.getD j 0 := fun j _ => whole_get xs j
  refine ⟨head_congr hc (img_whole (hasHead_img h)) ?_ h, headOf_congr hc⟩
  rw [whole_length]; have := whole_pos h; omega

theorem setCl_length {zs ws : List Int} {a : Nat} (h8 : zs.length % 8 = 0) (ha : a * 8 ≤ zs.length) (hw : ws.length = 8) : (setCl zs a ws).length = if a * 8 = zs.length then zs.length + 8 else zs.length := by
  unfold setCl
  simp only [List.length_append, List.length_take, List.length_drop, hw]
  split <;> omega
theorem setCl_get {zs ws : List Int} {a j : Nat} (ha : a * 8 ≤ zs.length) (hw : ws.length = 8) : (setCl zs a ws).getD j 0 = if a * 8 ≤ j ∧ j < a * 8 + 8 then ws.getD (j - a * 8) 0 else zs.getD j 0 := by
  unfold setCl
  rw [List.getD_eq_getElem?_getD, List.getElem?_append, List.length_append, List.length_take, hw, Nat.min_eq_left ha]
  by_cases h1 : j < a * 8
  · rw [if_pos (by omega), List.getElem?_append_left (by simp; omega), if_neg (by omega), List.getElem?_take_of_lt h1, List.getD_eq_getElem?_getD]
  · by_cases h2 : j < a * 8 + 8
    · rw [if_pos h2, List.getElem?_append_right (by simp; omega), if_pos ⟨by omega, h2⟩, List.length_take, Nat.min_eq_left ha, List.getD_eq_getElem?_getD]
    · rw [if_neg h2, if_neg (by omega), List.getElem?_drop, List.getD_eq_getElem?_getD]
      congr 2
      omega
theorem setCl_img {zs ws : List Int} {a : Nat} (hz : imgB zs = true) (hw : ∀ x ∈ ws, wordB x = true) (hl : (setCl zs a ws).length ≤ 512) : imgB (setCl zs a ws) = true := by
  rw [imgB_iff] at *
  refine ⟨?_, hl⟩
  intro x hx
  unfold setCl at hx
  rw [List.mem_append, List.mem_append] at hx
  rcases hx with (hx | hx) | hx
  · exact hz.1 x (List.mem_of_mem_take hx)
  · exact hw x hx
  · exact hz.1 x (List.mem_of_mem_drop hx)
theorem set_img {zs : List Int} {j : Nat} {x : Int} (hz : imgB zs = true) (hx : wordB x = true) : imgB (zs.set j x) = true := by
  rw [imgB_iff] at *
  refine ⟨?_, by simpa using hz.2⟩
  intro y hy
  rcases List.mem_or_eq_of_mem_set hy with h | h
  · exact hz.1 y h
  · subst h; exact hx

/-- A new cluster behind the others. -/
def moreL (xs ws : List Int) : List Int := setCl (whole xs) (manyN xs) ws
theorem more_length (xs ws : List Int) (hw : ws.length = 8) : (moreL xs ws).length = manyN xs * 8 + 8 := by
  unfold moreL
  rw [setCl_length (by rw [whole_length]; omega) (by rw [whole_length]; exact Nat.le_refl _) hw, whole_length, if_pos rfl]
theorem more_many (xs ws : List Int) (hw : ws.length = 8) : manyN (moreL xs ws) = manyN xs + 1 := by
  show ((moreL xs ws).length + 7) / 8 = _
  rw [more_length xs ws hw]; omega
theorem more_get (xs ws : List Int) (hw : ws.length = 8) (j : Nat) : (moreL xs ws).getD j 0 = if manyN xs * 8 ≤ j then ws.getD (j - manyN xs * 8) 0 else xs.getD j 0 := by
  unfold moreL
  rw [setCl_get (by rw [whole_length]; exact Nat.le_refl _) hw, whole_get]
  by_cases h1 : manyN xs * 8 ≤ j
  · rw [if_pos h1]
    by_cases h2 : j < manyN xs * 8 + 8
    · rw [if_pos ⟨h1, h2⟩]
    · rw [if_neg (by omega), getD_past ws _ (by omega), getD_past xs _ (by unfold manyN at *; omega)]
  · rw [if_neg h1, if_neg (by omega)]
theorem more_img {xs ws : List Int} (h : imgB xs = true) (hw : eightB ws = true) (hm : manyN xs < 64) : imgB (moreL xs ws) = true := by
  have h8 := eightB_len hw
  have hww : ∀ x ∈ ws, wordB x = true := by
    simp [eightB] at hw
    have := hw.2
    unfold wordsB at this
    rw [List.all_eq_true] at this
    exact this
  refine setCl_img (img_whole h) hww ?_
  have := more_length xs ws h8
  unfold moreL at this
  omega
theorem more_head {xs ws : List Int} (h : hasHead xs = true) (hw : eightB ws = true) (hm : manyN xs < 64) : hasHead (moreL xs ws) = true ∧ headOf (moreL xs ws) = headOf xs := by
  have h8 := eightB_len hw
  have hp := whole_pos h
  have hc : ∀ j, j < 8 → (moreL xs ws).getD j 0 = xs.getD j 0 := fun j hj => by rw [more_get xs ws h8, if_neg (by omega)]
  refine ⟨head_congr hc (more_img (hasHead_img h) hw hm) ?_ h, headOf_congr hc⟩
  rw [more_length xs ws h8]; omega
theorem set_head {xs : List Int} {j : Nat} {x : Int} (h : hasHead xs = true) (hj : 8 ≤ j) (hx : wordB x = true) : hasHead (xs.set j x) = true ∧ headOf (xs.set j x) = headOf xs := by
  have hc : ∀ i, i < 8 → (xs.set j x).getD i 0 = xs.getD i 0 := fun i hi => by rw [getD_set, if_neg (by omega)]
  refine ⟨head_congr hc (set_img (hasHead_img h) hx) ?_ h, headOf_congr hc⟩
  have := hasHead_len h
  simp; intro e; rw [e] at this; simp at this
theorem set_many (xs : List Int) (j : Nat) (x : Int) : manyN (xs.set j x) = manyN xs := by unfold manyN; simp
theorem zeros8 : eightB (List.replicate 8 0) = true := by decide

theorem looseL_len (xs : List Int) : (looseL xs).length ≤ 1296 := by
  unfold looseL
  have h1 := List.length_filter_le (fun c : Cm => !c.good) (claimsL xs)
  have h2 := claimsL_length xs
  omega

/-- A new image, the number of its new cluster, and whether there was room. -/
def RetMore (w : World) (xs ws : List Int) (e : Ending) (w' : World) : Prop :=
  (manyN xs < 64 ∧ ∃ (g n c : Nat), e = .returned (.tuple #[.slice (some ⟨g, 0, none⟩) n c, .int .i64 (manyN xs), .bool true]) ∧ n ≤ c ∧ Ow w' w.heap.size w'.heap.size (some ⟨g, 0, none⟩) n c (moreL xs ws) ∧ Below w.heap.size w w') ∨
  (64 ≤ manyN xs ∧ ∃ g, e = .returned (.tuple #[.slice (some ⟨g, 0, none⟩) 0 0, .int .i64 0, .bool false]) ∧ Below w.heap.size w w')

def readyB (xs : List Int) : Bool := hasHead xs && (looseL xs).all (fun c => c.kind == 3 && (headIn xs).1.refs == 0)
theorem all_take {α : Type} (p : α → Bool) (l : List α) (k : Nat) (hk : k < l.length) (h : (l.take k).all p = true) : (l.take (k + 1)).all p = p l[k] := by
  rw [List.take_succ_eq_append_getElem hk, List.all_append, h]; simp
theorem all_not_at {α : Type} (p : α → Bool) (l : List α) (k : Nat) (hk : k < l.length) (h : p l[k] = false) : l.all p = false := by
  rw [List.all_eq_false]
  exact ⟨l[k], List.getElem_mem hk, by simp [h]⟩

def lackAt (ct bs : List Int) (c : Nat) : Bool := decide (ct.getD c 0 ≠ 0) && decide (bs.getD (c / 8) 0 = 0)
def lacksC (ct bs : List Int) : Int := match (List.range 64).find? (lackAt ct bs) with
  | some c => ((c / 8 : Nat) : Int)
  | none => -1
def lacksL (xs : List Int) : Int := lacksC (countsC (claimsC xs)) (blocksC (claimsC xs))

theorem find_range {p : Nat → Bool} {n k : Nat} (hk : k < n) (h : (List.range k).find? p = none) (hp : p k = true) : (List.range n).find? p = some k := by
  have e : List.range n = List.range k ++ (List.range (n - k)).map (k + ·) := by
    rw [← List.range_add]; congr 1; omega
  rw [e, List.find?_append, h]
  have : List.range (n - k) = 0 :: (List.range (n - k - 1)).map (· + 1) := by
    rw [show n - k = (n - k - 1) + 1 by omega, List.range_succ_eq_map]; rfl
  rw [this]
  simp [hp]
theorem find_range_no {p : Nat → Bool} {k : Nat} (h : (List.range k).find? p = none) (hp : p k = false) : (List.range (k + 1)).find? p = none := by
  rw [List.range_succ, List.find?_append, h]; simp [hp]
theorem lacks_bound (ct bs : List Int) : lacksC ct bs < 0 ∨ (0 ≤ lacksC ct bs ∧ lacksC ct bs ≤ 7) := by
  unfold lacksC
  split
  · rename_i c hc
    have := List.mem_of_find?_eq_some hc
    rw [List.mem_range] at this
    right; omega
  · left; omega

/-- One block more. -/
def blockStep (refs : Nat) (xs : List Int) : List Int := (moreL xs (List.replicate 8 0)).set (refs * 8 + (lacksL xs).toNat) (manyN xs)
/-- All blocks that are needed; none for want of room. -/
def fixBlocks (refs : Nat) : Nat → List Int → Option (List Int)
  | 0, xs => if lacksL xs < 0 then some xs else none
  | k + 1, xs => if lacksL xs < 0 then some xs else (if 64 ≤ manyN xs then none else fixBlocks refs k (blockStep refs xs))
def blocksL (xs : List Int) : Option (List Int) := fixBlocks (headOf xs).refs.toNat 64 xs
theorem fix_done {refs : Nat} {xs : List Int} (h : lacksL xs < 0) : ∀ k, fixBlocks refs k xs = some xs
  | 0 => by simp [fixBlocks, h]
  | k + 1 => by simp [fixBlocks, h]
theorem fix_none {refs : Nat} {xs : List Int} (h : ¬ lacksL xs < 0) (h2 : 64 ≤ manyN xs) : ∀ k, fixBlocks refs k xs = none
  | 0 => by simp [fixBlocks, h]
  | k + 1 => by simp [fixBlocks, h, h2]
theorem fix_step {refs : Nat} {xs : List Int} (h : ¬ lacksL xs < 0) (h2 : manyN xs < 64) (k : Nat) : fixBlocks refs (k + 1) xs = fixBlocks refs k (blockStep refs xs) := by
  simp [fixBlocks, h]; omega
theorem block_head {refs : Nat} {xs : List Int} (h : hasHead xs = true) (hm : manyN xs < 64) (hr : 1 ≤ refs) : hasHead (blockStep refs xs) = true ∧ headOf (blockStep refs xs) = headOf xs := by
  obtain ⟨h1, h2⟩ := more_head h zeros8 hm
  obtain ⟨h3, h4⟩ := set_head (j := refs * 8 + (lacksL xs).toNat) (x := (manyN xs : Int)) h1 (by omega) (inB_true.2 (by omega))
  exact ⟨h3, h4.trans h2⟩
theorem block_many {refs : Nat} {xs : List Int} : manyN (blockStep refs xs) = manyN xs + 1 := by
  unfold blockStep; rw [set_many, more_many _ _ (by simp)]

/-- An image with room for its blocks; or nothing. -/
def RetBk (w : World) (r : Option (List Int)) (e : Ending) (w' : World) : Prop :=
  (∃ ys A n c, r = some ys ∧ e = .returned (.tuple #[.slice A n c, .bool true]) ∧ Rd w' w'.heap.size A n ys ∧ hasHead ys = true ∧ Below w.heap.size w w') ∨
  (∃ g, r = none ∧ e = .returned (.tuple #[.slice (some ⟨g, 0, none⟩) 0 0, .bool false]) ∧ Below w.heap.size w w')

def BkRel (w : World) (bx refs : Nat) (R : Option (List Int)) (v s : Value) (wr : World) : Prop :=
  ∃ (ys : List Int) (fuel : Nat) (A : Option Addr) (n c : Nat), v = .slice A n c ∧ s = .int .i64 (lacksL ys) ∧ Rd wr wr.heap.size A n ys ∧ hasHead ys = true ∧ fixBlocks refs fuel ys = R ∧ 64 ≤ fuel + manyN ys ∧ refs < manyN ys ∧ Below w.heap.size w wr ∧ wr.cell? ⟨bx, 2, none⟩ = some (.int .i64 refs) ∧ bx < wr.heap.size

def wtStep (ct bs : List Int) (o : List Int) (c : Nat) : List Int := if bs.getD (c / 8) 0 ≠ 0 then o.set ((bs.getD (c / 8) 0).toNat * 8 + c % 8) (ct.getD c 0) else o
def wtTo (xs ct bs : List Int) (k : Nat) : List Int := (List.range k).foldl (wtStep ct bs) (whole xs)
/-- Its counts are written. -/
def writeC (xs : List Int) : List Int := wtTo xs (countsC (claimsC xs)) (blocksC (claimsC xs)) 64
theorem wt_length (xs ct bs : List Int) (k : Nat) : (wtTo xs ct bs k).length = manyN xs * 8 := by
  unfold wtTo
  induction k with
  | zero => exact whole_length xs
  | succ k ih =>
    rw [range_fold_s]
    unfold wtStep
    split
    · rw [List.length_set]; exact ih
    · exact ih

def WtRel (w2 : World) (lo hi g n c : Nat) (xs ct bs : List Int) (i : Value) (wr : World) : Prop :=
  ∃ k : Nat, k ≤ 64 ∧ i = .int .i64 k ∧ Ow wr lo hi (some ⟨g, 0, none⟩) n c (wtTo xs ct bs k) ∧ w2.grownBy wr (some g)

theorem ready_head {xs : List Int} (h : readyB xs = true) : hasHead xs = true := by unfold readyB at h; rw [Bool.and_eq_true] at h; exact h.1
theorem ready_refs {xs : List Int} (h : readyB xs = true) (hr : (headOf xs).refs ≠ 0) : thereB xs (headOf xs).refs = true := by
  have hh := ready_head h
  have hc := refs_claim xs
  cases hg : goodB xs (headOf xs).size (c1C xs (headOf xs)) ⟨3, 0, 0, 0, (headOf xs).refs, false⟩
  · rw [hg] at hc
    unfold readyB at h
    rw [Bool.and_eq_true, List.all_eq_true] at h
    have hl : (⟨3, 0, 0, 0, (headOf xs).refs, false⟩ : Cm) ∈ looseL xs := by
      unfold looseL claimsL
      rw [hh, if_pos rfl, List.mem_filter]
      exact ⟨hc, rfl⟩
    have := h.2 _ hl
    rw [headIn_yes hh] at this
    simp at this
    exact absurd this hr
  · exact goodB_there hg

theorem hdW_length (h : Hd) : (hdW h).length = 8 := rfl
theorem hd_set {zs : List Int} {h : Hd} (hz : imgB zs = true) (h8 : zs.length % 8 = 0) (hpos : 0 < zs.length) (hb : headB h = true) :
    hasHead (setCl zs 0 (hdW h)) = true ∧ headOf (setCl zs 0 (hdW h)) = h ∧ (setCl zs 0 (hdW h)).length = zs.length := by
  have hl : (setCl zs 0 (hdW h)).length = zs.length := by rw [setCl_length h8 (by omega) (hdW_length h), if_neg (by omega)]
  have hall := headB_all hb
  have hw : ∀ x ∈ hdW h, wordB x = true := by
    intro x hx
    simp [hdW] at hx
    rw [wordB, inB_true]
    rcases hx with h | h | h | h | h | h | h | h <;> subst h <;> omega
  have hi : imgB (setCl zs 0 (hdW h)) = true := setCl_img hz hw (by rw [hl]; exact imgB_len hz)
  have hg : ∀ j, j < 8 → (setCl zs 0 (hdW h)).getD j 0 = (hdW h).getD j 0 := fun j hj => by
    rw [setCl_get (by omega) (hdW_length h), if_pos (by omega)]; simp
  have hho : headOf (setCl zs 0 (hdW h)) = h := by
    unfold headOf; rw [hg 2 (by omega), hg 3 (by omega), hg 4 (by omega), hg 5 (by omega), hg 6 (by omega)]; rfl
  refine ⟨?_, hho, hl⟩
  unfold hasHead
  have hne : (setCl zs 0 (hdW h)).length ≠ 0 := by omega
  rw [hho, hi, hg 0 (by omega), hg 1 (by omega), hg 7 (by omega), hb, decide_eq_true hne]
  rfl

/-- With a new table Refs, where there was none. -/
def refsL (xs : List Int) : List Int := setCl (moreL (whole xs) (List.replicate 8 0)) 0 (hdW { headOf xs with refs := manyN (whole xs) })
def countBase (xs : List Int) : Option (List Int) := if (headOf xs).refs = 0 then (if manyN (whole xs) < 64 then some (refsL xs) else none) else some (whole xs)
def countEnd : Option (List Int) → List Int
  | none => []
  | some zs => writeC zs
def countMid : Option (List Int) → List Int
  | none => []
  | some ys => countEnd (blocksL ys)
def countedL (xs : List Int) : List Int := if readyB xs = true then countMid (countBase xs) else []

theorem refsL_head {xs : List Int} (h : hasHead xs = true) (hm : manyN (whole xs) < 64) : hasHead (refsL xs) = true ∧ headOf (refsL xs) = { headOf xs with refs := manyN (whole xs) } ∧ (refsL xs).length = manyN xs * 8 + 8 := by
  obtain ⟨hw, hwo⟩ := head_whole h
  have hl := more_length (whole xs) (List.replicate 8 0) (by simp)
  rw [many_whole] at hl
  have hall := headB_all (hasHead_ok h)
  have hb : headB { headOf xs with refs := manyN (whole xs) } = true := by
    simp only [headB, wordB, Bool.and_eq_true, inB_true]
    omega
  obtain ⟨h1, h2, h3⟩ := hd_set (more_img (hasHead_img hw) zeros8 hm) (by rw [hl]; omega) (by rw [hl]; omega) hb
  exact ⟨h1, h2, h3.trans hl⟩

theorem Ret.emptyS {w w1 : World} (g : Nat) (hg : w1.heap.size = g) (hb : Below w.heap.size w w1) : Ret w [] (.returned (.slice (some ⟨g, 0, none⟩) 0 0)) (w1.alloc (.cells #[] 2)) := Ret.emptyAt g hg hb

end Go.Proofs.YtibokhkohanoaabDoor
