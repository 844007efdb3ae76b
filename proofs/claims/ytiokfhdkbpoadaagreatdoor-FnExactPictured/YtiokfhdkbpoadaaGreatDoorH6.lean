/- What is stored of a sound image is what is counted: plain mathematics. Contents and names (chapter 10): plain functions, and that the model's Go functions compute them. Mild (chapter 11): a plain function, and that the model's Go function computes it. Scans (chapter 13): plain functions, and that the model's Go functions compute them. -/
import Derived.Test.YtiokfhdkbpoadaaGreatDoorG4
import Derived.Test.YtiokfhdkbpoadaaGreatDoorY2
import Derived.Test.YtiokfhdkbpoadaaGreatDoorY5
import Derived.Test.YtiokfhdkbpoadaaGreatDoorG2
import Derived.Test.YtiokfhdkbpoadaaGreatDoorG3
namespace Go.Proofs.YtiokfhdkbpoadaaGreatDoor
open Go.RowKit

theorem cd_none (st ct : List Int) : ∀ k : Nat, (List.range k).foldl (cdStep st ct) [] = [] → ∀ c, c < k → st.getD c 0 = ct.getD c 0
  | 0, _, c, hc => by omega
  | k + 1, h, c, hc => by
    rw [List.range_succ, List.foldl_append, List.foldl_cons, List.foldl_nil] at h
    unfold cdStep at h
    split at h
    · simp at h
    · split at h
      · simp at h
      · by_cases hk : c = k
        · subst hk; omega
        · exact cd_none st ct k h c (by omega)
theorem list64 {a b : List Int} (ha : a.length = 64) (hb : b.length = 64) (h : ∀ c, c < 64 → a.getD c 0 = b.getD c 0) : a = b := by
  apply List.ext_getElem?
  intro j
  by_cases hj : j < 64
  · have := h j hj
    rw [List.getD_eq_getElem?_getD, List.getD_eq_getElem?_getD, List.getElem?_eq_getElem (by omega), List.getElem?_eq_getElem (by omega), Option.getD_some, Option.getD_some] at this
    rw [List.getElem?_eq_getElem (by omega), List.getElem?_eq_getElem (by omega), this]
  · rw [List.getElem?_eq_none (by omega), List.getElem?_eq_none (by omega)]
theorem sound_stored {xs : List Int} (h : soundB xs = true) : storedL xs = countsL xs := by
  have hh := sound_head h
  have h5 := sound_d5 h
  unfold d5L at h5
  rw [List.append_eq_nil_iff] at h5
  obtain ⟨h4, _⟩ := h5
  unfold d4L at h4
  rw [List.append_eq_nil_iff] at h4
  have e1 : countsL xs = countsC (claimsC xs) := by unfold countsL; rw [if_pos hh]
  have e2 : (storedL xs).length = 64 := by unfold storedL; rw [if_pos hh, storedC_length]
  rw [e1]
  exact list64 e2 (counts_length _) (cd_none _ _ 64 h4.2)

/-- What is read. -/
def orZero (l : List Int) : List Int := if l = [] then List.replicate 8 0 else l
def contentL (b : List Int) (which g : Int) : List Int := if hasHead b = true ∧ inB which 0 ((shotsL b).length : Int) = true ∧ inB g 0 ((headOf b).size - 1) = true then orZero (tableL b (targetOf (entryAt b which g))) else []
def namesL (b : List Int) : List Int := (shotsL b).map (·.1)
theorem orZero_length {b : List Int} (t : Int) : (orZero (tableL b t)).length = 8 := by
  unfold orZero
  split
  · simp
  · rcases tableL_length b t with h | h
    · rename_i hn
      exact absurd (List.eq_nil_of_length_eq_zero h) hn
    · exact h
theorem names_length (b : List Int) : (namesL b).length ≤ 4 := by unfold namesL; rw [List.length_map]; exact shotsL_length b
theorem names_step (l : List (Int × Int)) (k : Nat) (hk : k < l.length) : (l.take (k + 1)).map (·.1) = (l.take k).map (·.1) ++ [(l.getD k (0, 0)).1] := by
  rw [List.take_succ_eq_append_getElem hk, List.map_append, List.getD_eq_getElem?_getD, List.getElem?_eq_getElem hk]
  rfl

/-- Mild. -/
def mildK (d : Dc) : Bool := d.kind == 6 || d.kind == 7
def mildB (b : List Int) : Bool := hasHead b && (defectsL b).all mildK
theorem dc_cells {w : World} {B g : Nat} {l : List Dc} (h : RdV 3 w B (some ⟨g, 0, none⟩) l.length (l.flatMap dcV)) {k : Nat} (hk : k < l.length) : w.cell? ⟨g, k * 3, none⟩ = some (.int .i64 (l[k]).kind) := by
  obtain ⟨b, off, e, _, hc⟩ := h.2 (by omega)
  injection e with e
  injection e with e1 e2
  subst e1; subst e2
  have := hc (k * 3 + 0) (by omega)
  rw [Nat.zero_add, flat_get dcV 3 dcV_length l k 0 hk (by omega)] at this
  exact this
theorem defects_length (xs : List Int) : (defectsL xs).length ≤ 40000 := by
  unfold defectsL
  have h1 := looseL_length xs
  have h2 := wrongs_length xs
  have h3 := cntDefs_length (storedL xs) (countsC (claimsC xs))
  split
  · split
    · unfold d5L d4L d3L d2L d1L
      split <;> split <;> simp <;> omega
    · simp
  · simp

/-- SecondLike. -/
def secLikeB (b : List Int) (at_ : Int) : Bool := (inB at_ 1 (((rolesL b).length : Int) - 1) && ((rolesL b).getD at_.toNat 0 == 0)) && ((cl b at_.toNat).all (fun w => w == 0 || thereB b (targetOf w)) && (cl b at_.toNat).any ownIn)
def lostStep (b : List Int) (o : List Int) (a : Nat) : List Int := if secLikeB b ((a : Int) + 1) = true ∧ (o.length : Int) < ((headIn b).1.size + 7) / 8 then o ++ [(a : Int) + 1] else o
/-- LostIn. -/
def lostL (b : List Int) : List Int := (List.range ((rolesL b).length - 1)).foldl (lostStep b) []
def lostT (b : List Int) : List Int := (List.range 8).map (fun i => if i < (lostL b).length then entryOf ((lostL b).getD i 0) true else 0)
/-- Refound. -/
def refoundL (b : List Int) : List Int := if hasHead b = true ∧ manyN b < 64 then setCl (moreL b (lostT b)) 0 (hdW { headOf b with first := manyN b }) else []
def secW (b : List Int) (x : Int) : Bool := x == 0 || thereB b (targetOf x)
theorem sec_parts (b : List Int) (a : Int) : secLikeB b a = ((inB a 1 (((rolesL b).length : Int) - 1) && ((rolesL b).getD a.toNat 0 == 0)) && ((cl b a.toNat).all (secW b) && (cl b a.toNat).any ownIn)) := rfl
theorem roles_many {b : List Int} (h : 0 < (rolesL b).length) : hasHead b = true ∧ (rolesL b).length = manyN b := by
  unfold rolesL at h ⊢
  cases hh : hasHead b
  · rw [hh] at h; simp at h
  · rw [if_pos rfl, rolesC_length]; exact ⟨rfl, rfl⟩
theorem all_next (p : Int → Bool) (l : List Int) (k : Nat) (hk : k < l.length) (h : (l.take k).all p = true) : (l.take (k + 1)).all p = p (l.getD k 0) := by
  rw [List.take_succ_eq_append_getElem hk, List.all_append, h, List.getD_eq_getElem?_getD, List.getElem?_eq_getElem hk]; simp
theorem any_next (p : Int → Bool) (l : List Int) (k : Nat) (hk : k < l.length) : (l.take (k + 1)).any p = ((l.take k).any p || p (l.getD k 0)) := by
  rw [List.take_succ_eq_append_getElem hk, List.any_append, List.getD_eq_getElem?_getD, List.getElem?_eq_getElem hk]; simp
theorem all_fails (p : Int → Bool) (l : List Int) (k : Nat) (hk : k < l.length) (h : p (l.getD k 0) = false) : l.all p = false := by
  rw [List.all_eq_false]
  refine ⟨l.getD k 0, ?_, by rw [h]; simp⟩
  rw [List.getD_eq_getElem?_getD, List.getElem?_eq_getElem hk]
  exact List.getElem_mem hk

end Go.Proofs.YtiokfhdkbpoadaaGreatDoor
