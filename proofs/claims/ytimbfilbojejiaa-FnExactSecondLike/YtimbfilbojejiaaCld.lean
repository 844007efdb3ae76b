/- Cleared (chapter 12): plain functions, and that the model's Go functions compute them. -/
import Derived.Test.YtimbfilbojejiaaCnt
import Derived.Test.YtimbfilbojejiaaWcl
import Derived.StillTailTactics
import Derived.Deep.RegionLaw
namespace Go.Proofs.Ytimbfilbojejiaa
open Go.RowKit

theorem range_next {β : Type} (f : β → Nat → β) (z : β) (k : Nat) : (List.range (k + 1)).foldl f z = f ((List.range k).foldl f z) k := by
  rw [List.range_succ, List.foldl_append]; rfl
/-- The pairs that stay. -/
def pairW (b : List Int) (c : Cm) : List Int := [((shotsL b).getD c.slot.toNat (0, 0)).1, ((shotsL b).getD c.slot.toNat (0, 0)).2]
def keepW (b : List Int) : List Int := ((claimsC b).filter (fun c => c.kind == 6 && c.good)).flatMap (pairW b)
def keepStep (h : Hd) (kw : List Int) (o : List Int) (i : Nat) : List Int := o.set (h.shots.toNat * 8 + i) (kw.getD i 0)
def keepL (h : Hd) (kw z : List Int) : List Int := (List.range (2 * h.many).toNat).foldl (keepStep h kw) z
def shotsOk (l : List Cm) : Bool := l.any (fun c => c.good && c.kind == 5)
def lzB (c : Cm) : Bool := !c.good && (c.kind == 4 || decide (7 ≤ c.kind))
def clrStep (o : List Int) (c : Cm) : List Int := if lzB c = true then o.set (c.frm.toNat * 8 + c.slot.toNat) 0 else o
def clr1 (b : List Int) : List Int := if shotsOk (claimsC b) = true then keepL (headOf b) (keepW b) (whole b) else whole b
def clr2 (b : List Int) : List Int := (claimsC b).foldl clrStep (clr1 b)
def clrHead (b : List Int) : Hd := ⟨(headOf b).size, if (claimsC b).any (fun c => !c.good && c.kind == 2) = true then 0 else (headOf b).first, if (claimsC b).any (fun c => !c.good && c.kind == 3) = true then 0 else (headOf b).refs,
  if ((keepW b).length / 2 : Nat) = 0 then 0 else (headOf b).shots, ((keepW b).length / 2 : Nat)⟩
/-- Of an image with a head. -/
def clrC (b : List Int) : List Int := setCl (clr2 b) 0 (hdW (clrHead b))
def clearedL (b : List Int) : List Int := if hasHead b = true then clrC b else []
theorem keep_get (h : Hd) (kw : List Int) : ∀ (k : Nat) (z : List Int) (j : Nat), h.shots.toNat * 8 + k ≤ z.length →
    ((List.range k).foldl (keepStep h kw) z).getD j 0 = (if h.shots.toNat * 8 ≤ j ∧ j < h.shots.toNat * 8 + k then kw.getD (j - h.shots.toNat * 8) 0 else z.getD j 0) ∧ ((List.range k).foldl (keepStep h kw) z).length = z.length
  | 0, z, j, _ => by
    refine ⟨?_, rfl⟩
    rw [if_neg (by omega)]
    rfl
  | k + 1, z, j, hk => by
    obtain ⟨h1, h2⟩ := keep_get h kw k z j (by omega)
    rw [range_next]
    refine ⟨?_, (List.length_set ..).trans h2⟩
    refine (getD_set _ _ _ _).trans ?_
    rw [h2, h1]
    by_cases e : h.shots.toNat * 8 + k = j
    · subst e
      rw [if_pos ⟨rfl, by omega⟩, if_pos (by omega)]
      congr 1
      omega
    · rw [if_neg (by omega)]
      by_cases h3 : h.shots.toNat * 8 ≤ j ∧ j < h.shots.toNat * 8 + k
      · rw [if_pos h3, if_pos (by omega)]
      · rw [if_neg h3, if_neg (by omega)]
theorem clr_len (l : List Cm) : ∀ z : List Int, (l.foldl clrStep z).length = z.length := by
  induction l with
  | nil => intro z; rfl
  | cons c l ih => intro z; rw [List.foldl_cons, ih]; unfold clrStep; split <;> simp
def isKept (c : Cm) : Bool := c.kind == 6 && c.good
def keepOf (b : List Int) (l : List Cm) : List Int := (l.filter isKept).flatMap (pairW b)
theorem keepOf_all (b : List Int) : keepOf b (claimsC b) = keepW b := rfl
theorem keepOf_step (b : List Int) (l : List Cm) (k : Nat) (hk : k < l.length) : keepOf b (l.take (k + 1)) = if isKept (l.getD k cm0) = true then keepOf b (l.take k) ++ pairW b (l.getD k cm0) else keepOf b (l.take k) := by
  unfold keepOf
  rw [List.take_succ_eq_append_getElem hk, List.filter_append, List.flatMap_append, List.getD_eq_getElem?_getD, List.getElem?_eq_getElem hk]
  simp only [Option.getD_some]
  cases h : isKept l[k]
  · rw [List.filter_cons_of_neg (by simp [h])]; simp
  · rw [List.filter_cons_of_pos h]; simp
theorem keepOf_length (b : List Int) (l : List Cm) : (keepOf b l).length ≤ 2 * l.length := by
  unfold keepOf
  have h1 := List.length_filter_le isKept l
  have h2 : ∀ l : List Cm, (l.flatMap (pairW b)).length = 2 * l.length := by
    intro l
    induction l with
    | nil => rfl
    | cons c l ih => rw [List.flatMap_cons, List.length_append, ih, List.length_cons]; show 2 + _ = _; omega
  rw [h2]
  omega
theorem iv_two (ys : List Int) (a b : Int) : iv (ys ++ [a, b]) = iv ys ++ [.int .i64 a, .int .i64 b] := by rw [iv_append]; rfl

end Go.Proofs.Ytimbfilbojejiaa