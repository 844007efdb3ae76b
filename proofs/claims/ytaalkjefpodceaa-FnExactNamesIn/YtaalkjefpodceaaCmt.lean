/- Claims, the model's side: those of a table (l6Table), the first tables (l6Firsts), the shots (l6Shots). -/
import Derived.Test.YtaalkjefpodceaaCma
namespace Go.Proofs.Ytaalkjefpodceaa
open Go.RowKit

/-- The old list, behind one more step. -/
theorem old_next {w1 w2 : World} {g g1 : Nat} {l l1 : List Cm} (h : RdV 6 w1 w1.heap.size (some ⟨g, 0, none⟩) l.length (l.flatMap cmV)) (hp : l <+: l1) (hgl : g < w1.heap.size) (hg1 : w1.grownBy w2 (some g1)) (h1 : RdV 6 w2 w2.heap.size (some ⟨g1, 0, none⟩) l1.length (l1.flatMap cmV)) :
    RdV 6 w2 w2.heap.size (some ⟨g, 0, none⟩) l.length (l.flatMap cmV) := by
  by_cases he : g1 = g
  · subst he
    obtain ⟨t, rfl⟩ := hp
    rw [List.flatMap_append] at h1
    exact h1.front (flat_length cmV 6 cmV_length l) (by omega)
  · exact (h.grown hg1 hgl (fun e => he e.symm)).more hg1.size

theorem grown_next {w w1 w2 : World} {g g1 : Nat} (h : w.grownBy w1 (some g)) (hg : g1 = g ∨ w.heap.size ≤ g1) (h2 : w1.grownBy w2 (some g1)) : w.grownBy w2 (some g) :=
  ⟨h2.os.trans h.os, h2.tape.trans h.tape, h2.output.trans h.output, Nat.le_trans h.size h2.size, fun k hk hne => (h2.block k (Nat.lt_of_lt_of_le hk h.size) (fun e => by
    injection e with e
    rcases hg with hg | hg
    · exact hne (by rw [e, hg])
    · omega)).trans (h.block k hk hne)⟩

theorem tabStep_prefix (xs : List Int) (size kind : Int) (frm : Nat) (place step : Int) (l : List Cm) (i : Nat) : l <+: tabStep xs size kind frm place step l i := by
  unfold tabStep; split
  · exact List.prefix_append _ _
  · exact List.prefix_refl _
theorem tabFold_prefix (xs : List Int) (size kind : Int) (frm : Nat) (place step : Int) (l : List Cm) (k : Nat) : l <+: (List.range k).foldl (tabStep xs size kind frm place step) l := by
  induction k with
  | zero => exact List.prefix_refl _
  | succ k ih =>
    rw [List.range_succ, List.foldl_append]
    exact ih.trans (tabStep_prefix _ _ _ _ _ _ _ _)
theorem tabFold_succ (xs : List Int) (size kind : Int) (frm : Nat) (place step : Int) (l : List Cm) (k : Nat) : (List.range (k + 1)).foldl (tabStep xs size kind frm place step) l = tabStep xs size kind frm place step ((List.range k).foldl (tabStep xs size kind frm place step) l) k := by
  rw [List.range_succ, List.foldl_append]; rfl

theorem Ow.toV {w : World} {lo hi g n c : Nat} {xs : List Int} (h : Ow w lo hi (some ⟨g, 0, none⟩) n c xs) : OwV 2 1 w lo hi g n c (iv xs) := ⟨h.own, h.top g rfl⟩
theorem OwV.toI {w : World} {lo hi g n c : Nat} {xs : List Int} (h : OwV 2 1 w lo hi g n c (iv xs)) : Ow w lo hi (some ⟨g, 0, none⟩) n c xs := ⟨h.own, fun g' hg => by simp [Value.ownBlock] at hg; have := h.top; omega⟩
theorem iv_one (xs : List Int) (x : Int) : iv xs ++ [.int .i64 x] = iv (xs ++ [x]) := by simp [iv]

def isFirst (c : Cm) : Bool := c.good && (c.kind == 2 || c.kind == 6)
theorem firsts_step (l : List Cm) (k : Nat) (hk : k < l.length) : firstsC (l.take (k + 1)) = if isFirst (l.getD k cm0) then firstsC (l.take k) ++ [(l.getD k cm0).target] else firstsC (l.take k) := by
  unfold firstsC
  rw [List.take_succ_eq_append_getElem hk, List.filter_append, List.map_append, List.getD_eq_getElem?_getD, List.getElem?_eq_getElem hk]
  simp only [Option.getD_some]
  by_cases h : isFirst l[k] = true
  · rw [if_pos h]; unfold isFirst at h; simp [h]
  · rw [if_neg h]; unfold isFirst at h; simp [h]
theorem firsts_length (l : List Cm) : (firstsC l).length ≤ l.length := by
  unfold firstsC; rw [List.length_map]; exact List.length_filter_le _ _

/-- What is known of element k of a list of claims. -/
theorem cm_cells {w : World} {B : Nat} {g : Nat} {l : List Cm} (h : RdV 6 w B (some ⟨g, 0, none⟩) l.length (l.flatMap cmV)) {k : Nat} (hk : k < l.length) : ∀ j, j < 6 → w.cell? ⟨g, k * 6 + j, none⟩ = (cmV (l.getD k cm0))[j]? := by
  intro j hj
  obtain ⟨b, off, e, _, hc⟩ := h.2 (by omega)
  injection e with e
  injection e with e1 e2
  subst e1; subst e2
  have := hc (k * 6 + j) (by omega)
  rw [Nat.zero_add] at this
  rw [this, cm_cell hk hj]

end Go.Proofs.Ytaalkjefpodceaa
