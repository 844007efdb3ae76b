/- Cleared: the table of shots. Cleared: the head as it is then. -/
import Derived.Test.YtiokfhdkbpoadabGreatDoorH2
namespace Go.Proofs.YtiokfhdkbpoadabGreatDoor
open Go.RowKit

theorem set_twice (z : List Int) (p : Nat) (a b : Int) : (z.set p a).set p b = z.set p b := List.set_set a
/-- In an image of one's own: the table of shots has just these of its first pairs. -/
def KeepRel (w1 : World) (lo hi g n c : Nat) (h : Hd) (kw zs : List Int) (M : Nat) (i : Value) (wr : World) : Prop :=
  ∃ k : Nat, k ≤ M ∧ i = .int .i64 k ∧ Ow wr lo hi (some ⟨g, 0, none⟩) n c ((List.range k).foldl (keepStep h kw) zs) ∧ w1.grownBy wr (some g)

/-- A head of one's own lies in block p. -/
def HBox (w : World) (p : Nat) (h : Hd) : Prop := w.heap[p]? = some (.cells #[.int .i64 h.size, .int .i64 h.first, .int .i64 h.refs, .int .i64 h.shots, .int .i64 h.many] 33 (0, 0))
theorem HBox.cell {w : World} {p : Nat} {h : Hd} (hb : HBox w p h) (j : Nat) : w.cell? ⟨p, j, none⟩ = (#[.int .i64 h.size, .int .i64 h.first, .int .i64 h.refs, .int .i64 h.shots, .int .i64 h.many] : Array Value)[j]? := cell_of_row w p j _ _ _ hb
theorem HBox.free {w : World} {p : Nat} {h : Hd} (hb : HBox w p h) (j : Nat) : w.frozen? ⟨p, j, none⟩ = false := frozen_of_row w p j _ _ hb
theorem HBox.lt {w : World} {p : Nat} {h : Hd} (hb : HBox w p h) : p < w.heap.size := (Array.getElem?_eq_some_iff.1 hb).1
theorem HBox.keep {w w' : World} {p : Nat} {h : Hd} (hb : HBox w p h) (hk : w'.heap[p]? = w.heap[p]?) : HBox w' p h := hk.trans hb
theorem HBox.new (w : World) (h : Hd) : HBox (w.alloc (.cells #[.int .i64 h.size, .int .i64 h.first, .int .i64 h.refs, .int .i64 h.shots, .int .i64 h.many] 33)) w.heap.size h := heap_alloc_new w _
theorem HBox.put1 {w : World} {p : Nat} {h : Hd} (hb : HBox w p h) (x : Int) : HBox (w.setCell ⟨p, 1, none⟩ (.int .i64 x)) p { h with first := x } := by
  unfold HBox at *
  simp only [World.setCell, Array.getElem?_modify]
  simp [hb]
theorem HBox.put2 {w : World} {p : Nat} {h : Hd} (hb : HBox w p h) (x : Int) : HBox (w.setCell ⟨p, 2, none⟩ (.int .i64 x)) p { h with refs := x } := by
  unfold HBox at *
  simp only [World.setCell, Array.getElem?_modify]
  simp [hb]
theorem HBox.put3 {w : World} {p : Nat} {h : Hd} (hb : HBox w p h) (x : Int) : HBox (w.setCell ⟨p, 3, none⟩ (.int .i64 x)) p { h with shots := x } := by
  unfold HBox at *
  simp only [World.setCell, Array.getElem?_modify]
  simp [hb]
theorem HBox.put4 {w : World} {p : Nat} {h : Hd} (hb : HBox w p h) (x : Int) : HBox (w.setCell ⟨p, 4, none⟩ (.int .i64 x)) p { h with many := x } := by
  unfold HBox at *
  simp only [World.setCell, Array.getElem?_modify]
  simp [hb]
def firstK (l : List Cm) (f : Int) : Int := if l.any (fun c => !c.good && c.kind == 2) = true then 0 else f
def refsK (l : List Cm) (r : Int) : Int := if l.any (fun c => !c.good && c.kind == 3) = true then 0 else r
theorem any_step (p : Cm → Bool) (l : List Cm) (k : Nat) (hk : k < l.length) : (l.take (k + 1)).any p = ((l.take k).any p || p l[k]) := by
  rw [List.take_succ_eq_append_getElem hk, List.any_append]; simp
/-- Where the loop of the head stands. -/
def HdRel (w : World) (l : List Cm) (s f r u m : Int) (b i : Value) (wr : World) : Prop :=
  ∃ k : Nat, k ≤ l.length ∧ i = .int .i64 k ∧ b = .bool (shotsOk (l.take k)) ∧ HBox wr w.heap.size ⟨s, firstK (l.take k) f, refsK (l.take k) r, u, m⟩ ∧ HBox wr (w.heap.size + 1) ⟨0, 0, 0, 0, 0⟩ ∧ Below w.heap.size w wr

end Go.Proofs.YtiokfhdkbpoadabGreatDoor
