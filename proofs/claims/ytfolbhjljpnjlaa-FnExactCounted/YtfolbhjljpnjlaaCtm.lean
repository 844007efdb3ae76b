/- Counting anew (chapter 14), the program's side: the counts are written. -/
import Derived.Test.YtfolbhjljpnjlaaCtl
import Derived.Test.YtfolbhjljpnjlaaWro
namespace Go.Proofs.Ytfolbhjljpnjlaa
open Go.RowKit Go.Shelf

attribute [local go_sem] Oper.semAt_some

/-- What is kept of a good claim. -/
abbrev Gw (m : Nat) := Gq (fun c => c.kind = 4 → 0 ≤ c.slot ∧ c.slot < 8 ∧ 1 ≤ c.target ∧ c.target < (m : Int))

theorem Rd.cells {W W' : World} {A : Option Addr} {n : Nat} {xs : List Int} (h : Rd W W.heap.size A n xs) (hs : W.heap.size ≤ W'.heap.size) (hk : ∀ (p : Addr) (v : Value), W.cell? p = some v → W'.cell? p = some v) : Rd W' W'.heap.size A n xs :=
  ⟨h.1, fun hn => by
    obtain ⟨b, off, e, hb, hc⟩ := h.2 hn
    exact ⟨b, off, e, by omega, fun j hj => hk _ _ (hc j hj)⟩⟩

theorem put_snoc {m : Nat} (ct ys : List Int) (pre : List (Gw m)) (x : Gw m) : ((pre ++ [x]).map Subtype.val).foldl (putW ct) ys = putW ct ((pre.map Subtype.val).foldl (putW ct) ys) x.1 := by
  rw [List.map_append, List.foldl_append]
  rfl

/-- What stands in b between two rounds. -/
structure CwS (w : World) (m : Nat) (l : List Cm) (os : List Int) (A : Option Addr) (n c : Nat) (W : World) : Prop where
  rd : Rd W W.heap.size A n os
  cap : n ≤ c
  img : imgB os = true
  many : manyN os = m
  own : (∃ x ∈ l, x.kind = 4) → Ow W w.heap.size W.heap.size A n c os
/-- Between two rounds. -/
def CwI (w : World) (m Bb Bc gc cc : Nat) (ct ys : List Int) (pre : List (Gw m)) (W : World) : Prop :=
  ∃ A n c, Boxed W Bb 22 (.slice A n c) ∧ CwS w m (pre.map Subtype.val) ((pre.map Subtype.val).foldl (putW ct) ys) A n c W ∧ Boxed W Bc 22 (.slice (some ⟨gc, 0, none⟩) 64 cc) ∧ Rd W W.heap.size (some ⟨gc, 0, none⟩) 64 ct ∧ Below w.heap.size w W
/-- The round's claim lies in a box of its own. -/
def CwX {m : Nat} (Bb Bc : Nat) (tm : Gw m → Nat → Array Value) (x : Gw m) (a : Act) (W : World) : Prop :=
  ∃ Bx, Bb < Bx ∧ Bc < Bx ∧ W.heap[Bx]? = some (.cells #[.int .i64 x.1.kind, .int .i64 x.1.frm, .int .i64 x.1.slot, .int .i64 x.1.place, .int .i64 x.1.target, .bool x.1.good] 42 (0, 0)) ∧ a = { tmps := tm x Bx, defers := [] }

theorem CwS.kept {w W W' : World} {m n c : Nat} {l : List Cm} {os : List Int} {A : Option Addr} (h : CwS w m l os A n c W) (hs : W.heap.size ≤ W'.heap.size) (hk : ∀ (p : Addr) (v : Value), W.cell? p = some v → W'.cell? p = some v) (hb : ∀ q, q < W.heap.size → (∃ cs t f, W.heap[q]? = some (.cells cs t f)) → W'.heap[q]? = W.heap[q]?) : CwS w m l os A n c W' :=
  ⟨h.rd.cells hs hk, h.cap, h.img, h.many, fun hx => by
    have ho := h.own hx
    refine ⟨?_, fun g hg => Nat.lt_of_lt_of_le (ho.top g hg) hs⟩
    rcases ho.own.2 with ⟨hv, hn⟩ | ⟨g, cap, cur, hv, h1, hg, h2⟩
    · exact ⟨ho.own.1, .inl ⟨hv, hn⟩⟩
    · exact ⟨ho.own.1, .inr ⟨g, cap, cur, hv, h1, (hb g (Array.getElem?_eq_some_iff.1 hg).1 ⟨_, _, _, hg⟩).trans hg, h2⟩⟩⟩

theorem CwI.own {w : World} {m Bb Bc gc cc B : Nat} {ct ys : List Int} (h1 : w.heap.size ≤ B) (h2 : Bc < B) (h3 : Bb < B) : OwnFrom B (CwI w m Bb Bc gc cc ct ys) := fun s X Y row hs hg hr => by
  obtain ⟨A, n, c, b, o, d, r, l⟩ := hs
  have hne : ∀ g, row = some g → ∃ o, X.heap[g]? = some o ∧ o.isCells = false := fun g e => (hr g e).2
  refine ⟨A, n, c, b.kept hg (fun e => by have := (hr _ e.symm).1; omega), o.kept hg.size (fun p v hc => cell_kept hc hg hne) (fun q hq hx => hg.block q hq (fun e => ?_)), d.kept hg (fun e => by have := (hr _ e.symm).1; omega), r.cells hg.size (fun p v hc => cell_kept hc hg hne), l.grown hg l.size (fun k e => by have := (hr _ e).1; omega)⟩
  obtain ⟨cs, t, f, hx⟩ := hx
  obtain ⟨o', ho', hc'⟩ := hne _ e.symm
  rw [hx] at ho'
  cases ho'
  cases hc'
theorem CwX.own {m Bb Bc B : Nat} {tm : Gw m → Nat → Array Value} {x : Gw m} {a : Act} : OwnFrom B (fun (_ : Unit) W => CwX Bb Bc tm x a W) := fun _ X Y row hs hg hr => by
  obtain ⟨Bx, h1, h2, h3, h4⟩ := hs
  refine ⟨Bx, h1, h2, ?_, h4⟩
  refine (hg.block Bx (Array.getElem?_eq_some_iff.1 h3).1 (fun e => ?_)).trans h3
  obtain ⟨_, o, ho, hc⟩ := hr _ e.symm
  rw [h3] at ho
  cases ho
  cases hc
end Go.Proofs.Ytfolbhjljpnjlaa
