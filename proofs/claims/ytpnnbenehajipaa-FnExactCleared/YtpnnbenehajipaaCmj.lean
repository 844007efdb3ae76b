/- Claims (chapter 6): the program's side: one more is added. -/
import Derived.Test.YtpnnbenehajipaaCmi
import Derived.Deep.RegionLaw
namespace Go.Proofs.Ytpnnbenehajipaa
open Go.RowKit

/-- Nothing that was there has turned but blocks p and g. -/
structure Grow2 (w w' : World) (p g : Nat) : Prop where
  os : w'.os = w.os
  tape : w'.tape = w.tape
  output : w'.output = w.output
  size : w.heap.size ≤ w'.heap.size
  block : ∀ k, k < w.heap.size → k ≠ p → k ≠ g → w'.heap[k]? = w.heap[k]?
theorem Grow2.refl (w : World) (p g : Nat) : Grow2 w w p g := ⟨rfl, rfl, rfl, Nat.le_refl _, fun _ _ _ _ => rfl⟩
theorem Grow2.below {w w1 w2 : World} {p g : Nat} (h : Grow2 w w1 p g) (b : Below w1.heap.size w1 w2) : Grow2 w w2 p g :=
  ⟨b.os.trans h.os, b.tape.trans h.tape, b.output.trans h.output, Nat.le_trans h.size b.size, fun k h1 h2 h3 => (b.block k (Nat.lt_of_lt_of_le h1 h.size)).trans (h.block k h1 h2 h3)⟩
theorem Grow2.after {w w1 w2 : World} {p g : Nat} (b : Below w.heap.size w w1) (h : Grow2 w1 w2 p g) : Grow2 w w2 p g :=
  ⟨h.os.trans b.os, h.tape.trans b.tape, h.output.trans b.output, Nat.le_trans b.size h.size, fun k h1 h2 h3 => (h.block k (Nat.lt_of_lt_of_le h1 b.size) h2 h3).trans (b.block k h1)⟩
theorem Grow2.next {w w1 w2 : World} {p g g1 : Nat} (h : Grow2 w w1 p g) (hg : g1 = g ∨ w.heap.size ≤ g1) (h2 : Grow2 w1 w2 p g1) : Grow2 w w2 p g :=
  ⟨h2.os.trans h.os, h2.tape.trans h.tape, h2.output.trans h.output, Nat.le_trans h.size h2.size, fun k hk hp hne => (h2.block k (Nat.lt_of_lt_of_le hk h.size) hp (fun e => by
    rcases hg with hg | hg
    · exact hne (by rw [e, hg])
    · omega)).trans (h.block k hk hp hne)⟩
theorem Grow2.put {w w1 : World} {p g : Nat} (h : Grow2 w w1 p g) (j : Nat) (v : Value) : Grow2 w (w1.setCell ⟨p, j, none⟩ v) p g :=
  ⟨h.os, h.tape, h.output, by simpa [World.setCell] using h.size, fun k h1 h2 h3 => (Below.heap_setCell _ _ _ _ h2).trans (h.block k h1 h2 h3)⟩
theorem Grow2.drew {w w1 : World} {p g : Nat} (h : Grow2 w w1 p g) : Grow2 w w1.drew p g := ⟨h.os, h.tape, h.output, h.size, h.block⟩
theorem Grow2.rd {w w' : World} {p g lo n : Nat} {A : Option Addr} {xs : List Int} (h : Grow2 w w' p g) (hr : Rd w lo A n xs) (hp : lo ≤ p) (hg : lo ≤ g) (hl : lo ≤ w.heap.size) : Rd w' lo A n xs :=
  hr.keep fun q hq => World.cell?_of_block (w := w) (h.block q.block (by omega) (by omega) (by omega))
theorem Grow2.toBelow {w0 w w' : World} {p g : Nat} (b : Below w0.heap.size w0 w) (h : Grow2 w w' p g) (hp : w0.heap.size ≤ p) (hg : w0.heap.size ≤ g) : Below w0.heap.size w0 w' :=
  ⟨h.os.trans b.os, h.tape.trans b.tape, h.output.trans b.output, Nat.le_trans b.size h.size, fun k hk => (h.block k (Nat.lt_of_lt_of_le hk b.size) (by omega) (by omega)).trans (b.block k hk)⟩

/-- The list at p is l now; its old row still reads as old; nothing else has turned. -/
def RetL (w : World) (lo p : Nat) (A : Option Addr) (n cb : Nat) (size : Int) (g : Nat) (old l : List Cm) (w' : World) : Prop :=
  ∃ g' cap', LBox w' p A n cb size g' l.length cap' ∧ OwV 43 6 w' lo w'.heap.size g' l.length cap' (l.flatMap cmV) ∧ (g' = g ∨ w.heap.size ≤ g') ∧ Grow2 w w' p g ∧ RdV 6 w' w'.heap.size (some ⟨g, 0, none⟩) old.length (old.flatMap cmV)

theorem RdV.grow2 {w w' : World} {p g q n : Nat} {cs : List Value} {B : Nat} (h : RdV 6 w B (some ⟨q, 0, none⟩) n cs) (hg : Grow2 w w' p g) (hq : q < w.heap.size) (hp : q ≠ p) (hne : q ≠ g) : RdV 6 w' B (some ⟨q, 0, none⟩) n cs :=
  ⟨h.1, fun hn => by
    obtain ⟨b', off, e, hb', hc⟩ := h.2 hn
    injection e with e
    injection e with e1 e2
    subst e1; subst e2
    exact ⟨q, 0, rfl, hb', fun j hj => (World.cell?_of_block (w := w) (hg.block q hq hp hne)).trans (hc j hj)⟩⟩

/-- One step behind others. -/
theorem RetL.next {w w1 w2 : World} {lo p : Nat} {A : Option Addr} {n cb : Nat} {size : Int} {g g1 : Nat} {l l1 l2 : List Cm} (hG : Grow2 w w1 p g) (hg1 : g1 = g ∨ w.heap.size ≤ g1) (hold : RdV 6 w1 w1.heap.size (some ⟨g, 0, none⟩) l.length (l.flatMap cmV)) (hp : l <+: l1) (hgl : g < w1.heap.size) (hgp : g ≠ p)
    (h : RetL w1 lo p A n cb size g1 l1 l2 w2) : RetL w lo p A n cb size g l l2 w2 := by
  obtain ⟨g2, c2, b2, o2, at2, G2, old2⟩ := h
  refine ⟨g2, c2, b2, o2, ?_, hG.next hg1 G2, ?_⟩
  · have := hG.size
    omega
  · by_cases he : g1 = g
    · subst he
      obtain ⟨t, rfl⟩ := hp
      rw [List.flatMap_append] at old2
      exact old2.front (flat_length cmV 6 cmV_length l) (by omega)
    · exact (hold.grow2 G2 hgl hgp (fun e => he e.symm)).more G2.size

set_option maxRecDepth 100000 in
set_option maxHeartbeats 4000000 in
theorem add_any (A : Option Addr) (n cb : Nat) (xs : List Int) (size : Int) (p g cap lo : Nat) (l : List Cm) (c : Cm) (w : World) (hr : Rd w w.heap.size A n xs) (hn : n ≤ 2097152) (him : imgB xs = true) (hl : l.length ≤ 100000)
    (hb : LBox w p A n cb size g l.length cap) (ho : OwV 43 6 w lo w.heap.size g l.length cap (l.flatMap cmV)) (hpl : p < lo) (hlo : lo ≤ w.heap.size) :
    Calls Try.prog 51 #[.pointer (some ⟨p, 0, none⟩), cmA c] w (fun e w' => e = .returned (.bool (goodB xs size l c)) ∧ RetL w lo p A n cb size g l (addC xs size l c) w') := by
  obtain ⟨i0, hi0, hz0, hz1, hz2⟩ := info_parts infoCm
  obtain ⟨ck, cf, cs, cp, ct, cg⟩ := c
  have hgl := ho.lt
  have hgo := ho.low
  have B0 := (Below.refl w.heap.size w).alloc (Nat.le_refl _) (.cells #[.int .i64 ck, .int .i64 cf, .int .i64 cs, .int .i64 cp, .int .i64 ct, .bool cg] 43)
  have hb0 := hb.keep (w' := w.alloc (.cells #[.int .i64 ck, .int .i64 cf, .int .i64 cs, .int .i64 cp, .int .i64 ct, .bool cg] 43)) (Below.heap_alloc _ _ _ (by omega))
  have ho0 := ho.keep (w' := w.alloc (.cells #[.int .i64 ck, .int .i64 cf, .int .i64 cs, .int .i64 cp, .int .i64 ct, .bool cg] 43)) (Below.heap_alloc _ _ _ hgl)
  have hc0 : BoxC (w.alloc (.cells #[.int .i64 ck, .int .i64 cf, .int .i64 cs, .int .i64 cp, .int .i64 ct, .bool cg] 43)) w.heap.size ⟨ck, cf, cs, cp, ct, cg⟩ := heap_alloc_new w _
  have hz0' : w.heap.size + 1 = (w.alloc (.cells #[.int .i64 ck, .int .i64 cf, .int .i64 cs, .int .i64 cp, .int .i64 ct, .bool cg] 43)).heap.size := by simp
  have hr0 := (hr.below B0).more B0.size
  have HE : Hid (addC xs size l ⟨ck, cf, cs, cp, ct, cg⟩ = l ++ [⟨ck, cf, cs, cp, ct, goodB xs size l ⟨ck, cf, cs, cp, ct, cg⟩⟩]) := rfl
  unfold cmA
  go_enter Try.func51, Try.ntmps51
  go_wp2_with fail
  refine (would_any A n cb xs size p g cap lo _ l ⟨ck, cf, cs, cp, ct, cg⟩ (w.alloc (.cells #[.int .i64 ck, .int .i64 cf, .int .i64 cs, .int .i64 cp, .int .i64 ct, .bool cg] 43)) hr0 hn him hl hb0 ho0).mono ?_
  rintro e w1 ⟨rfl, b1⟩
  generalize hv : goodB xs size l ⟨ck, cf, cs, cp, ct, cg⟩ = v at *
  have HV := Lib.hid hv
  clear hv
  clear ho hb hr
  generalize (w.alloc (.cells #[.int .i64 ck, .int .i64 cf, .int .i64 cs, .int .i64 cp, .int .i64 ct, .bool cg] 43)) = w0 at *
  have hq : w.heap.size < w0.heap.size := by omega
  have s1 := b1.size
  have hf5 : w1.frozen? ⟨w.heap.size, 5, none⟩ = false := (hc0.keep (b1.block _ hq)).free 5
  have hc5 : w1.cell? ⟨w.heap.size, 5, none⟩ = some (.bool cg) := (hc0.keep (b1.block _ hq)).cell 5
  have hb1 := (hb0.keep (b1.block p (by omega))).keep (w' := w1.setCell ⟨w.heap.size, 5, none⟩ (.bool v)) (Below.heap_setCell _ _ _ _ (by show p ≠ w.heap.size; omega))
  have ho1 := (ho0.keep (b1.block g (by omega))).keep (w' := w1.setCell ⟨w.heap.size, 5, none⟩ (.bool v)) (Below.heap_setCell _ _ _ _ (by show g ≠ w.heap.size; omega))
  have hc1 := (hc0.keep (b1.block _ hq)).good v
  have B1 := (below_more B0 b1 B0.size).setCell (p := ⟨w.heap.size, 5, none⟩) (Nat.le_refl _) (.bool v)
  have hq1 : w.heap.size < (w1.setCell ⟨w.heap.size, 5, none⟩ (.bool v)).heap.size := by simp [World.setCell]; omega
  clear hb0 ho0 hc0 hr0 B0
  go_wp2_with fail
  clear hf5 hc5 b1 s1
  generalize w1.setCell ⟨w.heap.size, 5, none⟩ (.bool v) = w2 at *
  have c0 : w2.cell? ⟨w.heap.size, 0, none⟩ = some (.int .i64 ck) := hc1.cell 0
  have c1 : w2.cell? ⟨w.heap.size, 1, none⟩ = some (.int .i64 cf) := hc1.cell 1
  have c2 : w2.cell? ⟨w.heap.size, 2, none⟩ = some (.int .i64 cs) := hc1.cell 2
  have c3 : w2.cell? ⟨w.heap.size, 3, none⟩ = some (.int .i64 cp) := hc1.cell 3
  have c4 : w2.cell? ⟨w.heap.size, 4, none⟩ = some (.int .i64 ct) := hc1.cell 4
  have c5 : w2.cell? ⟨w.heap.size, 5, none⟩ = some (.bool v) := hc1.cell 5
  have hp2 : p < w2.heap.size := by omega
  have p2 : w2.cell? ⟨p, 2, none⟩ = some (.slice (some ⟨g, 0, none⟩) l.length cap) := hb1.cell 2
  go_region_law ((refine step_append_lit (by rfl) _ _ _ (by rfl) 43 6 48 _ i0 Try.underlying35 hi0 hz0 hz1 hz2 rfl (by omega) (by omega) lo _ g l.length cap _ (by rfl) ho1 #[.int .i64 ck, .int .i64 cf, .int .i64 cs, .int .i64 cp, .int .i64 ct, .bool v] 1 1 (by rfl) (by rfl) (by simp [Value.oneCell']) (by omega) (by omega) ?_; intro g2 cd w5 ho5 hgrow hat hold; have hb5 := hb1.keep (w' := w5) ((hgrow.block p (by simp; omega) (fun e => by injection e with e; omega)).trans (Below.heap_alloc _ _ _ hp2)); have f25 := hb5.free 2; have p25 : w5.cell? ⟨p, 2, none⟩ = some (.slice (some ⟨g, 0, none⟩) l.length cap) := hb5.cell 2))
  all_goals
    have hgo2 := ho5.low
    have hc6 : (w5.setCell ⟨p, 2, none⟩ (.slice (some ⟨g2, 0, none⟩) (l.length + 1) cd)).cell? ⟨w.heap.size, 5, none⟩ = some (.bool v) := by
      refine (World.cell?_of_block (w := w5) (Below.heap_setCell _ _ _ _ (by show w.heap.size ≠ p; omega))).trans ?_
      exact (hgrow.cell_far (w := (w2.alloc (.cells #[.int .i64 ck, .int .i64 cf, .int .i64 cs, .int .i64 cp, .int .i64 ct, .bool v] 43)).drew) ⟨w.heap.size, 5, none⟩ (by simp; omega) (fun e => by injection e with e; have : w.heap.size = g := e; omega)).trans ((World.cell?_alloc_lt _ _ _ hq1).trans c5)
    have HG : Hid (Grow2 w w5 p g) := Grow2.after B1 ⟨hgrow.os, hgrow.tape, hgrow.output, Nat.le_trans (by simp) hgrow.size, fun k h1 _ h3 => (hgrow.block k (by simp; omega) (fun e => by injection e with e; omega)).trans (Below.heap_alloc _ _ _ h1)⟩
    go_wp2_with fail
    go_ret
    refine ⟨by rw [HV.out]; rfl, ?_⟩
    rw [HE.out]
    have hk2 : ∀ q, q ≠ p → (w5.setCell ⟨p, 2, none⟩ (.slice (some ⟨g2, 0, none⟩) (l.length + 1) cd)).heap[q]? = w5.heap[q]? := fun q hq => Below.heap_setCell _ _ _ _ hq
    refine ⟨g2, cd, ?_, ?_, by omega, HG.out.put _ _, ?_⟩
    · simpa using hb5.put g2 (l.length + 1) cd
    · have := ho5.keep (hk2 g2 (by omega))
      simpa [cmV, World.setCell] using this
    · have hs5 := HG.out.size
      exact (hold.grow2 ((Grow2.refl w5 p p).put 2 (.slice (some ⟨g2, 0, none⟩) (l.length + 1) cd)) (by omega) (by omega) (by omega)).more (by simp [World.setCell])

end Go.Proofs.Ytpnnbenehajipaa
