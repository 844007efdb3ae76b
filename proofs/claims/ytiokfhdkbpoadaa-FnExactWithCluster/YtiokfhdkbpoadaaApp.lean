/- append of a slice that reads as numbers onto a row of the call's own: one law for the walk, whatever the source is (nil, empty, cut). No program is named here. -/
import Derived.Test.YtiokfhdkbpoadaaMem
import Derived.Laws.AppendOwnNone
import Derived.OwnWalk
namespace Go.Proofs.Ytiokfhdkbpoadaa
open Go.RowKit

theorem int_one (ys : List Int) : ∀ u ∈ iv ys, u.oneCell' = true := ints_oneCell .i64 ys

section
variable {P : Program}

theorem run_append_nilsrc (w : World) (base : Nat) (t ty e : TypeId) (i : TypeInfo) (size : Nat) (ht : P.underlying t = some (.slice e)) (hi : P.info? e = some i)
    (v : Value) (n : Nat) (xs : List Value) (ho : w.ownsRow base e size v n xs) (c : Nat) : (Builtin.append_ #[t, t] ty #[v, .slice none 0 c]).run P w = .ok v w := by
  rcases ho.2 with ⟨rfl, rfl⟩ | ⟨g, cap, cur, rfl, _, _, hnc, _⟩
  · simp [Builtin.append_, run_underlying ht, sizeOf, typeInfo, hi, Builtin.lenOf, Builtin.firstCells]
  · simp [Builtin.append_, run_underlying ht, sizeOf, typeInfo, hi, Builtin.lenOf, Builtin.firstCells, hnc, storeCells]

theorem rd_news {w : World} {B m : Nat} {ad : Addr} {ys : List Int} (h : Rd w B (some ad) m ys) : ∀ j u, (iv ys)[j]? = some u → w.cell? (ad.add j) = some u := by
  intro j u hu
  have hj : j < ys.length := by
    have := (List.getElem?_eq_some_iff.1 hu).1
    rwa [iv_length] at this
  have hl := h.len
  obtain ⟨b, off, e, _, hc⟩ := h.2 (by omega)
  injection e with e
  subst e
  rw [iv_get ys j hj] at hu
  rw [Addr.add_lit, hc j (by omega)]
  exact hu

theorem wpList_append_rd {w : World} {ops : Array Oper} {rest : List Oper} {o : Oper} {a : Act} {Q : Exit → Act → World → Prop} (hgd : o.guard = none) (s x : Operand) (t : TypeId)
    (ho : o.op = .call { callee := .builtin .append, args := #[s, x], argTypes := #[t, t] })
    (i : TypeInfo) (ht : P.underlying t = some (.slice 2)) (hi : P.info? 2 = some i) (hz : i.zero = some (.int .i64 0)) (hsize : i.size = 1) (hby : i.bytes = 8)
    (lo hi' : Nat) (A : Option Addr) (n c : Nat) (xs : List Int) (hs : a.eval s = .slice A n c) (hown : Ow w lo hi' A n c xs)
    (B : Nat) (A' : Option Addr) (m c' : Nat) (ys : List Int) (hx : a.eval x = .slice A' m c') (hr : Rd w B A' m ys) (hnm : n + m ≤ 16777216) (hlo : lo ≤ w.heap.size)
    (h : ∀ (D : Option Addr) (cd : Nat) (w' : World), Ow w' lo w'.heap.size D (n + m) cd (xs ++ ys) → w.grownBy w' (Value.ownBlock (.slice A n c)) → (D = none → A = none) → wpList P ops Q rest (a.put o.dst (.slice D (n + m) cd)) w') :
    wpList P ops Q (o :: rest) a w := by
  have hl := hr.len
  rcases A' with _ | ad
  · have hm : m = 0 := by
      rcases Nat.eq_zero_or_pos m with h0 | h0
      · exact h0
      · obtain ⟨_, _, e, _⟩ := hr.2 h0
        cases e
    subst hm
    obtain rfl : ys = [] := List.eq_nil_of_length_eq_zero hl
    refine wpList_plain hgd fun K hK => ?_
    have hrun := run_append_nilsrc (P := P) w lo t o.type 2 i 1 ht hi (.slice A n c) n _ hown.own c'
    unfold Oper.wp
    simp [execOp, ho, resolve, invoke, builtin, hs, hx, hrun, Result.andThen]
    refine hK _ _ (h A c w ?_ (grown_refl _ _) id)
    rw [List.append_nil]
    exact ⟨hown.own, fun g hg => (hown.own.lt g hg).2⟩
  · refine wpList_append_own w hgd s x t ho lo 2 i (.int .i64 0) 1 8 ht hi hz hsize hby rfl (by decide) (.slice A n c) n (iv xs) hs hown.own ad m c' (iv ys) hx (by rw [iv_length]; omega) (rd_news hr) (int_one ys)
      (by simp only [maxLen]; omega) (by omega) hlo ?_
    intro v' w' h1 h2 h4
    rw [← iv_append] at h1
    obtain ⟨D, cd, rfl, h3⟩ := Ow.of h1
    refine h D cd w' h3 h2 (fun hD => ?_)
    subst hD
    rcases h3.form with ⟨_, hn0, hc0⟩ | ⟨g, hg, _⟩
    · rw [hn0, hc0] at h4
      have := (h4.1 rfl).1
      injection this
    · cases hg

/-- The same onto a row that is not nil: what comes out is not nil either. -/
theorem wpList_append_rs {w : World} {ops : Array Oper} {rest : List Oper} {o : Oper} {a : Act} {Q : Exit → Act → World → Prop} (hgd : o.guard = none) (s x : Operand) (t : TypeId)
    (ho : o.op = .call { callee := .builtin .append, args := #[s, x], argTypes := #[t, t] })
    (i : TypeInfo) (ht : P.underlying t = some (.slice 2)) (hi : P.info? 2 = some i) (hz : i.zero = some (.int .i64 0)) (hsize : i.size = 1) (hby : i.bytes = 8)
    (lo hi' : Nat) (g n c : Nat) (xs : List Int) (hs : a.eval s = .slice (some ⟨g, 0, none⟩) n c) (hown : Ow w lo hi' (some ⟨g, 0, none⟩) n c xs)
    (B : Nat) (A' : Option Addr) (m c' : Nat) (ys : List Int) (hx : a.eval x = .slice A' m c') (hr : Rd w B A' m ys) (hnm : n + m ≤ 16777216) (hlo : lo ≤ w.heap.size)
    (h : ∀ (g' cd : Nat) (w' : World), n + m ≤ cd → Ow w' lo w'.heap.size (some ⟨g', 0, none⟩) (n + m) cd (xs ++ ys) → w.grownBy w' (some g) → wpList P ops Q rest (a.put o.dst (.slice (some ⟨g', 0, none⟩) (n + m) cd)) w') :
    wpList P ops Q (o :: rest) a w := by
  refine wpList_append_rd hgd s x t ho i ht hi hz hsize hby lo hi' (some ⟨g, 0, none⟩) n c xs hs hown B A' m c' ys hx hr hnm hlo ?_
  intro D cd w' h1 h2 h3
  rcases h1.form with ⟨e, _⟩ | ⟨g', rfl, _, _, _, h5⟩
  · cases h3 e
  · exact h g' cd w' h5 h1 h2
end
theorem below_row {w w1 w' : World} {lo hi g n c : Nat} {xs : List Int} (hb : Below w.heap.size w w1) (ho : Ow w1 lo hi (some ⟨g, 0, none⟩) n c xs) (hlo : w.heap.size ≤ lo) (hg : w1.grownBy w' (some g)) : Below w.heap.size w w' :=
  hb.grown hg hb.size (fun k h => by cases h; have := (ho.own.lt g rfl).1; omega)
end Go.Proofs.Ytiokfhdkbpoadaa
