/- Words for memory: a slice of int64 that reads as a list; one that the call itself made. Plain theorems on worlds; no program is named here. -/
import Derived.WalkKit
import Derived.Below
import Derived.Laws.OwnMore
import Derived.Deep.Draws
namespace Go.Proofs.Ytiokfhdkbpoadaa
open Go.RowKit

def iv (xs : List Int) : List Value := xs.map (Value.int .i64)

theorem iv_length (xs : List Int) : (iv xs).length = xs.length := by simp [iv]
theorem iv_get (xs : List Int) (j : Nat) (h : j < xs.length) : (iv xs)[j]? = some (.int .i64 (xs.getD j 0)) := by
  simp [iv, List.getD_eq_getElem?_getD, h]
theorem iv_set (xs : List Int) (j : Nat) (x : Int) : (iv xs).set j (.int .i64 x) = iv (xs.set j x) := by simp [iv, List.map_set]
theorem iv_append (xs ys : List Int) : iv (xs ++ ys) = iv xs ++ iv ys := by simp [iv]

/-- The slice value '.slice A n c' reads as the numbers xs, and lies below block B. -/
def Rd (w : World) (B : Nat) (A : Option Addr) (n : Nat) (xs : List Int) : Prop :=
  xs.length = n ∧ (0 < n → ∃ b off, A = some ⟨b, off, none⟩ ∧ b < B ∧ ∀ j, j < n → w.cell? ⟨b, off + j, none⟩ = some (.int .i64 (xs.getD j 0)))

section
variable {w w' : World} {B B' n : Nat} {A : Option Addr} {xs : List Int}
theorem Rd.nil (w : World) (B : Nat) (A : Option Addr) : Rd w B A 0 [] := ⟨rfl, fun h => absurd h (by omega)⟩
theorem Rd.len (h : Rd w B A n xs) : xs.length = n := h.1
theorem Rd.keep (h : Rd w B A n xs) (hk : ∀ p : Addr, p.block < B → w'.cell? p = w.cell? p) : Rd w' B A n xs :=
  ⟨h.1, fun hn => by
    obtain ⟨b, off, e, hb, hc⟩ := h.2 hn
    exact ⟨b, off, e, hb, fun j hj => (hk ⟨b, off + j, none⟩ hb).trans (hc j hj)⟩⟩
theorem Rd.more (h : Rd w B A n xs) (hB : B ≤ B') : Rd w B' A n xs :=
  ⟨h.1, fun hn => by
    obtain ⟨b, off, e, hb, hc⟩ := h.2 hn
    exact ⟨b, off, e, by omega, hc⟩⟩
theorem Rd.below (h : Rd w B A n xs) (hb : Below B w w') : Rd w' B A n xs := h.keep fun _ hp => hb.cell hp
theorem Rd.drewN (h : Rd w B A n xs) (k : Nat) : Rd (w.drewN k) B A n xs := h
end

/-- The slice value '.slice A n c' is a row of the call's own, in a block from lo on and below hi, and its elements are xs. -/
structure Ow (w : World) (lo hi : Nat) (A : Option Addr) (n c : Nat) (xs : List Int) : Prop where
  own : w.ownsRow lo 2 1 (.slice A n c) n (iv xs)
  top : ∀ g, Value.ownBlock (.slice A n c) = some g → g < hi

section
variable {w w' : World} {lo hi n c : Nat} {A : Option Addr} {xs : List Int}
theorem Ow.len (h : Ow w lo hi A n c xs) : xs.length = n := by
  have := h.own.1
  rw [iv_length] at this
  omega
theorem Ow.form (h : Ow w lo hi A n c xs) : (A = none ∧ n = 0 ∧ c = 0) ∨ ∃ g, A = some ⟨g, 0, none⟩ ∧ lo ≤ g ∧ g < hi ∧ g < w.heap.size ∧ n ≤ c := by
  have hl := h.own.lt
  rcases h.own.2 with ⟨hv, hn⟩ | ⟨g, cap, cur, hv, hb, hg, hnc, _⟩
  · injection hv with h1 h2 h3
    exact .inl ⟨h1, h2, h3⟩
  · injection hv with h1 h2 h3
    subst h1
    exact .inr ⟨g, rfl, hb, h.top g rfl, (hl g rfl).2, by omega⟩
theorem Ow.rd (h : Ow w lo hi A n c xs) : Rd w hi A n xs := by
  refine ⟨h.len, fun hn => ?_⟩
  have hle := h.len
  have hw := h.own
  rcases h.form with ⟨_, h0, _⟩ | ⟨g, rfl, h1, h2, h3, h4⟩
  · omega
  · refine ⟨g, 0, rfl, h2, fun j hj => ?_⟩
    rw [Nat.zero_add, hw.cellAt j (by omega), iv_get xs j (by omega)]
theorem Ow.cell {g : Nat} (h : Ow w lo hi (some ⟨g, 0, none⟩) n c xs) {j : Nat} (hj : j < n) : w.cell? ⟨g, j, none⟩ = some (.int .i64 (xs.getD j 0)) := by
  have hle := h.len
  rw [h.own.cellAt j (by omega), iv_get xs j (by omega)]
theorem Ow.free {g : Nat} (h : Ow w lo hi (some ⟨g, 0, none⟩) n c xs) (j : Nat) : w.frozen? ⟨g, j, none⟩ = false := h.own.frozenAt j
theorem Ow.keep (h : Ow w lo hi A n c xs) (hk : ∀ g, lo ≤ g → g < hi → g < w.heap.size → w'.heap[g]? = w.heap[g]?) : Ow w' lo hi A n c xs := by
  refine ⟨⟨h.own.1, ?_⟩, h.top⟩
  have ht := h.top
  have hl := h.own.lt
  rcases h.own.2 with hn | ⟨g, cap, cur, hv, hb, hg, rest⟩
  · exact .inl hn
  · refine .inr ⟨g, cap, cur, hv, hb, ?_, rest⟩
    rw [hv] at ht hl
    rw [hk g hb (ht g rfl) (hl g rfl).2]
    exact hg
theorem Ow.below {B : Nat} (h : Ow w lo hi A n c xs) (hb : Below B w w') (hB : hi ≤ B) : Ow w' lo hi A n c xs := h.keep fun g _ h2 _ => hb.block g (by omega)
theorem Ow.grown {row : Option Nat} (h : Ow w lo hi A n c xs) (hg : w.grownBy w' row) (hr : ∀ g, row = some g → g < lo ∨ hi ≤ g) : Ow w' lo hi A n c xs :=
  h.keep fun g h1 h2 h3 => hg.block g h3 (fun e => by have := hr g e.symm; omega)
theorem Ow.drewN (h : Ow w lo hi A n c xs) (k : Nat) : Ow (w.drewN k) lo hi A n c xs := h.keep fun _ _ _ _ => rfl
theorem Ow.more {lo' hi' : Nat} (h : Ow w lo hi A n c xs) (h1 : lo' ≤ lo) (h2 : hi ≤ hi') : Ow w lo' hi' A n c xs := by
  refine ⟨⟨h.own.1, ?_⟩, fun g hg => by have := h.top g hg; omega⟩
  rcases h.own.2 with hn | ⟨g, cap, cur, hv, hb, rest⟩
  · exact .inl hn
  · exact .inr ⟨g, cap, cur, hv, by omega, rest⟩
theorem Ow.set {g : Nat} (h : Ow w lo hi (some ⟨g, 0, none⟩) n c xs) (j : Nat) (x : Int) :
    Ow (w.setCell ⟨g, j, none⟩ (.int .i64 x)) lo hi (some ⟨g, 0, none⟩) n c (xs.set j x) ∧ w.grownBy (w.setCell ⟨g, j, none⟩ (.int .i64 x)) (some g) := by
  obtain ⟨h1, h2⟩ := h.own.stored j (.int .i64 x)
  rw [iv_set] at h1
  exact ⟨⟨h1, h.top⟩, h2⟩
end

/-- Out of a law that ends in 'ownsRow'. -/
theorem Ow.of {w : World} {lo n : Nat} {v : Value} {xs : List Int} (h : w.ownsRow lo 2 1 v n (iv xs)) : ∃ A c, v = .slice A n c ∧ Ow w lo w.heap.size A n c xs := by
  have hl := h.lt
  rcases h.2 with ⟨hv, hn⟩ | ⟨g, cap, cur, hv, _⟩
  · subst hv; subst hn
    exact ⟨none, 0, rfl, h, fun g hg => (hl g hg).2⟩
  · subst hv
    exact ⟨_, _, rfl, h, fun g hg => (hl g hg).2⟩

theorem below_drewN {B : Nat} {a w : World} (h : Below B a w) (n : Nat) : Below B a (w.drewN n) := ⟨h.os, h.tape, h.output, h.size, h.block⟩
theorem grown_refl (w : World) (r : Option Nat) : w.grownBy w r := ⟨rfl, rfl, rfl, Nat.le_refl _, fun _ _ _ => rfl⟩
theorem grown_trans {a b c : World} {r : Option Nat} (h : a.grownBy b r) (k : b.grownBy c r) : a.grownBy c r :=
  ⟨k.os.trans h.os, k.tape.trans h.tape, k.output.trans h.output, Nat.le_trans h.size k.size, fun i hi hn => (k.block i (Nat.lt_of_lt_of_le hi h.size) hn).trans (h.block i hi hn)⟩
theorem below_grown {B : Nat} {w w' : World} {r : Option Nat} (h : w.grownBy w' r) (hB : B ≤ w.heap.size) (hr : ∀ k, r = some k → B ≤ k) : Below B w w' :=
  (Below.refl _ _).grown h hB hr
theorem below_more {B : Nat} {a b c : World} (h : Below B a b) (k : Below b.heap.size b c) (hB : B ≤ b.heap.size) : Below B a c := h.trans (k.mono hB)

end Go.Proofs.Ytiokfhdkbpoadaa
