/- The cursor of a draw: whatever bytes it goes over, each number that it gives is in its range; nothing is written but the cursor's own block. -/
import Derived.Test.YtieknpkbmccimabGreatDoorG0
namespace Go.Proofs.YtieknpkbmccimabGreatDoor
open Go.RowKit

/-- The slice value '.slice A n c' reads as bytes xs, and lies below block B. -/
def Rd8 (w : World) (B : Nat) (A : Option Addr) (n : Nat) (xs : List Int) : Prop :=
  xs.length = n ∧ (0 < n → ∃ b off, A = some ⟨b, off, none⟩ ∧ b < B ∧ ∀ j, j < n → w.cell? ⟨b, off + j, none⟩ = some (.int .u8 (xs.getD j 0)))
theorem Rd8.nil (w : World) (B : Nat) (A : Option Addr) : Rd8 w B A 0 [] := ⟨rfl, fun h => absurd h (by omega)⟩
theorem Rd8.keep {w w' : World} {B n : Nat} {A : Option Addr} {xs : List Int} (h : Rd8 w B A n xs) (hk : ∀ p : Addr, p.block < B → w'.cell? p = w.cell? p) : Rd8 w' B A n xs :=
  ⟨h.1, fun hn => by
    obtain ⟨b, off, e, hb, hc⟩ := h.2 hn
    exact ⟨b, off, e, hb, fun j hj => (hk ⟨b, off + j, none⟩ hb).trans (hc j hj)⟩⟩
theorem Rd8.more {w : World} {B B' n : Nat} {A : Option Addr} {xs : List Int} (h : Rd8 w B A n xs) (hB : B ≤ B') : Rd8 w B' A n xs :=
  ⟨h.1, fun hn => by
    obtain ⟨b, off, e, hb, hc⟩ := h.2 hn
    exact ⟨b, off, e, by omega, hc⟩⟩
theorem Rd8.below {w w' : World} {B n : Nat} {A : Option Addr} {xs : List Int} (h : Rd8 w B A n xs) (hb : Below B w w') : Rd8 w' B A n xs := h.keep fun _ hp => hb.cell hp

/-- Block g is a cursor over the bytes xs that lie below block B: i of them are read. -/
structure CurAt (w : World) (g B : Nat) (A : Option Addr) (n c : Nat) (xs : List Int) (i : Nat) (h : Int) : Prop where
  lo : B ≤ g
  lt : g < w.heap.size
  small : n ≤ 4096
  here : i ≤ n
  rd : Rd8 w B A n xs
  c0 : w.cell? ⟨g, 0, none⟩ = some (.slice A n c)
  c1 : w.cell? ⟨g, 1, none⟩ = some (.int .i64 i)
  c2 : w.cell? ⟨g, 2, none⟩ = some (.int .i64 h)
  free : ∀ j, w.frozen? ⟨g, j, none⟩ = false
def Cur (w : World) (g B : Nat) : Prop := ∃ A n c xs i h, CurAt w g B A n c xs i h

theorem grown_cell (w : World) (g j : Nat) (v : Value) : w.grownBy (w.setCell ⟨g, j, none⟩ v) (some g) :=
  ⟨rfl, rfl, rfl, by simp [World.setCell], fun k _ hne => Below.heap_setCell _ _ _ _ (fun e => hne (by rw [e]))⟩
theorem grown_alloc (w : World) (o : Obj) (r : Option Nat) : w.grownBy (w.alloc o) r := ⟨rfl, rfl, rfl, by simp, fun k hk _ => Below.heap_alloc _ _ _ hk⟩
theorem far_cell {w : World} {g j : Nat} {p : Addr} (v : Value) (h : p.block ≠ g) : (w.setCell ⟨g, j, none⟩ v).cell? p = w.cell? p := World.cell?_of_block (w := w) (Below.heap_setCell _ _ _ _ h)
theorem grown_drewN {a w : World} {r : Option Nat} (h : a.grownBy w r) (k : Nat) : a.grownBy (w.drewN k) r := ⟨h.os, h.tape, h.output, h.size, h.block⟩

section
variable {w : World} {g B n c i : Nat} {A : Option Addr} {xs : List Int} {h : Int}
theorem CurAt.drewN (hc : CurAt w g B A n c xs i h) (k : Nat) : CurAt (w.drewN k) g B A n c xs i h := ⟨hc.lo, hc.lt, hc.small, hc.here, hc.rd, hc.c0, hc.c1, hc.c2, hc.free⟩
theorem CurAt.set2 (hc : CurAt w g B A n c xs i h) (h' : Int) : CurAt (w.setCell ⟨g, 2, none⟩ (.int .i64 h')) g B A n c xs i h' := by
  refine ⟨hc.lo, by simpa [World.setCell] using hc.lt, hc.small, hc.here, hc.rd.keep fun p hp => far_cell _ (by have := hc.lo; omega), ?_, ?_, World.cell?_setCell_same _ _ _ hc.c2, fun j => by rw [World.frozen?_setCell]; exact hc.free j⟩
  · rw [World.cell?_setCell_other _ _ _ _ (by simp)]; exact hc.c0
  · rw [World.cell?_setCell_other _ _ _ _ (by simp)]; exact hc.c1
theorem CurAt.set1 (hc : CurAt w g B A n c xs i h) (i' : Nat) (hi : i' ≤ n) (x : Int) (hx : x = i') : CurAt (w.setCell ⟨g, 1, none⟩ (.int .i64 x)) g B A n c xs i' h := by
  subst hx
  refine ⟨hc.lo, by simpa [World.setCell] using hc.lt, hc.small, hi, hc.rd.keep fun p hp => far_cell _ (by have := hc.lo; omega), ?_, World.cell?_setCell_same _ _ _ hc.c1, ?_, fun j => by rw [World.frozen?_setCell]; exact hc.free j⟩
  · rw [World.cell?_setCell_other _ _ _ _ (by simp)]; exact hc.c0
  · rw [World.cell?_setCell_other _ _ _ _ (by simp)]; exact hc.c2
/-- What is done elsewhere leaves the cursor. -/
theorem CurAt.grown {w' : World} {r : Option Nat} (hc : CurAt w g B A n c xs i h) (hg : w.grownBy w' r) (hr : ∀ k, r = some k → g < k) : CurAt w' g B A n c xs i h := by
  have hb : ∀ k, k ≤ g → w'.heap[k]? = w.heap[k]? := fun k hk => hg.block k (by have := hc.lt; omega) (fun e => by have := hr k e.symm; omega)
  have hcell : ∀ j, w'.cell? ⟨g, j, none⟩ = w.cell? ⟨g, j, none⟩ := fun j => World.cell?_of_block (w := w) (hb g (Nat.le_refl _))
  exact ⟨hc.lo, Nat.lt_of_lt_of_le hc.lt hg.size, hc.small, hc.here, hc.rd.keep fun p hp => World.cell?_of_block (w := w) (hb p.block (by have := hc.lo; omega)), (hcell 0).trans hc.c0, (hcell 1).trans hc.c1, (hcell 2).trans hc.c2,
    fun j => (World.frozen?_of_block (w := w) (hb g (Nat.le_refl _))).trans (hc.free j)⟩
end
theorem Cur.grown {w w' : World} {g B : Nat} {r : Option Nat} (hc : Cur w g B) (hg : w.grownBy w' r) (hr : ∀ k, r = some k → g < k) : Cur w' g B := by
  obtain ⟨A, n, c, xs, i, h, hc⟩ := hc
  exact ⟨A, n, c, xs, i, h, hc.grown hg hr⟩

/-- It answers a number with P; the cursor goes on; nothing else has turned. -/
def DrawInt (g B : Nat) (w : World) (P : Int → Prop) (e : Ending) (w' : World) : Prop :=
  ∃ x : Int, P x ∧ e = .returned (.int .i64 x) ∧ Cur w' g B ∧ w.grownBy w' (some g)

theorem and255 (a : Int) : 0 ≤ bits .and .i64 a 255 ∧ bits .and .i64 a 255 ≤ 255 := by
  have h : (BitVec.ofInt 64 a &&& BitVec.ofInt 64 255).toNat ≤ 255 := by
    rw [BitVec.toNat_and]
    exact Nat.and_le_right
  have e : bits .and .i64 a 255 = IntKind.i64.wrap ((BitVec.ofInt 64 a &&& BitVec.ofInt 64 255).toNat : Int) := rfl
  rw [e, IntKind.wrap_i64]
  omega

theorem DrawInt.mk {g B : Nat} {w w' : World} {P : Int → Prop} {x : Int} (hp : P x) {A : Option Addr} {n c i : Nat} {xs : List Int} {h : Int} (hc : CurAt w' g B A n c xs i h) (hg : w.grownBy w' (some g)) : DrawInt g B w P (.returned (.int .i64 x)) w' := ⟨x, hp, rfl, ⟨_, _, _, _, _, _, hc⟩, hg⟩

set_option maxHeartbeats 1000000 in
theorem byte_any (g B : Nat) (w : World) (hc : Cur w g B) :
    Calls Tryz.prog 99 #[.pointer (some ⟨g, 0, none⟩)] w (DrawInt g B w (fun x => 0 ≤ x ∧ x ≤ 255)) := by
  obtain ⟨A, n, c, xs, i, h, hc⟩ := hc
  have h0 := hc.c0
  have h1 := hc.c1
  have h2 := hc.c2
  have hf0 := hc.free 0
  have hf1 := hc.free 1
  have hf2 := hc.free 2
  have hn := hc.small
  have hi := hc.here
  have hlo := hc.lo
  by_cases hlt : i < n
  · obtain ⟨b, off, rfl, hb, hcx⟩ := hc.rd.2 (by omega)
    have hx : w.cell? ⟨b, off + i, none⟩ = some (.int .u8 (xs.getD i 0)) := hcx i hlt
    have hne : g ≠ b := by omega
    have hne' : b ≠ g := by omega
    clear hcx
    go_enter Tryz.func99, Tryz.ntmps99
    go_wp2_with fail
    go_quiet (fail)
    go_wp2_with fail
    go_quiet (fail)
    go_wp2_with fail
    go_quiet (fail)
    go_wp2_with fail
    go_ret
    refine DrawInt.mk (and255 _) (((hc.set2 _).drewN _).set1 (i + 1) hlt _ rfl) ?_
    exact grown_trans (grown_drewN (grown_cell _ _ _ _) _) (grown_cell _ _ _ _)
  · go_enter Tryz.func99, Tryz.ntmps99
    go_wp2_with fail
    go_quiet (fail)
    go_wp2_with fail
    go_quiet (fail)
    go_wp2_with fail
    go_ret
    refine DrawInt.mk (and255 _) (((hc.set2 _).drewN _).drewN _) ?_
    exact grown_drewN (grown_drewN (grown_cell _ _ _ _) _) _

/-- From 0 on, less than n; 0 where n is not above 0. -/
def Under (n x : Int) : Prop := (n ≤ 0 ∧ x = 0) ∨ (0 ≤ x ∧ x < n)
theorem Under.lt {n x : Int} (h : Under n x) (hn : 0 < n) : 0 ≤ x ∧ x < n := by rcases h with h | h <;> omega

theorem DrawInt.next {g B : Nat} {w w' w'' : World} {P : Int → Prop} {x : Int} (hp : P x) (hc : Cur w'' g B) (h1 : w.grownBy w' (some g)) (h2 : w'.grownBy w'' (some g)) : DrawInt g B w P (.returned (.int .i64 x)) w'' :=
  ⟨x, hp, rfl, hc, grown_trans h1 h2⟩

set_option maxHeartbeats 1000000 in
theorem below_any (g B : Nat) (n : Int) (w : World) (hc : Cur w g B) :
    Calls Tryz.prog 51 #[.pointer (some ⟨g, 0, none⟩), .int .i64 n] w (DrawInt g B w (Under n)) := by
  by_cases h0 : n ≤ 0
  · go_enter Tryz.func51, Tryz.ntmps51
    go_wp2_with fail
    go_ret
    exact ⟨0, .inl ⟨h0, rfl⟩, rfl, hc, grown_refl _ _⟩
  · have h0' : 0 < n := by omega
    by_cases h1 : n ≤ 256
    · go_enter Tryz.func51, Tryz.ntmps51
      go_wp2_with fail
      refine (byte_any g B w hc).mono ?_
      rintro e w1 ⟨x, ⟨hx0, hx1⟩, rfl, hc1, hg1⟩
      go_wp2_with fail
      go_ret
      exact ⟨_, .inr ⟨Int.emod_nonneg _ (by omega), Int.emod_lt_of_pos _ h0'⟩, rfl, hc1, hg1⟩
    · go_enter Tryz.func51, Tryz.ntmps51
      go_wp2_with fail
      refine (byte_any g B w hc).mono ?_
      rintro e w1 ⟨x1, ⟨hx0, hx1⟩, rfl, hc1, hg1⟩
      go_wp2_with fail
      refine (byte_any g B w1 hc1).mono ?_
      rintro e w2 ⟨x2, ⟨hy0, hy1⟩, rfl, hc2, hg2⟩
      go_wp2_with fail
      refine (byte_any g B w2 hc2).mono ?_
      rintro e w3 ⟨x3, ⟨hz0, hz1⟩, rfl, hc3, hg3⟩
      go_wp2_with fail
      refine (byte_any g B w3 hc3).mono ?_
      rintro e w4 ⟨x4, ⟨hu0, hu1⟩, rfl, hc4, hg4⟩
      go_wp2_with fail
      go_ret
      exact ⟨_, .inr ⟨Int.emod_nonneg _ (by omega), Int.emod_lt_of_pos _ h0'⟩, rfl, hc4, grown_trans (grown_trans (grown_trans hg1 hg2) hg3) hg4⟩

/-- It answers yes or no; the cursor goes on; nothing else has turned. -/
def DrawBool (g B : Nat) (w : World) (e : Ending) (w' : World) : Prop :=
  ∃ x : Bool, e = .returned (.bool x) ∧ Cur w' g B ∧ w.grownBy w' (some g)

theorem once_any (g B : Nat) (n : Int) (w : World) (hc : Cur w g B) :
    Calls Tryz.prog 30 #[.pointer (some ⟨g, 0, none⟩), .int .i64 n] w (DrawBool g B w) := by
  go_enter Tryz.func30, Tryz.ntmps30
  go_wp2_with fail
  refine (below_any g B n w hc).mono ?_
  rintro e w1 ⟨x, hx, rfl, hc1, hg1⟩
  have HX := Lib.hid hx
  clear hx
  go_wp2_with fail
  go_ret
  exact ⟨_, rfl, hc1, hg1⟩

theorem min_any (a b : Int) (w : World) : Calls Tryz.prog 103 #[.int .i64 a, .int .i64 b] w fun e w' => e = .returned (.int .i64 (if a < b then a else b)) ∧ w = w' := by
  by_cases h : a < b
  · go_enter Tryz.func103, Tryz.ntmps103
    go_wp2_with fail
    go_ret
    exact ⟨rfl, rfl⟩
  · go_enter Tryz.func103, Tryz.ntmps103
    go_wp2_with fail
    go_ret
    exact ⟨rfl, rfl⟩

/-- A new block of numbers, read behind a draw. -/
theorem new_cell {w w' : World} {g : Nat} {t : TypeId} (xs : List Int) (hg : (w.alloc (.cells (iv xs).toArray t)).grownBy w' (some g)) (hlt : g < w.heap.size) (j : Nat) (hj : j < xs.length) :
    w'.cell? ⟨w.heap.size, j, none⟩ = some (.int .i64 (xs.getD j 0)) := by
  have hb : w'.heap[w.heap.size]? = (w.alloc (.cells (iv xs).toArray t)).heap[w.heap.size]? := hg.block _ (by simp) (fun e => by cases e; omega)
  have : w'.cell? ⟨w.heap.size, j, none⟩ = (w.alloc (.cells (iv xs).toArray t)).cell? ⟨w.heap.size, j, none⟩ := World.cell?_of_block (w := w.alloc (.cells (iv xs).toArray t)) hb
  rw [this, World.cell?_alloc_new]
  simp [iv, List.getD_eq_getElem?_getD, hj]

set_option maxHeartbeats 1000000 in
theorem odd_any (g B : Nat) (w : World) (hc : Cur w g B) :
    Calls Tryz.prog 53 #[.pointer (some ⟨g, 0, none⟩)] w (DrawInt g B w (fun _ => True)) := by
  have hlt : g < w.heap.size := by obtain ⟨_, _, _, _, _, _, h⟩ := hc; exact h.lt
  go_enter Tryz.func53, Tryz.ntmps53
  go_wp2_with fail
  refine (below_any g B 10 _ (hc.grown (grown_alloc _ _ none) (by simp))).mono ?_
  rintro e w1 ⟨x, hx, rfl, hc1, hg1⟩
  obtain ⟨h0, h1⟩ := hx.lt (by omega)
  obtain ⟨j, rfl⟩ : ∃ j : Nat, x = j := ⟨x.toNat, by omega⟩
  have hcell := new_cell (t := 2) [-1, 0, 1, 2147483648, -2147483648, 1099511627776, 4611686018427387904, -4611686018427387904, 9223372036854775807, -9223372036854775808] hg1 hlt j (by simp; omega)
  generalize List.getD [-1, 0, 1, 2147483648, -2147483648, 1099511627776, 4611686018427387904, -4611686018427387904, 9223372036854775807, -9223372036854775808] j 0 = y at hcell
  have hj : j < 10 := by omega
  clear hx h0 h1
  go_wp2_with fail
  go_ret
  exact ⟨_, trivial, rfl, hc1, grown_trans (grown_alloc _ _ _) hg1⟩

/-- A new cursor. -/
def NewCur (w : World) (e : Ending) (w' : World) : Prop :=
  ∃ g, e = .returned (.pointer (some ⟨g, 0, none⟩)) ∧ Cur w' g w.heap.size ∧ Below w.heap.size w w'

set_option maxHeartbeats 1000000 in
theorem new_any (A : Option Addr) (n c : Nat) (xs : List Int) (w : World) (hr : Rd8 w w.heap.size A n xs) (hn : n ≤ 4096) :
    Calls Tryz.prog 26 #[.slice A n c] w (NewCur w) := by
  go_enter Tryz.func26, Tryz.ntmps26
  go_wp2_with fail
  go_loop [3, 4] (fun h i => ∃ (k : Nat) (x : Int), k ≤ n ∧ i = .int .i64 k ∧ h = .int .i64 x) (fun _ i => n - (intOf i).toNat)
  case atStart => exact ⟨0, _, Nat.zero_le _, rfl, rfl⟩
  case round =>
    obtain ⟨k, x, hk, rfl, rfl⟩ := hrel
    by_cases hlt : k < n
    · obtain ⟨b, off, rfl, hb, hc⟩ := hr.2 (by omega)
      have hcx := hc k hlt
      clear hc
      go_wp2_with fail
      go_round
      case rel => exact ⟨k + 1, _, by omega, by go_num, rfl⟩
      case measure => simp [intOf]; omega
    · go_wp2_with fail
      go_ret
      refine ⟨w.heap.size, rfl, ⟨A, n, c, xs, 0, x, ?_⟩, (Below.refl _ _).alloc (Nat.le_refl _) _⟩
      exact ⟨Nat.le_refl _, by simp, hn, Nat.zero_le _, hr.below ((Below.refl _ _).alloc (Nat.le_refl _) _), by simp, by simp, by simp, fun j => by simp⟩

end Go.Proofs.YtieknpkbmccimabGreatDoor
