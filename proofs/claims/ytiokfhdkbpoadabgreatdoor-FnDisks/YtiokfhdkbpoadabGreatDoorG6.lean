/- The cursor of a draw: whatever bytes it goes over, each number that it gives is in its range; nothing is written but the cursor's own block. Words that are drawn (l1DrawWords, l1From); how long a written and a pictured image are. A disk that is drawn (l17Draw). Any words that are drawn (l1DrawAny, l1DrawAt). How the laws compare (likeInts), and which bytes they pass over (big). What the law of the words draws: an image and a place, a cluster; and how it compares (likeInts). -/
import Derived.Test.YtiokfhdkbpoadabGreatDoorG0
import Derived.Test.YtiokfhdkbpoadabGreatDoorG5
import Derived.Test.YtiokfhdkbpoadabGreatDoorG4
namespace Go.Proofs.YtiokfhdkbpoadabGreatDoor
open Go.RowKit

/-- The slice value '.slice A n c' reads as bytes xs, and lies below block B. -/
def Rd8 (w : World) (B : Nat) (A : Option Addr) (n : Nat) (xs : List Int) : Prop :=
  xs.length = n ∧ (0 < n → ∃ b off, A = some ⟨b, off, none⟩ ∧ b < B ∧ ∀ j, j < n → w.cell? ⟨b, off + j, none⟩ = some (.int .u8 (xs.getD j 0)))
theorem Rd8.nil (w : World) (B : Nat) (A : Option Addr) : Rd8 w B A 0 [] := ⟨rfl, fun h => absurd h (by omega)⟩
theorem Rd8.keep {w w' : World} {B n : Nat} {A : Option Addr} {xs : List Int} (h : Rd8 w B A n xs) (hk : ∀ p : Addr, p.block < B → w'.cell? p = w.cell? p) : Rd8 w' B A n xs :=
  ⟨h.1, fun hn => by
    obtain ⟨b, off, e, hb, hc⟩ := h.2 hn
    exact ⟨b, off, e, hb, fun j hj => (hk ⟨b, off + j, none⟩ hb).trans (hc j hj)⟩⟩
theorem Rd8.more {w : World} {B B' n : Nat} {A : Option Addr} {xs : List Int} (h : Rd8 w B A n xs) (hB : B ≤ B') : Rd8 w B' A n xs :=
  ⟨h.1, fun hn => by
    obtain ⟨b, off, e, hb, hc⟩ := h.2 hn
    exact ⟨b, off, e, by omega, hc⟩⟩
theorem Rd8.below {w w' : World} {B n : Nat} {A : Option Addr} {xs : List Int} (h : Rd8 w B A n xs) (hb : Below B w w') : Rd8 w' B A n xs := h.keep fun _ hp => hb.cell hp

/-- Block g is a cursor over the bytes xs that lie below block B: i of them are read. -/
structure CurAt (w : World) (g B : Nat) (A : Option Addr) (n c : Nat) (xs : List Int) (i : Nat) (h : Int) : Prop where
  lo : B ≤ g
  lt : g < w.heap.size
  small : n ≤ 4096
  here : i ≤ n
  rd : Rd8 w B A n xs
  c0 : w.cell? ⟨g, 0, none⟩ = some (.slice A n c)
  c1 : w.cell? ⟨g, 1, none⟩ = some (.int .i64 i)
  c2 : w.cell? ⟨g, 2, none⟩ = some (.int .i64 h)
  free : ∀ j, w.frozen? ⟨g, j, none⟩ = false
def Cur (w : World) (g B : Nat) : Prop := ∃ A n c xs i h, CurAt w g B A n c xs i h

theorem grown_cell (w : World) (g j : Nat) (v : Value) : w.grownBy (w.setCell ⟨g, j, none⟩ v) (some g) :=
  ⟨rfl, rfl, rfl, by simp [World.setCell], fun k _ hne => Below.heap_setCell _ _ _ _ (fun e => hne (by rw [e]))⟩
theorem grown_alloc (w : World) (o : Obj) (r : Option Nat) : w.grownBy (w.alloc o) r := ⟨rfl, rfl, rfl, by simp, fun k hk _ => Below.heap_alloc _ _ _ hk⟩
theorem far_cell {w : World} {g j : Nat} {p : Addr} (v : Value) (h : p.block ≠ g) : (w.setCell ⟨g, j, none⟩ v).cell? p = w.cell? p := World.cell?_of_block (w := w) (Below.heap_setCell _ _ _ _ h)
theorem grown_drewN {a w : World} {r : Option Nat} (h : a.grownBy w r) (k : Nat) : a.grownBy (w.drewN k) r := ⟨h.os, h.tape, h.output, h.size, h.block⟩

section
variable {w : World} {g B n c i : Nat} {A : Option Addr} {xs : List Int} {h : Int}
theorem CurAt.drewN (hc : CurAt w g B A n c xs i h) (k : Nat) : CurAt (w.drewN k) g B A n c xs i h := ⟨hc.lo, hc.lt, hc.small, hc.here, hc.rd, hc.c0, hc.c1, hc.c2, hc.free⟩
theorem CurAt.set2 (hc : CurAt w g B A n c xs i h) (h' : Int) : CurAt (w.setCell ⟨g, 2, none⟩ (.int .i64 h')) g B A n c xs i h' := by
  refine ⟨hc.lo, by simpa [World.setCell] using hc.lt, hc.small, hc.here, hc.rd.keep fun p hp => far_cell _ (by have := hc.lo; omega), ?_, ?_, World.cell?_setCell_same _ _ _ hc.c2, fun j => by rw [World.frozen?_setCell]; exact hc.free j⟩
  · rw [World.cell?_setCell_other _ _ _ _ (by simp)]; exact hc.c0
  · rw [World.cell?_setCell_other _ _ _ _ (by simp)]; exact hc.c1
theorem CurAt.set1 (hc : CurAt w g B A n c xs i h) (i' : Nat) (hi : i' ≤ n) (x : Int) (hx : x = i') : CurAt (w.setCell ⟨g, 1, none⟩ (.int .i64 x)) g B A n c xs i' h := by
  subst hx
  refine ⟨hc.lo, by simpa [World.setCell] using hc.lt, hc.small, hi, hc.rd.keep fun p hp => far_cell _ (by have := hc.lo; omega), ?_, World.cell?_setCell_same _ _ _ hc.c1, ?_, fun j => by rw [World.frozen?_setCell]; exact hc.free j⟩
  · rw [World.cell?_setCell_other _ _ _ _ (by simp)]; exact hc.c0
  · rw [World.cell?_setCell_other _ _ _ _ (by simp)]; exact hc.c2
/-- What is done elsewhere leaves the cursor. -/
theorem CurAt.grown {w' : World} {r : Option Nat} (hc : CurAt w g B A n c xs i h) (hg : w.grownBy w' r) (hr : ∀ k, r = some k → g < k) : CurAt w' g B A n c xs i h := by
  have hb : ∀ k, k ≤ g → w'.heap[k]? = w.heap[k]? := fun k hk => hg.block k (by have := hc.lt; omega) (fun e => by have := hr k e.symm; omega)
  have hcell : ∀ j, w'.cell? ⟨g, j, none⟩ = w.cell? ⟨g, j, none⟩ := fun j => World.cell?_of_block (w := w) (hb g (Nat.le_refl _))
  exact ⟨hc.lo, Nat.lt_of_lt_of_le hc.lt hg.size, hc.small, hc.here, hc.rd.keep fun p hp => World.cell?_of_block (w := w) (hb p.block (by have := hc.lo; omega)), (hcell 0).trans hc.c0, (hcell 1).trans hc.c1, (hcell 2).trans hc.c2,
    fun j => (World.frozen?_of_block (w := w) (hb g (Nat.le_refl _))).trans (hc.free j)⟩
end
theorem Cur.grown {w w' : World} {g B : Nat} {r : Option Nat} (hc : Cur w g B) (hg : w.grownBy w' r) (hr : ∀ k, r = some k → g < k) : Cur w' g B := by
  obtain ⟨A, n, c, xs, i, h, hc⟩ := hc
  exact ⟨A, n, c, xs, i, h, hc.grown hg hr⟩

/-- It answers a number with P; the cursor goes on; nothing else has turned. -/
def DrawInt (g B : Nat) (w : World) (P : Int → Prop) (e : Ending) (w' : World) : Prop :=
  ∃ x : Int, P x ∧ e = .returned (.int .i64 x) ∧ Cur w' g B ∧ w.grownBy w' (some g)

theorem and255 (a : Int) : 0 ≤ bits .and .i64 a 255 ∧ bits .and .i64 a 255 ≤ 255 := by
  have h : (BitVec.ofInt 64 a &&& BitVec.ofInt 64 255).toNat ≤ 255 := by
    rw [BitVec.toNat_and]
    exact Nat.and_le_right
  have e : bits .and .i64 a 255 = IntKind.i64.wrap ((BitVec.ofInt 64 a &&& BitVec.ofInt 64 255).toNat : Int) := rfl
  rw [e, IntKind.wrap_i64]
  omega

theorem DrawInt.mk {g B : Nat} {w w' : World} {P : Int → Prop} {x : Int} (hp : P x) {A : Option Addr} {n c i : Nat} {xs : List Int} {h : Int} (hc : CurAt w' g B A n c xs i h) (hg : w.grownBy w' (some g)) : DrawInt g B w P (.returned (.int .i64 x)) w' := ⟨x, hp, rfl, ⟨_, _, _, _, _, _, hc⟩, hg⟩

set_option maxHeartbeats 1000000 in
theorem byte_any (g B : Nat) (w : World) (hc : Cur w g B) :
    Calls Tryz.prog 67 #[.pointer (some ⟨g, 0, none⟩)] w (DrawInt g B w (fun x => 0 ≤ x ∧ x ≤ 255)) := by
  obtain ⟨A, n, c, xs, i, h, hc⟩ := hc
  have h0 := hc.c0
  have h1 := hc.c1
  have h2 := hc.c2
  have hf0 := hc.free 0
  have hf1 := hc.free 1
  have hf2 := hc.free 2
  have hn := hc.small
  have hi := hc.here
  have hlo := hc.lo
  by_cases hlt : i < n
  · obtain ⟨b, off, rfl, hb, hcx⟩ := hc.rd.2 (by omega)
    have hx : w.cell? ⟨b, off + i, none⟩ = some (.int .u8 (xs.getD i 0)) := hcx i hlt
    have hne : g ≠ b := by omega
    have hne' : b ≠ g := by omega
    clear hcx
    go_enter Tryz.func67, Tryz.ntmps67
    go_wp2_with fail
    go_quiet (fail)
    go_wp2_with fail
    go_quiet (fail)
    go_wp2_with fail
    go_quiet (fail)
    go_wp2_with fail
    go_ret
    refine DrawInt.mk (and255 _) (((hc.set2 _).drewN _).set1 (i + 1) hlt _ rfl) ?_
    exact grown_trans (grown_drewN (grown_cell _ _ _ _) _) (grown_cell _ _ _ _)
  · go_enter Tryz.func67, Tryz.ntmps67
    go_wp2_with fail
    go_quiet (fail)
    go_wp2_with fail
    go_quiet (fail)
    go_wp2_with fail
    go_ret
    refine DrawInt.mk (and255 _) (((hc.set2 _).drewN _).drewN _) ?_
    exact grown_drewN (grown_drewN (grown_cell _ _ _ _) _) _

/-- From 0 on, less than n; 0 where n is not above 0. -/
def Under (n x : Int) : Prop := (n ≤ 0 ∧ x = 0) ∨ (0 ≤ x ∧ x < n)
theorem Under.lt {n x : Int} (h : Under n x) (hn : 0 < n) : 0 ≤ x ∧ x < n := by rcases h with h | h <;> omega

theorem DrawInt.next {g B : Nat} {w w' w'' : World} {P : Int → Prop} {x : Int} (hp : P x) (hc : Cur w'' g B) (h1 : w.grownBy w' (some g)) (h2 : w'.grownBy w'' (some g)) : DrawInt g B w P (.returned (.int .i64 x)) w'' :=
  ⟨x, hp, rfl, hc, grown_trans h1 h2⟩

set_option maxHeartbeats 1000000 in
theorem below_any (g B : Nat) (n : Int) (w : World) (hc : Cur w g B) :
    Calls Tryz.prog 23 #[.pointer (some ⟨g, 0, none⟩), .int .i64 n] w (DrawInt g B w (Under n)) := by
  by_cases h0 : n ≤ 0
  · go_enter Tryz.func23, Tryz.ntmps23
    go_wp2_with fail
    go_ret
    exact ⟨0, .inl ⟨h0, rfl⟩, rfl, hc, grown_refl _ _⟩
  · have h0' : 0 < n := by omega
    by_cases h1 : n ≤ 256
    · go_enter Tryz.func23, Tryz.ntmps23
      go_wp2_with fail
      refine (byte_any g B w hc).mono ?_
      rintro e w1 ⟨x, ⟨hx0, hx1⟩, rfl, hc1, hg1⟩
      go_wp2_with fail
      go_ret
      exact ⟨_, .inr ⟨Int.emod_nonneg _ (by omega), Int.emod_lt_of_pos _ h0'⟩, rfl, hc1, hg1⟩
    · go_enter Tryz.func23, Tryz.ntmps23
      go_wp2_with fail
      refine (byte_any g B w hc).mono ?_
      rintro e w1 ⟨x1, ⟨hx0, hx1⟩, rfl, hc1, hg1⟩
      go_wp2_with fail
      refine (byte_any g B w1 hc1).mono ?_
      rintro e w2 ⟨x2, ⟨hy0, hy1⟩, rfl, hc2, hg2⟩
      go_wp2_with fail
      refine (byte_any g B w2 hc2).mono ?_
      rintro e w3 ⟨x3, ⟨hz0, hz1⟩, rfl, hc3, hg3⟩
      go_wp2_with fail
      refine (byte_any g B w3 hc3).mono ?_
      rintro e w4 ⟨x4, ⟨hu0, hu1⟩, rfl, hc4, hg4⟩
      go_wp2_with fail
      go_ret
      exact ⟨_, .inr ⟨Int.emod_nonneg _ (by omega), Int.emod_lt_of_pos _ h0'⟩, rfl, hc4, grown_trans (grown_trans (grown_trans hg1 hg2) hg3) hg4⟩

/-- It answers yes or no; the cursor goes on; nothing else has turned. -/
def DrawBool (g B : Nat) (w : World) (e : Ending) (w' : World) : Prop :=
  ∃ x : Bool, e = .returned (.bool x) ∧ Cur w' g B ∧ w.grownBy w' (some g)

theorem once_any (g B : Nat) (n : Int) (w : World) (hc : Cur w g B) :
    Calls Tryz.prog 19 #[.pointer (some ⟨g, 0, none⟩), .int .i64 n] w (DrawBool g B w) := by
  go_enter Tryz.func19, Tryz.ntmps19
  go_wp2_with fail
  refine (below_any g B n w hc).mono ?_
  rintro e w1 ⟨x, hx, rfl, hc1, hg1⟩
  have HX := Lib.hid hx
  clear hx
  go_wp2_with fail
  go_ret
  exact ⟨_, rfl, hc1, hg1⟩

theorem min_any (a b : Int) (w : World) : Calls Tryz.prog 65 #[.int .i64 a, .int .i64 b] w fun e w' => e = .returned (.int .i64 (if a < b then a else b)) ∧ w = w' := by
  by_cases h : a < b
  · go_enter Tryz.func65, Tryz.ntmps65
    go_wp2_with fail
    go_ret
    exact ⟨rfl, rfl⟩
  · go_enter Tryz.func65, Tryz.ntmps65
    go_wp2_with fail
    go_ret
    exact ⟨rfl, rfl⟩

/-- A new block of numbers, read behind a draw. -/
theorem new_cell {w w' : World} {g : Nat} {t : TypeId} (xs : List Int) (hg : (w.alloc (.cells (iv xs).toArray t)).grownBy w' (some g)) (hlt : g < w.heap.size) (j : Nat) (hj : j < xs.length) :
    w'.cell? ⟨w.heap.size, j, none⟩ = some (.int .i64 (xs.getD j 0)) := by
  have hb : w'.heap[w.heap.size]? = (w.alloc (.cells (iv xs).toArray t)).heap[w.heap.size]? := hg.block _ (by simp) (fun e => by cases e; omega)
  have : w'.cell? ⟨w.heap.size, j, none⟩ = (w.alloc (.cells (iv xs).toArray t)).cell? ⟨w.heap.size, j, none⟩ := World.cell?_of_block (w := w.alloc (.cells (iv xs).toArray t)) hb
  rw [this, World.cell?_alloc_new]
  simp [iv, List.getD_eq_getElem?_getD, hj]

set_option maxHeartbeats 1000000 in
theorem odd_any (g B : Nat) (w : World) (hc : Cur w g B) :
    Calls Tryz.prog 66 #[.pointer (some ⟨g, 0, none⟩)] w (DrawInt g B w (fun _ => True)) := by
  have hlt : g < w.heap.size := by obtain ⟨_, _, _, _, _, _, h⟩ := hc; exact h.lt
  go_enter Tryz.func66, Tryz.ntmps66
  go_wp2_with fail
  refine (below_any g B 10 _ (hc.grown (grown_alloc _ _ none) (by simp))).mono ?_
  rintro e w1 ⟨x, hx, rfl, hc1, hg1⟩
  obtain ⟨h0, h1⟩ := hx.lt (by omega)
  obtain ⟨j, rfl⟩ : ∃ j : Nat, x = j := ⟨x.toNat, by omega⟩
  have hcell := new_cell (t := 2) [-1, 0, 1, 2147483648, -2147483648, 1099511627776, 4611686018427387904, -4611686018427387904, 9223372036854775807, -9223372036854775808] hg1 hlt j (by simp; omega)
  generalize List.getD [-1, 0, 1, 2147483648, -2147483648, 1099511627776, 4611686018427387904, -4611686018427387904, 9223372036854775807, -9223372036854775808] j 0 = y at hcell
  have hj : j < 10 := by omega
  clear hx h0 h1
  go_wp2_with fail
  go_ret
  exact ⟨_, trivial, rfl, hc1, grown_trans (grown_alloc _ _ _) hg1⟩

set_option maxHeartbeats 1000000 in
theorem num_any (g B : Nat) (most : Int) (w : World) (hc : Cur w g B) (h0 : 0 ≤ most) (h1 : most ≤ 1000000) :
    Calls Tryz.prog 36 #[.pointer (some ⟨g, 0, none⟩), .int .i64 most] w (DrawInt g B w (fun _ => True)) := by
  go_enter Tryz.func36, Tryz.ntmps36
  go_wp2_with fail
  refine (once_any g B 10 w hc).mono ?_
  rintro e w1 ⟨b1, rfl, hc1, hg1⟩
  cases b1
  · go_wp2_with fail
    refine (once_any g B 2 w1 hc1).mono ?_
    rintro e w2 ⟨b2, rfl, hc2, hg2⟩
    cases b2
    · go_wp2_with fail
      refine (below_any g B (most + 1) w2 hc2).mono ?_
      rintro e w3 ⟨x, hx, rfl, hc3, hg3⟩
      go_wp2_with fail
      go_ret
      exact ⟨_, trivial, rfl, hc3, grown_trans (grown_trans hg1 hg2) hg3⟩
    · go_wp2_with fail
      refine (min_any _ _ _).mono ?_
      rintro e w2' ⟨rfl, rfl⟩
      have hm : 0 ≤ (if most < 4 then most else 4) ∧ (if most < 4 then most else 4) ≤ 4 := by split <;> omega
      generalize (if most < 4 then most else 4) = m at hm ⊢
      obtain ⟨hm0, hm1⟩ := hm
      go_wp2_with fail
      refine (below_any g B (m + 1) w2 hc2).mono ?_
      rintro e w3 ⟨x, hx, rfl, hc3, hg3⟩
      go_wp2_with fail
      go_ret
      exact ⟨_, trivial, rfl, hc3, grown_trans (grown_trans hg1 hg2) hg3⟩
  · go_wp2_with fail
    refine (odd_any g B w1 hc1).mono ?_
    rintro e w2 ⟨y, _, rfl, hc2, hg2⟩
    have hlt : g < w2.heap.size := by obtain ⟨_, _, _, _, _, _, h⟩ := hc2; exact h.lt
    go_wp2_with fail
    refine (below_any g B 4 _ (hc2.grown (grown_alloc _ _ none) (by simp))).mono ?_
    rintro e w3 ⟨x, hx, rfl, hc3, hg3⟩
    obtain ⟨k0, k1⟩ := hx.lt (by omega)
    obtain ⟨j, rfl⟩ : ∃ j : Nat, x = j := ⟨x.toNat, by omega⟩
    have hcell := new_cell (t := 2) [-1, most, most + 1, y] hg3 hlt j (by simp; omega)
    generalize List.getD [-1, most, most + 1, y] j 0 = z at hcell
    have hj : j < 4 := by omega
    clear hx k0 k1
    go_wp2_with fail
    go_ret
    exact ⟨_, trivial, rfl, hc3, grown_trans (grown_trans (grown_trans hg1 hg2) (grown_alloc _ _ _)) hg3⟩

/-- A new cursor. -/
def NewCur (w : World) (e : Ending) (w' : World) : Prop :=
  ∃ g, e = .returned (.pointer (some ⟨g, 0, none⟩)) ∧ Cur w' g w.heap.size ∧ Below w.heap.size w w'

set_option maxHeartbeats 1000000 in
theorem new_any (A : Option Addr) (n c : Nat) (xs : List Int) (w : World) (hr : Rd8 w w.heap.size A n xs) (hn : n ≤ 4096) :
    Calls Tryz.prog 17 #[.slice A n c] w (NewCur w) := by
  go_enter Tryz.func17, Tryz.ntmps17
  go_wp2_with fail
  go_loop [3, 4] (fun h i => ∃ (k : Nat) (x : Int), k ≤ n ∧ i = .int .i64 k ∧ h = .int .i64 x) (fun _ i => n - (intOf i).toNat)
  case atStart => exact ⟨0, _, Nat.zero_le _, rfl, rfl⟩
  case round =>
    obtain ⟨k, x, hk, rfl, rfl⟩ := hrel
    by_cases hlt : k < n
    · obtain ⟨b, off, rfl, hb, hc⟩ := hr.2 (by omega)
      have hcx := hc k hlt
      clear hc
      go_wp2_with fail
      go_round
      case rel => exact ⟨k + 1, _, by omega, by go_num, rfl⟩
      case measure => simp [intOf]; omega
    · go_wp2_with fail
      go_ret
      refine ⟨w.heap.size, rfl, ⟨A, n, c, xs, 0, x, ?_⟩, (Below.refl _ _).alloc (Nat.le_refl _) _⟩
      exact ⟨Nat.le_refl _, by simp, hn, Nat.zero_le _, hr.below ((Below.refl _ _).alloc (Nat.le_refl _) _), by simp, by simp, by simp, fun j => by simp⟩

/-- It answers a new row with P, not nil; the cursor goes on; nothing else has turned. -/
def DrawRow (g B : Nat) (w : World) (P : List Int → Prop) (e : Ending) (w' : World) : Prop :=
  ∃ (h n c : Nat) (ys : List Int), P ys ∧ n ≤ 600 ∧ n ≤ c ∧ e = .returned (.slice (some ⟨h, 0, none⟩) n c) ∧ OwV 2 1 w' w.heap.size w'.heap.size h n c (iv ys) ∧ Cur w' g B ∧ w.grownBy w' (some g)

theorem Cur.lt {w : World} {g B : Nat} (hc : Cur w g B) : g < w.heap.size := by obtain ⟨_, _, _, _, _, _, h⟩ := hc; exact h.lt
theorem Cur.lo {w : World} {g B : Nat} (hc : Cur w g B) : B ≤ g := by obtain ⟨_, _, _, _, _, _, h⟩ := hc; exact h.lo
theorem grown_under {w w' : World} (h : Below w.heap.size w w') (r : Option Nat) : w.grownBy w' r := ⟨h.os, h.tape, h.output, h.size, fun k hk _ => h.block k hk⟩
theorem OwV.lenI {w : World} {lo hi g n c : Nat} {xs : List Int} (h : OwV 2 1 w lo hi g n c (iv xs)) : xs.length = n := by have := h.len; rw [iv_length] at this; omega
/-- A row of one's own, behind what a draw did. -/
theorem OwV.draw {w w' : World} {lo hi hi' g h n c : Nat} {cs : List Value} (ho : OwV 2 1 w lo hi h n c cs) (hg : w.grownBy w' (some g)) (hlt : g < lo) (hh : hi ≤ hi') : OwV 2 1 w' lo hi' h n c cs :=
  (ho.grown hg (fun k e => by cases e; have := ho.low; omega)).more (Nat.le_refl _) hh
theorem lit_cell {w w' : World} {g : Nat} {t : TypeId} (xs : List Int) (hg : (w.alloc (.cells (iv xs).toArray t)).grownBy w' (some g)) (hlt : g < w.heap.size) (j : Nat) (hj : j < xs.length) :
    ∃ y, w'.cell? ⟨w.heap.size, j, none⟩ = some (.int .i64 y) := ⟨_, new_cell xs hg hlt j hj⟩

theorem from_any (g B : Nat) (lo hi : Int) (w : World) (hc : Cur w g B) (h0 : -1 ≤ lo) (h1 : lo ≤ hi) (h2 : hi ≤ 1000000) :
    Calls Tryz.prog 21 #[.pointer (some ⟨g, 0, none⟩), .int .i64 lo, .int .i64 hi] w (DrawInt g B w (fun x => lo ≤ x ∧ x ≤ hi)) := by
  go_enter Tryz.func21, Tryz.ntmps21
  go_wp2_with fail
  refine (below_any g B _ w hc).mono ?_
  rintro e w1 ⟨x, hx, rfl, hc1, hg1⟩
  have hx' := hx.lt (by omega)
  obtain ⟨hx0, hx1⟩ := hx'
  clear hx
  go_wp2_with fail
  go_ret
  exact ⟨_, ⟨by omega, by omega⟩, rfl, hc1, hg1⟩

set_option maxHeartbeats 2000000 in
theorem drawWords_any (g B N : Nat) (w : World) (hc : Cur w g B) (hN : N ≤ 100) :
    Calls Tryz.prog 22 #[.pointer (some ⟨g, 0, none⟩), .int .i64 N] w (DrawRow g B w (fun ys => ys.length = N)) := by
  obtain ⟨i0, hi0, hz0, hz1, hz2⟩ := info_parts info2
  have hgl := hc.lt
  go_enter Tryz.func22, Tryz.ntmps22
  go_wp2_with fail
  go_loopw [1, 5] (fun i v wr => ∃ (k g' c' : Nat) (ys : List Int), i = .int .i64 k ∧ ys.length + k = N ∧ v = .slice (some ⟨g', 0, none⟩) ys.length c' ∧ OwV 2 1 wr w.heap.size wr.heap.size g' ys.length c' (iv ys) ∧ Cur wr g B ∧ w.grownBy wr (some g)) (fun i _ _ => (intOf i).toNat)
  case atStart => exact ⟨N, w.heap.size, 0, [], rfl, by simp, rfl, emptyV 2 1 w _ _ _ (Nat.le_refl _) rfl (by simp), hc.grown (grown_alloc _ _ none) (by simp), grown_alloc _ _ _⟩
  case round =>
    obtain ⟨k, g', c', ys, rfl, hk, rfl, ho, hcr, hgr⟩ := hrel
    have hs := hgr.size
    by_cases hlt : 0 < k
    · go_wp2_with fail
      refine (below_any g B 10 _ (hcr.grown (grown_alloc _ _ none) (by simp))).mono ?_
      rintro e w1 ⟨x, hx, rfl, hc1, hg1⟩
      obtain ⟨h0, h1⟩ := hx.lt (by omega)
      obtain ⟨j, rfl⟩ : ∃ j : Nat, x = j := ⟨x.toNat, by omega⟩
      obtain ⟨y, hcell⟩ := lit_cell (t := 2) [0, 0, 1, 2, 3, 5, 32769, 32772, 8, 65535] hg1 hcr.lt j (by simp; omega)
      have hj : j < 10 := by omega
      have hg01 := grown_trans (grown_alloc wr (.cells (iv [0, 0, 1, 2, 3, 5, 32769, 32772, 8, 65535]).toArray 2) (some g)) hg1
      have ho1 := ho.draw hg01 hgl hg01.size
      have HS := Lib.hid hg01.size
      clear hx h0 h1 hg1
      go_wp2_with (at_builtin; refine wpList_append_lit rfl (.tmp 11) (.tmp 17) 24 rfl 2 1 8 _ i0 Tryz.underlying24 hi0 hz0 hz1 hz2 rfl (by omega) (by omega) w.heap.size w1.heap.size g' ys.length c' _ rfl ho1 #[.int .i64 y] 1 1 rfl rfl (by simp [Value.oneCell']) (by omega) (by have := HS.out; omega) ?_; intro g2 cd w5 ho5 hgr5 hat _)
      go_roundw
      case rel =>
        refine ⟨k - 1, g2, cd, ys ++ [y], by go_num, by simp; omega, by simp, ?_, hc1.grown hgr5 (fun q e => by cases e; have := ho.low; omega), ?_⟩
        · rw [← iv_one, List.length_append]
          exact ho5
        · have a1 := grown_trans hgr hg01
          refine ⟨hgr5.os.trans a1.os, hgr5.tape.trans a1.tape, hgr5.output.trans a1.output, Nat.le_trans a1.size hgr5.size, fun q hq hne => (hgr5.block q (Nat.lt_of_lt_of_le hq a1.size) (fun e => by cases e; have := ho.low; omega)).trans (a1.block q hq hne)⟩
      case measure => simp [intOf]; omega
    · go_wp2_with fail
      go_ret
      exact ⟨g', _, c', ys, by omega, by omega, ho.cap, rfl, ho, hcr, hgr⟩

theorem done_len (xs : List Int) : (doneL xs).length ≤ 512 := by
  unfold doneL
  split
  · simp
  · rcases counted_head xs with h | ⟨h, _⟩
    · rename_i hne; rw [h] at hne; simp at hne
    · rw [owned_length]
      have := manyN_le (hasHead_img h)
      omega
theorem written_len (xs : List Int) (g : Int) (ws : List Int) (hw : ws.length ≤ 8) : (writtenL xs g ws).length ≤ 520 := by
  unfold writtenL
  split
  · rename_i h
    unfold writeMid
    split
    · have := imgB_len (sound_img h.1)
      unfold setCl
      simp only [List.length_append, List.length_take, List.length_drop]
      omega
    · unfold writeNew
      split
      · simp
      · split
        · exact Nat.le_trans (done_len _) (by omega)
        · simp
  · simp
theorem pictured_len (xs : List Int) (name : Int) : (picturedL xs name).length ≤ 520 := by
  unfold picturedL
  split
  · unfold pictMid
    split
    · simp
    · split
      · unfold pictEnd
        exact Nat.le_trans (done_len _) (by omega)
      · simp
  · simp

theorem ret_row {w w' : World} {A : Option Addr} {n c : Nat} {ys : List Int} (h : Ow w' w.heap.size w'.heap.size A n c ys) (hn : 0 < n) : ∃ q, A = some ⟨q, 0, none⟩ ∧ n ≤ c ∧ OwV 2 1 w' w.heap.size w'.heap.size q n c (iv ys) := by
  rcases h.form with ⟨_, h0, _⟩ | ⟨q, rfl, _, _, _, hc⟩
  · omega
  · exact ⟨q, rfl, hc, h.toV⟩
theorem blank_len (x : Int) (h : x = 8 ∨ x = 16 ∨ x = 20 ∨ x = 64 ∨ x = 5) : (blankL x).length = 32 := by
  rcases h with rfl | rfl | rfl | rfl | rfl <;> rfl
theorem size_cell {w w' : World} {g : Nat} (hg : (w.alloc (.cells (iv [8, 16, 20, 64, 5]).toArray 2)).grownBy w' (some g)) (hlt : g < w.heap.size) (j : Nat) (hj : j < 5) :
    ∃ y : Int, (y = 8 ∨ y = 16 ∨ y = 20 ∨ y = 64 ∨ y = 5) ∧ w'.cell? ⟨w.heap.size, j, none⟩ = some (.int .i64 y) := by
  refine ⟨_, ?_, new_cell [8, 16, 20, 64, 5] hg hlt j (by simp; omega)⟩
  rcases (by omega : j = 0 ∨ j = 1 ∨ j = 2 ∨ j = 3 ∨ j = 4) with rfl | rfl | rfl | rfl | rfl <;> simp
/-- A row that is not empty, of one's own, and a cursor. -/
def Img (w0 : World) (g B : Nat) (v : Value) (w : World) : Prop :=
  ∃ (h n c : Nat) (ys : List Int), 0 < n ∧ n ≤ 520 ∧ n ≤ c ∧ v = .slice (some ⟨h, 0, none⟩) n c ∧ OwV 2 1 w w0.heap.size w.heap.size h n c (iv ys) ∧ Cur w g B ∧ w0.grownBy w (some g)
theorem Img.draw {w0 w w' : World} {g B : Nat} {v : Value} (h : Img w0 g B v w) (hg : w.grownBy w' (some g)) (hc : Cur w' g B) (hlt : g < w0.heap.size) : Img w0 g B v w' := by
  obtain ⟨h, n, c, ys, h1, h2, h3, rfl, h5, _, h7⟩ := h
  exact ⟨h, n, c, ys, h1, h2, h3, rfl, h5.draw hg hlt hg.size, hc, grown_trans h7 hg⟩

/-- What is blank has it, and what is pictured and written keeps it. -/
def Stays (P : List Int → Prop) : Prop := (∀ x : Int, x = 8 ∨ x = 16 ∨ x = 20 ∨ x = 64 ∨ x = 5 → P (blankL x)) ∧ (∀ ys x, P ys → picturedL ys x ≠ [] → P (picturedL ys x)) ∧ (∀ ys x ws, P ys → writtenL ys x ws ≠ [] → P (writtenL ys x ws))
/-- A row that is not empty, of one's own, and a cursor. -/
def ImgP (P : List Int → Prop) (w0 : World) (g B : Nat) (v : Value) (w : World) : Prop :=
  ∃ (h n c : Nat) (ys : List Int), P ys ∧ 0 < n ∧ n ≤ 520 ∧ n ≤ c ∧ v = .slice (some ⟨h, 0, none⟩) n c ∧ OwV 2 1 w w0.heap.size w.heap.size h n c (iv ys) ∧ Cur w g B ∧ w0.grownBy w (some g)
theorem ImgP.draw {P : List Int → Prop} {w0 w w' : World} {g B : Nat} {v : Value} (h : ImgP P w0 g B v w) (hg : w.grownBy w' (some g)) (hc : Cur w' g B) (hlt : g < w0.heap.size) : ImgP P w0 g B v w' := by
  obtain ⟨h, n, c, ys, h0, h1, h2, h3, rfl, h5, _, h7⟩ := h
  exact ⟨h, n, c, ys, h0, h1, h2, h3, rfl, h5.draw hg hlt hg.size, hc, grown_trans h7 hg⟩

set_option maxRecDepth 100000 in
set_option maxHeartbeats 2000000 in
theorem draw17_gen {P : List Int → Prop} (hP : Stays P) (g B : Nat) (w : World) (hc : Cur w g B) :
    Calls Tryz.prog 18 #[.pointer (some ⟨g, 0, none⟩)] w (DrawRow g B w (fun ys => P ys ∧ 0 < ys.length ∧ ys.length ≤ 520)) := by
  have HPP := Lib.hid hP
  clear hP
  have hgl := hc.lt
  go_enter Tryz.func18, Tryz.ntmps18
  go_wp2_with fail
  refine (below_any g B 5 _ (hc.grown (grown_alloc _ _ none) (by simp))).mono ?_
  rintro e w1 ⟨x, hx, rfl, hc1, hg1⟩
  obtain ⟨h0, h1⟩ := hx.lt (by omega)
  obtain ⟨j, rfl⟩ : ∃ j : Nat, x = j := ⟨x.toNat, by omega⟩
  have hj : j < 5 := by omega
  obtain ⟨y, hv, hcell⟩ := size_cell hg1 hgl j hj
  have HV := Lib.hid (blank_len y hv)
  have HPB := Lib.hid (HPP.out.1 y hv)
  have hg01 := grown_trans (grown_alloc w (.cells (iv [8, 16, 20, 64, 5]).toArray 2) (some g)) hg1
  clear hx h0 h1 hv hg1
  go_wp2_with fail
  refine (specBlank_any y _).mono ?_
  rintro e w2 ⟨A, n, c, rfl, o2, b2⟩
  have hn : n = 32 := by rw [← o2.len, HV.out]
  subst hn
  obtain ⟨q, rfl, hq, v2⟩ := ret_row o2 (by omega)
  have hg2 := grown_trans hg01 (grown_under b2 (some g))
  go_wp2_with fail
  refine (below_any g B 9 _ (hc1.grown (grown_under b2 none) (by simp))).mono ?_
  rintro e w3 ⟨x, hx, rfl, hc3, hg3⟩
  obtain ⟨h0, h1⟩ := hx.lt (by omega)
  obtain ⟨m, rfl⟩ : ∃ m : Nat, x = m := ⟨x.toNat, by omega⟩
  have hm : m < 9 := by omega
  have hst : ImgP P w g B (.slice (some ⟨q, 0, none⟩) 32 c) w3 := ⟨q, 32, c, blankL y, HPB.out, by omega, by omega, hq, rfl, (v2.draw hg3 (by have := hg01.size; omega) hg3.size).more hg01.size (Nat.le_refl _), hc3, grown_trans hg2 hg3⟩
  clear hx h0 h1 o2 v2 hg2 hg3 hg01 b2 hc1 hcell hc3
  go_wp2_with fail
  go_loopw [3, 4] (fun b n wr => ∃ (k : Nat), n = .int .i64 k ∧ k ≤ 9 ∧ ImgP P w g B b wr) (fun _ n _ => (intOf n).toNat)
  case atStart => exact ⟨m, rfl, by omega, hst⟩
  case round =>
    obtain ⟨k, rfl, hk, h, n, c, ys, hpy, hp, hn, hnc, rfl, ho, hcr, hgr⟩ := hrel
    have HPy := Lib.hid hpy
    clear hpy
    have hs := hgr.size
    by_cases hlt : 0 < k
    · go_wp2_with fail
      refine (below_any g B 90 _ hcr).mono ?_
      rintro e w1 ⟨x, hx, rfl, hc1, hg1⟩
      have hx' := hx.lt (by omega)
      obtain ⟨hx0, hx1⟩ := hx'
      clear hx
      have o1 := ho.draw hg1 hgl hg1.size
      have G1 := grown_trans hgr hg1
      clear hg1 ho hgr
      go_wp2_with fail
      refine (specPictured_any _ _ _ ys _ _ o1.toI.rd (by omega)).mono ?_
      rintro e w2 ⟨A2, n2, c2, rfl, o2, b2⟩
      have hn2 : n2 ≤ 520 := by rw [← o2.len]; exact pictured_len _ _
      have HP2 : Hid (0 < n2 → ImgP P w g B (.slice A2 n2 c2) w2) := Lib.hid fun h0 => by
        obtain ⟨q, rfl, hq, v2⟩ := ret_row o2 h0
        exact ⟨q, n2, c2, _, HPP.out.2.1 _ _ HPy.out (fun e => by rw [← o2.len, e] at h0; simp at h0), h0, hn2, hq, rfl, v2.more G1.size (Nat.le_refl _), hc1.grown (grown_under b2 none) (by simp), grown_trans G1 (grown_under b2 _)⟩
      have o2' := (o1.below b2 (Nat.le_refl _)).more (Nat.le_refl _) b2.size
      have hc2 : Cur w2 g B := hc1.grown (grown_under b2 none) (by simp)
      have G2 := grown_trans G1 (grown_under b2 (some g))
      clear o2 b2 o1 hc1 G1
      go_wp2_with fail
      refine (once_any g B 4 _ hc2).mono ?_
      rintro e w3 ⟨b3, rfl, hc3, hg3⟩
      have G3 := grown_trans G2 hg3
      have o3 := o2'.draw hg3 hgl hg3.size
      cases b3
      · go_wp2_with fail
        refine (specHeadIn_any _ _ _ ys _ o3.toI.rd (by omega)).mono ?_
        rintro e w4 ⟨rfl, b4⟩
        generalize headIn ys = r
        obtain ⟨⟨s, f, r, u, m⟩, is⟩ := r
        unfold hdV
        have hc4 : Cur w4 g B := hc3.grown (grown_under b4 none) (by simp)
        have G4 := grown_trans G3 (grown_under b4 (some g))
        have o4 := (o3.below b4 (Nat.le_refl _)).more (Nat.le_refl _) b4.size
        have a5 := grown_alloc w4 (.cells #[.int .i64 s, .int .i64 f, .int .i64 r, .int .i64 u, .int .i64 m] 33) none
        have hc5 := hc4.grown a5 (by simp)
        have G5 := grown_trans G4 (grown_alloc w4 (.cells #[.int .i64 s, .int .i64 f, .int .i64 r, .int .i64 u, .int .i64 m] 33) (some g))
        have o5 := (o4.grown a5 (by simp)).more (Nat.le_refl _) a5.size
        have c0 : (w4.alloc (.cells #[.int .i64 s, .int .i64 f, .int .i64 r, .int .i64 u, .int .i64 m] 33)).cell? ⟨w4.heap.size, 0, none⟩ = some (.int .i64 s) := World.cell?_alloc_new _ _ _ _
        clear a5 o4 G4 hc4 b4 o3 G3 hc3 hg3 o2' hc2 G2 HP2
        go_wp2_with fail
        refine (min_any _ _ _).mono ?_
        rintro e w6 ⟨rfl, rfl⟩
        generalize (if s < 20 then s else 20) = mm
        go_wp2_with fail
        refine (below_any g B mm _ hc5).mono ?_
        rintro e w7 ⟨z, hz, rfl, hc7, hg7⟩
        clear hz
        have G7 := grown_trans G5 hg7
        have o7 := o5.draw hg7 hgl hg7.size
        clear hg7 hc5 o5 G5 c0
        go_wp2_with fail
        refine (drawWords_any g B 8 _ hc7 (by omega)).mono ?_
        rintro e w8 ⟨q, n8, c8, vs, hvs, _, _, rfl, v8, hc8, hg8⟩
        have G8 := grown_trans G7 hg8
        have o8 := o7.draw hg8 hgl hg8.size
        have hn8 : n8 = 8 := by rw [← v8.lenI]; exact hvs
        subst hn8
        clear hg8 hc7 o7 G7
        go_wp2_with fail
        refine (specWritten_any _ _ _ ys _ _ _ _ vs _ o8.toI.rd hnc v8.toI.rd (by omega) (by omega)).mono ?_
        rintro e w9 ⟨A9, n9, c9, rfl, o9, b9⟩
        have hn9 : n9 ≤ 520 := by rw [← o9.len]; exact written_len _ _ _ (by rw [v8.lenI]; omega)
        have HP9 : Hid (0 < n9 → ImgP P w g B (.slice A9 n9 c9) w9) := Lib.hid fun h0 => by
          obtain ⟨q, rfl, hq, v2⟩ := ret_row o9 h0
          exact ⟨q, n9, c9, _, HPP.out.2.2 _ _ _ HPy.out (fun e => by rw [← o9.len, e] at h0; simp at h0), h0, hn9, hq, rfl, v2.more G8.size (Nat.le_refl _), hc8.grown (grown_under b9 none) (by simp), grown_trans G8 (grown_under b9 _)⟩
        have HO9 : Hid (ImgP P w g B (.slice (some ⟨h, 0, none⟩) n c) w9) := Lib.hid ⟨h, n, c, ys, HPy.out, hp, hn, hnc, rfl, (o8.below b9 (Nat.le_refl _)).more (Nat.le_refl _) b9.size, hc8.grown (grown_under b9 none) (by simp), grown_trans G8 (grown_under b9 _)⟩
        clear o9 b9 o8 G8 v8 hvs hc8
        by_cases h9 : 0 < n9
        · go_wp2_with fail
          go_roundw
          case rel => exact ⟨k - 1, by go_num, by omega, HP9.out h9⟩
          case measure => simp [intOf]; omega
        · go_wp2_with fail
          go_roundw
          case rel => exact ⟨k - 1, by go_num, by omega, HO9.out⟩
          case measure => simp [intOf]; omega
      · have HO3 : Hid (ImgP P w g B (.slice (some ⟨h, 0, none⟩) n c) w3) := Lib.hid ⟨h, n, c, ys, HPy.out, hp, hn, hnc, rfl, o3, hc3, G3⟩
        have HP3 : Hid (0 < n2 → ImgP P w g B (.slice A2 n2 c2) w3) := Lib.hid fun h0 => (HP2.out h0).draw hg3 hc3 hgl
        clear o3 G3 hc3 HP2 hg3 o2' hc2 G2
        by_cases h9 : 0 < n2
        · go_wp2_with fail
          go_roundw
          case rel => exact ⟨k - 1, by go_num, by omega, HP3.out h9⟩
          case measure => simp [intOf]; omega
        · go_wp2_with fail
          go_roundw
          case rel => exact ⟨k - 1, by go_num, by omega, HO3.out⟩
          case measure => simp [intOf]; omega
    · go_wp2_with fail
      go_ret
      exact ⟨h, n, c, ys, by show P ys ∧ 0 < ys.length ∧ ys.length ≤ 520; rw [ho.lenI]; exact ⟨HPy.out, hp, hn⟩, by omega, hnc, rfl, ho, hcr, hgr⟩

theorem draw17_any (g B : Nat) (w : World) (hc : Cur w g B) :
    Calls Tryz.prog 18 #[.pointer (some ⟨g, 0, none⟩)] w (DrawRow g B w (fun ys => 0 < ys.length ∧ ys.length ≤ 520)) :=
  (draw17_gen (P := fun _ => True) ⟨fun _ _ => trivial, fun _ _ _ _ => trivial, fun _ _ _ _ _ => trivial⟩ g B w hc).mono fun _ _ ⟨h, n, c, ys, h1, h2⟩ => ⟨h, n, c, ys, h1.2, h2⟩

theorem grown_row {w a b : World} {g h : Nat} (h1 : w.grownBy a (some g)) (h2 : a.grownBy b (some h)) (hh : w.heap.size ≤ h) : w.grownBy b (some g) :=
  ⟨h2.os.trans h1.os, h2.tape.trans h1.tape, h2.output.trans h1.output, Nat.le_trans h1.size h2.size, fun q hq hne => (h2.block q (Nat.lt_of_lt_of_le hq h1.size) (fun e => by cases e; omega)).trans (h1.block q hq hne)⟩
/-- The front of a row. -/
theorem OwV.front {t : TypeId} {sz : Nat} {w : World} {lo hi g n c : Nat} {cs : List Value} (h : OwV t sz w lo hi g n c cs) (k : Nat) (hk : k ≤ n) : OwV t sz w lo hi g k c (cs.take (k * sz)) := by
  have hl := h.len
  have hks : k * sz ≤ n * sz := Nat.mul_le_mul_right _ hk
  refine ⟨⟨by rw [List.length_take]; omega, ?_⟩, h.top⟩
  rcases h.own.2 with ⟨hv, _⟩ | ⟨g', cap, cur, hv, hb, hg, hnc, hcm, hcs, htake⟩
  · cases hv
  · injection hv with h1 h2 h3
    injection h1 with h1
    injection h1 with h1
    subst h1; subst h3
    refine .inr ⟨g, c, cur, rfl, hb, hg, by omega, hcm, hcs, ?_⟩
    rw [← htake, List.take_take, Nat.min_eq_left hks]
theorem iv_take (xs : List Int) (k : Nat) : (iv xs).take k = iv (xs.take k) := by simp [iv]
/-- A number is put into a row. -/
theorem Img.put {w0 w : World} {g B h n c j : Nat} (x : Int) (hi : Img w0 g B (.slice (some ⟨h, 0, none⟩) n c) w) (hlt : g < w0.heap.size) : Img w0 g B (.slice (some ⟨h, 0, none⟩) n c) (w.setCell ⟨h, j, none⟩ (.int .i64 x)) := by
  obtain ⟨h', n', c', ys, h1, h2, h3, e, h5, h6, h7⟩ := hi
  cases e
  obtain ⟨s1, s2⟩ := h5.set j (.int .i64 x)
  rw [iv_set] at s1
  have hlo := h5.low
  exact ⟨h, n, c, _, h1, h2, h3, rfl, s1.more (Nat.le_refl _) s2.size, h6.grown s2 (fun k e => by cases e; omega), grown_row h7 s2 hlo⟩
theorem Img.cell {w0 w : World} {g B h n c j : Nat} (hi : Img w0 g B (.slice (some ⟨h, 0, none⟩) n c) w) (hj : j < n) : ∃ y, w.cell? ⟨h, j, none⟩ = some (.int .i64 y) := by
  obtain ⟨h', n', c', ys, h1, h2, h3, e, h5, h6, h7⟩ := hi
  cases e
  exact ⟨_, h5.toI.cell hj⟩
theorem Img.free {w0 w : World} {g B h n c : Nat} (hi : Img w0 g B (.slice (some ⟨h, 0, none⟩) n c) w) (j : Nat) : w.frozen? ⟨h, j, none⟩ = false := by
  obtain ⟨h', n', c', ys, h1, h2, h3, e, h5, h6, h7⟩ := hi
  cases e
  exact h5.free j
theorem Img.cur {w0 w : World} {g B : Nat} {v : Value} (hi : Img w0 g B v w) : Cur w g B := by
  obtain ⟨h', n', c', ys, h1, h2, h3, e, h5, h6, h7⟩ := hi
  exact h6
theorem Img.row {w0 w : World} {g B h n c : Nat} (hi : Img w0 g B (.slice (some ⟨h, 0, none⟩) n c) w) : DrawRow g B w0 (fun _ => True) (.returned (.slice (some ⟨h, 0, none⟩) n c)) w := by
  obtain ⟨h', n', c', ys, h1, h2, h3, e, h5, h6, h7⟩ := hi
  cases e
  exact ⟨h, n, c, ys, trivial, by omega, h3, rfl, h5, h6, h7⟩
theorem Img.front {w0 w : World} {g B h n c : Nat} (hi : Img w0 g B (.slice (some ⟨h, 0, none⟩) n c) w) (k : Nat) (hk : k ≤ n) : DrawRow g B w0 (fun _ => True) (.returned (.slice (some ⟨h, 0, none⟩) k c)) w := by
  obtain ⟨h', n', c', ys, h1, h2, h3, e, h5, h6, h7⟩ := hi
  cases e
  have := h5.front k hk
  rw [iv_take] at this
  exact ⟨h, k, c, _, trivial, by omega, by omega, rfl, this, h6, h7⟩

set_option maxRecDepth 100000 in
set_option maxHeartbeats 4000000 in
theorem drawAny_any (g B : Nat) (w : World) (hc : Cur w g B) :
    Calls Tryz.prog 20 #[.pointer (some ⟨g, 0, none⟩)] w (DrawRow g B w (fun _ => True)) := by
  obtain ⟨i0, hi0, hz0, hz1, hz2⟩ := info_parts info2
  have hgl := hc.lt
  go_enter Tryz.func20, Tryz.ntmps20
  go_wp2_with fail
  refine (once_any g B 6 _ hc).mono ?_
  rintro e w1 ⟨b1, rfl, hc1, hg1⟩
  have s1 := hg1.size
  cases b1
  case true =>
    go_wp2_with fail
    refine (below_any g B 60 _ hc1).mono ?_
    rintro e w2 ⟨x, hx, rfl, hc2, hg2⟩
    obtain ⟨h0, h1⟩ := hx.lt (by omega)
    obtain ⟨j, rfl⟩ : ∃ j : Nat, x = j := ⟨x.toNat, by omega⟩
    go_wp2_with fail
    refine (drawWords_any g B j _ hc2 (by omega)).mono ?_
    rintro e w3 ⟨h, n, c, ys, _, hn, hnc, rfl, o3, hc3, hg3⟩
    go_wp2_with fail
    go_ret
    exact ⟨h, n, c, ys, trivial, hn, hnc, rfl, o3.more (Nat.le_trans s1 hg2.size) (Nat.le_refl _), hc3, grown_trans (grown_trans hg1 hg2) hg3⟩
  case false =>
    go_wp2_with fail
    refine (draw17_any g B _ hc1).mono ?_
    rintro e w2 ⟨h, n, c, ys, ⟨hp, hl⟩, _, hnc, rfl, o2, hc2, hg2⟩
    rw [o2.lenI] at hp hl
    go_wp2_with fail
    refine (below_any g B 10 _ hc2).mono ?_
    rintro e w3 ⟨x, hx, rfl, hc3, hg3⟩
    obtain ⟨h0, h1⟩ := hx.lt (by omega)
    have him : Img w g B (.slice (some ⟨h, 0, none⟩) n c) w3 := ⟨h, n, c, ys, hp, hl, hnc, rfl, (o2.draw hg3 (by have := hc.lt; omega) hg3.size).more s1 (Nat.le_refl _), hc3, grown_trans (grown_trans hg1 hg2) hg3⟩
    clear o2 hg3 hg2 hg1 hc2 hc3 hc1 hx
    rcases (by omega : (x = 0 ∨ x = 1 ∨ x = 2 ∨ x = 3) ∨ x = 4 ∨ x = 5 ∨ x = 6 ∨ x = 7 ∨ x = 8 ∨ x = 9) with h03 | rfl | rfl | rfl | rfl | rfl | rfl
    · rcases h03 with rfl | rfl | rfl | rfl
      all_goals
        go_wp2_with fail
        refine (below_any g B 3 _ him.cur).mono ?_
        rintro e w4 ⟨x, hx, rfl, hc4, hg4⟩
        obtain ⟨k0, k1⟩ := hx.lt (by omega)
        obtain ⟨m, rfl⟩ : ∃ m : Nat, x = m := ⟨x.toNat, by omega⟩
        have him4 := him.draw hg4 hc4 hgl
        clear hx hg4 hc4 him
        go_wp2_with fail
        go_loopw [4] (fun i wr => ∃ k : Nat, i = .int .i64 k ∧ k ≤ 3 ∧ Img w g B (.slice (some ⟨h, 0, none⟩) n c) wr) (fun i _ => (intOf i).toNat)
        case atStart => exact ⟨1 + m, by go_num, by omega, him4⟩
        case round =>
          obtain ⟨k, rfl, hk, hm⟩ := hrel
          by_cases hlt : 0 < k
          · go_wp2_with fail
            refine (below_any g B n _ hm.cur).mono ?_
            rintro e w5 ⟨x, hx, rfl, hc5, hg5⟩
            obtain ⟨k0, k1⟩ := hx.lt (by omega)
            obtain ⟨j, rfl⟩ : ∃ j : Nat, x = j := ⟨x.toNat, by omega⟩
            have hm5 := hm.draw hg5 hc5 hgl
            clear hx hg5 hc5
            go_wp2_with fail
            refine (drawWords_any g B 1 _ hm5.cur (by omega)).mono ?_
            rintro e w6 ⟨h6, n6, c6, vs, hv, _, _, rfl, o6, hc6, hg6⟩
            obtain rfl : n6 = 1 := by rw [← o6.lenI]; exact hv
            have hm6 := hm5.draw hg6 hc6 hgl
            have q6 := o6.toI.cell (j := 0) (by omega)
            generalize vs.getD 0 0 = y at q6
            obtain ⟨z, qz⟩ := hm6.cell (j := j) (by omega)
            have fz := hm6.free j
            have HM := Lib.hid (hm6.put (j := j) y hgl)
            have hjn : j < n := by omega
            clear hm hm5 hm6 o6 hg6 hc6 hv
            go_wp2_with fail
            go_roundw
            case rel => exact ⟨k - 1, by go_num, by omega, HM.out⟩
            case measure => simp [intOf]; omega
          · go_wp2_with fail
            go_ret
            exact hm.row
    · go_wp2_with fail
      refine (below_any g B n _ him.cur).mono ?_
      rintro e w4 ⟨x, hx, rfl, hc4, hg4⟩
      obtain ⟨k0, k1⟩ := hx.lt (by omega)
      obtain ⟨j, rfl⟩ : ∃ j : Nat, x = j := ⟨x.toNat, by omega⟩
      have HM := Lib.hid (him.draw hg4 hc4 hgl)
      have hjn : j ≤ n := by omega
      have hjc : j ≤ c := by omega
      clear hx hg4 hc4 him
      go_wp2_with fail
      go_ret
      exact HM.out.front j hjn
    · go_wp2_with fail
      refine (below_any g B 20 _ him.cur).mono ?_
      rintro e w4 ⟨x, hx, rfl, hc4, hg4⟩
      obtain ⟨k0, k1⟩ := hx.lt (by omega)
      obtain ⟨j, rfl⟩ : ∃ j : Nat, x = j := ⟨x.toNat, by omega⟩
      have him4 := him.draw hg4 hc4 hgl
      clear hx hg4 hc4 him
      go_wp2_with fail
      refine (drawWords_any g B j _ him4.cur (by omega)).mono ?_
      rintro e w6 ⟨h6, n6, c6, vs, hv, _, _, rfl, o6, hc6, hg6⟩
      have hm6 := him4.draw hg6 hc6 hgl
      obtain ⟨h', n', c', zs, p1, p2, p3, e, p5, p6, p7⟩ := hm6
      cases e
      have hn6 : n6 ≤ 20 := by rw [← o6.lenI, hv]; omega
      have hs6 := p7.size
      have hlo := p5.low
      go_wp2_with (at_builtin; refine wpList_append_v rfl (.tmp 47) (.tmp 51) 24 rfl 2 1 8 _ i0 Tryz.underlying24 hi0 hz0 hz1 hz2 rfl (by omega) (by omega) w.heap.size w6.heap.size h n c _ rfl p5 ⟨h6, 0, none⟩ n6 c6 (iv vs) rfl o6.len (fun j u hj => by rw [Addr.add_lit, Nat.zero_add]; exact (o6.cell (j := j) (by have := o6.len; have := (List.getElem?_eq_some_iff.1 hj).1; omega)).trans hj) (by simp [iv, Value.oneCell']) (by omega) hs6 ?_; intro g7 c7 w7 o7 hg7 _ _)
      go_ret
      rw [← iv_append] at o7
      exact ⟨g7, n + n6, c7, _, trivial, by omega, o7.cap, rfl, o7, p6.grown hg7 (fun k e => by cases e; omega), grown_row p7 hg7 hlo⟩
    · go_wp2_with fail
      refine (below_any g B n _ him.cur).mono ?_
      rintro e w4 ⟨x, hx, rfl, hc4, hg4⟩
      obtain ⟨k0, k1⟩ := hx.lt (by omega)
      obtain ⟨j, rfl⟩ : ∃ j : Nat, x = j := ⟨x.toNat, by omega⟩
      have him4 := him.draw hg4 hc4 hgl
      clear hx hg4 hc4 him
      go_wp2_with fail
      refine (below_any g B 65536 _ him4.cur).mono ?_
      rintro e w5 ⟨y, hy, rfl, hc5, hg5⟩
      have hm6 := him4.draw hg5 hc5 hgl
      obtain ⟨z, qz⟩ := hm6.cell (j := j) (by omega)
      have fz := hm6.free j
      have HM := Lib.hid (hm6.put (j := j) y hgl)
      have hjn : j < n := by omega
      clear hm6 him4 hg5 hc5 hy
      go_wp2_with fail
      go_ret
      exact HM.out.row
    · by_cases h8 : 8 < n
      · go_wp2_with fail
        refine (below_any g B 4 _ him.cur).mono ?_
        rintro e w4 ⟨x, hx, rfl, hc4, hg4⟩
        obtain ⟨k0, k1⟩ := hx.lt (by omega)
        obtain ⟨j, rfl⟩ : ∃ j : Nat, x = j := ⟨x.toNat, by omega⟩
        have him4 := him.draw hg4 hc4 hgl
        clear hx hg4 hc4 him
        go_wp2_with fail
        refine (drawWords_any g B 1 _ him4.cur (by omega)).mono ?_
        rintro e w6 ⟨h6, n6, c6, vs, hv, _, _, rfl, o6, hc6, hg6⟩
        obtain rfl : n6 = 1 := by rw [← o6.lenI]; exact hv
        have hm6 := him4.draw hg6 hc6 hgl
        have q6 := o6.toI.cell (j := 0) (by omega)
        generalize vs.getD 0 0 = y at q6
        obtain ⟨z, qz⟩ := hm6.cell (j := 3 + j) (by omega)
        have fz := hm6.free (3 + j)
        have HM := Lib.hid (hm6.put (j := 3 + j) y hgl)
        have hjn : 3 + j < n := by omega
        clear him4 hm6 o6 hg6 hc6 hv
        go_wp2_with fail
        go_ret
        exact HM.out.row
      · go_wp2_with fail
        go_ret
        exact him.row
    · go_wp2_with fail
      refine (once_any g B 6 _ him.cur).mono ?_
      rintro e w4 ⟨b4, rfl, hc4, hg4⟩
      have him4 := him.draw hg4 hc4 hgl
      clear hg4 hc4 him
      cases b4
      case' true =>
        go_wp2_with fail
        refine (odd_any g B _ him4.cur).mono ?_
        rintro e w5 ⟨y, hy, rfl, hc5, hg5⟩
        have hm6 := him4.draw hg5 hc5 hgl
        obtain ⟨z, qz⟩ := hm6.cell (j := 0) (by omega)
        have fz := hm6.free 0
        have him5 := hm6.put (j := 0) y hgl
        clear hm6 him4 hg5 hc5 hy
      case' false =>
        have him5 := him4
        clear him4
      all_goals
        go_wp2_with fail
        refine (once_any g B 20 _ him5.cur).mono ?_
        rintro e w6 ⟨b6, rfl, hc6, hg6⟩
        have him6 := him5.draw hg6 hc6 hgl
        clear hg6 hc6 him5
        cases b6
        · go_wp2_with fail
          go_ret
          exact him6.row
        · go_wp2_with fail
          refine (from_any g B (-1) 1 _ him6.cur (by omega) (by omega) (by omega)).mono ?_
          rintro e w7 ⟨y, ⟨y0, y1⟩, rfl, hc7, hg7⟩
          have him7 := him6.draw hg7 hc7 hgl
          obtain ⟨N, hN⟩ : ∃ N : Nat, 512 + y = (N : Int) := ⟨(512 + y).toNat, by omega⟩
          obtain ⟨_, _, _, _, _, _, _, _, _, _, p7⟩ := him7
          have hs7 := p7.size
          have HN := Lib.hid hN
          have hN5 : N ≤ 513 := by omega
          clear him6 hg7 hN
          go_wp2_with (at_make; go_loud (refine wpList_make_full _ rfl _ _ 24 rfl w.heap.size 2 i0 (.int .i64 0) 1 Tryz.underlying24 hi0 hz0 hz1 .i64 .i64 _ _ N rfl rfl HN.out HN.out (by rw [hz2]; omega) (by simp only [maxLen]; omega) hs7 ?_; intro w8 hown hg8; rw [made_iv] at hown))
          go_ret
          exact ⟨w7.heap.size, N, N, List.replicate N 0, trivial, by omega, Nat.le_refl _, rfl, ⟨hown, (hown.lt _ rfl).2⟩, hc7.grown hg8 (by simp), grown_trans p7 ⟨hg8.os, hg8.tape, hg8.output, hg8.size, fun k hk _ => hg8.block k hk (by simp)⟩⟩
    · go_wp2_with fail
      go_ret
      exact him.row

set_option maxHeartbeats 400000 in
theorem like_any (A A' : Option Addr) (n c n' c' : Nat) (xs ys : List Int) (B : Nat) (w : World) (h : Rd w B A n xs) (h' : Rd w B A' n' ys) (hn : n ≤ 2097152) :
    Calls Tryz.prog 9 #[.slice A n c, .slice A' n' c'] w fun e w' => e = .returned (.bool (xs == ys)) ∧ ∃ d, w' = w.drewN d := by
  have hx := Lib.hid h.len
  have hy := Lib.hid h'.len
  by_cases hne : n = n'
  · subst hne
    have hd : ((n : Int) != (n : Int)) = false := by simp
    go_enter Tryz.func9, Tryz.ntmps9
    go_wp2
    go_loopw [5] (fun i wr => ∃ k : Nat, k ≤ n ∧ i = .int .i64 k ∧ xs.take k = ys.take k ∧ ∃ d, wr = w.drewN d) (fun i _ => n - (intOf i).toNat)
    case atStart => exact ⟨0, Nat.zero_le _, rfl, rfl, 0, rfl⟩
    case round =>
      obtain ⟨k, hk, rfl, ht, d, rfl⟩ := hrel
      have HT := Lib.hid ht
      clear ht
      by_cases hlt : k < n
      · obtain ⟨b, off, rfl, hbb, hc⟩ := h.2 (by omega)
        obtain ⟨b', off', rfl, hbb', hc'⟩ := h'.2 (by omega)
        have hcx : w.cell? ⟨b, off + k, none⟩ = some (.int .i64 (xs.getD k 0)) := hc k hlt
        have hcy : w.cell? ⟨b', off' + k, none⟩ = some (.int .i64 (ys.getD k 0)) := hc' k hlt
        have HE := Lib.hid (eq_step xs ys k n hx.out hy.out hlt HT.out)
        have HN := Lib.hid (eq_not xs ys k)
        clear hc hc'
        generalize xs.getD k 0 = x at *
        generalize ys.getD k 0 = y at *
        by_cases hxy : x = y
        · subst hxy
          have HE2 := Lib.hid (HE.out rfl)
          clear HE HN
          have hb : (x != x) = false := by simp
          go_wp2
          go_quiet (fail)
          go_wp2
          go_roundw
          case rel => exact ⟨k + 1, by omega, by go_num, HE2.out, _, rfl⟩
          case measure => simp [intOf]; omega
        · have HN2 := Lib.hid (HN.out hxy)
          clear HE HN
          have hb : (x != y) = true := by simp [hxy]
          go_wp2
          go_quiet (fail)
          go_wp2
          go_ret
          exact ⟨by rw [HN2.out]; rfl, _, World.drewN_drewN _ _ _⟩
      · go_wp2
        go_ret
        have hkn : k = n := by omega
        subst hkn
        have e := HT.out
        rw [List.take_of_length_le (Nat.le_of_eq hx.out), List.take_of_length_le (Nat.le_of_eq hy.out)] at e
        subst e
        exact ⟨by simp, _, rfl⟩
  · have hd : ((n : Int) != (n' : Int)) = true := by simp; omega
    go_enter Tryz.func9, Tryz.ntmps9
    go_wp2
    go_ret
    refine ⟨?_, 0, rfl⟩
    have : (xs == ys) = false := by
      rw [beq_eq_false_iff_ne]; rintro rfl; exact hne (hx.out.symm.trans hy.out)
    rw [this]; rfl

theorem big_words (A : Option Addr) (n c : Nat) (w : World) :
    Calls Tryz.prog 4 #[.slice A n c] w fun e w' => e = .returned (.bool (decide ((4096 : Int) < (n : Int)))) ∧ w = w' := by
  go_enter Tryz.func4, Tryz.ntmps4
  go_wp2_with fail
  go_ret
  exact ⟨rfl, rfl⟩

theorem cur_under {w w' : World} {g B : Nat} (hc : Cur w g B) (hB : B ≤ w.heap.size) (hg : w.grownBy w' (some g)) : Below B w w' := below_grown hg hB (fun k e => by cases e; exact hc.lo)

/-- It answers a new row and a number; the cursor goes on; nothing else has turned. -/
def DrawTwo (g B : Nat) (w : World) (e : Ending) (w' : World) : Prop :=
  ∃ (h n c : Nat) (ys : List Int) (x : Int), n ≤ 600 ∧ e = .returned (.tuple #[.slice (some ⟨h, 0, none⟩) n c, .int .i64 x]) ∧ OwV 2 1 w' w.heap.size w'.heap.size h n c (iv ys) ∧ Cur w' g B ∧ w.grownBy w' (some g)

/-- It answers a slice that reads; nothing that was there has turned. -/
def SomeRow (w : World) (e : Ending) (w' : World) : Prop :=
  ∃ (A : Option Addr) (n c : Nat) (ys : List Int), (n ≤ 600 ∧ n ≤ c) ∧ e = .returned (.slice A n c) ∧ Rd w' w'.heap.size A n ys ∧ Below w.heap.size w w'
def SomeRowInt (w : World) (e : Ending) (w' : World) : Prop :=
  ∃ (A : Option Addr) (n c : Nat) (ys : List Int) (x : Int), (n ≤ 600 ∧ n ≤ c) ∧ e = .returned (.tuple #[.slice A n c, .int .i64 x]) ∧ Rd w' w'.heap.size A n ys ∧ Below w.heap.size w w'
def SomeRowIntRow (w : World) (e : Ending) (w' : World) : Prop :=
  ∃ (A : Option Addr) (n c : Nat) (ys : List Int) (x : Int) (W : Option Addr) (nw cw : Nat) (ws : List Int), n ≤ 600 ∧ nw ≤ 600 ∧ e = .returned (.tuple #[.slice A n c, .int .i64 x, .slice W nw cw]) ∧ Rd w' w'.heap.size A n ys ∧ Rd w' w'.heap.size W nw ws ∧ Below w.heap.size w w'

end Go.Proofs.YtiokfhdkbpoadabGreatDoor
