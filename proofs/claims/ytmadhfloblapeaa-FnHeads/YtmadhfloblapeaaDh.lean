/- What the law of the heads draws: a Head; an image and a Head. -/
import Derived.Test.YtmadhfloblapeaaG6
import Derived.Test.YtmadhfloblapeaaHdk
namespace Go.Proofs.Ytmadhfloblapeaa
open Go.RowKit

/-- A Head in a block of memory that may be written. -/
structure HdAt (w : World) (g : Nat) (h : Hd) : Prop where
  cell : ∀ j : Nat, w.cell? ⟨g, j, none⟩ = (#[.int .i64 h.size, .int .i64 h.first, .int .i64 h.refs, .int .i64 h.shots, .int .i64 h.many] : Array Value)[j]?
  free : ∀ j : Nat, w.frozen? ⟨g, j, none⟩ = false
theorem HdAt.new (w : World) (h : Hd) (t : TypeId) : HdAt (w.alloc (.cells #[.int .i64 h.size, .int .i64 h.first, .int .i64 h.refs, .int .i64 h.shots, .int .i64 h.many] t)) w.heap.size h :=
  ⟨fun _ => World.cell?_alloc_new _ _ _ _, fun _ => World.frozen?_alloc_new _ _ _ _⟩
theorem HdAt.block {w w' : World} {g : Nat} {h : Hd} (hx : HdAt w g h) (hb : w'.heap[g]? = w.heap[g]?) : HdAt w' g h :=
  ⟨fun j => (World.cell?_of_block (w := w) hb).trans (hx.cell j), fun j => (World.frozen?_of_block (w := w) hb).trans (hx.free j)⟩
theorem HdAt.below {w w' : World} {g B : Nat} {h : Hd} (hx : HdAt w g h) (hb : Below B w w') (hg : g < B) : HdAt w' g h := hx.block (hb.block g hg)
theorem HdAt.grown {w w' : World} {g k : Nat} {h : Hd} (hx : HdAt w g h) (hg : w.grownBy w' (some k)) (hl : g < w.heap.size) (hn : g ≠ k) : HdAt w' g h := hx.block (hg.block g hl (fun e => by injection e with e; exact hn e))
theorem HdAt.drewN {w : World} {g : Nat} {h : Hd} (hx : HdAt w g h) (k : Nat) : HdAt (w.drewN k) g h := ⟨hx.cell, hx.free⟩
theorem five_set (w : World) (g : Nat) (v0 v1 v2 v3 v4 : Value) : w.grownBy (((((w.setCell ⟨g, 0, none⟩ v0).setCell ⟨g, 1, none⟩ v1).setCell ⟨g, 2, none⟩ v2).setCell ⟨g, 3, none⟩ v3).setCell ⟨g, 4, none⟩ v4) (some g) :=
  grown_trans (grown_trans (grown_trans (grown_trans (grown_cell _ _ _ _) (grown_cell _ _ _ _)) (grown_cell _ _ _ _)) (grown_cell _ _ _ _)) (grown_cell _ _ _ _)

def DrawHd (g B : Nat) (w : World) (e : Ending) (w' : World) : Prop :=
  ∃ h : Hd, e = .returned (hdV h) ∧ Cur w' g B ∧ w.grownBy w' (some g)

set_option maxRecDepth 100000 in
set_option maxHeartbeats 4000000 in
theorem draw3_any (g B : Nat) (w : World) (hc : Cur w g B) :
    Calls Try.prog 22 #[.pointer (some ⟨g, 0, none⟩)] w (DrawHd g B w) := by
  have hgl := hc.lt
  have G0 := grown_alloc w (.cells #[.int .i64 0, .int .i64 0, .int .i64 0, .int .i64 0, .int .i64 0] 26) (some g)
  have X0 := HdAt.new w hd0 26
  have hc0 := hc.grown (grown_alloc w (.cells #[.int .i64 0, .int .i64 0, .int .i64 0, .int .i64 0, .int .i64 0] 26) none) (fun k e => by cases e)
  have hz0 : w.heap.size < (w.alloc (.cells #[.int .i64 0, .int .i64 0, .int .i64 0, .int .i64 0, .int .i64 0] 26)).heap.size := by simp
  have hrg : w.heap.size ≠ g := by omega
  go_enter Try.func22, Try.ntmps22
  go_wp2_with fail
  change HdAt (w.alloc (.cells #[.int .i64 0, .int .i64 0, .int .i64 0, .int .i64 0, .int .i64 0] 26)) _ _ at X0
  generalize (w.alloc (.cells #[.int .i64 0, .int .i64 0, .int .i64 0, .int .i64 0, .int .i64 0] 26)) = w0 at *
  refine (below_any g _ 64 w0 hc0).mono ?_
  rintro e w1 ⟨x0, h0, rfl, hc1, hg1⟩
  obtain ⟨h0a, h0b⟩ := h0.lt (by omega)
  have X1 := X0.grown hg1 hz0 hrg
  have G1 := grown_trans G0 hg1
  clear h0 X0 G0 hc0
  go_wp2_with fail
  refine (below_any g _ 9 w1 hc1).mono ?_
  rintro e w2 ⟨x1, _, rfl, hc2, hg2⟩
  have s1 := hg1.size
  have X2 := X1.grown hg2 (by omega) hrg
  have G2 := grown_trans G1 hg2
  clear X1 G1 hc1 hg1
  go_wp2_with fail
  refine (below_any g _ 9 w2 hc2).mono ?_
  rintro e w3 ⟨x2, _, rfl, hc3, hg3⟩
  have s2 := hg2.size
  have X3 := X2.grown hg3 (by omega) hrg
  have G3 := grown_trans G2 hg3
  clear X2 G2 hc2 hg2
  go_wp2_with fail
  refine (below_any g _ 9 w3 hc3).mono ?_
  rintro e w4 ⟨x3, _, rfl, hc4, hg4⟩
  have s3 := hg3.size
  have X4 := X3.grown hg4 (by omega) hrg
  have G4 := grown_trans G3 hg4
  clear X3 G3 hc3 hg3
  go_wp2_with fail
  refine (below_any g _ 5 w4 hc4).mono ?_
  rintro e w5 ⟨x4, _, rfl, hc5, hg5⟩
  have s4 := hg4.size
  have s5 := hg5.size
  have X5 := X4.grown hg5 (by omega) hrg
  have G5 := grown_trans G4 hg5
  clear X4 G4 hc4 hg4 hg5
  have hwr : IntKind.i64.wrap (1 + x0) = 1 + x0 := IntWalk.i64_in _ (by omega)
  have Y6 := HdAt.new w5 ⟨1 + x0, x1, x2, x3, x4⟩ 26
  have X6 := X5.grown (grown_alloc w5 (.cells #[.int .i64 (1 + x0), .int .i64 x1, .int .i64 x2, .int .i64 x3, .int .i64 x4] 26) (some g)) (by omega) hrg
  have G6 := grown_trans G5 (grown_alloc w5 (.cells #[.int .i64 (1 + x0), .int .i64 x1, .int .i64 x2, .int .i64 x3, .int .i64 x4] 26) (some g))
  have hc6 := hc5.grown (grown_alloc w5 (.cells #[.int .i64 (1 + x0), .int .i64 x1, .int .i64 x2, .int .i64 x3, .int .i64 x4] 26) none) (fun k e => by cases e)
  have hh1 : w5.heap.size ≠ g := by omega
  have hh2 : g < w5.heap.size := by omega
  have hh3 : w.heap.size < w5.heap.size := by omega
  have hh4 : w5.heap.size < (w5.alloc (.cells #[.int .i64 (1 + x0), .int .i64 x1, .int .i64 x2, .int .i64 x3, .int .i64 x4] 26)).heap.size := by simp
  have hh5 : w.heap.size ≠ w5.heap.size := by omega
  go_wp2_with fail
  change HdAt (w5.alloc (.cells #[.int .i64 (1 + x0), .int .i64 x1, .int .i64 x2, .int .i64 x3, .int .i64 x4] 26)) _ _ at Y6
  clear X5 G5 hc5
  generalize (w5.alloc (.cells #[.int .i64 (1 + x0), .int .i64 x1, .int .i64 x2, .int .i64 x3, .int .i64 x4] 26)) = w6 at *
  generalize w5.heap.size = hh at *
  clear hwr
  generalize 1 + x0 = y0 at *
  clear h0a h0b s1 s2 s3 s4 s5 hz0
  refine (once_any g _ 5 w6 hc6).mono ?_
  rintro e w7 ⟨b7, rfl, hc7, hg7⟩
  have X7 := X6.grown hg7 (by omega) hrg
  have Y7 := Y6.grown hg7 hh4 hh1
  have G7 := grown_trans G6 hg7
  have s7 := hg7.size
  clear X6 Y6 G6 hc6 hg7
  cases b7
  · obtain ⟨x9, rfl⟩ : ∃ x, x = w7 := ⟨_, rfl⟩
    have r0 : x9.cell? ⟨w.heap.size, 0, none⟩ = some (.int .i64 0) := X7.cell 0
    have r1 : x9.cell? ⟨w.heap.size, 1, none⟩ = some (.int .i64 0) := X7.cell 1
    have r2 : x9.cell? ⟨w.heap.size, 2, none⟩ = some (.int .i64 0) := X7.cell 2
    have r3 : x9.cell? ⟨w.heap.size, 3, none⟩ = some (.int .i64 0) := X7.cell 3
    have r4 : x9.cell? ⟨w.heap.size, 4, none⟩ = some (.int .i64 0) := X7.cell 4
    have f0 := X7.free 0
    have f1 := X7.free 1
    have f2 := X7.free 2
    have f3 := X7.free 3
    have f4 := X7.free 4
    have c0 : x9.cell? ⟨hh, 0, none⟩ = some (.int .i64 y0) := Y7.cell 0
    have c1 : x9.cell? ⟨hh, 1, none⟩ = some (.int .i64 x1) := Y7.cell 1
    have c2 : x9.cell? ⟨hh, 2, none⟩ = some (.int .i64 x2) := Y7.cell 2
    have c3 : x9.cell? ⟨hh, 3, none⟩ = some (.int .i64 x3) := Y7.cell 3
    have c4 : x9.cell? ⟨hh, 4, none⟩ = some (.int .i64 x4) := Y7.cell 4
    have k0 := Y7.free 0
    have k1 := Y7.free 1
    have k4 := Y7.free 4
    go_wp2_with fail
    refine bodyPost_ret (v := hdV ⟨y0, x1, x2, x3, x4⟩) (by simp [results, Try.results22, go_sem, hdV, r0, r1, r2, r3, r4]) rfl ⟨_, rfl, ?_, ?_⟩
    · exact hc7.grown (five_set _ _ _ _ _ _ _) (fun k e => by cases e; omega)
    · exact grown_row G7 (five_set _ _ _ _ _ _ _) (Nat.le_refl _)
  go_wp2_with fail
  refine (below_any g _ 3 w7 hc7).mono ?_
  rintro e w8 ⟨k, hk, rfl, hc8, hg8⟩
  obtain ⟨k0, k1⟩ := hk.lt (by omega)
  have X8 := X7.grown hg8 (by omega) hrg
  have Y8 := Y7.grown hg8 (by omega) hh1
  have G8 := grown_trans G7 hg8
  have s8 := hg8.size
  clear X7 Y7 G7 hc7 hg8 hk
  by_cases hk0 : k = 0
  · subst hk0
    go_wp2_with fail
    refine (num_any g _ 64 w8 hc8 (by omega) (by omega)).mono ?_
    rintro e w9 ⟨z, _, rfl, hc9, hg9⟩
    have X9 := X8.grown hg9 (by omega) hrg
    have Y9 := Y8.grown hg9 (by omega) hh1
    have G9 := grown_trans G8 hg9
    clear X8 Y8 G8 hc8 hg9
    have r0 : w9.cell? ⟨w.heap.size, 0, none⟩ = some (.int .i64 0) := X9.cell 0
    have r1 : w9.cell? ⟨w.heap.size, 1, none⟩ = some (.int .i64 0) := X9.cell 1
    have r2 : w9.cell? ⟨w.heap.size, 2, none⟩ = some (.int .i64 0) := X9.cell 2
    have r3 : w9.cell? ⟨w.heap.size, 3, none⟩ = some (.int .i64 0) := X9.cell 3
    have r4 : w9.cell? ⟨w.heap.size, 4, none⟩ = some (.int .i64 0) := X9.cell 4
    have f0 := X9.free 0
    have f1 := X9.free 1
    have f2 := X9.free 2
    have f3 := X9.free 3
    have f4 := X9.free 4
    have c0 : w9.cell? ⟨hh, 0, none⟩ = some (.int .i64 y0) := Y9.cell 0
    have c1 : w9.cell? ⟨hh, 1, none⟩ = some (.int .i64 x1) := Y9.cell 1
    have c2 : w9.cell? ⟨hh, 2, none⟩ = some (.int .i64 x2) := Y9.cell 2
    have c3 : w9.cell? ⟨hh, 3, none⟩ = some (.int .i64 x3) := Y9.cell 3
    have c4 : w9.cell? ⟨hh, 4, none⟩ = some (.int .i64 x4) := Y9.cell 4
    have k0 := Y9.free 0
    have k1 := Y9.free 1
    have k4 := Y9.free 4
    go_wp2_with fail
    refine bodyPost_ret (v := hdV ⟨z, x1, x2, x3, x4⟩) (by simp [results, Try.results22, go_sem, hdV, r0, r1, r2, r3, r4]) rfl ⟨_, rfl, ?_, ?_⟩
    · exact (hc9.grown (grown_cell _ hh _ _) (fun k e => by cases e; omega)).grown (five_set _ _ _ _ _ _ _) (fun k e => by cases e; omega)
    · exact grown_row (grown_row G9 (grown_cell _ hh _ _) (by omega)) (five_set _ _ _ _ _ _ _) (Nat.le_refl _)
  by_cases hk1 : k = 1
  · subst hk1
    go_wp2_with fail
    refine (num_any g _ 65535 w8 hc8 (by omega) (by omega)).mono ?_
    rintro e w9 ⟨z, _, rfl, hc9, hg9⟩
    have X9 := X8.grown hg9 (by omega) hrg
    have Y9 := Y8.grown hg9 (by omega) hh1
    have G9 := grown_trans G8 hg9
    clear X8 Y8 G8 hc8 hg9
    have r0 : w9.cell? ⟨w.heap.size, 0, none⟩ = some (.int .i64 0) := X9.cell 0
    have r1 : w9.cell? ⟨w.heap.size, 1, none⟩ = some (.int .i64 0) := X9.cell 1
    have r2 : w9.cell? ⟨w.heap.size, 2, none⟩ = some (.int .i64 0) := X9.cell 2
    have r3 : w9.cell? ⟨w.heap.size, 3, none⟩ = some (.int .i64 0) := X9.cell 3
    have r4 : w9.cell? ⟨w.heap.size, 4, none⟩ = some (.int .i64 0) := X9.cell 4
    have f0 := X9.free 0
    have f1 := X9.free 1
    have f2 := X9.free 2
    have f3 := X9.free 3
    have f4 := X9.free 4
    have c0 : w9.cell? ⟨hh, 0, none⟩ = some (.int .i64 y0) := Y9.cell 0
    have c1 : w9.cell? ⟨hh, 1, none⟩ = some (.int .i64 x1) := Y9.cell 1
    have c2 : w9.cell? ⟨hh, 2, none⟩ = some (.int .i64 x2) := Y9.cell 2
    have c3 : w9.cell? ⟨hh, 3, none⟩ = some (.int .i64 x3) := Y9.cell 3
    have c4 : w9.cell? ⟨hh, 4, none⟩ = some (.int .i64 x4) := Y9.cell 4
    have k0 := Y9.free 0
    have k1 := Y9.free 1
    have k4 := Y9.free 4
    go_wp2_with fail
    refine bodyPost_ret (v := hdV ⟨y0, z, x2, x3, x4⟩) (by simp [results, Try.results22, go_sem, hdV, r0, r1, r2, r3, r4]) rfl ⟨_, rfl, ?_, ?_⟩
    · exact (hc9.grown (grown_cell _ hh _ _) (fun k e => by cases e; omega)).grown (five_set _ _ _ _ _ _ _) (fun k e => by cases e; omega)
    · exact grown_row (grown_row G9 (grown_cell _ hh _ _) (by omega)) (five_set _ _ _ _ _ _ _) (Nat.le_refl _)
  · obtain rfl : k = 2 := by omega
    go_wp2_with fail
    refine (num_any g _ 4 w8 hc8 (by omega) (by omega)).mono ?_
    rintro e w9 ⟨z, _, rfl, hc9, hg9⟩
    have X9 := X8.grown hg9 (by omega) hrg
    have Y9 := Y8.grown hg9 (by omega) hh1
    have G9 := grown_trans G8 hg9
    clear X8 Y8 G8 hc8 hg9
    have r0 : w9.cell? ⟨w.heap.size, 0, none⟩ = some (.int .i64 0) := X9.cell 0
    have r1 : w9.cell? ⟨w.heap.size, 1, none⟩ = some (.int .i64 0) := X9.cell 1
    have r2 : w9.cell? ⟨w.heap.size, 2, none⟩ = some (.int .i64 0) := X9.cell 2
    have r3 : w9.cell? ⟨w.heap.size, 3, none⟩ = some (.int .i64 0) := X9.cell 3
    have r4 : w9.cell? ⟨w.heap.size, 4, none⟩ = some (.int .i64 0) := X9.cell 4
    have f0 := X9.free 0
    have f1 := X9.free 1
    have f2 := X9.free 2
    have f3 := X9.free 3
    have f4 := X9.free 4
    have c0 : w9.cell? ⟨hh, 0, none⟩ = some (.int .i64 y0) := Y9.cell 0
    have c1 : w9.cell? ⟨hh, 1, none⟩ = some (.int .i64 x1) := Y9.cell 1
    have c2 : w9.cell? ⟨hh, 2, none⟩ = some (.int .i64 x2) := Y9.cell 2
    have c3 : w9.cell? ⟨hh, 3, none⟩ = some (.int .i64 x3) := Y9.cell 3
    have c4 : w9.cell? ⟨hh, 4, none⟩ = some (.int .i64 x4) := Y9.cell 4
    have k0 := Y9.free 0
    have k1 := Y9.free 1
    have k4 := Y9.free 4
    go_wp2_with fail
    refine bodyPost_ret (v := hdV ⟨y0, x1, x2, x3, z⟩) (by simp [results, Try.results22, go_sem, hdV, r0, r1, r2, r3, r4]) rfl ⟨_, rfl, ?_, ?_⟩
    · exact (hc9.grown (grown_cell _ hh _ _) (fun k e => by cases e; omega)).grown (five_set _ _ _ _ _ _ _) (fun k e => by cases e; omega)
    · exact grown_row (grown_row G9 (grown_cell _ hh _ _) (by omega)) (five_set _ _ _ _ _ _ _) (Nat.le_refl _)
end Go.Proofs.Ytmadhfloblapeaa
