/- The four Draw functions of chapter 3. -/
import Derived.Test.YtmadhfloblapeaaDh
namespace Go.Proofs.Ytmadhfloblapeaa
open Go.RowKit

def SomeHd (w : World) (e : Ending) (w' : World) : Prop := ∃ h : Hd, e = .returned (hdV h) ∧ Below w.heap.size w w'
def SomeRowHd (w : World) (e : Ending) (w' : World) : Prop :=
  ∃ (A : Option Addr) (n c : Nat) (ys : List Int) (h : Hd), n ≤ 600 ∧ e = .returned (.tuple #[.slice A n c, hdV h]) ∧ Rd w' w'.heap.size A n ys ∧ Below w.heap.size w w'

theorem below_five {w w' : World} {B g : Nat} (hb : Below B w w') (hB : B ≤ g) (v0 v1 v2 v3 v4 : Value) (hs : B ≤ w'.heap.size) : Below B w (((((w'.setCell ⟨g, 0, none⟩ v0).setCell ⟨g, 1, none⟩ v1).setCell ⟨g, 2, none⟩ v2).setCell ⟨g, 3, none⟩ v3).setCell ⟨g, 4, none⟩ v4) :=
  hb.grown (five_set _ _ _ _ _ _ _) hs (fun k e => by cases e; exact hB)

set_option maxHeartbeats 1000000 in
theorem drawHeadOk_any (A : Option Addr) (n c : Nat) (xs : List Int) (w : World) (hr : Rd8 w w.heap.size A n xs) (hn : n ≤ 4096) :
    Calls Try.prog 11 #[.slice A n c] w (SomeHd w) := by
  have b0 := (Below.refl w.heap.size w).alloc (Nat.le_refl _) (.cells #[.int .i64 0, .int .i64 0, .int .i64 0, .int .i64 0, .int .i64 0] 26)
  have X0 := HdAt.new w hd0 26
  have hz0 : w.heap.size < (w.alloc (.cells #[.int .i64 0, .int .i64 0, .int .i64 0, .int .i64 0, .int .i64 0] 26)).heap.size := by simp
  have hr0 := (hr.below b0).more b0.size
  go_enter Try.func11, Try.ntmps11
  go_wp2_with fail
  change HdAt (w.alloc (.cells #[.int .i64 0, .int .i64 0, .int .i64 0, .int .i64 0, .int .i64 0] 26)) _ _ at X0
  generalize (w.alloc (.cells #[.int .i64 0, .int .i64 0, .int .i64 0, .int .i64 0, .int .i64 0] 26)) = w0 at *
  refine (new_any A n c xs w0 hr0 hn).mono ?_
  rintro e w1 ⟨g, rfl, hc1, hb1⟩
  go_wp2_with fail
  refine (draw3_any g _ w1 hc1).mono ?_
  rintro e w2 ⟨⟨s, f, r, t, m⟩, rfl, hc2, hg2⟩
  have b2 := hb1.trans (cur_under hc1 hb1.size hg2)
  have X2 := X0.below b2 hz0
  have b02 := below_more b0 b2 b0.size
  clear hb1 hc1 hg2 hc2 b2 b0 X0
  have r0 : w2.cell? ⟨w.heap.size, 0, none⟩ = some (.int .i64 0) := X2.cell 0
  have r1 : w2.cell? ⟨w.heap.size, 1, none⟩ = some (.int .i64 0) := X2.cell 1
  have r2 : w2.cell? ⟨w.heap.size, 2, none⟩ = some (.int .i64 0) := X2.cell 2
  have r3 : w2.cell? ⟨w.heap.size, 3, none⟩ = some (.int .i64 0) := X2.cell 3
  have r4 : w2.cell? ⟨w.heap.size, 4, none⟩ = some (.int .i64 0) := X2.cell 4
  have f0 := X2.free 0
  have f1 := X2.free 1
  have f2 := X2.free 2
  have f3 := X2.free 3
  have f4 := X2.free 4
  unfold hdV
  dsimp only
  go_wp2_with fail
  refine bodyPost_ret (v := hdV ⟨s, f, r, t, m⟩) (by simp [results, Try.results11, go_sem, hdV, r0, r1, r2, r3, r4]) rfl ⟨_, rfl, ?_⟩
  exact below_five b02 (Nat.le_refl _) _ _ _ _ _ b02.size

set_option maxHeartbeats 1000000 in
theorem drawHeadWords_any (A : Option Addr) (n c : Nat) (xs : List Int) (w : World) (hr : Rd8 w w.heap.size A n xs) (hn : n ≤ 4096) :
    Calls Try.prog 10 #[.slice A n c] w (SomeHd w) := by
  have b0 := (Below.refl w.heap.size w).alloc (Nat.le_refl _) (.cells #[.int .i64 0, .int .i64 0, .int .i64 0, .int .i64 0, .int .i64 0] 26)
  have X0 := HdAt.new w hd0 26
  have hz0 : w.heap.size < (w.alloc (.cells #[.int .i64 0, .int .i64 0, .int .i64 0, .int .i64 0, .int .i64 0] 26)).heap.size := by simp
  have hr0 := (hr.below b0).more b0.size
  go_enter Try.func10, Try.ntmps10
  go_wp2_with fail
  change HdAt (w.alloc (.cells #[.int .i64 0, .int .i64 0, .int .i64 0, .int .i64 0, .int .i64 0] 26)) _ _ at X0
  generalize (w.alloc (.cells #[.int .i64 0, .int .i64 0, .int .i64 0, .int .i64 0, .int .i64 0] 26)) = w0 at *
  refine (new_any A n c xs w0 hr0 hn).mono ?_
  rintro e w1 ⟨g, rfl, hc1, hb1⟩
  go_wp2_with fail
  refine (draw3_any g _ w1 hc1).mono ?_
  rintro e w2 ⟨⟨s, f, r, t, m⟩, rfl, hc2, hg2⟩
  have b2 := hb1.trans (cur_under hc1 hb1.size hg2)
  have X2 := X0.below b2 hz0
  have b02 := below_more b0 b2 b0.size
  clear hb1 hc1 hg2 hc2 b2 b0 X0
  have r0 : w2.cell? ⟨w.heap.size, 0, none⟩ = some (.int .i64 0) := X2.cell 0
  have r1 : w2.cell? ⟨w.heap.size, 1, none⟩ = some (.int .i64 0) := X2.cell 1
  have r2 : w2.cell? ⟨w.heap.size, 2, none⟩ = some (.int .i64 0) := X2.cell 2
  have r3 : w2.cell? ⟨w.heap.size, 3, none⟩ = some (.int .i64 0) := X2.cell 3
  have r4 : w2.cell? ⟨w.heap.size, 4, none⟩ = some (.int .i64 0) := X2.cell 4
  have f0 := X2.free 0
  have f1 := X2.free 1
  have f2 := X2.free 2
  have f3 := X2.free 3
  have f4 := X2.free 4
  unfold hdV
  dsimp only
  go_wp2_with fail
  refine bodyPost_ret (v := hdV ⟨s, f, r, t, m⟩) (by simp [results, Try.results10, go_sem, hdV, r0, r1, r2, r3, r4]) rfl ⟨_, rfl, ?_⟩
  exact below_five b02 (Nat.le_refl _) _ _ _ _ _ b02.size

set_option maxHeartbeats 2000000 in
theorem drawHeadIn_any (A : Option Addr) (n c : Nat) (xs : List Int) (w : World) (hr : Rd8 w w.heap.size A n xs) (hn : n ≤ 4096) :
    Calls Try.prog 7 #[.slice A n c] w (SomeRow w) := by
  go_enter Try.func7, Try.ntmps7
  go_wp2_with fail
  refine (new_any A n c xs w hr hn).mono ?_
  rintro e w1 ⟨g, rfl, hc1, hb1⟩
  have hgl := hc1.lt
  go_wp2_with fail
  refine (drawAny_any g _ w1 hc1).mono ?_
  rintro e w2 ⟨h, n2, c2, ys, _, hn2, _, rfl, o2, hc2, hg2⟩
  go_wp2_with fail
  refine (once_any g _ 4 _ hc2).mono ?_
  rintro e w3 ⟨b3, rfl, hc3, hg3⟩
  have G3 := grown_trans hg2 hg3
  have p3 := o2.draw hg3 hgl hg3.size
  clear o2 hg3 hg2 hc2
  cases b3
  · go_wp2_with fail
    go_ret
    exact ⟨_, _, _, ys, ⟨hn2, p3.cap⟩, rfl, p3.toI.rd, hb1.trans (cur_under hc1 hb1.size G3)⟩
  by_cases h8 : 8 ≤ n2
  case neg =>
    have h8' : decide ((8 : Int) ≤ (n2 : Int)) = false := by simp; omega
    go_wp2_with fail
    go_ret
    exact ⟨_, _, _, ys, ⟨hn2, p3.cap⟩, rfl, p3.toI.rd, hb1.trans (cur_under hc1 hb1.size G3)⟩
  go_wp2_with fail
  refine (below_any g _ 8 _ hc3).mono ?_
  rintro e w4 ⟨k, hk, rfl, hc4, hg4⟩
  obtain ⟨k0, k1⟩ := hk.lt (by omega)
  obtain ⟨j, rfl⟩ : ∃ j : Nat, k = j := ⟨k.toNat, by omega⟩
  have G4 := grown_trans G3 hg4
  have p4 := p3.draw hg4 hgl hg4.size
  clear hk G3 p3 hc3 hg4
  go_wp2_with fail
  refine (below_any g _ 6 _ hc4).mono ?_
  rintro e w5 ⟨z, _, rfl, hc5, hg5⟩
  have G5 := grown_trans G4 hg5
  have p5 := p4.draw hg5 hgl hg5.size
  clear G4 p4 hc4 hg5
  have q5 := p5.toI.cell (j := j) (by omega)
  have f5 := p5.free j
  generalize ys.getD j 0 = q at q5
  have hlow := p5.low
  obtain ⟨v6, g6⟩ := p5.set j (.int .i64 z)
  rw [iv_set] at v6
  have b5 := hb1.trans (cur_under hc1 hb1.size G5)
  have cap5 := p5.cap
  have V6 := Lib.hid (v6.toI.rd.more g6.size)
  have B6 := Lib.hid (b5.grown g6 b5.size (fun k e => by cases e; have := hb1.size; omega))
  clear v6 g6 b5 p5 G5
  go_wp2_with fail
  go_ret
  exact ⟨_, _, _, _, ⟨hn2, cap5⟩, rfl, V6.out, B6.out⟩

set_option maxHeartbeats 2000000 in
theorem drawWithHead_any (A : Option Addr) (n c : Nat) (xs : List Int) (w : World) (hr : Rd8 w w.heap.size A n xs) (hn : n ≤ 4096) :
    Calls Try.prog 5 #[.slice A n c] w (SomeRowHd w) := by
  have b0 := (Below.refl w.heap.size w).alloc (Nat.le_refl _) (.cells #[.int .i64 0, .int .i64 0, .int .i64 0, .int .i64 0, .int .i64 0] 26)
  have X0 := HdAt.new w hd0 26
  have hz0 : w.heap.size < (w.alloc (.cells #[.int .i64 0, .int .i64 0, .int .i64 0, .int .i64 0, .int .i64 0] 26)).heap.size := by simp
  have hr0 := (hr.below b0).more b0.size
  go_enter Try.func5, Try.ntmps5
  go_wp2_with fail
  change HdAt (w.alloc (.cells #[.int .i64 0, .int .i64 0, .int .i64 0, .int .i64 0, .int .i64 0] 26)) _ _ at X0
  generalize (w.alloc (.cells #[.int .i64 0, .int .i64 0, .int .i64 0, .int .i64 0, .int .i64 0] 26)) = w0 at *
  refine (new_any A n c xs w0 hr0 hn).mono ?_
  rintro e w1 ⟨g, rfl, hc1, hb1⟩
  have hgl := hc1.lt
  go_wp2_with fail
  refine (drawAny_any g _ w1 hc1).mono ?_
  rintro e w2 ⟨h, n2, c2, ys, _, hn2, _, rfl, o2, hc2, hg2⟩
  go_wp2_with fail
  refine (draw3_any g _ w2 hc2).mono ?_
  rintro e w3 ⟨⟨s, f, r, t, m⟩, rfl, hc3, hg3⟩
  have G3 := grown_trans hg2 hg3
  have p3 := o2.draw hg3 hgl hg3.size
  have b3 := hb1.trans (cur_under hc1 hb1.size G3)
  have X3 := X0.below b3 hz0
  have b03 := below_more b0 b3 b0.size
  have hlow : w.heap.size < h := by have := p3.low; have := hb1.size; omega
  have g7 := fun v0 v1 v2 v3 v4 => Lib.hid (((p3.grown (five_set w3 w.heap.size v0 v1 v2 v3 v4) (fun k e => by cases e; have := hb1.size; omega)).toI.rd).more (five_set w3 w.heap.size v0 v1 v2 v3 v4).size)
  clear hb1 hc1 hg2 hc2 hg3 hc3 b3 b0 X0 G3 o2 p3
  have r0 : w3.cell? ⟨w.heap.size, 0, none⟩ = some (.int .i64 0) := X3.cell 0
  have r1 : w3.cell? ⟨w.heap.size, 1, none⟩ = some (.int .i64 0) := X3.cell 1
  have r2 : w3.cell? ⟨w.heap.size, 2, none⟩ = some (.int .i64 0) := X3.cell 2
  have r3 : w3.cell? ⟨w.heap.size, 3, none⟩ = some (.int .i64 0) := X3.cell 3
  have r4 : w3.cell? ⟨w.heap.size, 4, none⟩ = some (.int .i64 0) := X3.cell 4
  have f0 := X3.free 0
  have f1 := X3.free 1
  have f2 := X3.free 2
  have f3 := X3.free 3
  have f4 := X3.free 4
  unfold hdV
  dsimp only
  go_wp2_with fail
  refine bodyPost_ret (v := .tuple #[.slice (some ⟨h, 0, none⟩) n2 c2, hdV ⟨s, f, r, t, m⟩]) (by simp [results, Try.results5, go_sem, hdV, r0, r1, r2, r3, r4]) rfl ⟨_, _, _, ys, _, hn2, rfl, ?_, ?_⟩
  · exact (g7 _ _ _ _ _).out
  · exact below_five b03 (Nat.le_refl _) _ _ _ _ _ b03.size
end Go.Proofs.Ytmadhfloblapeaa
