/- HeadIn and WithHead: the program's side, and the model's WithHead. -/
import Derived.Test.YtieknpkbmccimaaDoorHdi
namespace Go.Proofs.YtieknpkbmccimaaDoor
open Go.RowKit

theorem clusterL_zero {xs : List Int} (hi : imgB xs = true) (h0 : xs.length ≠ 0) : clusterL xs 0 = cl xs 0 := by
  have hm : 1 ≤ manyN xs := by unfold manyN; omega
  rw [clusterL_in hi (inB_true.2 ⟨by omega, by omega⟩)]; rfl
theorem clusterL_none {xs : List Int} (h : ¬ (imgB xs = true ∧ xs.length ≠ 0)) : clusterL xs 0 = [] := by
  cases hi : imgB xs
  · exact clusterL_no hi
  · by_cases h0 : xs.length = 0
    · exact clusterL_out (inB_false.2 (fun hh => by have : manyN xs = 0 := by unfold manyN; omega
                                                    omega))
    · exact absurd ⟨hi, h0⟩ h

set_option maxRecDepth 100000 in
set_option maxHeartbeats 4000000 in
theorem implHeadIn_any (A : Option Addr) (n c : Nat) (xs : List Int) (w : World) (h : Rd w w.heap.size A n xs) (hn : n ≤ 2097152) :
    Calls Tryd.prog 17 #[.slice A n c] w (RetHd w (headIn xs)) := by
  have hxl := Lib.hid h.len
  have hB := Lib.hid ((Below.refl w.heap.size w).alloc (Nat.le_refl _) (.cells #[.int .i64 0, .int .i64 0, .int .i64 0, .int .i64 0, .int .i64 0] 32))
  have h1 := (h.below hB.out).more hB.out.size
  by_cases hok : imgB xs = true ∧ xs.length ≠ 0
  case neg =>
    have H := Lib.hid (headIn_no (xs := xs) (by
      cases hi : imgB xs
      · simp [hasHead, hi]
      · have : xs.length = 0 := Classical.byContradiction (fun hh => hok ⟨hi, hh⟩)
        simp [hasHead, this]))
    have HC := Lib.hid (clusterL_none hok)
    go_enter Tryd.func17, Tryd.ntmps17
    go_wp2_with fail
    refine (implClat_any A n c xs 0 _ h1 hn).mono ?_
    rintro e w1 ⟨G, ng, cg, rfl, oG, b1⟩
    rw [HC.out] at oG
    obtain rfl : 0 = ng := by have := oG.len; simpa using this
    have b01 := below_more hB.out b1 hB.out.size
    have r0 : w1.cell? ⟨w.heap.size, 0, none⟩ = some (.int .i64 0) := boxed b1 0
    have r1 : w1.cell? ⟨w.heap.size, 1, none⟩ = some (.int .i64 0) := boxed b1 1
    have r2 : w1.cell? ⟨w.heap.size, 2, none⟩ = some (.int .i64 0) := boxed b1 2
    have r3 : w1.cell? ⟨w.heap.size, 3, none⟩ = some (.int .i64 0) := boxed b1 3
    have r4 : w1.cell? ⟨w.heap.size, 4, none⟩ = some (.int .i64 0) := boxed b1 4
    have f0 := boxedF b1 0
    have f1 := boxedF b1 1
    have f2 := boxedF b1 2
    have f3 := boxedF b1 3
    have f4 := boxedF b1 4
    have hd : (((0 : Nat) : Int) == 0) = true := by simp
    go_wp2_with fail
    refine bodyPost_ret (v := .tuple #[hdV hd0, .bool false]) (by simp [results, Tryd.results17, go_sem, hdV, hd0, r0, r1, r2, r3, r4]) rfl ⟨by rw [H.out], ?_⟩
    exact (((((b01.setCell (Nat.le_refl _) _).setCell (Nat.le_refl _) _).setCell (Nat.le_refl _) _).setCell (Nat.le_refl _) _).setCell (Nat.le_refl _) _)
  have HC := Lib.hid (clusterL_zero hok.1 hok.2)
  go_enter Tryd.func17, Tryd.ntmps17
  go_wp2_with fail
  refine (implClat_any A n c xs 0 _ h1 hn).mono ?_
  rintro e w1 ⟨G, ng, cg, rfl, oG, b1⟩
  rw [HC.out] at oG
  obtain rfl : 8 = ng := by have := oG.len; simpa [cl, f8_length] using this
  rcases oG.form with ⟨_, h0, _⟩ | ⟨g, rfl, g1, g2, g3, g4⟩
  · omega
  have b01 := below_more hB.out b1 hB.out.size
  have r0 : w1.cell? ⟨w.heap.size, 0, none⟩ = some (.int .i64 0) := boxed b1 0
  have r1 : w1.cell? ⟨w.heap.size, 1, none⟩ = some (.int .i64 0) := boxed b1 1
  have r2 : w1.cell? ⟨w.heap.size, 2, none⟩ = some (.int .i64 0) := boxed b1 2
  have r3 : w1.cell? ⟨w.heap.size, 3, none⟩ = some (.int .i64 0) := boxed b1 3
  have r4 : w1.cell? ⟨w.heap.size, 4, none⟩ = some (.int .i64 0) := boxed b1 4
  have f0 := boxedF b1 0
  have f1 := boxedF b1 1
  have f2 := boxedF b1 2
  have f3 := boxedF b1 3
  have f4 := boxedF b1 4
  have hz1 : w.heap.size < w1.heap.size := by have := b1.size; simp at this; omega
  have hd : (((8 : Nat) : Int) == 0) = false := by simp
  have HX := Lib.hid (show hasHead xs = (decide (xs.getD 0 0 = 20559) && (decide (xs.getD 1 0 = 3) && (decide (xs.getD 7 0 = 0) && headB ⟨xs.getD 2 0, xs.getD 3 0, xs.getD 4 0, xs.getD 5 0, xs.getD 6 0⟩))) by
    simp [hasHead, hok.1, headOf, hok.2])
  have HY := Lib.hid (show headOf xs = ⟨xs.getD 2 0, xs.getD 3 0, xs.getD 4 0, xs.getD 5 0, xs.getD 6 0⟩ from rfl)
  have HH := Lib.hid (show headOf (cl xs 0) = ⟨xs.getD 2 0, xs.getD 3 0, xs.getD 4 0, xs.getD 5 0, xs.getD 6 0⟩ by
    unfold headOf; simp only [cl0_get xs _ (show 2 < 8 by omega), cl0_get xs _ (show 3 < 8 by omega), cl0_get xs _ (show 4 < 8 by omega), cl0_get xs _ (show 5 < 8 by omega), cl0_get xs _ (show 6 < 8 by omega)])
  have H0 := Lib.hid (cl0_get xs 0 (by omega))
  have H1 := Lib.hid (cl0_get xs 1 (by omega))
  have H7 := Lib.hid (cl0_get xs 7 (by omega))
  clear h1 h b1
  go_wp2_with fail
  refine (readHead_any g w1.heap.size cg (cl xs 0) w1 oG.rd (Nat.le_refl _)).mono ?_
  rintro e w2 ⟨rfl, b2⟩
  rw [HH.out, H0.out, H1.out, H7.out]
  clear HH H0 H1 H7
  generalize xs.getD 0 0 = x0 at *
  generalize xs.getD 1 0 = x1 at *
  generalize xs.getD 2 0 = x2 at *
  generalize xs.getD 3 0 = x3 at *
  generalize xs.getD 4 0 = x4 at *
  generalize xs.getD 5 0 = x5 at *
  generalize xs.getD 6 0 = x6 at *
  generalize xs.getD 7 0 = x7 at *
  have r0 := (b2.cell (p := ⟨w.heap.size, 0, none⟩) hz1).trans r0
  have r1 := (b2.cell (p := ⟨w.heap.size, 1, none⟩) hz1).trans r1
  have r2 := (b2.cell (p := ⟨w.heap.size, 2, none⟩) hz1).trans r2
  have r3 := (b2.cell (p := ⟨w.heap.size, 3, none⟩) hz1).trans r3
  have r4 := (b2.cell (p := ⟨w.heap.size, 4, none⟩) hz1).trans r4
  have f0 := (b2.frozen (p := ⟨w.heap.size, 0, none⟩) hz1).trans f0
  have f1 := (b2.frozen (p := ⟨w.heap.size, 1, none⟩) hz1).trans f1
  have f2 := (b2.frozen (p := ⟨w.heap.size, 2, none⟩) hz1).trans f2
  have f3 := (b2.frozen (p := ⟨w.heap.size, 3, none⟩) hz1).trans f3
  have f4 := (b2.frozen (p := ⟨w.heap.size, 4, none⟩) hz1).trans f4
  have b02 := below_more b01 b2 b01.size
  have hz2 : w.heap.size < w2.heap.size := by have := b2.size; omega
  have hzn : w.heap.size ≠ w2.heap.size := by omega
  clear oG b2 b01 g1 g2 g3 g4 hz1
  unfold hcV
  dsimp only
  go_wp2_with fail
  have r0 := (World.cell?_alloc_lt w2 (.cells #[.int .i64 x0, .int .i64 x1, .int .i64 x2, .int .i64 x3, .int .i64 x4, .int .i64 x5, .int .i64 x6, .int .i64 x7] 56) ⟨w.heap.size, 0, none⟩ hz2).trans r0
  have r1 := (World.cell?_alloc_lt w2 (.cells #[.int .i64 x0, .int .i64 x1, .int .i64 x2, .int .i64 x3, .int .i64 x4, .int .i64 x5, .int .i64 x6, .int .i64 x7] 56) ⟨w.heap.size, 1, none⟩ hz2).trans r1
  have r2 := (World.cell?_alloc_lt w2 (.cells #[.int .i64 x0, .int .i64 x1, .int .i64 x2, .int .i64 x3, .int .i64 x4, .int .i64 x5, .int .i64 x6, .int .i64 x7] 56) ⟨w.heap.size, 2, none⟩ hz2).trans r2
  have r3 := (World.cell?_alloc_lt w2 (.cells #[.int .i64 x0, .int .i64 x1, .int .i64 x2, .int .i64 x3, .int .i64 x4, .int .i64 x5, .int .i64 x6, .int .i64 x7] 56) ⟨w.heap.size, 3, none⟩ hz2).trans r3
  have r4 := (World.cell?_alloc_lt w2 (.cells #[.int .i64 x0, .int .i64 x1, .int .i64 x2, .int .i64 x3, .int .i64 x4, .int .i64 x5, .int .i64 x6, .int .i64 x7] 56) ⟨w.heap.size, 4, none⟩ hz2).trans r4
  have f0 := (World.frozen?_alloc_old w2 (.cells #[.int .i64 x0, .int .i64 x1, .int .i64 x2, .int .i64 x3, .int .i64 x4, .int .i64 x5, .int .i64 x6, .int .i64 x7] 56) ⟨w.heap.size, 0, none⟩ hzn).trans f0
  have f1 := (World.frozen?_alloc_old w2 (.cells #[.int .i64 x0, .int .i64 x1, .int .i64 x2, .int .i64 x3, .int .i64 x4, .int .i64 x5, .int .i64 x6, .int .i64 x7] 56) ⟨w.heap.size, 1, none⟩ hzn).trans f1
  have f2 := (World.frozen?_alloc_old w2 (.cells #[.int .i64 x0, .int .i64 x1, .int .i64 x2, .int .i64 x3, .int .i64 x4, .int .i64 x5, .int .i64 x6, .int .i64 x7] 56) ⟨w.heap.size, 2, none⟩ hzn).trans f2
  have f3 := (World.frozen?_alloc_old w2 (.cells #[.int .i64 x0, .int .i64 x1, .int .i64 x2, .int .i64 x3, .int .i64 x4, .int .i64 x5, .int .i64 x6, .int .i64 x7] 56) ⟨w.heap.size, 3, none⟩ hzn).trans f3
  have f4 := (World.frozen?_alloc_old w2 (.cells #[.int .i64 x0, .int .i64 x1, .int .i64 x2, .int .i64 x3, .int .i64 x4, .int .i64 x5, .int .i64 x6, .int .i64 x7] 56) ⟨w.heap.size, 4, none⟩ hzn).trans f4
  have d0 : (w2.alloc (.cells #[.int .i64 x0, .int .i64 x1, .int .i64 x2, .int .i64 x3, .int .i64 x4, .int .i64 x5, .int .i64 x6, .int .i64 x7] 56)).cell? ⟨w2.heap.size, 0, none⟩ = some (.int .i64 x0) := World.cell?_alloc_new _ _ _ _
  have d1 : (w2.alloc (.cells #[.int .i64 x0, .int .i64 x1, .int .i64 x2, .int .i64 x3, .int .i64 x4, .int .i64 x5, .int .i64 x6, .int .i64 x7] 56)).cell? ⟨w2.heap.size, 1, none⟩ = some (.int .i64 x1) := World.cell?_alloc_new _ _ _ _
  have d2 : (w2.alloc (.cells #[.int .i64 x0, .int .i64 x1, .int .i64 x2, .int .i64 x3, .int .i64 x4, .int .i64 x5, .int .i64 x6, .int .i64 x7] 56)).cell? ⟨w2.heap.size, 2, none⟩ = some (.int .i64 x2) := World.cell?_alloc_new _ _ _ _
  have d3 : (w2.alloc (.cells #[.int .i64 x0, .int .i64 x1, .int .i64 x2, .int .i64 x3, .int .i64 x4, .int .i64 x5, .int .i64 x6, .int .i64 x7] 56)).cell? ⟨w2.heap.size, 3, none⟩ = some (.int .i64 x3) := World.cell?_alloc_new _ _ _ _
  have d4 : (w2.alloc (.cells #[.int .i64 x0, .int .i64 x1, .int .i64 x2, .int .i64 x3, .int .i64 x4, .int .i64 x5, .int .i64 x6, .int .i64 x7] 56)).cell? ⟨w2.heap.size, 4, none⟩ = some (.int .i64 x4) := World.cell?_alloc_new _ _ _ _
  have d5 : (w2.alloc (.cells #[.int .i64 x0, .int .i64 x1, .int .i64 x2, .int .i64 x3, .int .i64 x4, .int .i64 x5, .int .i64 x6, .int .i64 x7] 56)).cell? ⟨w2.heap.size, 5, none⟩ = some (.int .i64 x5) := World.cell?_alloc_new _ _ _ _
  have d6 : (w2.alloc (.cells #[.int .i64 x0, .int .i64 x1, .int .i64 x2, .int .i64 x3, .int .i64 x4, .int .i64 x5, .int .i64 x6, .int .i64 x7] 56)).cell? ⟨w2.heap.size, 6, none⟩ = some (.int .i64 x6) := World.cell?_alloc_new _ _ _ _
  have d7 : (w2.alloc (.cells #[.int .i64 x0, .int .i64 x1, .int .i64 x2, .int .i64 x3, .int .i64 x4, .int .i64 x5, .int .i64 x6, .int .i64 x7] 56)).cell? ⟨w2.heap.size, 7, none⟩ = some (.int .i64 x7) := World.cell?_alloc_new _ _ _ _
  have b03 := Lib.hid (b02.alloc b02.size (.cells #[.int .i64 x0, .int .i64 x1, .int .i64 x2, .int .i64 x3, .int .i64 x4, .int .i64 x5, .int .i64 x6, .int .i64 x7] 56))
  have hz3 : w.heap.size < (w2.alloc (.cells #[.int .i64 x0, .int .i64 x1, .int .i64 x2, .int .i64 x3, .int .i64 x4, .int .i64 x5, .int .i64 x6, .int .i64 x7] 56)).heap.size := by simp; omega
  have hg3 : w2.heap.size < (w2.alloc (.cells #[.int .i64 x0, .int .i64 x1, .int .i64 x2, .int .i64 x3, .int .i64 x4, .int .i64 x5, .int .i64 x6, .int .i64 x7] 56)).heap.size := by simp
  clear hz2 hzn b02
  generalize (w2.alloc (.cells #[.int .i64 x0, .int .i64 x1, .int .i64 x2, .int .i64 x3, .int .i64 x4, .int .i64 x5, .int .i64 x6, .int .i64 x7] 56)) = w3 at *
  generalize w2.heap.size = gf at *
  clear hok HC hd
  cases hb : headB ⟨x2, x3, x4, x5, x6⟩
  · have HN : Hid (hasHead xs = false) := by rw [HX.out, hb]; simp [Hid]
    clear HX
    first
      | go_region_with ((go_at_call 37; refine (implHeadOk_any ⟨x2, x3, x4, x5, x6⟩ _).mono ?_; rintro e w4 ⟨rfl, b4⟩))
      | fail
    all_goals
      have r0 := (b4.cell (p := ⟨w.heap.size, 0, none⟩) hz3).trans r0
      have r1 := (b4.cell (p := ⟨w.heap.size, 1, none⟩) hz3).trans r1
      have r2 := (b4.cell (p := ⟨w.heap.size, 2, none⟩) hz3).trans r2
      have r3 := (b4.cell (p := ⟨w.heap.size, 3, none⟩) hz3).trans r3
      have r4 := (b4.cell (p := ⟨w.heap.size, 4, none⟩) hz3).trans r4
      have f0 := (b4.frozen (p := ⟨w.heap.size, 0, none⟩) hz3).trans f0
      have f1 := (b4.frozen (p := ⟨w.heap.size, 1, none⟩) hz3).trans f1
      have f2 := (b4.frozen (p := ⟨w.heap.size, 2, none⟩) hz3).trans f2
      have f3 := (b4.frozen (p := ⟨w.heap.size, 3, none⟩) hz3).trans f3
      have f4 := (b4.frozen (p := ⟨w.heap.size, 4, none⟩) hz3).trans f4
      have b04 := below_more b03.out.drew b4 b03.out.size
      clear b4 d0 d1 d2 d3 d4 d5 d6 d7 b03
      go_wp2_with fail
      refine bodyPost_ret (v := .tuple #[hdV hd0, .bool false]) (by simp [results, Tryd.results17, go_sem, hdV, hd0, r0, r1, r2, r3, r4]) rfl ⟨by rw [headIn_no HN.out], ?_⟩
      exact (((((b04.setCell (Nat.le_refl _) _).setCell (Nat.le_refl _) _).setCell (Nat.le_refl _) _).setCell (Nat.le_refl _) _).setCell (Nat.le_refl _) _)
  by_cases hx0 : x0 = 20559
  case neg =>
    have HN : Hid (hasHead xs = false) := by rw [HX.out]; simp [hx0, Hid]
    have q : (x0 == 20559) = false := by simpa using hx0
    have q' : (x0 != 20559) = true := by simpa using hx0
    clear HX
    go_region_held3 (fun w' => w'.cell? ⟨gf, 0, none⟩ = some (.int .i64 x0) ∧ w'.cell? ⟨gf, 1, none⟩ = some (.int .i64 x1) ∧ w'.cell? ⟨gf, 2, none⟩ = some (.int .i64 x2) ∧ w'.cell? ⟨gf, 3, none⟩ = some (.int .i64 x3) ∧ w'.cell? ⟨gf, 4, none⟩ = some (.int .i64 x4) ∧ w'.cell? ⟨gf, 5, none⟩ = some (.int .i64 x5) ∧ w'.cell? ⟨gf, 6, none⟩ = some (.int .i64 x6) ∧ w'.cell? ⟨gf, 7, none⟩ = some (.int .i64 x7))
      (first
        | go_keep
        | (go_split_ands
           refine ⟨?_, ?_, ?_, ?_, ?_, ?_, ?_, ?_⟩
           all_goals (refine (b5.cell hg4).trans ?_; assumption))
        | (go_split_ands
           refine ⟨?_, ?_, ?_, ?_, ?_, ?_, ?_, ?_⟩
           all_goals (refine (b4.cell hg3).trans ?_; assumption)))
      (first
        | (go_at_call 37; refine (implHeadOk_any ⟨x2, x3, x4, x5, x6⟩ _).mono ?_; rintro e w4 ⟨rfl, b4⟩; have hg4 : gf < w4.heap.size := Nat.lt_of_lt_of_le hg3 b4.size)
        | (go_at_call 38; refine (clusterOfHead_any ⟨x2, x3, x4, x5, x6⟩ _).mono ?_; rintro e w5 ⟨rfl, b5⟩; simp only [hcV]))
    have hz4 : w.heap.size < w4.heap.size := Nat.lt_of_lt_of_le hz3 b4.size
    have b04 := below_more b03.out.drew b4 b03.out.size
    have b05 := below_more b04 b5 b04.size
    have r0 := (b5.cell (p := ⟨w.heap.size, 0, none⟩) hz4).trans ((b4.cell (p := ⟨w.heap.size, 0, none⟩) hz3).trans r0)
    have r1 := (b5.cell (p := ⟨w.heap.size, 1, none⟩) hz4).trans ((b4.cell (p := ⟨w.heap.size, 1, none⟩) hz3).trans r1)
    have r2 := (b5.cell (p := ⟨w.heap.size, 2, none⟩) hz4).trans ((b4.cell (p := ⟨w.heap.size, 2, none⟩) hz3).trans r2)
    have r3 := (b5.cell (p := ⟨w.heap.size, 3, none⟩) hz4).trans ((b4.cell (p := ⟨w.heap.size, 3, none⟩) hz3).trans r3)
    have r4 := (b5.cell (p := ⟨w.heap.size, 4, none⟩) hz4).trans ((b4.cell (p := ⟨w.heap.size, 4, none⟩) hz3).trans r4)
    have f0 := (b5.frozen (p := ⟨w.heap.size, 0, none⟩) hz4).trans ((b4.frozen (p := ⟨w.heap.size, 0, none⟩) hz3).trans f0)
    have f1 := (b5.frozen (p := ⟨w.heap.size, 1, none⟩) hz4).trans ((b4.frozen (p := ⟨w.heap.size, 1, none⟩) hz3).trans f1)
    have f2 := (b5.frozen (p := ⟨w.heap.size, 2, none⟩) hz4).trans ((b4.frozen (p := ⟨w.heap.size, 2, none⟩) hz3).trans f2)
    have f3 := (b5.frozen (p := ⟨w.heap.size, 3, none⟩) hz4).trans ((b4.frozen (p := ⟨w.heap.size, 3, none⟩) hz3).trans f3)
    have f4 := (b5.frozen (p := ⟨w.heap.size, 4, none⟩) hz4).trans ((b4.frozen (p := ⟨w.heap.size, 4, none⟩) hz3).trans f4)
    go_wp2_with fail
    refine bodyPost_ret (v := .tuple #[hdV hd0, .bool false]) (by simp [results, Tryd.results17, go_sem, hdV, hd0, r0, r1, r2, r3, r4]) rfl ⟨by rw [headIn_no HN.out], ?_⟩
    exact (((((b05.setCell (Nat.le_refl _) _).setCell (Nat.le_refl _) _).setCell (Nat.le_refl _) _).setCell (Nat.le_refl _) _).setCell (Nat.le_refl _) _)
  subst hx0
  by_cases hx1 : x1 = 3
  case neg =>
    have HN : Hid (hasHead xs = false) := by rw [HX.out]; simp [hx1, Hid]
    have q : (x1 == 3) = false := by simpa using hx1
    have q' : (x1 != 3) = true := by simpa using hx1
    clear HX
    go_region_held3 (fun w' => w'.cell? ⟨gf, 0, none⟩ = some (.int .i64 20559) ∧ w'.cell? ⟨gf, 1, none⟩ = some (.int .i64 x1) ∧ w'.cell? ⟨gf, 2, none⟩ = some (.int .i64 x2) ∧ w'.cell? ⟨gf, 3, none⟩ = some (.int .i64 x3) ∧ w'.cell? ⟨gf, 4, none⟩ = some (.int .i64 x4) ∧ w'.cell? ⟨gf, 5, none⟩ = some (.int .i64 x5) ∧ w'.cell? ⟨gf, 6, none⟩ = some (.int .i64 x6) ∧ w'.cell? ⟨gf, 7, none⟩ = some (.int .i64 x7))
      (first
        | go_keep
        | (go_split_ands
           refine ⟨?_, ?_, ?_, ?_, ?_, ?_, ?_, ?_⟩
           all_goals (refine (b5.cell hg4).trans ?_; assumption))
        | (go_split_ands
           refine ⟨?_, ?_, ?_, ?_, ?_, ?_, ?_, ?_⟩
           all_goals (refine (b4.cell hg3).trans ?_; assumption)))
      (first
        | (go_at_call 37; refine (implHeadOk_any ⟨x2, x3, x4, x5, x6⟩ _).mono ?_; rintro e w4 ⟨rfl, b4⟩; have hg4 : gf < w4.heap.size := Nat.lt_of_lt_of_le hg3 b4.size)
        | (go_at_call 38; refine (clusterOfHead_any ⟨x2, x3, x4, x5, x6⟩ _).mono ?_; rintro e w5 ⟨rfl, b5⟩; simp only [hcV]))
    have hz4 : w.heap.size < w4.heap.size := Nat.lt_of_lt_of_le hz3 b4.size
    have b04 := below_more b03.out.drew b4 b03.out.size
    have b05 := below_more b04 b5 b04.size
    have r0 := (b5.cell (p := ⟨w.heap.size, 0, none⟩) hz4).trans ((b4.cell (p := ⟨w.heap.size, 0, none⟩) hz3).trans r0)
    have r1 := (b5.cell (p := ⟨w.heap.size, 1, none⟩) hz4).trans ((b4.cell (p := ⟨w.heap.size, 1, none⟩) hz3).trans r1)
    have r2 := (b5.cell (p := ⟨w.heap.size, 2, none⟩) hz4).trans ((b4.cell (p := ⟨w.heap.size, 2, none⟩) hz3).trans r2)
    have r3 := (b5.cell (p := ⟨w.heap.size, 3, none⟩) hz4).trans ((b4.cell (p := ⟨w.heap.size, 3, none⟩) hz3).trans r3)
    have r4 := (b5.cell (p := ⟨w.heap.size, 4, none⟩) hz4).trans ((b4.cell (p := ⟨w.heap.size, 4, none⟩) hz3).trans r4)
    have f0 := (b5.frozen (p := ⟨w.heap.size, 0, none⟩) hz4).trans ((b4.frozen (p := ⟨w.heap.size, 0, none⟩) hz3).trans f0)
    have f1 := (b5.frozen (p := ⟨w.heap.size, 1, none⟩) hz4).trans ((b4.frozen (p := ⟨w.heap.size, 1, none⟩) hz3).trans f1)
    have f2 := (b5.frozen (p := ⟨w.heap.size, 2, none⟩) hz4).trans ((b4.frozen (p := ⟨w.heap.size, 2, none⟩) hz3).trans f2)
    have f3 := (b5.frozen (p := ⟨w.heap.size, 3, none⟩) hz4).trans ((b4.frozen (p := ⟨w.heap.size, 3, none⟩) hz3).trans f3)
    have f4 := (b5.frozen (p := ⟨w.heap.size, 4, none⟩) hz4).trans ((b4.frozen (p := ⟨w.heap.size, 4, none⟩) hz3).trans f4)
    go_wp2_with fail
    refine bodyPost_ret (v := .tuple #[hdV hd0, .bool false]) (by simp [results, Tryd.results17, go_sem, hdV, hd0, r0, r1, r2, r3, r4]) rfl ⟨by rw [headIn_no HN.out], ?_⟩
    exact (((((b05.setCell (Nat.le_refl _) _).setCell (Nat.le_refl _) _).setCell (Nat.le_refl _) _).setCell (Nat.le_refl _) _).setCell (Nat.le_refl _) _)
  subst hx1
  by_cases hx7 : x7 = 0
  case neg =>
    have HN : Hid (hasHead xs = false) := by rw [HX.out]; simp [hx7, Hid]
    have q : (x7 == 0) = false := by simpa using hx7
    have q' : (x7 != 0) = true := by simpa using hx7
    clear HX
    go_region_held3 (fun w' => w'.cell? ⟨gf, 0, none⟩ = some (.int .i64 20559) ∧ w'.cell? ⟨gf, 1, none⟩ = some (.int .i64 3) ∧ w'.cell? ⟨gf, 2, none⟩ = some (.int .i64 x2) ∧ w'.cell? ⟨gf, 3, none⟩ = some (.int .i64 x3) ∧ w'.cell? ⟨gf, 4, none⟩ = some (.int .i64 x4) ∧ w'.cell? ⟨gf, 5, none⟩ = some (.int .i64 x5) ∧ w'.cell? ⟨gf, 6, none⟩ = some (.int .i64 x6) ∧ w'.cell? ⟨gf, 7, none⟩ = some (.int .i64 x7))
      (first
        | go_keep
        | (go_split_ands
           refine ⟨?_, ?_, ?_, ?_, ?_, ?_, ?_, ?_⟩
           all_goals (refine (b5.cell hg4).trans ?_; assumption))
        | (go_split_ands
           refine ⟨?_, ?_, ?_, ?_, ?_, ?_, ?_, ?_⟩
           all_goals (refine (b4.cell hg3).trans ?_; assumption)))
      (first
        | (go_at_call 37; refine (implHeadOk_any ⟨x2, x3, x4, x5, x6⟩ _).mono ?_; rintro e w4 ⟨rfl, b4⟩; have hg4 : gf < w4.heap.size := Nat.lt_of_lt_of_le hg3 b4.size)
        | (go_at_call 38; refine (clusterOfHead_any ⟨x2, x3, x4, x5, x6⟩ _).mono ?_; rintro e w5 ⟨rfl, b5⟩; simp only [hcV]))
    have hz4 : w.heap.size < w4.heap.size := Nat.lt_of_lt_of_le hz3 b4.size
    have b04 := below_more b03.out.drew b4 b03.out.size
    have b05 := below_more b04 b5 b04.size
    have r0 := (b5.cell (p := ⟨w.heap.size, 0, none⟩) hz4).trans ((b4.cell (p := ⟨w.heap.size, 0, none⟩) hz3).trans r0)
    have r1 := (b5.cell (p := ⟨w.heap.size, 1, none⟩) hz4).trans ((b4.cell (p := ⟨w.heap.size, 1, none⟩) hz3).trans r1)
    have r2 := (b5.cell (p := ⟨w.heap.size, 2, none⟩) hz4).trans ((b4.cell (p := ⟨w.heap.size, 2, none⟩) hz3).trans r2)
    have r3 := (b5.cell (p := ⟨w.heap.size, 3, none⟩) hz4).trans ((b4.cell (p := ⟨w.heap.size, 3, none⟩) hz3).trans r3)
    have r4 := (b5.cell (p := ⟨w.heap.size, 4, none⟩) hz4).trans ((b4.cell (p := ⟨w.heap.size, 4, none⟩) hz3).trans r4)
    have f0 := (b5.frozen (p := ⟨w.heap.size, 0, none⟩) hz4).trans ((b4.frozen (p := ⟨w.heap.size, 0, none⟩) hz3).trans f0)
    have f1 := (b5.frozen (p := ⟨w.heap.size, 1, none⟩) hz4).trans ((b4.frozen (p := ⟨w.heap.size, 1, none⟩) hz3).trans f1)
    have f2 := (b5.frozen (p := ⟨w.heap.size, 2, none⟩) hz4).trans ((b4.frozen (p := ⟨w.heap.size, 2, none⟩) hz3).trans f2)
    have f3 := (b5.frozen (p := ⟨w.heap.size, 3, none⟩) hz4).trans ((b4.frozen (p := ⟨w.heap.size, 3, none⟩) hz3).trans f3)
    have f4 := (b5.frozen (p := ⟨w.heap.size, 4, none⟩) hz4).trans ((b4.frozen (p := ⟨w.heap.size, 4, none⟩) hz3).trans f4)
    go_wp2_with fail
    refine bodyPost_ret (v := .tuple #[hdV hd0, .bool false]) (by simp [results, Tryd.results17, go_sem, hdV, hd0, r0, r1, r2, r3, r4]) rfl ⟨by rw [headIn_no HN.out], ?_⟩
    exact (((((b05.setCell (Nat.le_refl _) _).setCell (Nat.le_refl _) _).setCell (Nat.le_refl _) _).setCell (Nat.le_refl _) _).setCell (Nat.le_refl _) _)
  subst hx7
  have HN : Hid (hasHead xs = true) := by rw [HX.out, hb]; rfl
  clear HX
  go_region_held3 (fun w' => w'.cell? ⟨gf, 0, none⟩ = some (.int .i64 20559) ∧ w'.cell? ⟨gf, 1, none⟩ = some (.int .i64 3) ∧ w'.cell? ⟨gf, 2, none⟩ = some (.int .i64 x2) ∧ w'.cell? ⟨gf, 3, none⟩ = some (.int .i64 x3) ∧ w'.cell? ⟨gf, 4, none⟩ = some (.int .i64 x4) ∧ w'.cell? ⟨gf, 5, none⟩ = some (.int .i64 x5) ∧ w'.cell? ⟨gf, 6, none⟩ = some (.int .i64 x6) ∧ w'.cell? ⟨gf, 7, none⟩ = some (.int .i64 0))
    (first
      | go_keep
      | (go_split_ands
         refine ⟨?_, ?_, ?_, ?_, ?_, ?_, ?_, ?_⟩
         all_goals (refine (b5.cell hg4).trans ?_; assumption))
      | (go_split_ands
         refine ⟨?_, ?_, ?_, ?_, ?_, ?_, ?_, ?_⟩
         all_goals (refine (b4.cell hg3).trans ?_; assumption)))
    (first
      | (go_at_call 37; refine (implHeadOk_any ⟨x2, x3, x4, x5, x6⟩ _).mono ?_; rintro e w4 ⟨rfl, b4⟩; have hg4 : gf < w4.heap.size := Nat.lt_of_lt_of_le hg3 b4.size)
      | (go_at_call 38; refine (clusterOfHead_any ⟨x2, x3, x4, x5, x6⟩ _).mono ?_; rintro e w5 ⟨rfl, b5⟩; simp only [hcV]))
  have hz4 : w.heap.size < w4.heap.size := Nat.lt_of_lt_of_le hz3 b4.size
  have b04 := below_more b03.out.drew b4 b03.out.size
  have b05 := below_more b04 b5 b04.size
  have r0 := (b5.cell (p := ⟨w.heap.size, 0, none⟩) hz4).trans ((b4.cell (p := ⟨w.heap.size, 0, none⟩) hz3).trans r0)
  have r1 := (b5.cell (p := ⟨w.heap.size, 1, none⟩) hz4).trans ((b4.cell (p := ⟨w.heap.size, 1, none⟩) hz3).trans r1)
  have r2 := (b5.cell (p := ⟨w.heap.size, 2, none⟩) hz4).trans ((b4.cell (p := ⟨w.heap.size, 2, none⟩) hz3).trans r2)
  have r3 := (b5.cell (p := ⟨w.heap.size, 3, none⟩) hz4).trans ((b4.cell (p := ⟨w.heap.size, 3, none⟩) hz3).trans r3)
  have r4 := (b5.cell (p := ⟨w.heap.size, 4, none⟩) hz4).trans ((b4.cell (p := ⟨w.heap.size, 4, none⟩) hz3).trans r4)
  have f0 := (b5.frozen (p := ⟨w.heap.size, 0, none⟩) hz4).trans ((b4.frozen (p := ⟨w.heap.size, 0, none⟩) hz3).trans f0)
  have f1 := (b5.frozen (p := ⟨w.heap.size, 1, none⟩) hz4).trans ((b4.frozen (p := ⟨w.heap.size, 1, none⟩) hz3).trans f1)
  have f2 := (b5.frozen (p := ⟨w.heap.size, 2, none⟩) hz4).trans ((b4.frozen (p := ⟨w.heap.size, 2, none⟩) hz3).trans f2)
  have f3 := (b5.frozen (p := ⟨w.heap.size, 3, none⟩) hz4).trans ((b4.frozen (p := ⟨w.heap.size, 3, none⟩) hz3).trans f3)
  have f4 := (b5.frozen (p := ⟨w.heap.size, 4, none⟩) hz4).trans ((b4.frozen (p := ⟨w.heap.size, 4, none⟩) hz3).trans f4)
  have d2 := (b5.cell (p := ⟨gf, 2, none⟩) hg4).trans ((b4.cell (p := ⟨gf, 2, none⟩) hg3).trans d2)
  have d3 := (b5.cell (p := ⟨gf, 3, none⟩) hg4).trans ((b4.cell (p := ⟨gf, 3, none⟩) hg3).trans d3)
  have d4 := (b5.cell (p := ⟨gf, 4, none⟩) hg4).trans ((b4.cell (p := ⟨gf, 4, none⟩) hg3).trans d4)
  have d5 := (b5.cell (p := ⟨gf, 5, none⟩) hg4).trans ((b4.cell (p := ⟨gf, 5, none⟩) hg3).trans d5)
  have d6 := (b5.cell (p := ⟨gf, 6, none⟩) hg4).trans ((b4.cell (p := ⟨gf, 6, none⟩) hg3).trans d6)
  go_wp2_with fail
  refine bodyPost_ret (v := .tuple #[hdV ⟨x2, x3, x4, x5, x6⟩, .bool true]) (by simp [results, Tryd.results17, go_sem, hdV, r0, r1, r2, r3, r4]) rfl ⟨by rw [headIn_yes HN.out, HY.out], ?_⟩
  exact (((((b05.setCell (Nat.le_refl _) _).setCell (Nat.le_refl _) _).setCell (Nat.le_refl _) _).setCell (Nat.le_refl _) _).setCell (Nat.le_refl _) _)
end Go.Proofs.YtieknpkbmccimaaDoor
