/- Heads: plain functions, and that the Go functions of both sides compute them. Rows of any element: a slice whose cells are a list of values; one that the call itself made; append onto it. No program is named here. Entries: a target and a flag in a word: plain functions, and that the Go functions of both sides compute them. Tables and places (chapters 4 and 5), the model's side: plain functions, and that the Go functions compute them. FirstOf, and places (chapter 5), the model's side. -/
import Derived.Test.YtiokfhdkbpoadabGreatDoorG1
import Derived.BigRegion
import Derived.Deep.RegionHeld3
import Derived.Deep.AppendLies
import Derived.Test.YtiokfhdkbpoadabGreatDoorG0
import Derived.IntWalk
namespace Go.Proofs.YtiokfhdkbpoadabGreatDoor
open Go.RowKit

structure Hd where
  size : Int
  first : Int
  refs : Int
  shots : Int
  many : Int
deriving DecidableEq

def hd0 : Hd := ⟨0, 0, 0, 0, 0⟩
def hdV (h : Hd) : Value := .agg #[.int .i64 h.size, .int .i64 h.first, .int .i64 h.refs, .int .i64 h.shots, .int .i64 h.many]
def headB (h : Hd) : Bool := (((inB h.size 1 64 && wordB h.first) && wordB h.refs) && wordB h.shots) && inB h.many 0 4
def hdW (h : Hd) : List Int := [20559, 3, h.size, h.first, h.refs, h.shots, h.many, 0]
/-- The head that the first words tell, be it right or not. -/
def headOf (xs : List Int) : Hd := ⟨xs.getD 2 0, xs.getD 3 0, xs.getD 4 0, xs.getD 5 0, xs.getD 6 0⟩
def hasHead (xs : List Int) : Bool := imgB xs && (decide (xs.length ≠ 0) && (decide (xs.getD 0 0 = 20559) && (decide (xs.getD 1 0 = 3) && (decide (xs.getD 7 0 = 0) && headB (headOf xs)))))
def headIn (xs : List Int) : Hd × Bool := if hasHead xs then (headOf xs, true) else (hd0, false)

theorem hasHead_img {xs : List Int} (h : hasHead xs = true) : imgB xs = true := by simp [hasHead] at h; exact h.1
theorem hasHead_len {xs : List Int} (h : hasHead xs = true) : 0 < xs.length ∧ xs.length ≤ 512 := by
  have := imgB_len (hasHead_img h)
  simp [hasHead] at h
  have h1 := h.2.1
  exact ⟨by cases xs with
    | nil => exact absurd rfl h1
    | cons _ _ => simp, this⟩
theorem hasHead_ok {xs : List Int} (h : hasHead xs = true) : headB (headOf xs) = true := by simp [hasHead] at h; exact h.2.2.2.2.2
theorem headB_all {h : Hd} (hb : headB h = true) : (1 ≤ h.size ∧ h.size ≤ 64) ∧ (0 ≤ h.first ∧ h.first ≤ 65535) ∧ (0 ≤ h.refs ∧ h.refs ≤ 65535) ∧ (0 ≤ h.shots ∧ h.shots ≤ 65535) ∧ (0 ≤ h.many ∧ h.many ≤ 4) := by
  simp only [headB, Bool.and_eq_true, inB_true, wordB] at hb
  exact ⟨hb.1.1.1.1, hb.1.1.1.2, hb.1.1.2, hb.1.2, hb.2⟩

set_option maxHeartbeats 1000000 in
theorem specHeadOk_any (h : Hd) (w : World) :
    Calls Tryz.prog 56 #[hdV h] w fun e w' => e = .returned (.bool (headB h)) ∧ Below w.heap.size w w' := by
  obtain ⟨s, f, r, t, m⟩ := h
  have hB := Lib.hid ((Below.refl w.heap.size w).alloc (Nat.le_refl _) (.cells #[.int .i64 s, .int .i64 f, .int .i64 r, .int .i64 t, .int .i64 m] 33))
  unfold hdV
  cases h1 : inB s 1 64
  · have H := Lib.hid (show headB ⟨s, f, r, t, m⟩ = false by simp [headB, h1])
    go_enter Tryz.func56, Tryz.ntmps56
    go_wp2_with (first | (go_at_call 41; refine (in_any _ _ _ _).mono ?_; rintro e w' ⟨rfl, rfl⟩) | (go_at_call 51; refine (word_any _ _).mono ?_; rintro e w' ⟨rfl, rfl⟩))
    go_ret
    exact ⟨ret_bool H.out.symm, hB.out⟩
  cases h2 : wordB f
  · have H := Lib.hid (show headB ⟨s, f, r, t, m⟩ = false by simp [headB, h2])
    go_enter Tryz.func56, Tryz.ntmps56
    go_wp2_with (first | (go_at_call 41; refine (in_any _ _ _ _).mono ?_; rintro e w' ⟨rfl, rfl⟩) | (go_at_call 51; refine (word_any _ _).mono ?_; rintro e w' ⟨rfl, rfl⟩))
    go_ret
    exact ⟨ret_bool H.out.symm, hB.out⟩
  cases h3 : wordB r
  · have H := Lib.hid (show headB ⟨s, f, r, t, m⟩ = false by simp [headB, h3])
    go_enter Tryz.func56, Tryz.ntmps56
    go_wp2_with (first | (go_at_call 41; refine (in_any _ _ _ _).mono ?_; rintro e w' ⟨rfl, rfl⟩) | (go_at_call 51; refine (word_any _ _).mono ?_; rintro e w' ⟨rfl, rfl⟩))
    go_ret
    exact ⟨ret_bool H.out.symm, hB.out⟩
  cases h4 : wordB t
  · have H := Lib.hid (show headB ⟨s, f, r, t, m⟩ = false by simp [headB, h4])
    go_enter Tryz.func56, Tryz.ntmps56
    go_wp2_with (first | (go_at_call 41; refine (in_any _ _ _ _).mono ?_; rintro e w' ⟨rfl, rfl⟩) | (go_at_call 51; refine (word_any _ _).mono ?_; rintro e w' ⟨rfl, rfl⟩))
    go_ret
    exact ⟨ret_bool H.out.symm, hB.out⟩
  have H := Lib.hid (show headB ⟨s, f, r, t, m⟩ = inB m 0 4 by simp [headB, h1, h2, h3, h4])
  go_enter Tryz.func56, Tryz.ntmps56
  go_wp2_with (first | (go_at_call 41; refine (in_any _ _ _ _).mono ?_; rintro e w' ⟨rfl, rfl⟩) | (go_at_call 51; refine (word_any _ _).mono ?_; rintro e w' ⟨rfl, rfl⟩))
  go_ret
  exact ⟨ret_bool H.out.symm, hB.out⟩

/-- A block of numbers made at once, as a row of the call's own. -/
theorem made_ow (w : World) (cs : Array Value) (xs : List Int) (n lo hi g : Nat) (hcs : cs = (iv xs).toArray) (hl : xs.length = n) (hn : n ≤ 1000) (hlo : lo ≤ w.heap.size) (hhi : w.heap.size < hi) (hg : w.heap.size = g) : Ow (w.alloc (.cells cs 2)) lo hi (some ⟨g, 0, none⟩) n n xs := by
  subst hcs; subst hg
  have h : (w.alloc (.cells (iv xs).toArray 2)).ownsRow lo 2 1 (.slice (some ⟨w.heap.size, 0, none⟩) n n) n (iv xs).toArray.toList :=
    World.ownsRow_lit w (iv xs).toArray n hlo (by simp only [maxLen]; omega) (by simp [iv_length, hl])
  exact ⟨by simpa using h, fun g hg => by simp [Value.ownBlock] at hg; omega⟩

set_option maxHeartbeats 1000000 in
theorem specHdWords_any (h : Hd) (w : World) :
    Calls Tryz.prog 54 #[hdV h] w (RetS w (hdW h)) := by
  obtain ⟨s, f, r, t, m⟩ := h
  unfold hdV
  go_enter Tryz.func54, Tryz.ntmps54
  go_wp2
  go_ret
  refine ⟨w.heap.size + 1, 8, 8, rfl, Nat.le_refl _, ?_, ((Below.refl _ _).alloc (Nat.le_refl _) _).alloc (by simp) _⟩
  exact made_ow _ _ (hdW ⟨s, f, r, t, m⟩) 8 _ _ _ rfl rfl (by omega) (by simp) (by simp) (by simp)

theorem headIn_no {xs : List Int} (h : hasHead xs = false) : headIn xs = (hd0, false) := by simp [headIn, h]
theorem headIn_yes {xs : List Int} (h : hasHead xs = true) : headIn xs = (headOf xs, true) := by simp [headIn, h]
theorem cl0_get (xs : List Int) (j : Nat) (h : j < 8) : (cl xs 0).getD j 0 = xs.getD j 0 := by
  unfold cl; rw [f8_get _ j h]; simp

/-- A Head and a flag. -/
def RetHd (w : World) (r : Hd × Bool) (e : Ending) (w' : World) : Prop := e = .returned (.tuple #[hdV r.1, .bool r.2]) ∧ Below w.heap.size w w'

set_option maxRecDepth 100000 in
set_option maxHeartbeats 1000000 in
theorem specHeadIn_any (A : Option Addr) (n c : Nat) (xs : List Int) (w : World) (h : Rd w w.heap.size A n xs) (hn : n ≤ 2097152) :
    Calls Tryz.prog 12 #[.slice A n c] w (RetHd w (headIn xs)) := by
  have hxl := Lib.hid h.len
  have hB := Lib.hid ((Below.refl w.heap.size w).alloc (Nat.le_refl _) (.cells #[.int .i64 0, .int .i64 0, .int .i64 0, .int .i64 0, .int .i64 0] 33))
  have h1 := h.below hB.out
  cases hi : imgB xs
  · have H := Lib.hid (headIn_no (xs := xs) (by simp [hasHead, hi]))
    go_enter Tryz.func12, Tryz.ntmps12
    go_wp2_with (go_at_call 55; refine (specImg_any _ _ _ _ _ _ h1 hn).mono ?_; rintro e w' ⟨rfl, rfl⟩)
    refine bodyPost_ret (v := .tuple #[hdV hd0, .bool false]) (by simp [results, Tryz.results12, go_sem, hdV, hd0]) rfl ⟨?_, ?_⟩
    · rw [H.out]
    · exact hB.out
  by_cases hn0 : n = 0
  · subst hn0
    have H := Lib.hid (headIn_no (xs := xs) (by have := hxl.out; simp [hasHead, this]))
    have hd : (((0 : Nat) : Int) == 0) = true := by simp
    go_enter Tryz.func12, Tryz.ntmps12
    go_wp2_with (go_at_call 55; refine (specImg_any _ _ _ _ _ _ h1 hn).mono ?_; rintro e w' ⟨rfl, rfl⟩)
    refine bodyPost_ret (v := .tuple #[hdV hd0, .bool false]) (by simp [results, Tryz.results12, go_sem, hdV, hd0]) rfl ⟨?_, ?_⟩
    · rw [H.out]
    · exact hB.out
  have hd : ((n : Int) == 0) = false := by rw [beq_eq_false_iff_ne]; omega
  go_enter Tryz.func12, Tryz.ntmps12
  go_wp2_with (go_at_call 55; refine (specImg_any _ _ _ _ _ _ h1 hn).mono ?_; rintro e w' ⟨rfl, rfl⟩)
  refine (specCluster_any A n c 0 xs _ (h1.more (by simp)) hn (by omega)).mono ?_
  rintro e w1 ⟨G, ng, cg, rfl, oG, b1⟩
  obtain rfl : 8 = ng := by have := oG.len; simpa [cl, f8_length] using this
  rcases oG.form with ⟨_, h0, _⟩ | ⟨g, rfl, g1, g2, g3, g4⟩
  · omega
  have c0 : w1.cell? ⟨g, 0, none⟩ = some (.int .i64 (xs.getD 0 0)) := by rw [oG.cell (by omega), cl0_get _ _ (by omega)]
  have c1 : w1.cell? ⟨g, 1, none⟩ = some (.int .i64 (xs.getD 1 0)) := by rw [oG.cell (by omega), cl0_get _ _ (by omega)]
  have c2 : w1.cell? ⟨g, 2, none⟩ = some (.int .i64 (xs.getD 2 0)) := by rw [oG.cell (by omega), cl0_get _ _ (by omega)]
  have c3 : w1.cell? ⟨g, 3, none⟩ = some (.int .i64 (xs.getD 3 0)) := by rw [oG.cell (by omega), cl0_get _ _ (by omega)]
  have c4 : w1.cell? ⟨g, 4, none⟩ = some (.int .i64 (xs.getD 4 0)) := by rw [oG.cell (by omega), cl0_get _ _ (by omega)]
  have c5 : w1.cell? ⟨g, 5, none⟩ = some (.int .i64 (xs.getD 5 0)) := by rw [oG.cell (by omega), cl0_get _ _ (by omega)]
  have c6 : w1.cell? ⟨g, 6, none⟩ = some (.int .i64 (xs.getD 6 0)) := by rw [oG.cell (by omega), cl0_get _ _ (by omega)]
  have c7 : w1.cell? ⟨g, 7, none⟩ = some (.int .i64 (xs.getD 7 0)) := by rw [oG.cell (by omega), cl0_get _ _ (by omega)]
  have HX := Lib.hid (show hasHead xs = (decide (xs.getD 0 0 = 20559) && (decide (xs.getD 1 0 = 3) && (decide (xs.getD 7 0 = 0) && headB ⟨xs.getD 2 0, xs.getD 3 0, xs.getD 4 0, xs.getD 5 0, xs.getD 6 0⟩))) by
    have := hxl.out; simp [hasHead, hi, headOf, this, hn0])
  have HY := Lib.hid (show headOf xs = ⟨xs.getD 2 0, xs.getD 3 0, xs.getD 4 0, xs.getD 5 0, xs.getD 6 0⟩ from rfl)
  generalize xs.getD 0 0 = x0 at *
  generalize xs.getD 1 0 = x1 at *
  generalize xs.getD 2 0 = x2 at *
  generalize xs.getD 3 0 = x3 at *
  generalize xs.getD 4 0 = x4 at *
  generalize xs.getD 5 0 = x5 at *
  generalize xs.getD 6 0 = x6 at *
  generalize xs.getD 7 0 = x7 at *
  have hz : w.heap.size < w1.heap.size := by have := b1.size; simp at this; omega
  have hbk : w1.heap[w.heap.size]? = (w.alloc (.cells #[.int .i64 0, .int .i64 0, .int .i64 0, .int .i64 0, .int .i64 0] 33)).heap[w.heap.size]? := b1.block _ (by simp)
  have hrc : ∀ j, w1.cell? ⟨w.heap.size, j, none⟩ = (#[.int .i64 0, .int .i64 0, .int .i64 0, .int .i64 0, .int .i64 0] : Array Value)[j]? := fun j => (World.cell?_of_block (w := w.alloc _) hbk).trans (World.cell?_alloc_new _ _ _ _)
  have hrf : ∀ j, w1.frozen? ⟨w.heap.size, j, none⟩ = false := fun j => (World.frozen?_of_block (w := w.alloc _) hbk).trans (World.frozen?_alloc_new _ _ _ _)
  have r0 : w1.cell? ⟨w.heap.size, 0, none⟩ = some (.int .i64 0) := hrc 0
  have r1 : w1.cell? ⟨w.heap.size, 1, none⟩ = some (.int .i64 0) := hrc 1
  have r2 : w1.cell? ⟨w.heap.size, 2, none⟩ = some (.int .i64 0) := hrc 2
  have r3 : w1.cell? ⟨w.heap.size, 3, none⟩ = some (.int .i64 0) := hrc 3
  have r4 : w1.cell? ⟨w.heap.size, 4, none⟩ = some (.int .i64 0) := hrc 4
  have f0 := hrf 0
  have f1 := hrf 1
  have f2 := hrf 2
  have f3 := hrf 3
  have f4 := hrf 4
  have hgn : g ≠ w1.heap.size := by omega
  have hzn : w.heap.size ≠ w1.heap.size := by omega
  clear hbk hrc hrf
  have hbelow : Hid (Below w.heap.size w w1) := below_more hB.out b1 (by simp)
  go_wp2_with fail
  go_region_held3 (fun w' => w'.cell? ⟨g, 2, none⟩ = some (.int .i64 x2) ∧ w'.cell? ⟨g, 3, none⟩ = some (.int .i64 x3) ∧ w'.cell? ⟨g, 4, none⟩ = some (.int .i64 x4) ∧ w'.cell? ⟨g, 5, none⟩ = some (.int .i64 x5) ∧ w'.cell? ⟨g, 6, none⟩ = some (.int .i64 x6)) (go_keep) (fail)
  have d0 : (w1.alloc (.cells #[.int .i64 x2, .int .i64 x3, .int .i64 x4, .int .i64 x5, .int .i64 x6] 33)).drew.cell? ⟨g, 0, none⟩ = some (.int .i64 x0) := (World.cell?_alloc_lt _ _ _ g3).trans c0
  have d1 : (w1.alloc (.cells #[.int .i64 x2, .int .i64 x3, .int .i64 x4, .int .i64 x5, .int .i64 x6] 33)).drew.cell? ⟨g, 1, none⟩ = some (.int .i64 x1) := (World.cell?_alloc_lt _ _ _ g3).trans c1
  have d7 : (w1.alloc (.cells #[.int .i64 x2, .int .i64 x3, .int .i64 x4, .int .i64 x5, .int .i64 x6] 33)).drew.cell? ⟨g, 7, none⟩ = some (.int .i64 x7) := (World.cell?_alloc_lt _ _ _ g3).trans c7
  have e0 := (World.cell?_alloc_lt _ (.cells #[.int .i64 x2, .int .i64 x3, .int .i64 x4, .int .i64 x5, .int .i64 x6] 33) ⟨w.heap.size, 0, none⟩ hz).trans r0
  have e1 := (World.cell?_alloc_lt _ (.cells #[.int .i64 x2, .int .i64 x3, .int .i64 x4, .int .i64 x5, .int .i64 x6] 33) ⟨w.heap.size, 1, none⟩ hz).trans r1
  have e2 := (World.cell?_alloc_lt _ (.cells #[.int .i64 x2, .int .i64 x3, .int .i64 x4, .int .i64 x5, .int .i64 x6] 33) ⟨w.heap.size, 2, none⟩ hz).trans r2
  have e3 := (World.cell?_alloc_lt _ (.cells #[.int .i64 x2, .int .i64 x3, .int .i64 x4, .int .i64 x5, .int .i64 x6] 33) ⟨w.heap.size, 3, none⟩ hz).trans r3
  have e4 := (World.cell?_alloc_lt _ (.cells #[.int .i64 x2, .int .i64 x3, .int .i64 x4, .int .i64 x5, .int .i64 x6] 33) ⟨w.heap.size, 4, none⟩ hz).trans r4
  have k0 := (World.frozen?_alloc_old w1 (.cells #[.int .i64 x2, .int .i64 x3, .int .i64 x4, .int .i64 x5, .int .i64 x6] 33) ⟨w.heap.size, 0, none⟩ hzn).trans f0
  have k1 := (World.frozen?_alloc_old w1 (.cells #[.int .i64 x2, .int .i64 x3, .int .i64 x4, .int .i64 x5, .int .i64 x6] 33) ⟨w.heap.size, 1, none⟩ hzn).trans f1
  have k2 := (World.frozen?_alloc_old w1 (.cells #[.int .i64 x2, .int .i64 x3, .int .i64 x4, .int .i64 x5, .int .i64 x6] 33) ⟨w.heap.size, 2, none⟩ hzn).trans f2
  have k3 := (World.frozen?_alloc_old w1 (.cells #[.int .i64 x2, .int .i64 x3, .int .i64 x4, .int .i64 x5, .int .i64 x6] 33) ⟨w.heap.size, 3, none⟩ hzn).trans f3
  have k4 := (World.frozen?_alloc_old w1 (.cells #[.int .i64 x2, .int .i64 x3, .int .i64 x4, .int .i64 x5, .int .i64 x6] 33) ⟨w.heap.size, 4, none⟩ hzn).trans f4
  have s0 : (w1.alloc (.cells #[.int .i64 x2, .int .i64 x3, .int .i64 x4, .int .i64 x5, .int .i64 x6] 33)).drew.cell? ⟨w1.heap.size, 0, none⟩ = some (.int .i64 x2) := World.cell?_alloc_new _ _ _ _
  have s1 : (w1.alloc (.cells #[.int .i64 x2, .int .i64 x3, .int .i64 x4, .int .i64 x5, .int .i64 x6] 33)).drew.cell? ⟨w1.heap.size, 1, none⟩ = some (.int .i64 x3) := World.cell?_alloc_new _ _ _ _
  have s2 : (w1.alloc (.cells #[.int .i64 x2, .int .i64 x3, .int .i64 x4, .int .i64 x5, .int .i64 x6] 33)).drew.cell? ⟨w1.heap.size, 2, none⟩ = some (.int .i64 x4) := World.cell?_alloc_new _ _ _ _
  have s3 : (w1.alloc (.cells #[.int .i64 x2, .int .i64 x3, .int .i64 x4, .int .i64 x5, .int .i64 x6] 33)).drew.cell? ⟨w1.heap.size, 3, none⟩ = some (.int .i64 x5) := World.cell?_alloc_new _ _ _ _
  have s4 : (w1.alloc (.cells #[.int .i64 x2, .int .i64 x3, .int .i64 x4, .int .i64 x5, .int .i64 x6] 33)).drew.cell? ⟨w1.heap.size, 4, none⟩ = some (.int .i64 x6) := World.cell?_alloc_new _ _ _ _
  have hb2 : Hid (Below w.heap.size w (w1.alloc (.cells #[.int .i64 x2, .int .i64 x3, .int .i64 x4, .int .i64 x5, .int .i64 x6] 33)).drew) := (hbelow.out.alloc (Nat.le_of_lt hz) _).drew
  have hz2 : w1.heap.size < (w1.alloc (.cells #[.int .i64 x2, .int .i64 x3, .int .i64 x4, .int .i64 x5, .int .i64 x6] 33)).drew.heap.size := by simp
  change (w1.alloc (.cells #[.int .i64 x2, .int .i64 x3, .int .i64 x4, .int .i64 x5, .int .i64 x6] 33)).drew.cell? ⟨w.heap.size, 0, none⟩ = _ at e0
  change (w1.alloc (.cells #[.int .i64 x2, .int .i64 x3, .int .i64 x4, .int .i64 x5, .int .i64 x6] 33)).drew.cell? ⟨w.heap.size, 1, none⟩ = _ at e1
  change (w1.alloc (.cells #[.int .i64 x2, .int .i64 x3, .int .i64 x4, .int .i64 x5, .int .i64 x6] 33)).drew.cell? ⟨w.heap.size, 2, none⟩ = _ at e2
  change (w1.alloc (.cells #[.int .i64 x2, .int .i64 x3, .int .i64 x4, .int .i64 x5, .int .i64 x6] 33)).drew.cell? ⟨w.heap.size, 3, none⟩ = _ at e3
  change (w1.alloc (.cells #[.int .i64 x2, .int .i64 x3, .int .i64 x4, .int .i64 x5, .int .i64 x6] 33)).drew.cell? ⟨w.heap.size, 4, none⟩ = _ at e4
  change (w1.alloc (.cells #[.int .i64 x2, .int .i64 x3, .int .i64 x4, .int .i64 x5, .int .i64 x6] 33)).drew.frozen? ⟨w.heap.size, 0, none⟩ = _ at k0
  change (w1.alloc (.cells #[.int .i64 x2, .int .i64 x3, .int .i64 x4, .int .i64 x5, .int .i64 x6] 33)).drew.frozen? ⟨w.heap.size, 1, none⟩ = _ at k1
  change (w1.alloc (.cells #[.int .i64 x2, .int .i64 x3, .int .i64 x4, .int .i64 x5, .int .i64 x6] 33)).drew.frozen? ⟨w.heap.size, 2, none⟩ = _ at k2
  change (w1.alloc (.cells #[.int .i64 x2, .int .i64 x3, .int .i64 x4, .int .i64 x5, .int .i64 x6] 33)).drew.frozen? ⟨w.heap.size, 3, none⟩ = _ at k3
  change (w1.alloc (.cells #[.int .i64 x2, .int .i64 x3, .int .i64 x4, .int .i64 x5, .int .i64 x6] 33)).drew.frozen? ⟨w.heap.size, 4, none⟩ = _ at k4
  clear c0 c1 c2 c3 c4 c5 c6 c7 r0 r1 r2 r3 r4 f0 f1 f2 f3 f4 oG b1 hbelow h1 hB hgn
  generalize (w1.alloc (.cells #[.int .i64 x2, .int .i64 x3, .int .i64 x4, .int .i64 x5, .int .i64 x6] 33)).drew = w2 at *
  by_cases hx0 : x0 = 20559
  · subst hx0
    have q0 : ((20559 : Int) != 20559) = false := by simp
    by_cases hx1 : x1 = 3
    · subst hx1
      have q1 : ((3 : Int) != 3) = false := by simp
      by_cases hx7 : x7 = 0
      · subst hx7
        have q7 : ((0 : Int) != 0) = false := by simp
        have HX' : Hid (hasHead xs = headB ⟨x2, x3, x4, x5, x6⟩) := by rw [HX.out]; simp [Hid]
        clear HX
        go_wp2_with fail
        refine (specHeadOk_any ⟨x2, x3, x4, x5, x6⟩ w2).mono ?_
        rintro e w3 ⟨rfl, b3⟩
        have HB3 : Hid (Below w.heap.size w w3) := below_more hb2.out b3 hb2.out.size
        have hz' : w.heap.size < w2.heap.size := by omega
        have s0 := (b3.cell (p := ⟨w1.heap.size, 0, none⟩) hz2).trans s0
        have s1 := (b3.cell (p := ⟨w1.heap.size, 1, none⟩) hz2).trans s1
        have s2 := (b3.cell (p := ⟨w1.heap.size, 2, none⟩) hz2).trans s2
        have s3 := (b3.cell (p := ⟨w1.heap.size, 3, none⟩) hz2).trans s3
        have s4 := (b3.cell (p := ⟨w1.heap.size, 4, none⟩) hz2).trans s4
        have e0 := (b3.cell (p := ⟨w.heap.size, 0, none⟩) hz').trans e0
        have e1 := (b3.cell (p := ⟨w.heap.size, 1, none⟩) hz').trans e1
        have e2 := (b3.cell (p := ⟨w.heap.size, 2, none⟩) hz').trans e2
        have e3 := (b3.cell (p := ⟨w.heap.size, 3, none⟩) hz').trans e3
        have e4 := (b3.cell (p := ⟨w.heap.size, 4, none⟩) hz').trans e4
        have k0 := (b3.frozen (p := ⟨w.heap.size, 0, none⟩) hz').trans k0
        have k1 := (b3.frozen (p := ⟨w.heap.size, 1, none⟩) hz').trans k1
        have k2 := (b3.frozen (p := ⟨w.heap.size, 2, none⟩) hz').trans k2
        have k3 := (b3.frozen (p := ⟨w.heap.size, 3, none⟩) hz').trans k3
        have k4 := (b3.frozen (p := ⟨w.heap.size, 4, none⟩) hz').trans k4
        clear b3
        cases hb : headB ⟨x2, x3, x4, x5, x6⟩
        · have HN : Hid (hasHead xs = false) := HX'.out.trans hb
          go_wp2_with fail
          refine bodyPost_ret (v := .tuple #[hdV hd0, .bool false]) (by simp [results, Tryz.results12, go_sem, hdV, hd0, e0, e1, e2, e3, e4]) rfl ⟨by rw [headIn_no HN.out], ?_⟩
          exact ((((HB3.out.setCell (Nat.le_refl _) _).setCell (Nat.le_refl _) _).setCell (Nat.le_refl _) _).setCell (Nat.le_refl _) _).setCell (Nat.le_refl _) _
        · have HN : Hid (hasHead xs = true) := HX'.out.trans hb
          go_wp2_with fail
          refine bodyPost_ret (v := .tuple #[hdV ⟨x2, x3, x4, x5, x6⟩, .bool true]) (by simp [results, Tryz.results12, go_sem, hdV, e0, e1, e2, e3, e4]) rfl ⟨by rw [headIn_yes HN.out, HY.out], ?_⟩
          exact ((((HB3.out.setCell (Nat.le_refl _) _).setCell (Nat.le_refl _) _).setCell (Nat.le_refl _) _).setCell (Nat.le_refl _) _).setCell (Nat.le_refl _) _
      · have q7 : (x7 != 0) = true := by simpa using hx7
        have HN : Hid (hasHead xs = false) := by rw [HX.out]; simp [hx7, Hid]
        go_wp2_with fail
        refine bodyPost_ret (v := .tuple #[hdV hd0, .bool false]) (by simp [results, Tryz.results12, go_sem, hdV, hd0, e0, e1, e2, e3, e4]) rfl ⟨by rw [headIn_no HN.out], ?_⟩
        exact ((((hb2.out.setCell (Nat.le_refl _) _).setCell (Nat.le_refl _) _).setCell (Nat.le_refl _) _).setCell (Nat.le_refl _) _).setCell (Nat.le_refl _) _
    · have q1 : (x1 != 3) = true := by simpa using hx1
      have HN : Hid (hasHead xs = false) := by rw [HX.out]; simp [hx1, Hid]
      go_wp2_with fail
      refine bodyPost_ret (v := .tuple #[hdV hd0, .bool false]) (by simp [results, Tryz.results12, go_sem, hdV, hd0, e0, e1, e2, e3, e4]) rfl ⟨by rw [headIn_no HN.out], ?_⟩
      exact ((((hb2.out.setCell (Nat.le_refl _) _).setCell (Nat.le_refl _) _).setCell (Nat.le_refl _) _).setCell (Nat.le_refl _) _).setCell (Nat.le_refl _) _
  · have q0 : (x0 != 20559) = true := by simpa using hx0
    have HN : Hid (hasHead xs = false) := by rw [HX.out]; simp [hx0, Hid]
    go_wp2_with fail
    refine bodyPost_ret (v := .tuple #[hdV hd0, .bool false]) (by simp [results, Tryz.results12, go_sem, hdV, hd0, e0, e1, e2, e3, e4]) rfl ⟨by rw [headIn_no HN.out], ?_⟩
    exact ((((hb2.out.setCell (Nat.le_refl _) _).setCell (Nat.le_refl _) _).setCell (Nat.le_refl _) _).setCell (Nat.le_refl _) _).setCell (Nat.le_refl _) _

/-- The slice value '.slice A n c', of elements of sz cells, reads as the cells cs, and lies below block B. -/
def RdV (sz : Nat) (w : World) (B : Nat) (A : Option Addr) (n : Nat) (cs : List Value) : Prop :=
  cs.length = n * sz ∧ (0 < n → ∃ b off, A = some ⟨b, off, none⟩ ∧ b < B ∧ ∀ j, j < n * sz → w.cell? ⟨b, off + j, none⟩ = cs[j]?)

section
variable {sz : Nat} {w w' : World} {B B' n : Nat} {A : Option Addr} {cs : List Value}
theorem RdV.len (h : RdV sz w B A n cs) : cs.length = n * sz := h.1
theorem RdV.keep (h : RdV sz w B A n cs) (hk : ∀ p : Addr, p.block < B → w'.cell? p = w.cell? p) : RdV sz w' B A n cs :=
  ⟨h.1, fun hn => by
    obtain ⟨b, off, e, hb, hc⟩ := h.2 hn
    exact ⟨b, off, e, hb, fun j hj => (hk ⟨b, off + j, none⟩ hb).trans (hc j hj)⟩⟩
theorem RdV.more (h : RdV sz w B A n cs) (hB : B ≤ B') : RdV sz w B' A n cs :=
  ⟨h.1, fun hn => by
    obtain ⟨b, off, e, hb, hc⟩ := h.2 hn
    exact ⟨b, off, e, by omega, hc⟩⟩
theorem RdV.below (h : RdV sz w B A n cs) (hb : Below B w w') : RdV sz w' B A n cs := h.keep fun _ hp => hb.cell hp
theorem RdV.drewN (h : RdV sz w B A n cs) (k : Nat) : RdV sz (w.drewN k) B A n cs := h
theorem RdV.drew (h : RdV sz w B A n cs) : RdV sz w.drew B A n cs := h
theorem RdV.front {m : Nat} {cs1 cs2 : List Value} (h : RdV sz w B A n (cs1 ++ cs2)) (hm : cs1.length = m * sz) (hsz : 0 < sz) : RdV sz w B A m cs1 := by
  have hl := h.len
  rw [List.length_append] at hl
  have hmn : m * sz ≤ n * sz := by omega
  have hmn' : m ≤ n := Nat.le_of_mul_le_mul_right hmn hsz
  refine ⟨hm, fun h0 => ?_⟩
  obtain ⟨b, off, e, hb, hc⟩ := h.2 (by omega)
  refine ⟨b, off, e, hb, fun j hj => ?_⟩
  rw [hc j (by omega), List.getElem?_append_left (by omega)]
theorem RdV.grown {g : Nat} {b : Addr} (h : RdV sz w B (some b) n cs) (hg : w.grownBy w' (some g)) (hb : b.block < w.heap.size) (hne : b.block ≠ g) : RdV sz w' B (some b) n cs :=
  ⟨h.1, fun hn => by
    obtain ⟨b', off, e, hb', hc⟩ := h.2 hn
    injection e with e
    subst e
    exact ⟨b', off, rfl, hb', fun j hj => (World.cell?_of_block (w := w) (hg.block b' hb (fun e => by injection e with e; exact hne e))).trans (hc j hj)⟩⟩
end

/-- A row of the call's own, in a block from lo on and below hi, of elements of type t, whose cells are cs. It is not nil. -/
structure OwV (t : TypeId) (sz : Nat) (w : World) (lo hi g n c : Nat) (cs : List Value) : Prop where
  own : w.ownsRow lo t sz (.slice (some ⟨g, 0, none⟩) n c) n cs
  top : g < hi

section
variable {t : TypeId} {sz : Nat} {w w' : World} {lo hi g n c : Nat} {cs : List Value}
theorem OwV.len (h : OwV t sz w lo hi g n c cs) : cs.length = n * sz := h.own.1
theorem OwV.low (h : OwV t sz w lo hi g n c cs) : lo ≤ g := (h.own.lt g rfl).1
theorem OwV.lt (h : OwV t sz w lo hi g n c cs) : g < w.heap.size := (h.own.lt g rfl).2
theorem OwV.cap (h : OwV t sz w lo hi g n c cs) : n ≤ c := by
  rcases h.own.2 with ⟨hv, hn⟩ | ⟨g, cap, cur, hv, hb, hg, hnc, _⟩
  · cases hv
  · injection hv with h1 h2 h3
    omega
theorem OwV.cell (h : OwV t sz w lo hi g n c cs) {j : Nat} (hj : j < n * sz) : w.cell? ⟨g, j, none⟩ = cs[j]? := h.own.cellAt j hj
theorem OwV.free (h : OwV t sz w lo hi g n c cs) (j : Nat) : w.frozen? ⟨g, j, none⟩ = false := h.own.frozenAt j
theorem OwV.rd (h : OwV t sz w lo hi g n c cs) : RdV sz w hi (some ⟨g, 0, none⟩) n cs :=
  ⟨h.len, fun _ => ⟨g, 0, rfl, h.top, fun j hj => by rw [Nat.zero_add]; exact h.cell hj⟩⟩
theorem OwV.keep (h : OwV t sz w lo hi g n c cs) (hk : w'.heap[g]? = w.heap[g]?) : OwV t sz w' lo hi g n c cs := by
  refine ⟨⟨h.own.1, ?_⟩, h.top⟩
  rcases h.own.2 with hn | ⟨g', cap, cur, hv, hb, hg, rest⟩
  · exact .inl hn
  · injection hv with h1 h2 h3
    injection h1 with h1
    injection h1 with h1
    subst h1; subst h3
    exact .inr ⟨g, c, cur, rfl, hb, by rw [hk]; exact hg, rest⟩
theorem OwV.below {B : Nat} (h : OwV t sz w lo hi g n c cs) (hb : Below B w w') (hB : hi ≤ B) : OwV t sz w' lo hi g n c cs := h.keep (hb.block g (by have := h.top; omega))
theorem OwV.grown {row : Option Nat} (h : OwV t sz w lo hi g n c cs) (hg : w.grownBy w' row) (hr : ∀ k, row = some k → k ≠ g) : OwV t sz w' lo hi g n c cs :=
  h.keep (hg.block g h.lt (fun e => hr g e.symm rfl))
theorem OwV.drewN (h : OwV t sz w lo hi g n c cs) (k : Nat) : OwV t sz (w.drewN k) lo hi g n c cs := h.keep rfl
theorem OwV.drew (h : OwV t sz w lo hi g n c cs) : OwV t sz w.drew lo hi g n c cs := h.keep rfl
theorem OwV.more {lo' hi' : Nat} (h : OwV t sz w lo hi g n c cs) (h1 : lo' ≤ lo) (h2 : hi ≤ hi') : OwV t sz w lo' hi' g n c cs := by
  refine ⟨⟨h.own.1, ?_⟩, by have := h.top; omega⟩
  rcases h.own.2 with hn | ⟨g, cap, cur, hv, hb, rest⟩
  · exact .inl hn
  · exact .inr ⟨g, cap, cur, hv, by omega, rest⟩
theorem OwV.set (h : OwV t sz w lo hi g n c cs) (j : Nat) (u : Value) : OwV t sz (w.setCell ⟨g, j, none⟩ u) lo hi g n c (cs.set j u) ∧ w.grownBy (w.setCell ⟨g, j, none⟩ u) (some g) := by
  obtain ⟨h1, h2⟩ := h.own.stored j u
  exact ⟨⟨h1, h.top⟩, h2⟩
/-- The old row after something was put behind in a new place, or in its spare room. -/
theorem OwV.of {v : Value} (h : w.ownsRow lo t sz v n cs) (hv : v ≠ .slice none 0 0) : ∃ g c, v = .slice (some ⟨g, 0, none⟩) n c ∧ OwV t sz w lo w.heap.size g n c cs := by
  have hl := h.lt
  rcases h.2 with ⟨hv', hn⟩ | ⟨g, cap, cur, hv', _⟩
  · exact absurd hv' hv
  · subst hv'
    exact ⟨g, cap, rfl, h, (hl g rfl).2⟩
end

theorem emptyV (t : TypeId) (sz : Nat) (w : World) (lo hi g : Nat) (hlo : lo ≤ w.heap.size) (hg : w.heap.size = g) (hhi : g < hi) : OwV t sz (w.alloc (.cells #[] t)) lo hi g 0 0 [] := by
  subst hg
  have h : (w.alloc (.cells #[] t)).ownsRow lo t sz (.slice (some ⟨w.heap.size, 0, none⟩) 0 0) 0 [] := World.ownsRow_made w #[] 0 hlo (by simp [maxLen]) (by simp)
  exact ⟨h, hhi⟩
theorem madeV (t : TypeId) (sz : Nat) (w : World) (cs : Array Value) (n lo hi g : Nat) (hlo : lo ≤ w.heap.size) (hg : w.heap.size = g) (hhi : g < hi) (hn : n ≤ 1000) (hl : cs.size = n * sz) : OwV t sz (w.alloc (.cells cs t)) lo hi g n n cs.toList := by
  subst hg
  exact ⟨World.ownsRow_lit w cs n hlo (by simp only [maxLen]; omega) hl, hhi⟩

section
variable {P : Program}
/-- Where what is appended to comes to lie: where it was, or behind all. -/
theorem run_append_where (w : World) (t ty e : TypeId) (i : TypeInfo) (z : Value) (sz by_ : Nat) (ht : P.underlying t = some (.slice e)) (hi : P.info? e = some i) (hz : i.zero = some z)
    (hsize : i.size = sz) (hby : i.bytes = by_) (lo g n c : Nat) (cs : List Value) (hown : w.ownsRow lo e sz (.slice (some ⟨g, 0, none⟩) n c) n cs)
    (ad : Addr) (m c' : Nat) (news : List Value) (hl : news.length = m * sz) (hnews : ∀ j u, news[j]? = some u → w.cell? (ad.add j) = some u) (h1 : ∀ u ∈ news, u.oneCell' = true)
    (h63 : n + m ≤ maxLen) (hbytes : (n + m) * by_ ≤ 140737488355328) (v' : Value) (w' : World)
    (hr : (Builtin.append_ #[t, t] ty #[.slice (some ⟨g, 0, none⟩) n c, .slice (some ad) m c']).run P w = .ok v' w') : ∃ g' cd, v' = .slice (some ⟨g', 0, none⟩) (n + m) cd ∧ (g' = g ∨ (g' = w.heap.size ∧ w'.heap[g]? = w.heap[g]?)) := by
  subst hsize
  subst hby
  have hsmall : n + m ≤ 9223372036854775807 := by simp only [maxLen] at h63; omega
  rcases hown.2 with ⟨hv, _⟩ | ⟨g', cap, cur, hv, hbg, hg, hnc, hcm, hcs, htake⟩
  · cases hv
  · injection hv with e1 e2 e3
    injection e1 with e1
    injection e1 with e1
    subst e1; subst e3
    by_cases hroom : n + m ≤ c
    · have hfit : n * i.size + news.length ≤ cur.size := by rw [hl, hcs, ← Nat.add_mul]; exact Nat.mul_le_mul_right _ hroom
      have h2 := run_append_room (P := P) w t ty e i ht hi g n c cur hg ad m c' news hl hnews h1 hroom hfit
      rw [h2] at hr
      injection hr with h3 h4
      exact ⟨g, c, h3.symm, .inl rfl⟩
    · have holds : ∀ j u, cs[j]? = some u → w.cell? ((⟨g, 0, none⟩ : Addr).add j) = some u := hown.cells (g := g) rfl
      have h2 := run_append_grow (P := P) w t ty e i z ht hi hz ⟨g, 0, none⟩ n c cs hown.1 holds ad m c' news hl hnews (by omega) (by omega) (growslice_fits (by omega) hbytes)
      rw [h2] at hr
      injection hr with h3 h4
      refine ⟨w.heap.size, _, h3.symm, .inr ⟨rfl, ?_⟩⟩
      rw [← h4]
      exact Below.heap_alloc _ _ _ (hown.lt g rfl).2

/-- Behind an append the old row still reads as it did. -/
theorem OwV.old {e : TypeId} {sz lo hi g g' n m c cd : Nat} {cs news : List Value} {w w' : World} (h0 : OwV e sz w lo hi g n c cs) (h : OwV e sz w' lo w'.heap.size g' (n + m) cd (cs ++ news)) (hsz : 0 < sz) (hgr : w.grownBy w' (some g)) (hat : g' = g ∨ w'.heap[g]? = w.heap[g]?) :
    RdV sz w' w'.heap.size (some ⟨g, 0, none⟩) n cs := by
  rcases hat with rfl | hat
  · exact h.rd.front h0.len hsz
  · have := (h0.keep hat).rd
    refine ⟨this.1, fun hn => ?_⟩
    obtain ⟨b, off, e, _, hc⟩ := this.2 hn
    injection e with e
    injection e with e1 e2
    subst e1; subst e2
    exact ⟨g, 0, rfl, Nat.lt_of_lt_of_le h0.lt hgr.size, hc⟩

/-- append onto a row of one's own: the run. -/
theorem run_append_v (w : World) (t ty e : TypeId) (sz by_ : Nat) (z : Value) (i : TypeInfo) (ht : P.underlying t = some (.slice e)) (hi : P.info? e = some i) (hz : i.zero = some z) (hsize : i.size = sz) (hby : i.bytes = by_) (hzs : z.cells.size = sz) (hsz : 0 < sz) (hb8 : by_ ≤ 1000)
    (lo hi' g n c : Nat) (cs : List Value) (hown : OwV e sz w lo hi' g n c cs)
    (ad : Addr) (m c' : Nat) (news : List Value) (hl : news.length = m * sz) (hnews : ∀ j u, news[j]? = some u → w.cell? (ad.add j) = some u) (h1 : ∀ u ∈ news, u.oneCell' = true)
    (hnm : n + m ≤ 16777216) (hlo : lo ≤ w.heap.size) :
    ∃ g' cd w', (Builtin.append_ #[t, t] ty #[.slice (some ⟨g, 0, none⟩) n c, .slice (some ad) m c']).run P w = .ok (.slice (some ⟨g', 0, none⟩) (n + m) cd) w' ∧ OwV e sz w' lo w'.heap.size g' (n + m) cd (cs ++ news) ∧ w.grownBy w' (some g) ∧ (g' = g ∨ w.heap.size ≤ g') ∧ RdV sz w' w'.heap.size (some ⟨g, 0, none⟩) n cs := by
  have hbytes : (n + m) * by_ ≤ 140737488355328 := by
    have : (n + m) * by_ ≤ 16777216 * 1000 := Nat.mul_le_mul hnm hb8
    omega
  have h63 : n + m ≤ maxLen := by simp only [maxLen]; omega
  obtain ⟨v', w', hr, h2, h3, h4⟩ := run_append_own (P := P) w lo t ty e i z sz by_ ht hi hz hsize hby hzs hsz (.slice (some ⟨g, 0, none⟩) n c) n cs hown.own ad m c' news hl hnews h1 h63 hbytes hlo
  obtain ⟨g', cd, rfl, hw⟩ := run_append_where (P := P) w t ty e i z sz by_ ht hi hz hsize hby lo g n c cs hown.own ad m c' news hl hnews h1 h63 hbytes v' w' hr
  have h5 : OwV e sz w' lo w'.heap.size g' (n + m) cd (cs ++ news) := ⟨h2, (h2.lt g' rfl).2⟩
  exact ⟨g', cd, w', hr, h5, h3, hw.imp id (fun e => by omega), hown.old h5 hsz h3 (hw.imp id (fun e => e.2))⟩

/-- append of what lies somewhere onto a row of one's own. -/
theorem wpList_append_v {w : World} {ops : Array Oper} {rest : List Oper} {o : Oper} {a : Act} {Q : Exit → Act → World → Prop} (hgd : o.guard = none) (s x : Operand) (t : TypeId)
    (ho : o.op = .call { callee := .builtin .append, args := #[s, x], argTypes := #[t, t] })
    (e : TypeId) (sz by_ : Nat) (z : Value) (i : TypeInfo) (ht : P.underlying t = some (.slice e)) (hi : P.info? e = some i) (hz : i.zero = some z) (hsize : i.size = sz) (hby : i.bytes = by_) (hzs : z.cells.size = sz) (hsz : 0 < sz) (hb8 : by_ ≤ 1000)
    (lo hi' g n c : Nat) (cs : List Value) (hs : a.eval s = .slice (some ⟨g, 0, none⟩) n c) (hown : OwV e sz w lo hi' g n c cs)
    (ad : Addr) (m c' : Nat) (news : List Value) (hx : a.eval x = .slice (some ad) m c') (hl : news.length = m * sz) (hnews : ∀ j u, news[j]? = some u → w.cell? (ad.add j) = some u) (h1 : ∀ u ∈ news, u.oneCell' = true)
    (hnm : n + m ≤ 16777216) (hlo : lo ≤ w.heap.size)
    (h : ∀ (g' cd : Nat) (w' : World), OwV e sz w' lo w'.heap.size g' (n + m) cd (cs ++ news) → w.grownBy w' (some g) → (g' = g ∨ w.heap.size ≤ g') → RdV sz w' w'.heap.size (some ⟨g, 0, none⟩) n cs → wpList P ops Q rest (a.put o.dst (.slice (some ⟨g', 0, none⟩) (n + m) cd)) w') :
    wpList P ops Q (o :: rest) a w := by
  obtain ⟨g', cd, w', hr, h2, h3, h4, h5⟩ := run_append_v (P := P) w t o.type e sz by_ z i ht hi hz hsize hby hzs hsz hb8 lo hi' g n c cs hown ad m c' news hl hnews h1 hnm hlo
  refine wpList_plain hgd fun K hK => ?_
  unfold Oper.wp execOp
  simp only [ho, resolve, invoke, builtin, Sem.run_bind, Sem.run_pure, Result.andThen_ok, List.map_toArray, List.map_cons, List.map_nil, hs, hx, hr]
  exact hK _ _ (h g' cd w' h2 h3 h4 h5)

/-- The same of a new block that lies behind all: one element, or some. -/
theorem wpList_append_lit {w : World} {ops : Array Oper} {rest : List Oper} {o : Oper} {a : Act} {Q : Exit → Act → World → Prop} (hgd : o.guard = none) (s x : Operand) (t : TypeId)
    (ho : o.op = .call { callee := .builtin .append, args := #[s, x], argTypes := #[t, t] })
    (e : TypeId) (sz by_ : Nat) (z : Value) (i : TypeInfo) (ht : P.underlying t = some (.slice e)) (hi : P.info? e = some i) (hz : i.zero = some z) (hsize : i.size = sz) (hby : i.bytes = by_) (hzs : z.cells.size = sz) (hsz : 0 < sz) (hb8 : by_ ≤ 1000)
    (lo hi' g n c : Nat) (cs : List Value) (hs : a.eval s = .slice (some ⟨g, 0, none⟩) n c) (hown : OwV e sz w lo hi' g n c cs)
    (news : Array Value) (m c' : Nat) (hx : a.eval x = .slice (some ⟨w.heap.size, 0, none⟩) m c') (hl : news.size = m * sz) (h1 : ∀ u ∈ news.toList, u.oneCell' = true)
    (hnm : n + m ≤ 16777216) (hlo : lo ≤ w.heap.size)
    (h : ∀ (g' cd : Nat) (w' : World), OwV e sz w' lo w'.heap.size g' (n + m) cd (cs ++ news.toList) → w.grownBy w' (some g) → (g' = g ∨ w.heap.size ≤ g') → RdV sz w' w'.heap.size (some ⟨g, 0, none⟩) n cs → wpList P ops Q rest (a.put o.dst (.slice (some ⟨g', 0, none⟩) (n + m) cd)) w') :
    wpList P ops Q (o :: rest) a (w.alloc (.cells news e)) := by
  have hal : w.grownBy (w.alloc (.cells news e)) none := ⟨rfl, rfl, rfl, by simp, fun k hk _ => Below.heap_alloc _ _ _ hk⟩
  refine wpList_append_v hgd s x t ho e sz by_ z i ht hi hz hsize hby hzs hsz hb8 lo hi' g n c cs hs (hown.grown hal (fun _ h => by cases h)) ⟨w.heap.size, 0, none⟩ m c' news.toList hx (by simpa using hl) ?_ h1 hnm (by simp; omega) ?_
  · intro j u hj
    rw [Addr.add_lit, Nat.zero_add, World.cell?_alloc_new]
    simpa using hj
  · intro g' cd w' h2 h3 h4 h5
    refine h g' cd w' h2 ⟨h3.os, h3.tape, h3.output, Nat.le_trans (by simp) h3.size, fun k hk hne => (h3.block k (by simp; omega) hne).trans (Below.heap_alloc _ _ _ hk)⟩ (h4.imp id (fun h => ?_)) h5
    have : (w.alloc (.cells news e)).heap.size = w.heap.size + 1 := by simp
    omega
end

/-- The same at a step of a region that draws its order. -/
theorem step_append_lit {P : Program} {w : World} {ops : Array Oper} {o : Oper} {a : Act} {K : Act → World → Prop} {Q : Exit → Act → World → Prop} {E : Prop} (hgd : o.guard = none) (s x : Operand) (t : TypeId)
    (ho : o.op = .call { callee := .builtin .append, args := #[s, x], argTypes := #[t, t] })
    (e : TypeId) (sz by_ : Nat) (z : Value) (i : TypeInfo) (ht : P.underlying t = some (.slice e)) (hi : P.info? e = some i) (hz : i.zero = some z) (hsize : i.size = sz) (hby : i.bytes = by_) (hzs : z.cells.size = sz) (hsz : 0 < sz) (hb8 : by_ ≤ 1000)
    (lo hi' g n c : Nat) (cs : List Value) (hs : a.eval s = .slice (some ⟨g, 0, none⟩) n c) (hown : OwV e sz w lo hi' g n c cs)
    (news : Array Value) (m c' : Nat) (hx : a.eval x = .slice (some ⟨w.heap.size, 0, none⟩) m c') (hl : news.size = m * sz) (h1 : ∀ u ∈ news.toList, u.oneCell' = true)
    (hnm : n + m ≤ 16777216) (hlo : lo ≤ w.heap.size)
    (h : ∀ (g' cd : Nat) (w' : World), OwV e sz w' lo w'.heap.size g' (n + m) cd (cs ++ news.toList) → (w.alloc (.cells news e)).drew.grownBy w' (some g) → (g' = g ∨ w.heap.size ≤ g') → RdV sz w' w'.heap.size (some ⟨g, 0, none⟩) n cs → K (a.put o.dst (.slice (some ⟨g', 0, none⟩) (n + m) cd)) w') :
    if Region.wanted o (yielded ops a.tmps) = true then Oper.wp P o a (w.alloc (.cells news e)).drew K Q else E := by
  have hal : w.grownBy (w.alloc (.cells news e)).drew none := ⟨rfl, rfl, rfl, by simp, fun k hk _ => Below.heap_alloc _ _ _ hk⟩
  have hown' := hown.grown hal (fun _ h => by cases h)
  obtain ⟨g', cd, w', hr, h2, h3, h4, h5⟩ := run_append_v (P := P) (w.alloc (.cells news e)).drew t o.type e sz by_ z i ht hi hz hsize hby hzs hsz hb8 lo hi' g n c cs hown' ⟨w.heap.size, 0, none⟩ m c' news.toList (by simpa using hl) (by
    intro j u hj
    rw [Addr.add_lit, Nat.zero_add]
    show (w.alloc (.cells news e)).cell? _ = _
    rw [World.cell?_alloc_new]
    simpa using hj) h1 hnm (by simp; omega)
  have hw : Region.wanted o (yielded ops a.tmps) = true := by simp [Region.wanted, hgd]
  rw [if_pos hw]
  unfold Oper.wp execOp
  simp only [ho, resolve, invoke, builtin, Sem.run_bind, Sem.run_pure, Result.andThen_ok, List.map_toArray, List.map_cons, List.map_nil, hs, hx, hr]
  refine h g' cd w' h2 h3 (h4.imp id (fun h => ?_)) h5
  have : (w.alloc (.cells news e)).drew.heap.size = w.heap.size + 1 := by simp
  omega

theorem Ow.drew {w : World} {lo hi n c : Nat} {A : Option Addr} {xs : List Int} (h : Ow w lo hi A n c xs) : Ow w.drew lo hi A n c xs := h.drewN 1
theorem grown_drew {a w : World} {r : Option Nat} (h : a.grownBy w r) : a.grownBy w.drew r := ⟨h.os, h.tape, h.output, h.size, h.block⟩
theorem drew_grown {a w : World} {r : Option Nat} (h : a.drew.grownBy w r) : a.grownBy w r := ⟨h.os, h.tape, h.output, h.size, h.block⟩

/-- Of the blocks of w all but x are as they were. -/
def KeepBut (x : Nat) (w w' : World) : Prop := w.heap.size ≤ w'.heap.size ∧ ∀ b, b < w.heap.size → b ≠ x → w'.heap[b]? = w.heap[b]?
theorem KeepBut.refl (x : Nat) (w : World) : KeepBut x w w := ⟨Nat.le_refl _, fun _ _ _ => rfl⟩
theorem KeepBut.step {x g : Nat} {w w1 w2 : World} (h : KeepBut x w w1) (hg : w1.grownBy w2 (some g)) (hx : g = x ∨ w.heap.size ≤ g) : KeepBut x w w2 :=
  ⟨Nat.le_trans h.1 hg.size, fun b hb hne => (hg.block b (Nat.lt_of_lt_of_le hb h.1) (fun e => by cases e; omega)).trans (h.2 b hb hne)⟩
theorem KeepBut.below {x : Nat} {w w1 w2 : World} (h : KeepBut x w w1) (hb : Below w1.heap.size w1 w2) : KeepBut x w w2 :=
  ⟨Nat.le_trans h.1 hb.size, fun b hl hne => (hb.block b (Nat.lt_of_lt_of_le hl h.1)).trans (h.2 b hl hne)⟩
theorem KeepBut.drew {x : Nat} {w w1 : World} (h : KeepBut x w w1) : KeepBut x w w1.drew := h
theorem KeepBut.drewN {x : Nat} {w w1 : World} (h : KeepBut x w w1) (k : Nat) : KeepBut x w (w1.drewN k) := h
theorem KeepBut.cell {x : Nat} {w w' : World} (h : KeepBut x w w') {p : Addr} (hp : p.block < w.heap.size) (hx : p.block ≠ x) : w'.cell? p = w.cell? p := World.cell?_of_block (w := w) (h.2 _ hp hx)
theorem KeepBut.free {x : Nat} {w w' : World} (h : KeepBut x w w') {p : Addr} (hp : p.block < w.heap.size) (hx : p.block ≠ x) : w'.frozen? p = w.frozen? p := World.frozen?_of_block (w := w) (h.2 _ hp hx)

/-- Cells of elements laid end to end. -/
theorem flat_length {α : Type} (f : α → List Value) (sz : Nat) (hf : ∀ x, (f x).length = sz) (l : List α) : (l.flatMap f).length = l.length * sz := by
  induction l with
  | nil => simp
  | cons x l ih => simp [List.flatMap_cons, hf, ih, Nat.succ_mul]; omega
theorem flat_get {α : Type} (f : α → List Value) (sz : Nat) (hf : ∀ x, (f x).length = sz) (l : List α) (k j : Nat) (hk : k < l.length) (hj : j < sz) : (l.flatMap f)[k * sz + j]? = (f l[k])[j]? := by
  induction l generalizing k with
  | nil => simp at hk
  | cons x l ih =>
    rw [List.flatMap_cons, List.getElem?_append, hf]
    cases k with
    | zero => rw [if_pos (by omega)]; simp
    | succ k =>
      rw [if_neg (by rw [Nat.succ_mul]; omega)]
      have := ih k (by simpa using hk)
      rw [show (k + 1) * sz + j - sz = k * sz + j by rw [Nat.succ_mul]; omega, this]
      simp

def targetOf (e : Int) : Int := if wordB e then e % 32768 else -1
def ownIn (e : Int) : Bool := wordB e && decide (32768 ≤ e)
def entryOf (t : Int) (own : Bool) : Int := if inB t 0 32767 then (if own then t + 32768 else t) else -1

theorem targetOf_yes {e : Int} (h : wordB e = true) : targetOf e = e % 32768 := by simp [targetOf, h]
theorem targetOf_no {e : Int} (h : wordB e = false) : targetOf e = -1 := by simp [targetOf, h]
theorem word_bounds {e : Int} (h : wordB e = true) : 0 ≤ e ∧ e ≤ 65535 := inB_true.1 h

/-- Of the program. -/
theorem entTarget_any (e : Int) (w : World) (h : wordB e = true) :
    Calls Tryz.prog 81 #[.int .i64 e] w fun r w' => r = .returned (.int .i64 (e % 32768)) ∧ w = w' := by
  obtain ⟨h0, h1⟩ := word_bounds h
  clear h
  go_enter Tryz.func81, Tryz.ntmps81
  go_wp2
  go_ret
  exact ⟨rfl, rfl⟩

theorem entOwn_any (e : Int) (w : World) (h : wordB e = true) :
    Calls Tryz.prog 83 #[.int .i64 e] w fun r w' => r = .returned (.bool (decide (32768 ≤ e))) ∧ w = w' := by
  obtain ⟨h0, h1⟩ := word_bounds h
  clear h
  go_enter Tryz.func83, Tryz.ntmps83
  go_wp2
  go_ret
  exact ⟨rfl, rfl⟩

theorem implTarget_any (e : Int) (w : World) :
    Calls Tryz.prog 28 #[.int .i64 e] w fun r w' => r = .returned (.int .i64 (targetOf e)) ∧ w = w' := by
  go_enter Tryz.func28, Tryz.ntmps28
  go_wp2_with fail
  have hc : Calls Tryz.prog 80 #[.int .i64 e, .func (.func 81) #[.int .i64 e] #[], .int .i64 (-1)] w fun r w' => r = .returned (.int .i64 (targetOf e)) ∧ w = w' := by
    cases hb : wordB e
    · have HB := Lib.hid (targetOf_no hb)
      go_enter Tryz.func80, Tryz.ntmps80
      go_wp2_with (go_at_call 37; refine (implWord_any _ _).mono ?_; rintro e w' ⟨rfl, rfl⟩)
      go_ret
      exact ⟨ret_int HB.out.symm, rfl⟩
    · have HB := Lib.hid (targetOf_yes hb)
      go_enter Tryz.func80, Tryz.ntmps80
      go_wp2_with fail
      refine (implWord_any _ _).mono ?_
      rintro e w' ⟨rfl, rfl⟩
      go_wp2_with fail
      refine (entTarget_any _ _ hb).mono ?_
      rintro e w' ⟨rfl, rfl⟩
      go_wp2
      go_ret
      exact ⟨ret_int HB.out.symm, rfl⟩
  refine hc.mono ?_
  rintro r w' ⟨rfl, rfl⟩
  go_wp2
  go_ret
  exact ⟨rfl, rfl⟩

theorem implOwn_any (e : Int) (w : World) :
    Calls Tryz.prog 73 #[.int .i64 e] w fun r w' => r = .returned (.bool (ownIn e)) ∧ w = w' := by
  go_enter Tryz.func73, Tryz.ntmps73
  go_wp2_with fail
  have hc : Calls Tryz.prog 104 #[.int .i64 e, .func (.func 83) #[.int .i64 e] #[], .bool false] w fun r w' => r = .returned (.bool (ownIn e)) ∧ w = w' := by
    cases hb : wordB e
    · go_enter Tryz.func104, Tryz.ntmps104
      go_wp2_with (go_at_call 37; refine (implWord_any _ _).mono ?_; rintro e w' ⟨rfl, rfl⟩)
      go_ret
      exact ⟨ret_bool (by simp [ownIn, hb]), rfl⟩
    · go_enter Tryz.func104, Tryz.ntmps104
      go_wp2_with fail
      refine (implWord_any _ _).mono ?_
      rintro e w' ⟨rfl, rfl⟩
      go_wp2_with fail
      refine (entOwn_any _ _ hb).mono ?_
      rintro e w' ⟨rfl, rfl⟩
      go_wp2
      go_ret
      exact ⟨ret_bool (by simp [ownIn, hb]), rfl⟩
  refine hc.mono ?_
  rintro r w' ⟨rfl, rfl⟩
  go_wp2
  go_ret
  exact ⟨rfl, rfl⟩

theorem implEntry_any (t : Int) (o : Bool) (w : World) :
    Calls Tryz.prog 149 #[.int .i64 t, .bool o] w fun r w' => r = .returned (.int .i64 (entryOf t o)) ∧ w = w' := by
  by_cases h1 : t < 0
  · have HB := Lib.hid (show entryOf t o = -1 by unfold entryOf; rw [if_neg (by rw [inB_true]; omega)])
    go_enter Tryz.func149, Tryz.ntmps149
    go_wp2
    go_ret
    exact ⟨ret_int HB.out.symm, rfl⟩
  · by_cases h2 : 32768 ≤ t
    · have HB := Lib.hid (show entryOf t o = -1 by unfold entryOf; rw [if_neg (by rw [inB_true]; omega)])
      have h1' : decide (t < 0) = false := by simpa using h1
      go_enter Tryz.func149, Tryz.ntmps149
      go_wp2
      go_ret
      exact ⟨ret_int HB.out.symm, rfl⟩
    · have HB := Lib.hid (show entryOf t o = if o then t + 32768 else t by unfold entryOf; rw [if_pos (by rw [inB_true]; omega)])
      have h1' : decide (t < 0) = false := by simpa using h1
      have h2' : decide (32768 ≤ t) = false := by simpa using h2
      have b0 : 0 ≤ t := by omega
      have b1 : t ≤ 32767 := by omega
      cases o
      · go_enter Tryz.func149, Tryz.ntmps149
        go_wp2
        go_ret
        exact ⟨ret_int (by rw [HB.out]; rfl), rfl⟩
      · go_enter Tryz.func149, Tryz.ntmps149
        go_wp2
        go_ret
        exact ⟨ret_int (by rw [HB.out]; rfl), rfl⟩

/-- Of the model. -/
theorem specTarget_any (e : Int) (w : World) :
    Calls Tryz.prog 47 #[.int .i64 e] w fun r w' => r = .returned (.int .i64 (targetOf e)) ∧ w = w' := by
  cases hb : wordB e
  · have HB := Lib.hid (targetOf_no hb)
    go_enter Tryz.func47, Tryz.ntmps47
    go_wp2_with (go_at_call 51; refine (word_any _ _).mono ?_; rintro e w' ⟨rfl, rfl⟩)
    go_ret
    exact ⟨ret_int HB.out.symm, rfl⟩
  · have HB := Lib.hid (targetOf_yes hb)
    obtain ⟨h0, h1⟩ := word_bounds hb
    go_enter Tryz.func47, Tryz.ntmps47
    go_wp2_with (go_at_call 51; refine (word_any _ _).mono ?_; rintro e w' ⟨rfl, rfl⟩)
    go_ret
    exact ⟨ret_int HB.out.symm, rfl⟩

theorem specOwn_any (e : Int) (w : World) :
    Calls Tryz.prog 44 #[.int .i64 e] w fun r w' => r = .returned (.bool (ownIn e)) ∧ w = w' := by
  cases hb : wordB e
  · go_enter Tryz.func44, Tryz.ntmps44
    go_wp2_with (go_at_call 51; refine (word_any _ _).mono ?_; rintro e w' ⟨rfl, rfl⟩)
    go_ret
    exact ⟨ret_bool (by simp [ownIn, hb]), rfl⟩
  · go_enter Tryz.func44, Tryz.ntmps44
    go_wp2_with (go_at_call 51; refine (word_any _ _).mono ?_; rintro e w' ⟨rfl, rfl⟩)
    go_ret
    exact ⟨ret_bool (by simp [ownIn, hb]), rfl⟩

theorem specEntry_any (t : Int) (o : Bool) (w : World) :
    Calls Tryz.prog 157 #[.int .i64 t, .bool o] w fun r w' => r = .returned (.int .i64 (entryOf t o)) ∧ w = w' := by
  cases hb : inB t 0 32767
  · have HB := Lib.hid (show entryOf t o = -1 by simp [entryOf, hb])
    go_enter Tryz.func157, Tryz.ntmps157
    go_wp2_with (go_at_call 41; refine (in_any _ _ _ _).mono ?_; rintro e w' ⟨rfl, rfl⟩)
    go_ret
    exact ⟨ret_int HB.out.symm, rfl⟩
  · have HB := Lib.hid (show entryOf t o = if o then t + 32768 else t by simp [entryOf, hb])
    obtain ⟨h0, h1⟩ := inB_true.1 hb
    cases o
    · go_enter Tryz.func157, Tryz.ntmps157
      go_wp2_with (go_at_call 41; refine (in_any _ _ _ _).mono ?_; rintro e w' ⟨rfl, rfl⟩)
      go_ret
      exact ⟨ret_int (by rw [HB.out]; rfl), rfl⟩
    · go_enter Tryz.func157, Tryz.ntmps157
      go_wp2_with (go_at_call 41; refine (in_any _ _ _ _).mono ?_; rintro e w' ⟨rfl, rfl⟩)
      go_ret
      exact ⟨ret_int (by rw [HB.out]; rfl), rfl⟩

def thereB (xs : List Int) (t : Int) : Bool := inB t 1 ((manyN xs : Int) - 1)
def tableL (xs : List Int) (t : Int) : List Int := if hasHead xs = true ∧ thereB xs t = true then cl xs t.toNat else []
/-- The shots of an image with a head (none where there is no head). -/
def shotsL (xs : List Int) : List (Int × Int) :=
  if thereB xs (headIn xs).1.shots = true then (List.range (headIn xs).1.many.toNat).map (fun i => ((cl xs (headIn xs).1.shots.toNat).getD (2 * i) 0, (cl xs (headIn xs).1.shots.toNat).getD (2 * i + 1) 0)) else []
def firstOf (xs : List Int) (which : Int) : Int :=
  if hasHead xs = true then (if which = 0 then (headOf xs).first else (if inB which 1 ((shotsL xs).length : Int) = true then ((shotsL xs).getD (which - 1).toNat (0, 0)).2 else 0)) else 0
def firstEntry (xs : List Int) (which slot : Int) : Int :=
  if inB slot 0 (((tableL xs (firstOf xs which)).length : Int) - 1) = true then (tableL xs (firstOf xs which)).getD slot.toNat 0 else 0
def entryAt (xs : List Int) (which g : Int) : Int :=
  if hasHead xs = true ∧ inB g 0 ((headOf xs).size - 1) = true then (tableL xs (targetOf (firstEntry xs which (g / 8)))).getD (g % 8).toNat 0 else 0

def shV (p : Int × Int) : List Value := [.int .i64 p.1, .int .i64 p.2]
theorem shV_length (p : Int × Int) : (shV p).length = 2 := rfl

theorem headIn_true {xs : List Int} {h : Hd} (e : headIn xs = (h, true)) : hasHead xs = true ∧ headOf xs = h := by
  cases hb : hasHead xs
  · rw [headIn_no hb] at e; cases e
  · rw [headIn_yes hb] at e; cases e; exact ⟨rfl, rfl⟩
theorem headIn_false {xs : List Int} {h : Hd} (e : headIn xs = (h, false)) : hasHead xs = false ∧ h = hd0 := by
  cases hb : hasHead xs
  · rw [headIn_no hb] at e; cases e; exact ⟨rfl, rfl⟩
  · rw [headIn_yes hb] at e; cases e
theorem cl_length (xs : List Int) (a : Nat) : (cl xs a).length = 8 := f8_length _
theorem manyN_le {xs : List Int} (h : imgB xs = true) : manyN xs ≤ 64 := by have := imgB_len h; unfold manyN; omega
theorem there_lt {xs : List Int} {t : Int} (h : thereB xs t = true) : 1 ≤ t ∧ t < manyN xs := by have := inB_true.1 h; omega

theorem specThere_any (A : Option Addr) (n c : Nat) (xs : List Int) (t : Int) (w : World) (h : xs.length = n) (hn : n ≤ 2097152) :
    Calls Tryz.prog 96 #[.slice A n c, .int .i64 t] w fun e w' => e = .returned (.bool (thereB xs t)) ∧ w = w' := by
  have H := Lib.hid h
  have hm : manyN xs ≤ 2097152 := by unfold manyN; omega
  clear h
  go_enter Tryz.func96, Tryz.ntmps96
  go_wp2_with fail
  refine (specMany_any _ _ _ xs _ H.out hn).mono ?_
  rintro e w' ⟨rfl, rfl⟩
  go_wp2_with fail
  refine (in_any _ _ _ _).mono ?_
  rintro e w' ⟨rfl, rfl⟩
  go_wp2_with fail
  go_ret
  exact ⟨rfl, rfl⟩

theorem tableL_no {xs : List Int} {t : Int} (h : hasHead xs = false) : tableL xs t = [] := by simp [tableL, h]
theorem tableL_out {xs : List Int} {t : Int} (h : thereB xs t = false) : tableL xs t = [] := by simp [tableL, h]
theorem tableL_in {xs : List Int} {t : Int} (h : hasHead xs = true) (h2 : thereB xs t = true) : tableL xs t = cl xs t.toNat := by simp [tableL, h, h2]
theorem tableL_length (xs : List Int) (t : Int) : (tableL xs t).length = 0 ∨ (tableL xs t).length = 8 := by
  unfold tableL; split
  · exact .inr (cl_length _ _)
  · exact .inl rfl

theorem Ret.after {w w1 : World} {ys : List Int} {e : Ending} {w' : World} (h : Ret w1 ys e w') (hb : Below w.heap.size w w1) : Ret w ys e w' := by
  obtain ⟨A, n, c, he, ho, hb2⟩ := h
  exact ⟨A, n, c, he, ho.more hb.size (Nat.le_refl _), below_more hb hb2 hb.size⟩

theorem Ret.emptyAt {w w1 : World} (g : Nat) (hg : w1.heap.size = g) (hb : Below w.heap.size w w1) : Ret w [] (.returned (.slice (some ⟨g, 0, none⟩) 0 0)) (w1.alloc (.cells #[] 2)) := by
  subst hg
  exact (Ret.empty _ _ rfl).after hb

set_option maxHeartbeats 1000000 in
theorem specTable_any (A : Option Addr) (n c : Nat) (xs : List Int) (t : Int) (w : World) (h : Rd w w.heap.size A n xs) (hn : n ≤ 2097152) :
    Calls Tryz.prog 59 #[.slice A n c, .int .i64 t] w (Ret w (tableL xs t)) := by
  have hxl := Lib.hid h.len
  go_enter Tryz.func59, Tryz.ntmps59
  go_wp2_with fail
  refine (specHeadIn_any _ _ _ xs _ h hn).mono ?_
  rintro e w1 ⟨rfl, b1⟩
  generalize hr : headIn xs = r
  obtain ⟨⟨s, f, r, u, m⟩, is⟩ := r
  have HR := Lib.hid hr
  clear hr
  unfold hdV
  have b2 := b1.alloc b1.size (.cells #[.int .i64 s, .int .i64 f, .int .i64 r, .int .i64 u, .int .i64 m] 33)
  cases is
  · have HN := Lib.hid (tableL_no (t := t) (headIn_false HR.out).1)
    go_wp2_with fail
    go_ret
    rw [HN.out]
    exact Ret.emptyAt _ (by simp) b2
  · have HY := Lib.hid (headIn_true HR.out).1
    cases ht : thereB xs t
    · have HN := Lib.hid (tableL_out ht)
      go_wp2_with fail
      refine (specThere_any _ _ _ xs _ _ hxl.out hn).mono ?_
      rintro e w' ⟨rfl, rfl⟩
      go_wp2_with fail
      go_ret
      rw [HN.out]
      exact Ret.emptyAt _ (by simp) b2
    · have HN := Lib.hid (tableL_in HY.out ht)
      obtain ⟨t1, t2⟩ := there_lt ht
      have hm := manyN_le (hasHead_img HY.out)
      obtain ⟨a, rfl⟩ := Int.eq_ofNat_of_zero_le (show 0 ≤ t by omega)
      go_wp2_with fail
      refine (specThere_any _ _ _ xs _ _ hxl.out hn).mono ?_
      rintro e w' ⟨rfl, rfl⟩
      go_wp2_with fail
      refine (specCluster_any A n c a xs _ ((h.below b2).more b2.size) hn (by omega)).mono ?_
      rintro e w2 ⟨A1, n1, c1, rfl, r1⟩
      go_wp2_with fail
      go_ret
      rw [HN.out, Int.toNat_natCast]
      exact Ret.after ⟨A1, n1, c1, rfl, r1⟩ b2

/-- It answers a new slice of shots. -/
def RetSh (w : World) (l : List (Int × Int)) (e : Ending) (w' : World) : Prop :=
  ∃ g c, e = .returned (.slice (some ⟨g, 0, none⟩) l.length c) ∧ OwV 67 2 w' w.heap.size w'.heap.size g l.length c (l.flatMap shV) ∧ Below w.heap.size w w'

theorem infoSh : (Tryz.prog.info? 67).map (fun i => (i.zero, i.size, i.bytes)) = some (some (.agg #[.int .i64 0, .int .i64 0]), 2, 16) := by kernel_rfl

theorem shotsL_none {xs : List Int} {h : Hd} {is : Bool} (e : headIn xs = (h, is)) (ht : thereB xs h.shots = false) : shotsL xs = [] := by
  unfold shotsL; rw [e]; simp [ht]
theorem shotsL_some {xs : List Int} {h : Hd} {is : Bool} (e : headIn xs = (h, is)) (ht : thereB xs h.shots = true) : shotsL xs = (List.range h.many.toNat).map (fun i => ((cl xs h.shots.toNat).getD (2 * i) 0, (cl xs h.shots.toNat).getD (2 * i + 1) 0)) := by
  unfold shotsL; rw [e]; simp [ht]
theorem there_hd0 (xs : List Int) : thereB xs hd0.shots = false := by rw [thereB, inB_false]; simp [hd0]

set_option maxRecDepth 100000 in
set_option maxHeartbeats 2000000 in
theorem specShots_any (A : Option Addr) (n c : Nat) (xs : List Int) (w : World) (h : Rd w w.heap.size A n xs) (hn : n ≤ 2097152) :
    Calls Tryz.prog 58 #[.slice A n c] w (RetSh w (shotsL xs)) := by
  obtain ⟨i0, hi0, hz0, hz1, hz2⟩ := info_parts infoSh
  have hxl := Lib.hid h.len
  go_enter Tryz.func58, Tryz.ntmps58
  go_wp2_with fail
  refine (specHeadIn_any _ _ _ xs _ h hn).mono ?_
  rintro e w1 ⟨rfl, b1⟩
  generalize hr : headIn xs = r
  obtain ⟨⟨s, f, r, u, m⟩, is⟩ := r
  have HR := Lib.hid hr
  clear hr
  unfold hdV
  have b2 := b1.alloc b1.size (.cells #[.int .i64 s, .int .i64 f, .int .i64 r, .int .i64 u, .int .i64 m] 33)
  have b3 := b2.alloc b2.size (.cells #[] 67)
  have o3 := emptyV 67 2 (w1.alloc (.cells #[.int .i64 s, .int .i64 f, .int .i64 r, .int .i64 u, .int .i64 m] 33)) w.heap.size (w1.heap.size + 2) (w1.heap.size + 1) b2.size (by simp) (by omega)
  cases ht : thereB xs u
  · have HN := Lib.hid (shotsL_none HR.out ht)
    go_wp2_with fail
    refine (specThere_any _ _ _ xs _ _ hxl.out hn).mono ?_
    rintro e w' ⟨rfl, rfl⟩
    go_wp2_with fail
    go_ret
    rw [HN.out]
    exact ⟨_, 0, rfl, o3.more (Nat.le_refl _) (by simp), b3⟩
  · have HN := Lib.hid (shotsL_some HR.out ht)
    have his : is = true := by
      cases is
      · have := (headIn_false HR.out).2
        have h0 := there_hd0 xs
        rw [← this] at h0
        rw [ht] at h0; cases h0
      · rfl
    subst his
    have HY := Lib.hid (headIn_true HR.out)
    obtain ⟨t1, t2⟩ := there_lt ht
    have hm := manyN_le (hasHead_img HY.out.1)
    have hall := headB_all (hasHead_ok HY.out.1)
    rw [HY.out.2] at hall
    obtain ⟨_, _, _, _, m0, m4⟩ := hall
    simp only at m0 m4
    obtain ⟨a, rfl⟩ := Int.eq_ofNat_of_zero_le (show 0 ≤ u by omega)
    obtain ⟨k4, rfl⟩ := Int.eq_ofNat_of_zero_le (show 0 ≤ m by omega)
    go_wp2_with fail
    refine (specThere_any _ _ _ xs _ _ hxl.out hn).mono ?_
    rintro e w' ⟨rfl, rfl⟩
    go_wp2_with fail
    refine (specCluster_any A n c a xs _ ((h.below b3).more b3.size) hn (by omega)).mono ?_
    rintro e w4 ⟨G, ng, cg, rfl, oG, b4⟩
    obtain rfl : 8 = ng := by have := oG.len; simpa [cl, f8_length] using this
    rcases oG.form with ⟨_, h0, _⟩ | ⟨g, rfl, g1, g2, g3, g4⟩
    · omega
    have s4 := b4.size
    have hsz : ∀ o1 o2 : Obj, ((w1.alloc o1).alloc o2).heap.size = w1.heap.size + 2 := fun _ _ => by simp
    rw [hsz] at g1 s4
    clear hsz
    have o4 := o3.below b4 (by simp)
    have c4 : w4.cell? ⟨w1.heap.size, 4, none⟩ = some (.int .i64 k4) := by
      rw [b4.cell (by simp; omega)]
      rw [World.cell?_alloc_lt _ _ _ (by simp), World.cell?_alloc_new]; rfl
    have B4 := Lib.hid (below_more b3 b4 b3.size)
    have hcell : ∀ j, j < 8 → w4.cell? ⟨g, j, none⟩ = some (.int .i64 ((cl xs a).getD j 0)) := fun j hj => oG.cell hj
    have HC := Lib.hid hcell
    clear hcell ht b1 b2 b3 b4 oG o3
    obtain ⟨pr, hpr⟩ : ∃ pr : Nat → Int × Int, pr = fun i => ((cl xs a).getD (2 * i) 0, (cl xs a).getD (2 * i + 1) 0) := ⟨_, rfl⟩
    have HP := Lib.hid hpr
    clear hpr
    go_wp2_with fail
    go_loopw [5, 7] (fun v i wr => ∃ (k g' c' : Nat), k ≤ k4 ∧ i = .int .i64 k ∧ v = .slice (some ⟨g', 0, none⟩) k c' ∧ OwV 67 2 wr w.heap.size wr.heap.size g' k c' (((List.range k).map pr).flatMap shV) ∧ Below w.heap.size w wr ∧ (g' = w1.heap.size + 1 ∨ w4.heap.size ≤ g') ∧ KeepBut (w1.heap.size + 1) w4 wr) (fun _ i _ => k4 - (intOf i).toNat)
    case atStart => exact ⟨0, _, 0, Nat.zero_le _, rfl, rfl, o4.more (Nat.le_refl _) (by omega), B4.out, .inl rfl, KeepBut.refl _ _⟩
    case round =>
      obtain ⟨k, g', c', hk, rfl, rfl, ho, hb, hg', hkb⟩ := hrel
      have hcm : wr.cell? ⟨w1.heap.size, 4, none⟩ = some (.int .i64 k4) := (hkb.cell (p := ⟨w1.heap.size, 4, none⟩) (by show w1.heap.size < w4.heap.size; omega) (by show w1.heap.size ≠ _; omega)).trans c4
      have HG := Lib.hid hg'
      clear hg'
      by_cases hlt : k < k4
      · have p0 : wr.cell? ⟨g, 2 * k, none⟩ = some (.int .i64 (pr k).1) := (hkb.cell (p := ⟨g, 2 * k, none⟩) g3 (by show g ≠ _; omega)).trans (by rw [HC.out _ (by omega), HP.out])
        have p1 : wr.cell? ⟨g, 2 * k + 1, none⟩ = some (.int .i64 (pr k).2) := (hkb.cell (p := ⟨g, 2 * k + 1, none⟩) g3 (by show g ≠ _; omega)).trans (by rw [HC.out _ (by omega), HP.out])
        have HSn := Lib.hid (show (((List.range (k + 1)).map pr).flatMap shV) = (((List.range k).map pr).flatMap shV) ++ [.int .i64 (pr k).1, .int .i64 (pr k).2] by rw [List.range_succ]; simp [shV])
        generalize (pr k).1 = x1 at *
        generalize (pr k).2 = x2 at *
        go_wp2_with fail
        have hgw : g < wr.heap.size := Nat.lt_of_lt_of_le g3 hkb.1
        have hgne : some g ≠ some g' := fun e => by injection e with e; have := HG.out; omega
        have n1 : IntKind.i64.wrap (2 * (k : Int)) = 2 * (k : Int) := IntWalk.i64_in _ (by omega)
        have n2 : (0 : Int) ≤ 2 * (k : Int) := by omega
        have n3 : 2 * (k : Int) < 8 := by omega
        have n4 : (2 * (k : Int)).toNat = 2 * k := by omega
        have n5 : IntKind.i64.wrap (2 * (k : Int) + 1) = 2 * (k : Int) + 1 := IntWalk.i64_in _ (by omega)
        have n6 : (0 : Int) ≤ 2 * (k : Int) + 1 := by omega
        have n7 : 2 * (k : Int) + 1 < 8 := by omega
        have n8 : (2 * (k : Int) + 1).toNat = 2 * k + 1 := by omega
        go_region_held3 (fun w' => w'.cell? ⟨g, 2 * k, none⟩ = some (.int .i64 x1) ∧ w'.cell? ⟨g, 2 * k + 1, none⟩ = some (.int .i64 x2))
          (first
            | go_keep
            | (go_split_ands
               refine ⟨?_, ?_⟩
               · (rw [hgrow.cell_far _ (Nat.lt_trans hgw (by simp)) hgne]; assumption)
               · (rw [hgrow.cell_far _ (Nat.lt_trans hgw (by simp)) hgne]; assumption)))
          ((refine step_append_lit (by rfl) _ _ _ (by rfl) 67 2 16 _ i0 Tryz.underlying64 hi0 hz0 hz1 hz2 rfl (by omega) (by omega) w.heap.size wr.heap.size g' k c' _ (by rfl) ho #[.int .i64 x1, .int .i64 x2] 1 1 (by rfl) (by rfl) (by simp [Value.oneCell']) (by omega) hb.size ?_; intro g2 cd w5 ho5 hgrow hat _))
        clear n1 n2 n3 n4 n5 n6 n7 n8 p0 p1
        go_wp2_with fail
        go_roundw
        case rel =>
          have hgr : wr.grownBy w5 (some g') := ⟨hgrow.os, hgrow.tape, hgrow.output, Nat.le_trans (by simp) hgrow.size, fun q hq hne => (hgrow.block q (by simp; omega) hne).trans (Below.heap_alloc _ _ _ hq)⟩
          refine ⟨k + 1, g2, cd, by omega, by go_num, rfl, ?_, hb.grown hgr hb.size (fun q e => by cases e; exact ho.low), ?_, hkb.step hgr HG.out⟩
          · rw [HSn.out]; exact ho5
          · have := HG.out; have := hkb.1; omega
        case measure => simp [intOf]; omega
      · go_wp2_with fail
        go_ret
        obtain rfl : k = k4 := by omega
        have e : shotsL xs = (List.range k).map pr := by rw [HN.out, HP.out]; simp
        rw [e]
        refine ⟨g', c', ?_, ?_, hb⟩
        · simp
        · simpa using ho

/-- It answers a number; nothing that was there has turned. -/
def RetI (w : World) (x : Int) (e : Ending) (w' : World) : Prop := e = .returned (.int .i64 x) ∧ Below w.heap.size w w'
theorem RetI.mk {w w' : World} {x y : Int} (h : y = x) (hb : Below w.heap.size w w') : RetI w x (.returned (.int .i64 y)) w' := by subst h; exact ⟨rfl, hb⟩

theorem firstOf_no {xs : List Int} {q : Int} (h : hasHead xs = false) : firstOf xs q = 0 := by simp [firstOf, h]
theorem firstOf_zero {xs : List Int} (h : hasHead xs = true) : firstOf xs 0 = (headOf xs).first := by simp [firstOf, h]
theorem firstOf_out {xs : List Int} {q : Int} (h : hasHead xs = true) (h0 : q ≠ 0) (hi : inB q 1 ((shotsL xs).length : Int) = false) : firstOf xs q = 0 := by simp [firstOf, h, h0, hi]
theorem firstOf_in {xs : List Int} {q : Int} (h : hasHead xs = true) (h0 : q ≠ 0) (hi : inB q 1 ((shotsL xs).length : Int) = true) : firstOf xs q = ((shotsL xs).getD (q - 1).toNat (0, 0)).2 := by simp [firstOf, h, h0, hi]
theorem shotsL_length (xs : List Int) : (shotsL xs).length ≤ 4 := by
  unfold shotsL
  split
  · rename_i ht
    simp only [List.length_map, List.length_range]
    cases hb : hasHead xs
    · rw [headIn_no hb]; simp [hd0]
    · rw [headIn_yes hb]
      have := headB_all (hasHead_ok hb)
      show (headOf xs).many.toNat ≤ 4
      omega
  · simp
theorem sh_cell {l : List (Int × Int)} {k j : Nat} (hk : k < l.length) (hj : j < 2) : (l.flatMap shV)[k * 2 + j]? = (shV (l.getD k (0, 0)))[j]? := by
  rw [flat_get shV 2 shV_length l k j hk hj, List.getD_eq_getElem?_getD, List.getElem?_eq_getElem hk]; rfl

set_option maxHeartbeats 1000000 in
theorem specFirstOf_any (A : Option Addr) (n c : Nat) (xs : List Int) (q : Int) (w : World) (h : Rd w w.heap.size A n xs) (hn : n ≤ 2097152) :
    Calls Tryz.prog 90 #[.slice A n c, .int .i64 q] w (RetI w (firstOf xs q)) := by
  go_enter Tryz.func90, Tryz.ntmps90
  go_wp2_with fail
  refine (specHeadIn_any _ _ _ xs _ h hn).mono ?_
  rintro e w1 ⟨rfl, b1⟩
  generalize hr : headIn xs = r
  obtain ⟨⟨s, f, r, u, m⟩, is⟩ := r
  have HR := Lib.hid hr
  clear hr
  unfold hdV
  have b2 := b1.alloc b1.size (.cells #[.int .i64 s, .int .i64 f, .int .i64 r, .int .i64 u, .int .i64 m] 33)
  cases is
  · have HN := Lib.hid (firstOf_no (q := q) (headIn_false HR.out).1)
    go_wp2_with fail
    go_ret
    exact RetI.mk HN.out.symm b2
  · have HY := Lib.hid (headIn_true HR.out)
    by_cases h0 : q = 0
    · subst h0
      have HF := Lib.hid (show firstOf xs 0 = f by rw [firstOf_zero HY.out.1, HY.out.2])
      go_wp2_with fail
      go_ret
      exact RetI.mk HF.out.symm b2
    · have hd : (q == 0) = false := by simpa using h0
      go_wp2_with fail
      refine (specShots_any A n c xs _ ((h.below b2).more b2.size) hn).mono ?_
      rintro e w3 ⟨g, cg, rfl, oG, b3⟩
      have b03 := below_more b2 b3 b2.size
      have hl4 := shotsL_length xs
      cases hi : inB q 1 ((shotsL xs).length : Int)
      · have HF := Lib.hid (firstOf_out HY.out.1 h0 hi)
        go_wp2_with fail
        refine (in_any _ _ _ _).mono ?_
        rintro e w' ⟨rfl, rfl⟩
        go_wp2_with fail
        go_ret
        exact RetI.mk HF.out.symm b03
      · have HF := Lib.hid (firstOf_in HY.out.1 h0 hi)
        obtain ⟨i1, i2⟩ := inB_true.1 hi
        obtain ⟨k, rfl⟩ : ∃ k : Nat, q = k + 1 := ⟨(q - 1).toNat, by omega⟩
        have hk : k < (shotsL xs).length := by omega
        have hc : w3.cell? ⟨g, k * 2 + 1, none⟩ = some (.int .i64 ((shotsL xs).getD k (0, 0)).2) := by rw [oG.cell (by omega), sh_cell hk (by omega)]; rfl
        go_wp2_with fail
        refine (in_any _ _ _ _).mono ?_
        rintro e w' ⟨rfl, rfl⟩
        go_wp2_with fail
        go_ret
        exact RetI.mk (by rw [HF.out]; simp [List.getD_eq_getElem?_getD, hk]) b03

theorem firstEntry_in {xs : List Int} {q t : Int} (h : inB t 0 (((tableL xs (firstOf xs q)).length : Int) - 1) = true) : firstEntry xs q t = (tableL xs (firstOf xs q)).getD t.toNat 0 := by simp [firstEntry, h]
theorem firstEntry_out {xs : List Int} {q t : Int} (h : inB t 0 (((tableL xs (firstOf xs q)).length : Int) - 1) = false) : firstEntry xs q t = 0 := by simp [firstEntry, h]

set_option maxHeartbeats 1000000 in
theorem specFirstEntry_any (A : Option Addr) (n c : Nat) (xs : List Int) (q t : Int) (w : World) (h : Rd w w.heap.size A n xs) (hn : n ≤ 2097152) :
    Calls Tryz.prog 45 #[.slice A n c, .int .i64 q, .int .i64 t] w (RetI w (firstEntry xs q t)) := by
  go_enter Tryz.func45, Tryz.ntmps45
  go_wp2_with fail
  refine (specFirstOf_any A n c xs q w h hn).mono ?_
  rintro e w1 ⟨rfl, b1⟩
  go_wp2_with fail
  refine (specTable_any A n c xs _ w1 ((h.below b1).more b1.size) hn).mono ?_
  rintro e w2 ⟨G, ng, cg, rfl, oG, b2⟩
  have b02 := below_more b1 b2 b1.size
  have HL := Lib.hid oG.len
  have hl8 : ng ≤ 8 := by have := tableL_length xs (firstOf xs q); have := HL.out; omega
  cases hi : inB t 0 ((ng : Int) - 1)
  · have HF := Lib.hid (firstEntry_out (xs := xs) (q := q) (t := t) (by rw [HL.out]; exact hi))
    go_wp2_with fail
    refine (in_any _ _ _ _).mono ?_
    rintro e w' ⟨rfl, rfl⟩
    go_wp2_with fail
    go_ret
    exact RetI.mk HF.out.symm b02
  · have HF := Lib.hid (firstEntry_in (xs := xs) (q := q) (t := t) (by rw [HL.out]; exact hi))
    obtain ⟨i1, i2⟩ := inB_true.1 hi
    obtain ⟨k, rfl⟩ := Int.eq_ofNat_of_zero_le i1
    have hk : k < ng := by omega
    rcases oG.form with ⟨_, h0, _⟩ | ⟨g, rfl, g1, g2, g3, g4⟩
    · omega
    have hc := oG.cell hk
    go_wp2_with fail
    refine (in_any _ _ _ _).mono ?_
    rintro e w' ⟨rfl, rfl⟩
    go_wp2_with fail
    go_ret
    exact RetI.mk (by rw [HF.out]; simp) b02

theorem entryAt_no {xs : List Int} {q g : Int} (h : hasHead xs = false) : entryAt xs q g = 0 := by simp [entryAt, h]
theorem entryAt_out {xs : List Int} {q g : Int} (h : inB g 0 ((headOf xs).size - 1) = false) : entryAt xs q g = 0 := by simp [entryAt, h]
theorem entryAt_in {xs : List Int} {q g : Int} (h : hasHead xs = true) (h2 : inB g 0 ((headOf xs).size - 1) = true) : entryAt xs q g = (tableL xs (targetOf (firstEntry xs q (g / 8)))).getD (g % 8).toNat 0 := by simp [entryAt, h, h2]

set_option maxHeartbeats 1000000 in
theorem specEntryAt_any (A : Option Addr) (n c : Nat) (xs : List Int) (q g : Int) (w : World) (h : Rd w w.heap.size A n xs) (hn : n ≤ 2097152) :
    Calls Tryz.prog 43 #[.slice A n c, .int .i64 q, .int .i64 g] w (RetI w (entryAt xs q g)) := by
  go_enter Tryz.func43, Tryz.ntmps43
  go_wp2_with fail
  refine (specHeadIn_any _ _ _ xs _ h hn).mono ?_
  rintro e w1 ⟨rfl, b1⟩
  generalize hr : headIn xs = r
  obtain ⟨⟨s, f, r, u, m⟩, is⟩ := r
  have HR := Lib.hid hr
  clear hr
  unfold hdV
  have b2 := b1.alloc b1.size (.cells #[.int .i64 s, .int .i64 f, .int .i64 r, .int .i64 u, .int .i64 m] 33)
  cases is
  · have HN := Lib.hid (entryAt_no (q := q) (g := g) (headIn_false HR.out).1)
    go_wp2_with fail
    go_ret
    exact RetI.mk HN.out.symm b2
  · have HY := Lib.hid (headIn_true HR.out)
    have hall := headB_all (hasHead_ok HY.out.1)
    rw [HY.out.2] at hall
    obtain ⟨⟨z1, z2⟩, _⟩ := hall
    simp only at z1 z2
    cases hi : inB g 0 (s - 1)
    · have HF := Lib.hid (entryAt_out (xs := xs) (q := q) (g := g) (by rw [HY.out.2]; exact hi))
      go_wp2_with fail
      refine (in_any _ _ _ _).mono ?_
      rintro e w' ⟨rfl, rfl⟩
      go_wp2_with fail
      go_ret
      exact RetI.mk HF.out.symm b2
    · have HF := Lib.hid (entryAt_in (xs := xs) (q := q) (g := g) HY.out.1 (by rw [HY.out.2]; exact hi))
      obtain ⟨i1, i2⟩ := inB_true.1 hi
      go_wp2_with fail
      refine (in_any _ _ _ _).mono ?_
      rintro e w' ⟨rfl, rfl⟩
      go_wp2_with fail
      refine (specFirstEntry_any A n c xs q (g / 8) _ ((h.below b2).more b2.size) hn).mono ?_
      rintro e w3 ⟨rfl, b3⟩
      have b03 := below_more b2 b3 b2.size
      go_wp2_with fail
      refine (specTarget_any _ _).mono ?_
      rintro e w' ⟨rfl, rfl⟩
      go_wp2_with fail
      refine (specTable_any A n c xs _ w3 ((h.below b03).more b03.size) hn).mono ?_
      rintro e w4 ⟨G, ng, cg, rfl, oG, b4⟩
      have b04 := below_more b03 b4 b03.size
      have HL := Lib.hid oG.len
      have h08 := tableL_length xs (targetOf (firstEntry xs q (g / 8)))
      rw [HL.out] at h08
      rcases h08 with h0 | h8
      · subst h0
        have hd : (((0 : Nat) : Int) == 0) = true := by simp
        go_wp2_with fail
        go_ret
        refine RetI.mk ?_ b04
        rw [HF.out, List.eq_nil_of_length_eq_zero HL.out]; rfl
      · subst h8
        have hd : (((8 : Nat) : Int) == 0) = false := by simp
        rcases oG.form with ⟨_, h0, _⟩ | ⟨b, rfl, g1, g2, g3, g4⟩
        · omega
        obtain ⟨k, hk⟩ : ∃ k : Nat, g % 8 = k := ⟨(g % 8).toNat, by omega⟩
        have hk8 : k < 8 := by omega
        have hc := oG.cell hk8
        have HK := Lib.hid hk
        rw [hk] at HF
        go_wp2_with fail
        go_ret
        exact RetI.mk (by rw [HF.out]; simp) b04

end Go.Proofs.YtiokfhdkbpoadabGreatDoor
