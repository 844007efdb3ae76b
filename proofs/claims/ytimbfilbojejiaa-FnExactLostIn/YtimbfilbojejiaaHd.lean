/- Heads: plain functions, and that the Go functions of both sides compute them. -/
import Derived.Test.YtimbfilbojejiaaWcl
import Derived.BigRegion
import Derived.Deep.RegionHeld3
namespace Go.Proofs.Ytimbfilbojejiaa
open Go.RowKit

structure Hd where
  size : Int
  first : Int
  refs : Int
  shots : Int
  many : Int
deriving DecidableEq

def hd0 : Hd := ⟨0, 0, 0, 0, 0⟩
def hdV (h : Hd) : Value := .agg #[.int .i64 h.size, .int .i64 h.first, .int .i64 h.refs, .int .i64 h.shots, .int .i64 h.many]
def headB (h : Hd) : Bool := (((inB h.size 1 64 && wordB h.first) && wordB h.refs) && wordB h.shots) && inB h.many 0 4
def hdW (h : Hd) : List Int := [20559, 3, h.size, h.first, h.refs, h.shots, h.many, 0]
/-- The head that the first words tell, be it right or not. -/
def headOf (xs : List Int) : Hd := ⟨xs.getD 2 0, xs.getD 3 0, xs.getD 4 0, xs.getD 5 0, xs.getD 6 0⟩
def hasHead (xs : List Int) : Bool := imgB xs && (decide (xs.length ≠ 0) && (decide (xs.getD 0 0 = 20559) && (decide (xs.getD 1 0 = 3) && (decide (xs.getD 7 0 = 0) && headB (headOf xs)))))
def headIn (xs : List Int) : Hd × Bool := if hasHead xs then (headOf xs, true) else (hd0, false)

theorem hasHead_img {xs : List Int} (h : hasHead xs = true) : imgB xs = true := by simp [hasHead] at h; exact h.1
theorem hasHead_len {xs : List Int} (h : hasHead xs = true) : 0 < xs.length ∧ xs.length ≤ 512 := by
  have := imgB_len (hasHead_img h)
  simp [hasHead] at h
  have h1 := h.2.1
  exact ⟨by cases xs with
    | nil => exact absurd rfl h1
    | cons _ _ => simp, this⟩
theorem hasHead_ok {xs : List Int} (h : hasHead xs = true) : headB (headOf xs) = true := by simp [hasHead] at h; exact h.2.2.2.2.2
theorem headB_all {h : Hd} (hb : headB h = true) : (1 ≤ h.size ∧ h.size ≤ 64) ∧ (0 ≤ h.first ∧ h.first ≤ 65535) ∧ (0 ≤ h.refs ∧ h.refs ≤ 65535) ∧ (0 ≤ h.shots ∧ h.shots ≤ 65535) ∧ (0 ≤ h.many ∧ h.many ≤ 4) := by
  simp only [headB, Bool.and_eq_true, inB_true, wordB] at hb
  exact ⟨hb.1.1.1.1, hb.1.1.1.2, hb.1.1.2, hb.1.2, hb.2⟩

set_option maxHeartbeats 1000000 in
theorem specHeadOk_any (h : Hd) (w : World) :
    Calls Try.prog 47 #[hdV h] w fun e w' => e = .returned (.bool (headB h)) ∧ Below w.heap.size w w' := by
  obtain ⟨s, f, r, t, m⟩ := h
  have hB := Lib.hid ((Below.refl w.heap.size w).alloc (Nat.le_refl _) (.cells #[.int .i64 s, .int .i64 f, .int .i64 r, .int .i64 t, .int .i64 m] 34))
  unfold hdV
  cases h1 : inB s 1 64
  · have H := Lib.hid (show headB ⟨s, f, r, t, m⟩ = false by simp [headB, h1])
    go_enter Try.func47, Try.ntmps47
    go_wp2_with (first | (go_at_call 17; refine (in_any _ _ _ _).mono ?_; rintro e w' ⟨rfl, rfl⟩) | (go_at_call 37; refine (word_any _ _).mono ?_; rintro e w' ⟨rfl, rfl⟩))
    go_ret
    exact ⟨ret_bool H.out.symm, hB.out⟩
  cases h2 : wordB f
  · have H := Lib.hid (show headB ⟨s, f, r, t, m⟩ = false by simp [headB, h2])
    go_enter Try.func47, Try.ntmps47
    go_wp2_with (first | (go_at_call 17; refine (in_any _ _ _ _).mono ?_; rintro e w' ⟨rfl, rfl⟩) | (go_at_call 37; refine (word_any _ _).mono ?_; rintro e w' ⟨rfl, rfl⟩))
    go_ret
    exact ⟨ret_bool H.out.symm, hB.out⟩
  cases h3 : wordB r
  · have H := Lib.hid (show headB ⟨s, f, r, t, m⟩ = false by simp [headB, h3])
    go_enter Try.func47, Try.ntmps47
    go_wp2_with (first | (go_at_call 17; refine (in_any _ _ _ _).mono ?_; rintro e w' ⟨rfl, rfl⟩) | (go_at_call 37; refine (word_any _ _).mono ?_; rintro e w' ⟨rfl, rfl⟩))
    go_ret
    exact ⟨ret_bool H.out.symm, hB.out⟩
  cases h4 : wordB t
  · have H := Lib.hid (show headB ⟨s, f, r, t, m⟩ = false by simp [headB, h4])
    go_enter Try.func47, Try.ntmps47
    go_wp2_with (first | (go_at_call 17; refine (in_any _ _ _ _).mono ?_; rintro e w' ⟨rfl, rfl⟩) | (go_at_call 37; refine (word_any _ _).mono ?_; rintro e w' ⟨rfl, rfl⟩))
    go_ret
    exact ⟨ret_bool H.out.symm, hB.out⟩
  have H := Lib.hid (show headB ⟨s, f, r, t, m⟩ = inB m 0 4 by simp [headB, h1, h2, h3, h4])
  go_enter Try.func47, Try.ntmps47
  go_wp2_with (first | (go_at_call 17; refine (in_any _ _ _ _).mono ?_; rintro e w' ⟨rfl, rfl⟩) | (go_at_call 37; refine (word_any _ _).mono ?_; rintro e w' ⟨rfl, rfl⟩))
  go_ret
  exact ⟨ret_bool H.out.symm, hB.out⟩

/-- A block of numbers made at once, as a row of the call's own. -/
theorem made_ow (w : World) (cs : Array Value) (xs : List Int) (n lo hi g : Nat) (hcs : cs = (iv xs).toArray) (hl : xs.length = n) (hn : n ≤ 1000) (hlo : lo ≤ w.heap.size) (hhi : w.heap.size < hi) (hg : w.heap.size = g) : Ow (w.alloc (.cells cs 2)) lo hi (some ⟨g, 0, none⟩) n n xs := by
  subst hcs; subst hg
  have h : (w.alloc (.cells (iv xs).toArray 2)).ownsRow lo 2 1 (.slice (some ⟨w.heap.size, 0, none⟩) n n) n (iv xs).toArray.toList :=
    World.ownsRow_lit w (iv xs).toArray n hlo (by simp only [maxLen]; omega) (by simp [iv_length, hl])
  exact ⟨by simpa using h, fun g hg => by simp [Value.ownBlock] at hg; omega⟩

set_option maxHeartbeats 1000000 in
theorem specHdWords_any (h : Hd) (w : World) :
    Calls Try.prog 31 #[hdV h] w (RetS w (hdW h)) := by
  obtain ⟨s, f, r, t, m⟩ := h
  unfold hdV
  go_enter Try.func31, Try.ntmps31
  go_wp2
  go_ret
  refine ⟨w.heap.size + 1, 8, 8, rfl, Nat.le_refl _, ?_, ((Below.refl _ _).alloc (Nat.le_refl _) _).alloc (by simp) _⟩
  exact made_ow _ _ (hdW ⟨s, f, r, t, m⟩) 8 _ _ _ rfl rfl (by omega) (by simp) (by simp) (by simp)

theorem headIn_no {xs : List Int} (h : hasHead xs = false) : headIn xs = (hd0, false) := by simp [headIn, h]
theorem headIn_yes {xs : List Int} (h : hasHead xs = true) : headIn xs = (headOf xs, true) := by simp [headIn, h]
theorem cl0_get (xs : List Int) (j : Nat) (h : j < 8) : (cl xs 0).getD j 0 = xs.getD j 0 := by
  unfold cl; rw [f8_get _ j h]; simp

/-- A Head and a flag. -/
def RetHd (w : World) (r : Hd × Bool) (e : Ending) (w' : World) : Prop := e = .returned (.tuple #[hdV r.1, .bool r.2]) ∧ Below w.heap.size w w'

set_option maxRecDepth 100000 in
set_option maxHeartbeats 1000000 in
theorem specHeadIn_any (A : Option Addr) (n c : Nat) (xs : List Int) (w : World) (h : Rd w w.heap.size A n xs) (hn : n ≤ 2097152) :
    Calls Try.prog 24 #[.slice A n c] w (RetHd w (headIn xs)) := by
  have hxl := Lib.hid h.len
  have hB := Lib.hid ((Below.refl w.heap.size w).alloc (Nat.le_refl _) (.cells #[.int .i64 0, .int .i64 0, .int .i64 0, .int .i64 0, .int .i64 0] 34))
  have h1 := h.below hB.out
  cases hi : imgB xs
  · have H := Lib.hid (headIn_no (xs := xs) (by simp [hasHead, hi]))
    go_enter Try.func24, Try.ntmps24
    go_wp2_with (go_at_call 46; refine (specImg_any _ _ _ _ _ _ h1 hn).mono ?_; rintro e w' ⟨rfl, rfl⟩)
    refine bodyPost_ret (v := .tuple #[hdV hd0, .bool false]) (by simp [results, Try.results24, go_sem, hdV, hd0]) rfl ⟨?_, ?_⟩
    · rw [H.out]
    · exact hB.out
  by_cases hn0 : n = 0
  · subst hn0
    have H := Lib.hid (headIn_no (xs := xs) (by have := hxl.out; simp [hasHead, this]))
    have hd : (((0 : Nat) : Int) == 0) = true := by simp
    go_enter Try.func24, Try.ntmps24
    go_wp2_with (go_at_call 46; refine (specImg_any _ _ _ _ _ _ h1 hn).mono ?_; rintro e w' ⟨rfl, rfl⟩)
    refine bodyPost_ret (v := .tuple #[hdV hd0, .bool false]) (by simp [results, Try.results24, go_sem, hdV, hd0]) rfl ⟨?_, ?_⟩
    · rw [H.out]
    · exact hB.out
  have hd : ((n : Int) == 0) = false := by rw [beq_eq_false_iff_ne]; omega
  go_enter Try.func24, Try.ntmps24
  go_wp2_with (go_at_call 46; refine (specImg_any _ _ _ _ _ _ h1 hn).mono ?_; rintro e w' ⟨rfl, rfl⟩)
  refine (specCluster_any A n c 0 xs _ (h1.more (by simp)) hn (by omega)).mono ?_
  rintro e w1 ⟨G, ng, cg, rfl, oG, b1⟩
  obtain rfl : 8 = ng := by have := oG.len; simpa [cl, f8_length] using this
  rcases oG.form with ⟨_, h0, _⟩ | ⟨g, rfl, g1, g2, g3, g4⟩
  · omega
  have c0 : w1.cell? ⟨g, 0, none⟩ = some (.int .i64 (xs.getD 0 0)) := by rw [oG.cell (by omega), cl0_get _ _ (by omega)]
  have c1 : w1.cell? ⟨g, 1, none⟩ = some (.int .i64 (xs.getD 1 0)) := by rw [oG.cell (by omega), cl0_get _ _ (by omega)]
  have c2 : w1.cell? ⟨g, 2, none⟩ = some (.int .i64 (xs.getD 2 0)) := by rw [oG.cell (by omega), cl0_get _ _ (by omega)]
  have c3 : w1.cell? ⟨g, 3, none⟩ = some (.int .i64 (xs.getD 3 0)) := by rw [oG.cell (by omega), cl0_get _ _ (by omega)]
  have c4 : w1.cell? ⟨g, 4, none⟩ = some (.int .i64 (xs.getD 4 0)) := by rw [oG.cell (by omega), cl0_get _ _ (by omega)]
  have c5 : w1.cell? ⟨g, 5, none⟩ = some (.int .i64 (xs.getD 5 0)) := by rw [oG.cell (by omega), cl0_get _ _ (by omega)]
  have c6 : w1.cell? ⟨g, 6, none⟩ = some (.int .i64 (xs.getD 6 0)) := by rw [oG.cell (by omega), cl0_get _ _ (by omega)]
  have c7 : w1.cell? ⟨g, 7, none⟩ = some (.int .i64 (xs.getD 7 0)) := by rw [oG.cell (by omega), cl0_get _ _ (by omega)]
  have HX := Lib.hid (show hasHead xs = (decide (xs.getD 0 0 = 20559) && (decide (xs.getD 1 0 = 3) && (decide (xs.getD 7 0 = 0) && headB ⟨xs.getD 2 0, xs.getD 3 0, xs.getD 4 0, xs.getD 5 0, xs.getD 6 0⟩))) by
    have := hxl.out; simp [hasHead, hi, headOf, this, hn0])
  have HY := Lib.hid (show headOf xs = ⟨xs.getD 2 0, xs.getD 3 0, xs.getD 4 0, xs.getD 5 0, xs.getD 6 0⟩ from rfl)
  generalize xs.getD 0 0 = x0 at *
  generalize xs.getD 1 0 = x1 at *
  generalize xs.getD 2 0 = x2 at *
  generalize xs.getD 3 0 = x3 at *
  generalize xs.getD 4 0 = x4 at *
  generalize xs.getD 5 0 = x5 at *
  generalize xs.getD 6 0 = x6 at *
  generalize xs.getD 7 0 = x7 at *
  have hz : w.heap.size < w1.heap.size := by have := b1.size; simp at this; omega
  have hbk : w1.heap[w.heap.size]? = (w.alloc (.cells #[.int .i64 0, .int .i64 0, .int .i64 0, .int .i64 0, .int .i64 0] 34)).heap[w.heap.size]? := b1.block _ (by simp)
  have hrc : ∀ j, w1.cell? ⟨w.heap.size, j, none⟩ = (#[.int .i64 0, .int .i64 0, .int .i64 0, .int .i64 0, .int .i64 0] : Array Value)[j]? := fun j => (World.cell?_of_block (w := w.alloc _) hbk).trans (World.cell?_alloc_new _ _ _ _)
  have hrf : ∀ j, w1.frozen? ⟨w.heap.size, j, none⟩ = false := fun j => (World.frozen?_of_block (w := w.alloc _) hbk).trans (World.frozen?_alloc_new _ _ _ _)
  have r0 : w1.cell? ⟨w.heap.size, 0, none⟩ = some (.int .i64 0) := hrc 0
  have r1 : w1.cell? ⟨w.heap.size, 1, none⟩ = some (.int .i64 0) := hrc 1
  have r2 : w1.cell? ⟨w.heap.size, 2, none⟩ = some (.int .i64 0) := hrc 2
  have r3 : w1.cell? ⟨w.heap.size, 3, none⟩ = some (.int .i64 0) := hrc 3
  have r4 : w1.cell? ⟨w.heap.size, 4, none⟩ = some (.int .i64 0) := hrc 4
  have f0 := hrf 0
  have f1 := hrf 1
  have f2 := hrf 2
  have f3 := hrf 3
  have f4 := hrf 4
  have hgn : g ≠ w1.heap.size := by omega
  have hzn : w.heap.size ≠ w1.heap.size := by omega
  clear hbk hrc hrf
  have hbelow : Hid (Below w.heap.size w w1) := below_more hB.out b1 (by simp)
  go_wp2_with fail
  go_region_held3 (fun w' => w'.cell? ⟨g, 2, none⟩ = some (.int .i64 x2) ∧ w'.cell? ⟨g, 3, none⟩ = some (.int .i64 x3) ∧ w'.cell? ⟨g, 4, none⟩ = some (.int .i64 x4) ∧ w'.cell? ⟨g, 5, none⟩ = some (.int .i64 x5) ∧ w'.cell? ⟨g, 6, none⟩ = some (.int .i64 x6)) (go_keep) (fail)
  have d0 : (w1.alloc (.cells #[.int .i64 x2, .int .i64 x3, .int .i64 x4, .int .i64 x5, .int .i64 x6] 34)).drew.cell? ⟨g, 0, none⟩ = some (.int .i64 x0) := (World.cell?_alloc_lt _ _ _ g3).trans c0
  have d1 : (w1.alloc (.cells #[.int .i64 x2, .int .i64 x3, .int .i64 x4, .int .i64 x5, .int .i64 x6] 34)).drew.cell? ⟨g, 1, none⟩ = some (.int .i64 x1) := (World.cell?_alloc_lt _ _ _ g3).trans c1
  have d7 : (w1.alloc (.cells #[.int .i64 x2, .int .i64 x3, .int .i64 x4, .int .i64 x5, .int .i64 x6] 34)).drew.cell? ⟨g, 7, none⟩ = some (.int .i64 x7) := (World.cell?_alloc_lt _ _ _ g3).trans c7
  have e0 := (World.cell?_alloc_lt _ (.cells #[.int .i64 x2, .int .i64 x3, .int .i64 x4, .int .i64 x5, .int .i64 x6] 34) ⟨w.heap.size, 0, none⟩ hz).trans r0
  have e1 := (World.cell?_alloc_lt _ (.cells #[.int .i64 x2, .int .i64 x3, .int .i64 x4, .int .i64 x5, .int .i64 x6] 34) ⟨w.heap.size, 1, none⟩ hz).trans r1
  have e2 := (World.cell?_alloc_lt _ (.cells #[.int .i64 x2, .int .i64 x3, .int .i64 x4, .int .i64 x5, .int .i64 x6] 34) ⟨w.heap.size, 2, none⟩ hz).trans r2
  have e3 := (World.cell?_alloc_lt _ (.cells #[.int .i64 x2, .int .i64 x3, .int .i64 x4, .int .i64 x5, .int .i64 x6] 34) ⟨w.heap.size, 3, none⟩ hz).trans r3
  have e4 := (World.cell?_alloc_lt _ (.cells #[.int .i64 x2, .int .i64 x3, .int .i64 x4, .int .i64 x5, .int .i64 x6] 34) ⟨w.heap.size, 4, none⟩ hz).trans r4
  have k0 := (World.frozen?_alloc_old w1 (.cells #[.int .i64 x2, .int .i64 x3, .int .i64 x4, .int .i64 x5, .int .i64 x6] 34) ⟨w.heap.size, 0, none⟩ hzn).trans f0
  have k1 := (World.frozen?_alloc_old w1 (.cells #[.int .i64 x2, .int .i64 x3, .int .i64 x4, .int .i64 x5, .int .i64 x6] 34) ⟨w.heap.size, 1, none⟩ hzn).trans f1
  have k2 := (World.frozen?_alloc_old w1 (.cells #[.int .i64 x2, .int .i64 x3, .int .i64 x4, .int .i64 x5, .int .i64 x6] 34) ⟨w.heap.size, 2, none⟩ hzn).trans f2
  have k3 := (World.frozen?_alloc_old w1 (.cells #[.int .i64 x2, .int .i64 x3, .int .i64 x4, .int .i64 x5, .int .i64 x6] 34) ⟨w.heap.size, 3, none⟩ hzn).trans f3
  have k4 := (World.frozen?_alloc_old w1 (.cells #[.int .i64 x2, .int .i64 x3, .int .i64 x4, .int .i64 x5, .int .i64 x6] 34) ⟨w.heap.size, 4, none⟩ hzn).trans f4
  have s0 : (w1.alloc (.cells #[.int .i64 x2, .int .i64 x3, .int .i64 x4, .int .i64 x5, .int .i64 x6] 34)).drew.cell? ⟨w1.heap.size, 0, none⟩ = some (.int .i64 x2) := World.cell?_alloc_new _ _ _ _
  have s1 : (w1.alloc (.cells #[.int .i64 x2, .int .i64 x3, .int .i64 x4, .int .i64 x5, .int .i64 x6] 34)).drew.cell? ⟨w1.heap.size, 1, none⟩ = some (.int .i64 x3) := World.cell?_alloc_new _ _ _ _
  have s2 : (w1.alloc (.cells #[.int .i64 x2, .int .i64 x3, .int .i64 x4, .int .i64 x5, .int .i64 x6] 34)).drew.cell? ⟨w1.heap.size, 2, none⟩ = some (.int .i64 x4) := World.cell?_alloc_new _ _ _ _
  have s3 : (w1.alloc (.cells #[.int .i64 x2, .int .i64 x3, .int .i64 x4, .int .i64 x5, .int .i64 x6] 34)).drew.cell? ⟨w1.heap.size, 3, none⟩ = some (.int .i64 x5) := World.cell?_alloc_new _ _ _ _
  have s4 : (w1.alloc (.cells #[.int .i64 x2, .int .i64 x3, .int .i64 x4, .int .i64 x5, .int .i64 x6] 34)).drew.cell? ⟨w1.heap.size, 4, none⟩ = some (.int .i64 x6) := World.cell?_alloc_new _ _ _ _
  have hb2 : Hid (Below w.heap.size w (w1.alloc (.cells #[.int .i64 x2, .int .i64 x3, .int .i64 x4, .int .i64 x5, .int .i64 x6] 34)).drew) := (hbelow.out.alloc (Nat.le_of_lt hz) _).drew
  have hz2 : w1.heap.size < (w1.alloc (.cells #[.int .i64 x2, .int .i64 x3, .int .i64 x4, .int .i64 x5, .int .i64 x6] 34)).drew.heap.size := by simp
  change (w1.alloc (.cells #[.int .i64 x2, .int .i64 x3, .int .i64 x4, .int .i64 x5, .int .i64 x6] 34)).drew.cell? ⟨w.heap.size, 0, none⟩ = _ at e0
  change (w1.alloc (.cells #[.int .i64 x2, .int .i64 x3, .int .i64 x4, .int .i64 x5, .int .i64 x6] 34)).drew.cell? ⟨w.heap.size, 1, none⟩ = _ at e1
  change (w1.alloc (.cells #[.int .i64 x2, .int .i64 x3, .int .i64 x4, .int .i64 x5, .int .i64 x6] 34)).drew.cell? ⟨w.heap.size, 2, none⟩ = _ at e2
  change (w1.alloc (.cells #[.int .i64 x2, .int .i64 x3, .int .i64 x4, .int .i64 x5, .int .i64 x6] 34)).drew.cell? ⟨w.heap.size, 3, none⟩ = _ at e3
  change (w1.alloc (.cells #[.int .i64 x2, .int .i64 x3, .int .i64 x4, .int .i64 x5, .int .i64 x6] 34)).drew.cell? ⟨w.heap.size, 4, none⟩ = _ at e4
  change (w1.alloc (.cells #[.int .i64 x2, .int .i64 x3, .int .i64 x4, .int .i64 x5, .int .i64 x6] 34)).drew.frozen? ⟨w.heap.size, 0, none⟩ = _ at k0
  change (w1.alloc (.cells #[.int .i64 x2, .int .i64 x3, .int .i64 x4, .int .i64 x5, .int .i64 x6] 34)).drew.frozen? ⟨w.heap.size, 1, none⟩ = _ at k1
  change (w1.alloc (.cells #[.int .i64 x2, .int .i64 x3, .int .i64 x4, .int .i64 x5, .int .i64 x6] 34)).drew.frozen? ⟨w.heap.size, 2, none⟩ = _ at k2
  change (w1.alloc (.cells #[.int .i64 x2, .int .i64 x3, .int .i64 x4, .int .i64 x5, .int .i64 x6] 34)).drew.frozen? ⟨w.heap.size, 3, none⟩ = _ at k3
  change (w1.alloc (.cells #[.int .i64 x2, .int .i64 x3, .int .i64 x4, .int .i64 x5, .int .i64 x6] 34)).drew.frozen? ⟨w.heap.size, 4, none⟩ = _ at k4
  clear c0 c1 c2 c3 c4 c5 c6 c7 r0 r1 r2 r3 r4 f0 f1 f2 f3 f4 oG b1 hbelow h1 hB hgn
  generalize (w1.alloc (.cells #[.int .i64 x2, .int .i64 x3, .int .i64 x4, .int .i64 x5, .int .i64 x6] 34)).drew = w2 at *
  by_cases hx0 : x0 = 20559
  · subst hx0
    have q0 : ((20559 : Int) != 20559) = false := by simp
    by_cases hx1 : x1 = 3
    · subst hx1
      have q1 : ((3 : Int) != 3) = false := by simp
      by_cases hx7 : x7 = 0
      · subst hx7
        have q7 : ((0 : Int) != 0) = false := by simp
        have HX' : Hid (hasHead xs = headB ⟨x2, x3, x4, x5, x6⟩) := by rw [HX.out]; simp [Hid]
        clear HX
        go_wp2_with fail
        refine (specHeadOk_any ⟨x2, x3, x4, x5, x6⟩ w2).mono ?_
        rintro e w3 ⟨rfl, b3⟩
        have HB3 : Hid (Below w.heap.size w w3) := below_more hb2.out b3 hb2.out.size
        have hz' : w.heap.size < w2.heap.size := by omega
        have s0 := (b3.cell (p := ⟨w1.heap.size, 0, none⟩) hz2).trans s0
        have s1 := (b3.cell (p := ⟨w1.heap.size, 1, none⟩) hz2).trans s1
        have s2 := (b3.cell (p := ⟨w1.heap.size, 2, none⟩) hz2).trans s2
        have s3 := (b3.cell (p := ⟨w1.heap.size, 3, none⟩) hz2).trans s3
        have s4 := (b3.cell (p := ⟨w1.heap.size, 4, none⟩) hz2).trans s4
        have e0 := (b3.cell (p := ⟨w.heap.size, 0, none⟩) hz').trans e0
        have e1 := (b3.cell (p := ⟨w.heap.size, 1, none⟩) hz').trans e1
        have e2 := (b3.cell (p := ⟨w.heap.size, 2, none⟩) hz').trans e2
        have e3 := (b3.cell (p := ⟨w.heap.size, 3, none⟩) hz').trans e3
        have e4 := (b3.cell (p := ⟨w.heap.size, 4, none⟩) hz').trans e4
        have k0 := (b3.frozen (p := ⟨w.heap.size, 0, none⟩) hz').trans k0
        have k1 := (b3.frozen (p := ⟨w.heap.size, 1, none⟩) hz').trans k1
        have k2 := (b3.frozen (p := ⟨w.heap.size, 2, none⟩) hz').trans k2
        have k3 := (b3.frozen (p := ⟨w.heap.size, 3, none⟩) hz').trans k3
        have k4 := (b3.frozen (p := ⟨w.heap.size, 4, none⟩) hz').trans k4
        clear b3
        cases hb : headB ⟨x2, x3, x4, x5, x6⟩
        · have HN : Hid (hasHead xs = false) := HX'.out.trans hb
          go_wp2_with fail
          refine bodyPost_ret (v := .tuple #[hdV hd0, .bool false]) (by simp [results, Try.results24, go_sem, hdV, hd0, e0, e1, e2, e3, e4]) rfl ⟨by rw [headIn_no HN.out], ?_⟩
          exact ((((HB3.out.setCell (Nat.le_refl _) _).setCell (Nat.le_refl _) _).setCell (Nat.le_refl _) _).setCell (Nat.le_refl _) _).setCell (Nat.le_refl _) _
        · have HN : Hid (hasHead xs = true) := HX'.out.trans hb
          go_wp2_with fail
          refine bodyPost_ret (v := .tuple #[hdV ⟨x2, x3, x4, x5, x6⟩, .bool true]) (by simp [results, Try.results24, go_sem, hdV, e0, e1, e2, e3, e4]) rfl ⟨by rw [headIn_yes HN.out, HY.out], ?_⟩
          exact ((((HB3.out.setCell (Nat.le_refl _) _).setCell (Nat.le_refl _) _).setCell (Nat.le_refl _) _).setCell (Nat.le_refl _) _).setCell (Nat.le_refl _) _
      · have q7 : (x7 != 0) = true := by simpa using hx7
        have HN : Hid (hasHead xs = false) := by rw [HX.out]; simp [hx7, Hid]
        go_wp2_with fail
        refine bodyPost_ret (v := .tuple #[hdV hd0, .bool false]) (by simp [results, Try.results24, go_sem, hdV, hd0, e0, e1, e2, e3, e4]) rfl ⟨by rw [headIn_no HN.out], ?_⟩
        exact ((((hb2.out.setCell (Nat.le_refl _) _).setCell (Nat.le_refl _) _).setCell (Nat.le_refl _) _).setCell (Nat.le_refl _) _).setCell (Nat.le_refl _) _
    · have q1 : (x1 != 3) = true := by simpa using hx1
      have HN : Hid (hasHead xs = false) := by rw [HX.out]; simp [hx1, Hid]
      go_wp2_with fail
      refine bodyPost_ret (v := .tuple #[hdV hd0, .bool false]) (by simp [results, Try.results24, go_sem, hdV, hd0, e0, e1, e2, e3, e4]) rfl ⟨by rw [headIn_no HN.out], ?_⟩
      exact ((((hb2.out.setCell (Nat.le_refl _) _).setCell (Nat.le_refl _) _).setCell (Nat.le_refl _) _).setCell (Nat.le_refl _) _).setCell (Nat.le_refl _) _
  · have q0 : (x0 != 20559) = true := by simpa using hx0
    have HN : Hid (hasHead xs = false) := by rw [HX.out]; simp [hx0, Hid]
    go_wp2_with fail
    refine bodyPost_ret (v := .tuple #[hdV hd0, .bool false]) (by simp [results, Try.results24, go_sem, hdV, hd0, e0, e1, e2, e3, e4]) rfl ⟨by rw [headIn_no HN.out], ?_⟩
    exact ((((hb2.out.setCell (Nat.le_refl _) _).setCell (Nat.le_refl _) _).setCell (Nat.le_refl _) _).setCell (Nat.le_refl _) _).setCell (Nat.le_refl _) _

end Go.Proofs.Ytimbfilbojejiaa
