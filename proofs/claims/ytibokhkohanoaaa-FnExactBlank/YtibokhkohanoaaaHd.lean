/- Heads: plain functions, and that the Go functions of both sides compute them. -/
import Derived.Test.YtibokhkohanoaaaWcl
import Derived.BigRegion
import Derived.Deep.RegionHeld3
namespace Go.Proofs.Ytibokhkohanoaaa
open Go.RowKit

structure Hd where
  size : Int
  first : Int
  refs : Int
  shots : Int
  many : Int
deriving DecidableEq

def hd0 : Hd := ⟨0, 0, 0, 0, 0⟩
def hdV (h : Hd) : Value := .agg #[.int .i64 h.size, .int .i64 h.first, .int .i64 h.refs, .int .i64 h.shots, .int .i64 h.many]
def headB (h : Hd) : Bool := (((inB h.size 1 64 && wordB h.first) && wordB h.refs) && wordB h.shots) && inB h.many 0 4
def hdW (h : Hd) : List Int := [20559, 3, h.size, h.first, h.refs, h.shots, h.many, 0]
/-- The head that the first words tell, be it right or not. -/
def headOf (xs : List Int) : Hd := ⟨xs.getD 2 0, xs.getD 3 0, xs.getD 4 0, xs.getD 5 0, xs.getD 6 0⟩
def hasHead (xs : List Int) : Bool := imgB xs && (decide (xs.length ≠ 0) && (decide (xs.getD 0 0 = 20559) && (decide (xs.getD 1 0 = 3) && (decide (xs.getD 7 0 = 0) && headB (headOf xs)))))
def headIn (xs : List Int) : Hd × Bool := if hasHead xs then (headOf xs, true) else (hd0, false)

theorem hasHead_img {xs : List Int} (h : hasHead xs = true) : imgB xs = true := by simp [hasHead] at h; exact h.1
theorem hasHead_len {xs : List Int} (h : hasHead xs = true) : 0 < xs.length ∧ xs.length ≤ 512 := by
  have := imgB_len (hasHead_img h)
  simp [hasHead] at h
  have h1 := h.2.1
  exact ⟨by cases xs with
    | nil => exact absurd rfl h1
    | cons _ _ => simp, this⟩
theorem hasHead_ok {xs : List Int} (h : hasHead xs = true) : headB (headOf xs) = true := by simp [hasHead] at h; exact h.2.2.2.2.2
theorem headB_all {h : Hd} (hb : headB h = true) : (1 ≤ h.size ∧ h.size ≤ 64) ∧ (0 ≤ h.first ∧ h.first ≤ 65535) ∧ (0 ≤ h.refs ∧ h.refs ≤ 65535) ∧ (0 ≤ h.shots ∧ h.shots ≤ 65535) ∧ (0 ≤ h.many ∧ h.many ≤ 4) := by
  simp only [headB, Bool.and_eq_true, inB_true, wordB] at hb
  exact ⟨hb.1.1.1.1, hb.1.1.1.2, hb.1.1.2, hb.1.2, hb.2⟩

/-- A block of numbers made at once, as a row of the call's own. -/
theorem made_ow (w : World) (cs : Array Value) (xs : List Int) (n lo hi g : Nat) (hcs : cs = (iv xs).toArray) (hl : xs.length = n) (hn : n ≤ 1000) (hlo : lo ≤ w.heap.size) (hhi : w.heap.size < hi) (hg : w.heap.size = g) : Ow (w.alloc (.cells cs 2)) lo hi (some ⟨g, 0, none⟩) n n xs := by
  subst hcs; subst hg
  have h : (w.alloc (.cells (iv xs).toArray 2)).ownsRow lo 2 1 (.slice (some ⟨w.heap.size, 0, none⟩) n n) n (iv xs).toArray.toList :=
    World.ownsRow_lit w (iv xs).toArray n hlo (by simp only [maxLen]; omega) (by simp [iv_length, hl])
  exact ⟨by simpa using h, fun g hg => by simp [Value.ownBlock] at hg; omega⟩

set_option maxHeartbeats 1000000 in
theorem specHdWords_any (h : Hd) (w : World) :
    Calls Try.prog 10 #[hdV h] w (RetS w (hdW h)) := by
  obtain ⟨s, f, r, t, m⟩ := h
  unfold hdV
  go_enter Try.func10, Try.ntmps10
  go_wp2
  go_ret
  refine ⟨w.heap.size + 1, 8, 8, rfl, Nat.le_refl _, ?_, ((Below.refl _ _).alloc (Nat.le_refl _) _).alloc (by simp) _⟩
  exact made_ow _ _ (hdW ⟨s, f, r, t, m⟩) 8 _ _ _ rfl rfl (by omega) (by simp) (by simp) (by simp)

theorem headIn_no {xs : List Int} (h : hasHead xs = false) : headIn xs = (hd0, false) := by simp [headIn, h]
theorem headIn_yes {xs : List Int} (h : hasHead xs = true) : headIn xs = (headOf xs, true) := by simp [headIn, h]
theorem cl0_get (xs : List Int) (j : Nat) (h : j < 8) : (cl xs 0).getD j 0 = xs.getD j 0 := by
  unfold cl; rw [f8_get _ j h]; simp

/-- A Head and a flag. -/
def RetHd (w : World) (r : Hd × Bool) (e : Ending) (w' : World) : Prop := e = .returned (.tuple #[hdV r.1, .bool r.2]) ∧ Below w.heap.size w w'

end Go.Proofs.Ytibokhkohanoaaa
