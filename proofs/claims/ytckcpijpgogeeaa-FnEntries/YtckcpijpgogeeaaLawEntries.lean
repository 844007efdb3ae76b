/- The law FnEntries, walked: whatever the bytes are, it returns true and writes nothing that was there. -/
import Derived.Test.YtckcpijpgogeeaaEnt
import Derived.Test.YtckcpijpgogeeaaCur
namespace Go.Proofs.Ytckcpijpgogeeaa
open Go.RowKit

theorem cur_below {w w' : World} {g B : Nat} (hc : Cur w g B) (hB : B ≤ w.heap.size) (hg : w.grownBy w' (some g)) : Below B w w' := by
  obtain ⟨_, _, _, _, _, _, h⟩ := hc
  exact below_grown hg hB (fun k e => by cases e; exact h.lo)

set_option maxHeartbeats 1000000 in
theorem drawEntry_any (g B : Nat) (w : World) (hc : Cur w g B) :
    Calls Try.prog 21 #[.pointer (some ⟨g, 0, none⟩)] w (DrawInt g B w (fun _ => True)) := by
  go_enter Try.func21, Try.ntmps21
  go_wp2_with fail
  refine (once_any g B 3 w hc).mono ?_
  rintro e w1 ⟨b1, rfl, hc1, hg1⟩
  cases b1
  · go_wp2_with fail
    refine (below_any g B 64 w1 hc1).mono ?_
    rintro e w2 ⟨x, hx, rfl, hc2, hg2⟩
    obtain ⟨x0, x1⟩ := hx.lt (by omega)
    go_wp2_with fail
    refine (below_any g B 2 w2 hc2).mono ?_
    rintro e w3 ⟨y, hy, rfl, hc3, hg3⟩
    obtain ⟨y0, y1⟩ := hy.lt (by omega)
    go_wp2_with fail
    go_ret
    exact ⟨_, trivial, rfl, hc3, grown_trans (grown_trans hg1 hg2) hg3⟩
  · go_wp2_with fail
    refine (num_any g B 65535 w1 hc1 (by omega) (by omega)).mono ?_
    rintro e w2 ⟨x, _, rfl, hc2, hg2⟩
    go_wp2_with fail
    go_ret
    exact ⟨_, trivial, rfl, hc2, grown_trans hg1 hg2⟩

/-- It answers some number; nothing that was there has turned. -/
def SomeInt (w : World) (e : Ending) (w' : World) : Prop := ∃ x : Int, e = .returned (.int .i64 x) ∧ Below w.heap.size w w'
def SomeIntBool (w : World) (e : Ending) (w' : World) : Prop := ∃ (x : Int) (b : Bool), e = .returned (.tuple #[.int .i64 x, .bool b]) ∧ Below w.heap.size w w'

set_option maxHeartbeats 1000000 in
theorem drawTarget_any (A : Option Addr) (n c : Nat) (xs : List Int) (w : World) (hr : Rd8 w w.heap.size A n xs) (hn : n ≤ 4096) :
    Calls Try.prog 10 #[.slice A n c] w (SomeInt w) := by
  go_enter Try.func10, Try.ntmps10
  go_wp2_with fail
  refine (new_any A n c xs w hr hn).mono ?_
  rintro e w1 ⟨g, rfl, hc1, hb1⟩
  go_wp2_with fail
  refine (drawEntry_any g _ w1 hc1).mono ?_
  rintro e w2 ⟨x, _, rfl, hc2, hg2⟩
  go_wp2_with fail
  go_ret
  exact ⟨_, rfl, hb1.trans (cur_below hc1 hb1.size hg2)⟩

set_option maxHeartbeats 1000000 in
theorem drawOwn_any (A : Option Addr) (n c : Nat) (xs : List Int) (w : World) (hr : Rd8 w w.heap.size A n xs) (hn : n ≤ 4096) :
    Calls Try.prog 11 #[.slice A n c] w (SomeInt w) := by
  go_enter Try.func11, Try.ntmps11
  go_wp2_with fail
  refine (new_any A n c xs w hr hn).mono ?_
  rintro e w1 ⟨g, rfl, hc1, hb1⟩
  go_wp2_with fail
  refine (drawEntry_any g _ w1 hc1).mono ?_
  rintro e w2 ⟨x, _, rfl, hc2, hg2⟩
  go_wp2_with fail
  go_ret
  exact ⟨_, rfl, hb1.trans (cur_below hc1 hb1.size hg2)⟩

set_option maxHeartbeats 1000000 in
theorem drawEntryOf_any (A : Option Addr) (n c : Nat) (xs : List Int) (w : World) (hr : Rd8 w w.heap.size A n xs) (hn : n ≤ 4096) :
    Calls Try.prog 8 #[.slice A n c] w (SomeIntBool w) := by
  go_enter Try.func8, Try.ntmps8
  go_wp2_with fail
  refine (new_any A n c xs w hr hn).mono ?_
  rintro e w1 ⟨g, rfl, hc1, hb1⟩
  go_wp2_with fail
  refine (once_any g _ 2 w1 hc1).mono ?_
  rintro e w2 ⟨o, rfl, hc2, hg2⟩
  go_wp2_with fail
  refine (once_any g _ 3 w2 hc2).mono ?_
  rintro e w3 ⟨b3, rfl, hc3, hg3⟩
  cases b3
  · go_wp2_with fail
    refine (below_any g _ 64 w3 hc3).mono ?_
    rintro e w4 ⟨x, hx, rfl, hc4, hg4⟩
    go_wp2_with fail
    go_ret2
    exact ⟨_, _, rfl, hb1.trans (cur_below hc1 hb1.size (grown_trans (grown_trans hg2 hg3) hg4))⟩
  · go_wp2_with fail
    refine (num_any g _ 32767 w3 hc3 (by omega) (by omega)).mono ?_
    rintro e w4 ⟨x, hx, rfl, hc4, hg4⟩
    go_wp2_with fail
    go_ret2
    exact ⟨_, _, rfl, hb1.trans (cur_below hc1 hb1.size (grown_trans (grown_trans hg2 hg3) hg4))⟩

theorem big_any (A : Option Addr) (n c : Nat) (w : World) :
    Calls Try.prog 7 #[.slice A n c] w fun e w' => e = .returned (.bool (decide ((4096 : Int) < (n : Int)))) ∧ w = w' := by
  go_enter Try.func7, Try.ntmps7
  go_wp2_with fail
  go_ret
  exact ⟨rfl, rfl⟩

theorem entry_back (t : Int) (o : Bool) (h : 0 ≤ entryOf t o) : targetOf (entryOf t o) = t ∧ ownIn (entryOf t o) = o := by
  unfold entryOf at *
  cases hb : inB t 0 32767
  · rw [hb] at h; simp at h
  · obtain ⟨h0, h1⟩ := inB_true.1 hb
    cases o
    · simp only [if_true, if_false, Bool.false_eq_true]
      refine ⟨?_, ?_⟩
      · rw [targetOf_yes (inB_true.2 (by omega))]; omega
      · unfold ownIn; rw [show decide (32768 ≤ t) = false by simp; omega, Bool.and_false]
    · simp only [if_true]
      have hw : wordB (t + 32768) = true := inB_true.2 (by omega)
      refine ⟨?_, ?_⟩
      · rw [targetOf_yes hw]; omega
      · unfold ownIn; rw [hw, Bool.true_and]; simp; omega

set_option maxHeartbeats 1000000 in
theorem law_Entries (A : Option Addr) (n c : Nat) (xs : List Int) (w : World) (hr : Rd8 w w.heap.size A n xs) :
    Calls Try.prog 3 #[.slice A n c] w fun e w' => e = .returned (.bool true) ∧ Below w.heap.size w w' := by
  by_cases hbig : 4096 < n
  · have hb : decide ((4096 : Int) < (n : Int)) = true := by simp; omega
    go_enter Try.func3, Try.ntmps3
    go_wp2_with fail
    refine (big_any _ _ _ _).mono ?_
    rintro e w' ⟨rfl, rfl⟩
    rw [hb]
    go_wp2_with fail
    go_ret
    exact ⟨rfl, Below.refl _ _⟩
  · have hb : decide ((4096 : Int) < (n : Int)) = false := by simp; omega
    go_enter Try.func3, Try.ntmps3
    go_wp2_with fail
    refine (big_any _ _ _ _).mono ?_
    rintro e w' ⟨rfl, rfl⟩
    rw [hb]
    go_wp2_with fail
    refine (drawEntryOf_any A n c xs w hr (by omega)).mono ?_
    rintro e w1 ⟨t, o, rfl, hb1⟩
    go_wp2_with fail
    refine (implEntry_any t o w1).mono ?_
    rintro e w' ⟨rfl, rfl⟩
    have HB := Lib.hid (entry_back t o)
    generalize hq : entryOf t o = q at *
    have HQ := Lib.hid hq
    clear hq
    go_wp2_with fail
    refine (drawTarget_any A n c xs w1 ((hr.below hb1).more hb1.size) (by omega)).mono ?_
    rintro e w2 ⟨a, rfl, hb2⟩
    have hb02 := below_more hb1 hb2 hb1.size
    go_wp2_with fail
    refine (drawOwn_any A n c xs w2 ((hr.below hb02).more hb02.size) (by omega)).mono ?_
    rintro e w3 ⟨b, rfl, hb3⟩
    have hb03 := below_more hb02 hb3 hb02.size
    go_wp2_with fail
    refine (specEntry_any t o w3).mono ?_
    rintro e w' ⟨rfl, rfl⟩
    rw [HQ.out]
    have q1 : (q != q) = false := by simp
    go_wp2_with fail
    refine (implTarget_any a w3).mono ?_
    rintro e w' ⟨rfl, rfl⟩
    go_wp2_with fail
    refine (specTarget_any a w3).mono ?_
    rintro e w' ⟨rfl, rfl⟩
    have q2 : (targetOf a != targetOf a) = false := by simp
    go_wp2_with fail
    refine (implOwn_any b w3).mono ?_
    rintro e w' ⟨rfl, rfl⟩
    go_wp2_with fail
    refine (specOwn_any b w3).mono ?_
    rintro e w' ⟨rfl, rfl⟩
    have q3 : (ownIn b != ownIn b) = false := by simp
    by_cases hneg : q < 0
    · go_wp2_with fail
      go_ret
      exact ⟨rfl, hb03⟩
    · have hneg' : decide (q < 0) = false := by simpa using hneg
      have HH := Lib.hid (HB.out (by omega))
      clear HB
      go_wp2_with fail
      refine (implTarget_any q w3).mono ?_
      rintro e w' ⟨rfl, rfl⟩
      rw [HH.out.1]
      have q4 : (t == t) = true := by simp
      go_wp2_with fail
      refine (implOwn_any q w3).mono ?_
      rintro e w' ⟨rfl, rfl⟩
      rw [HH.out.2]
      have q5 : (o == o) = true := by simp
      go_wp2_with fail
      go_ret
      exact ⟨rfl, hb03⟩
end Go.Proofs.Ytckcpijpgogeeaa
