/- Entries: a target and a flag in a word: plain functions, and that the Go functions of both sides compute them. -/
import Derived.Test.YtimbfilbojejiaaWord
namespace Go.Proofs.Ytimbfilbojejiaa
open Go.RowKit

def targetOf (e : Int) : Int := if wordB e then e % 32768 else -1
def ownIn (e : Int) : Bool := wordB e && decide (32768 ≤ e)
def entryOf (t : Int) (own : Bool) : Int := if inB t 0 32767 then (if own then t + 32768 else t) else -1

theorem targetOf_yes {e : Int} (h : wordB e = true) : targetOf e = e % 32768 := by simp [targetOf, h]
theorem targetOf_no {e : Int} (h : wordB e = false) : targetOf e = -1 := by simp [targetOf, h]
theorem word_bounds {e : Int} (h : wordB e = true) : 0 ≤ e ∧ e ≤ 65535 := inB_true.1 h

/-- Of the program. -/
theorem entTarget_any (e : Int) (w : World) (h : wordB e = true) :
    Calls Try.prog 40 #[.int .i64 e] w fun r w' => r = .returned (.int .i64 (e % 32768)) ∧ w = w' := by
  obtain ⟨h0, h1⟩ := word_bounds h
  clear h
  go_enter Try.func40, Try.ntmps40
  go_wp2
  go_ret
  exact ⟨rfl, rfl⟩

theorem entOwn_any (e : Int) (w : World) (h : wordB e = true) :
    Calls Try.prog 44 #[.int .i64 e] w fun r w' => r = .returned (.bool (decide (32768 ≤ e))) ∧ w = w' := by
  obtain ⟨h0, h1⟩ := word_bounds h
  clear h
  go_enter Try.func44, Try.ntmps44
  go_wp2
  go_ret
  exact ⟨rfl, rfl⟩

theorem implTarget_any (e : Int) (w : World) :
    Calls Try.prog 73 #[.int .i64 e] w fun r w' => r = .returned (.int .i64 (targetOf e)) ∧ w = w' := by
  go_enter Try.func73, Try.ntmps73
  go_wp2_with fail
  have hc : Calls Try.prog 77 #[.int .i64 e, .func (.func 40) #[.int .i64 e] #[], .int .i64 (-1)] w fun r w' => r = .returned (.int .i64 (targetOf e)) ∧ w = w' := by
    cases hb : wordB e
    · have HB := Lib.hid (targetOf_no hb)
      go_enter Try.func77, Try.ntmps77
      go_wp2_with (go_at_call 70; refine (implWord_any _ _).mono ?_; rintro e w' ⟨rfl, rfl⟩)
      go_ret
      exact ⟨ret_int HB.out.symm, rfl⟩
    · have HB := Lib.hid (targetOf_yes hb)
      go_enter Try.func77, Try.ntmps77
      go_wp2_with fail
      refine (implWord_any _ _).mono ?_
      rintro e w' ⟨rfl, rfl⟩
      go_wp2_with fail
      refine (entTarget_any _ _ hb).mono ?_
      rintro e w' ⟨rfl, rfl⟩
      go_wp2
      go_ret
      exact ⟨ret_int HB.out.symm, rfl⟩
  refine hc.mono ?_
  rintro r w' ⟨rfl, rfl⟩
  go_wp2
  go_ret
  exact ⟨rfl, rfl⟩

theorem implEntry_any (t : Int) (o : Bool) (w : World) :
    Calls Try.prog 32 #[.int .i64 t, .bool o] w fun r w' => r = .returned (.int .i64 (entryOf t o)) ∧ w = w' := by
  by_cases h1 : t < 0
  · have HB := Lib.hid (show entryOf t o = -1 by unfold entryOf; rw [if_neg (by rw [inB_true]; omega)])
    go_enter Try.func32, Try.ntmps32
    go_wp2
    go_ret
    exact ⟨ret_int HB.out.symm, rfl⟩
  · by_cases h2 : 32768 ≤ t
    · have HB := Lib.hid (show entryOf t o = -1 by unfold entryOf; rw [if_neg (by rw [inB_true]; omega)])
      have h1' : decide (t < 0) = false := by simpa using h1
      go_enter Try.func32, Try.ntmps32
      go_wp2
      go_ret
      exact ⟨ret_int HB.out.symm, rfl⟩
    · have HB := Lib.hid (show entryOf t o = if o then t + 32768 else t by unfold entryOf; rw [if_pos (by rw [inB_true]; omega)])
      have h1' : decide (t < 0) = false := by simpa using h1
      have h2' : decide (32768 ≤ t) = false := by simpa using h2
      have b0 : 0 ≤ t := by omega
      have b1 : t ≤ 32767 := by omega
      cases o
      · go_enter Try.func32, Try.ntmps32
        go_wp2
        go_ret
        exact ⟨ret_int (by rw [HB.out]; rfl), rfl⟩
      · go_enter Try.func32, Try.ntmps32
        go_wp2
        go_ret
        exact ⟨ret_int (by rw [HB.out]; rfl), rfl⟩

/-- Of the model. -/
theorem specTarget_any (e : Int) (w : World) :
    Calls Try.prog 20 #[.int .i64 e] w fun r w' => r = .returned (.int .i64 (targetOf e)) ∧ w = w' := by
  cases hb : wordB e
  · have HB := Lib.hid (targetOf_no hb)
    go_enter Try.func20, Try.ntmps20
    go_wp2_with (go_at_call 37; refine (word_any _ _).mono ?_; rintro e w' ⟨rfl, rfl⟩)
    go_ret
    exact ⟨ret_int HB.out.symm, rfl⟩
  · have HB := Lib.hid (targetOf_yes hb)
    obtain ⟨h0, h1⟩ := word_bounds hb
    go_enter Try.func20, Try.ntmps20
    go_wp2_with (go_at_call 37; refine (word_any _ _).mono ?_; rintro e w' ⟨rfl, rfl⟩)
    go_ret
    exact ⟨ret_int HB.out.symm, rfl⟩

theorem specOwn_any (e : Int) (w : World) :
    Calls Try.prog 21 #[.int .i64 e] w fun r w' => r = .returned (.bool (ownIn e)) ∧ w = w' := by
  cases hb : wordB e
  · go_enter Try.func21, Try.ntmps21
    go_wp2_with (go_at_call 37; refine (word_any _ _).mono ?_; rintro e w' ⟨rfl, rfl⟩)
    go_ret
    exact ⟨ret_bool (by simp [ownIn, hb]), rfl⟩
  · go_enter Try.func21, Try.ntmps21
    go_wp2_with (go_at_call 37; refine (word_any _ _).mono ?_; rintro e w' ⟨rfl, rfl⟩)
    go_ret
    exact ⟨ret_bool (by simp [ownIn, hb]), rfl⟩

theorem specEntry_any (t : Int) (o : Bool) (w : World) :
    Calls Try.prog 28 #[.int .i64 t, .bool o] w fun r w' => r = .returned (.int .i64 (entryOf t o)) ∧ w = w' := by
  cases hb : inB t 0 32767
  · have HB := Lib.hid (show entryOf t o = -1 by simp [entryOf, hb])
    go_enter Try.func28, Try.ntmps28
    go_wp2_with (go_at_call 17; refine (in_any _ _ _ _).mono ?_; rintro e w' ⟨rfl, rfl⟩)
    go_ret
    exact ⟨ret_int HB.out.symm, rfl⟩
  · have HB := Lib.hid (show entryOf t o = if o then t + 32768 else t by simp [entryOf, hb])
    obtain ⟨h0, h1⟩ := inB_true.1 hb
    cases o
    · go_enter Try.func28, Try.ntmps28
      go_wp2_with (go_at_call 17; refine (in_any _ _ _ _).mono ?_; rintro e w' ⟨rfl, rfl⟩)
      go_ret
      exact ⟨ret_int (by rw [HB.out]; rfl), rfl⟩
    · go_enter Try.func28, Try.ntmps28
      go_wp2_with (go_at_call 17; refine (in_any _ _ _ _).mono ?_; rintro e w' ⟨rfl, rfl⟩)
      go_ret
      exact ⟨ret_int (by rw [HB.out]; rfl), rfl⟩
end Go.Proofs.Ytimbfilbojejiaa
