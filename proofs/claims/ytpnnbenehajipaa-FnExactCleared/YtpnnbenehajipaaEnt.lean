/- Entries: a target and a flag in a word: plain functions, and that the Go functions of both sides compute them. -/
import Derived.Test.YtpnnbenehajipaaWord
namespace Go.Proofs.Ytpnnbenehajipaa
open Go.RowKit

def targetOf (e : Int) : Int := if wordB e then e % 32768 else -1
def ownIn (e : Int) : Bool := wordB e && decide (32768 ≤ e)
def entryOf (t : Int) (own : Bool) : Int := if inB t 0 32767 then (if own then t + 32768 else t) else -1

theorem targetOf_yes {e : Int} (h : wordB e = true) : targetOf e = e % 32768 := by simp [targetOf, h]
theorem targetOf_no {e : Int} (h : wordB e = false) : targetOf e = -1 := by simp [targetOf, h]
theorem word_bounds {e : Int} (h : wordB e = true) : 0 ≤ e ∧ e ≤ 65535 := inB_true.1 h

/-- Of the program. -/
theorem entTarget_any (e : Int) (w : World) (h : wordB e = true) :
    Calls Try.prog 68 #[.int .i64 e] w fun r w' => r = .returned (.int .i64 (e % 32768)) ∧ w = w' := by
  obtain ⟨h0, h1⟩ := word_bounds h
  clear h
  go_enter Try.func68, Try.ntmps68
  go_wp2
  go_ret
  exact ⟨rfl, rfl⟩

theorem implTarget_any (e : Int) (w : World) :
    Calls Try.prog 62 #[.int .i64 e] w fun r w' => r = .returned (.int .i64 (targetOf e)) ∧ w = w' := by
  go_enter Try.func62, Try.ntmps62
  go_wp2_with fail
  have hc : Calls Try.prog 67 #[.int .i64 e, .func (.func 68) #[.int .i64 e] #[], .int .i64 (-1)] w fun r w' => r = .returned (.int .i64 (targetOf e)) ∧ w = w' := by
    cases hb : wordB e
    · have HB := Lib.hid (targetOf_no hb)
      go_enter Try.func67, Try.ntmps67
      go_wp2_with (go_at_call 57; refine (implWord_any _ _).mono ?_; rintro e w' ⟨rfl, rfl⟩)
      go_ret
      exact ⟨ret_int HB.out.symm, rfl⟩
    · have HB := Lib.hid (targetOf_yes hb)
      go_enter Try.func67, Try.ntmps67
      go_wp2_with fail
      refine (implWord_any _ _).mono ?_
      rintro e w' ⟨rfl, rfl⟩
      go_wp2_with fail
      refine (entTarget_any _ _ hb).mono ?_
      rintro e w' ⟨rfl, rfl⟩
      go_wp2
      go_ret
      exact ⟨ret_int HB.out.symm, rfl⟩
  refine hc.mono ?_
  rintro r w' ⟨rfl, rfl⟩
  go_wp2
  go_ret
  exact ⟨rfl, rfl⟩

/-- Of the model. -/
theorem specTarget_any (e : Int) (w : World) :
    Calls Try.prog 56 #[.int .i64 e] w fun r w' => r = .returned (.int .i64 (targetOf e)) ∧ w = w' := by
  cases hb : wordB e
  · have HB := Lib.hid (targetOf_no hb)
    go_enter Try.func56, Try.ntmps56
    go_wp2_with (go_at_call 36; refine (word_any _ _).mono ?_; rintro e w' ⟨rfl, rfl⟩)
    go_ret
    exact ⟨ret_int HB.out.symm, rfl⟩
  · have HB := Lib.hid (targetOf_yes hb)
    obtain ⟨h0, h1⟩ := word_bounds hb
    go_enter Try.func56, Try.ntmps56
    go_wp2_with (go_at_call 36; refine (word_any _ _).mono ?_; rintro e w' ⟨rfl, rfl⟩)
    go_ret
    exact ⟨ret_int HB.out.symm, rfl⟩

end Go.Proofs.Ytpnnbenehajipaa