/- Entries: a target and a flag in a word: plain functions, and that the Go functions of both sides compute them. -/
import Derived.Test.YtpnnbenehajipabGreatWord
namespace Go.Proofs.YtpnnbenehajipabGreat
open Go.RowKit

def targetOf (e : Int) : Int := if wordB e then e % 32768 else -1
def ownIn (e : Int) : Bool := wordB e && decide (32768 ≤ e)
def entryOf (t : Int) (own : Bool) : Int := if inB t 0 32767 then (if own then t + 32768 else t) else -1

theorem targetOf_yes {e : Int} (h : wordB e = true) : targetOf e = e % 32768 := by simp [targetOf, h]
theorem targetOf_no {e : Int} (h : wordB e = false) : targetOf e = -1 := by simp [targetOf, h]
theorem word_bounds {e : Int} (h : wordB e = true) : 0 ≤ e ∧ e ≤ 65535 := inB_true.1 h

/-- Of the program. -/
theorem entTarget_any (e : Int) (w : World) (h : wordB e = true) :
    Calls Tryz.prog 83 #[.int .i64 e] w fun r w' => r = .returned (.int .i64 (e % 32768)) ∧ w = w' := by
  obtain ⟨h0, h1⟩ := word_bounds h
  clear h
  go_enter Tryz.func83, Tryz.ntmps83
  go_wp2
  go_ret
  exact ⟨rfl, rfl⟩

theorem implTarget_any (e : Int) (w : World) :
    Calls Tryz.prog 59 #[.int .i64 e] w fun r w' => r = .returned (.int .i64 (targetOf e)) ∧ w = w' := by
  go_enter Tryz.func59, Tryz.ntmps59
  go_wp2_with fail
  have hc : Calls Tryz.prog 82 #[.int .i64 e, .func (.func 83) #[.int .i64 e] #[], .int .i64 (-1)] w fun r w' => r = .returned (.int .i64 (targetOf e)) ∧ w = w' := by
    cases hb : wordB e
    · have HB := Lib.hid (targetOf_no hb)
      go_enter Tryz.func82, Tryz.ntmps82
      go_wp2_with (go_at_call 93; refine (implWord_any _ _).mono ?_; rintro e w' ⟨rfl, rfl⟩)
      go_ret
      exact ⟨ret_int HB.out.symm, rfl⟩
    · have HB := Lib.hid (targetOf_yes hb)
      go_enter Tryz.func82, Tryz.ntmps82
      go_wp2_with fail
      refine (implWord_any _ _).mono ?_
      rintro e w' ⟨rfl, rfl⟩
      go_wp2_with fail
      refine (entTarget_any _ _ hb).mono ?_
      rintro e w' ⟨rfl, rfl⟩
      go_wp2
      go_ret
      exact ⟨ret_int HB.out.symm, rfl⟩
  refine hc.mono ?_
  rintro r w' ⟨rfl, rfl⟩
  go_wp2
  go_ret
  exact ⟨rfl, rfl⟩

/-- Of the model. -/
theorem specTarget_any (e : Int) (w : World) :
    Calls Tryz.prog 78 #[.int .i64 e] w fun r w' => r = .returned (.int .i64 (targetOf e)) ∧ w = w' := by
  cases hb : wordB e
  · have HB := Lib.hid (targetOf_no hb)
    go_enter Tryz.func78, Tryz.ntmps78
    go_wp2_with (go_at_call 50; refine (word_any _ _).mono ?_; rintro e w' ⟨rfl, rfl⟩)
    go_ret
    exact ⟨ret_int HB.out.symm, rfl⟩
  · have HB := Lib.hid (targetOf_yes hb)
    obtain ⟨h0, h1⟩ := word_bounds hb
    go_enter Tryz.func78, Tryz.ntmps78
    go_wp2_with (go_at_call 50; refine (word_any _ _).mono ?_; rintro e w' ⟨rfl, rfl⟩)
    go_ret
    exact ⟨ret_int HB.out.symm, rfl⟩

theorem specOwn_any (e : Int) (w : World) :
    Calls Tryz.prog 90 #[.int .i64 e] w fun r w' => r = .returned (.bool (ownIn e)) ∧ w = w' := by
  cases hb : wordB e
  · go_enter Tryz.func90, Tryz.ntmps90
    go_wp2_with (go_at_call 50; refine (word_any _ _).mono ?_; rintro e w' ⟨rfl, rfl⟩)
    go_ret
    exact ⟨ret_bool (by simp [ownIn, hb]), rfl⟩
  · go_enter Tryz.func90, Tryz.ntmps90
    go_wp2_with (go_at_call 50; refine (word_any _ _).mono ?_; rintro e w' ⟨rfl, rfl⟩)
    go_ret
    exact ⟨ret_bool (by simp [ownIn, hb]), rfl⟩

theorem specEntry_any (t : Int) (o : Bool) (w : World) :
    Calls Tryz.prog 112 #[.int .i64 t, .bool o] w fun r w' => r = .returned (.int .i64 (entryOf t o)) ∧ w = w' := by
  cases hb : inB t 0 32767
  · have HB := Lib.hid (show entryOf t o = -1 by simp [entryOf, hb])
    go_enter Tryz.func112, Tryz.ntmps112
    go_wp2_with (go_at_call 51; refine (in_any _ _ _ _).mono ?_; rintro e w' ⟨rfl, rfl⟩)
    go_ret
    exact ⟨ret_int HB.out.symm, rfl⟩
  · have HB := Lib.hid (show entryOf t o = if o then t + 32768 else t by simp [entryOf, hb])
    obtain ⟨h0, h1⟩ := inB_true.1 hb
    cases o
    · go_enter Tryz.func112, Tryz.ntmps112
      go_wp2_with (go_at_call 51; refine (in_any _ _ _ _).mono ?_; rintro e w' ⟨rfl, rfl⟩)
      go_ret
      exact ⟨ret_int (by rw [HB.out]; rfl), rfl⟩
    · go_enter Tryz.func112, Tryz.ntmps112
      go_wp2_with (go_at_call 51; refine (in_any _ _ _ _).mono ?_; rintro e w' ⟨rfl, rfl⟩)
      go_ret
      exact ⟨ret_int (by rw [HB.out]; rfl), rfl⟩
end Go.Proofs.YtpnnbenehajipabGreat
