/- Entries: a target and a flag in a word: plain functions, and that the Go functions of both sides compute them. -/
import Derived.Test.YtmadhfloblapeaaWord
namespace Go.Proofs.Ytmadhfloblapeaa
open Go.RowKit

def targetOf (e : Int) : Int := if wordB e then e % 32768 else -1
def ownIn (e : Int) : Bool := wordB e && decide (32768 ≤ e)
def entryOf (t : Int) (own : Bool) : Int := if inB t 0 32767 then (if own then t + 32768 else t) else -1

theorem targetOf_yes {e : Int} (h : wordB e = true) : targetOf e = e % 32768 := by simp [targetOf, h]
theorem targetOf_no {e : Int} (h : wordB e = false) : targetOf e = -1 := by simp [targetOf, h]
theorem word_bounds {e : Int} (h : wordB e = true) : 0 ≤ e ∧ e ≤ 65535 := inB_true.1 h

/-- Of the model. -/
theorem specTarget_any (e : Int) (w : World) :
    Calls Try.prog 62 #[.int .i64 e] w fun r w' => r = .returned (.int .i64 (targetOf e)) ∧ w = w' := by
  cases hb : wordB e
  · have HB := Lib.hid (targetOf_no hb)
    go_enter Try.func62, Try.ntmps62
    go_wp2_with (go_at_call 33; refine (word_any _ _).mono ?_; rintro e w' ⟨rfl, rfl⟩)
    go_ret
    exact ⟨ret_int HB.out.symm, rfl⟩
  · have HB := Lib.hid (targetOf_yes hb)
    obtain ⟨h0, h1⟩ := word_bounds hb
    go_enter Try.func62, Try.ntmps62
    go_wp2_with (go_at_call 33; refine (word_any _ _).mono ?_; rintro e w' ⟨rfl, rfl⟩)
    go_ret
    exact ⟨ret_int HB.out.symm, rfl⟩

theorem specOwn_any (e : Int) (w : World) :
    Calls Try.prog 60 #[.int .i64 e] w fun r w' => r = .returned (.bool (ownIn e)) ∧ w = w' := by
  cases hb : wordB e
  · go_enter Try.func60, Try.ntmps60
    go_wp2_with (go_at_call 33; refine (word_any _ _).mono ?_; rintro e w' ⟨rfl, rfl⟩)
    go_ret
    exact ⟨ret_bool (by simp [ownIn, hb]), rfl⟩
  · go_enter Try.func60, Try.ntmps60
    go_wp2_with (go_at_call 33; refine (word_any _ _).mono ?_; rintro e w' ⟨rfl, rfl⟩)
    go_ret
    exact ⟨ret_bool (by simp [ownIn, hb]), rfl⟩

theorem specEntry_any (t : Int) (o : Bool) (w : World) :
    Calls Try.prog 90 #[.int .i64 t, .bool o] w fun r w' => r = .returned (.int .i64 (entryOf t o)) ∧ w = w' := by
  cases hb : inB t 0 32767
  · have HB := Lib.hid (show entryOf t o = -1 by simp [entryOf, hb])
    go_enter Try.func90, Try.ntmps90
    go_wp2_with (go_at_call 32; refine (in_any _ _ _ _).mono ?_; rintro e w' ⟨rfl, rfl⟩)
    go_ret
    exact ⟨ret_int HB.out.symm, rfl⟩
  · have HB := Lib.hid (show entryOf t o = if o then t + 32768 else t by simp [entryOf, hb])
    obtain ⟨h0, h1⟩ := inB_true.1 hb
    cases o
    · go_enter Try.func90, Try.ntmps90
      go_wp2_with (go_at_call 32; refine (in_any _ _ _ _).mono ?_; rintro e w' ⟨rfl, rfl⟩)
      go_ret
      exact ⟨ret_int (by rw [HB.out]; rfl), rfl⟩
    · go_enter Try.func90, Try.ntmps90
      go_wp2_with (go_at_call 32; refine (in_any _ _ _ _).mono ?_; rintro e w' ⟨rfl, rfl⟩)
      go_ret
      exact ⟨ret_int (by rw [HB.out]; rfl), rfl⟩
end Go.Proofs.Ytmadhfloblapeaa
