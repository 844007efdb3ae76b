/- The exact laws of chapter 2, walked: each returns true and writes nothing that was there. -/
import Derived.Test.YtckcpijpgogeeaaEnt
namespace Go.Proofs.Ytckcpijpgogeeaa
open Go.RowKit

theorem law_TargetOf (e : Int) (w : World) :
    Calls Try.prog 4 #[.int .i64 e] w fun r w' => r = .returned (.bool true) ∧ w = w' := by
  go_enter Try.func4, Try.ntmps4
  go_wp2_with fail
  refine (specTarget_any _ _).mono ?_
  rintro r w' ⟨rfl, rfl⟩
  go_wp2_with fail
  refine (implTarget_any _ _).mono ?_
  rintro r w' ⟨rfl, rfl⟩
  have hbb : (targetOf e != targetOf e) = false := by simp
  go_wp2_with fail
  go_ret
  exact ⟨rfl, rfl⟩

theorem law_OwnIn (e : Int) (w : World) :
    Calls Try.prog 5 #[.int .i64 e] w fun r w' => r = .returned (.bool true) ∧ w = w' := by
  go_enter Try.func5, Try.ntmps5
  go_wp2_with fail
  refine (specOwn_any _ _).mono ?_
  rintro r w' ⟨rfl, rfl⟩
  go_wp2_with fail
  refine (implOwn_any _ _).mono ?_
  rintro r w' ⟨rfl, rfl⟩
  have hbb : (ownIn e != ownIn e) = false := by simp
  go_wp2_with fail
  go_ret
  exact ⟨rfl, rfl⟩

theorem law_EntryOf (t : Int) (o : Bool) (w : World) :
    Calls Try.prog 6 #[.int .i64 t, .bool o] w fun r w' => r = .returned (.bool true) ∧ w = w' := by
  go_enter Try.func6, Try.ntmps6
  go_wp2_with fail
  refine (specEntry_any _ _ _).mono ?_
  rintro r w' ⟨rfl, rfl⟩
  go_wp2_with fail
  refine (implEntry_any _ _ _).mono ?_
  rintro r w' ⟨rfl, rfl⟩
  have hbb : (entryOf t o != entryOf t o) = false := by simp
  go_wp2_with fail
  go_ret
  exact ⟨rfl, rfl⟩
end Go.Proofs.Ytckcpijpgogeeaa
