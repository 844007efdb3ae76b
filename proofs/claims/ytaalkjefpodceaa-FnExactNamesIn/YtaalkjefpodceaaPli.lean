/- Places (chapter 5): the program's side. -/
import Derived.Test.YtaalkjefpodceaaLawPl
import Derived.Test.YtaalkjefpodceaaTbi
namespace Go.Proofs.Ytaalkjefpodceaa
open Go.RowKit

/-- What stands in the slot s of the table t: 0 where there is none. -/
def slotL (xs : List Int) (t s : Int) : Int := if inB s 0 (((tableL xs t).length : Int) - 1) then (tableL xs t).getD s.toNat 0 else 0

theorem slotInFirst_any (p : Int) (w : World) (h0 : 0 ≤ p) (h1 : p ≤ 64) : Calls Try.prog 36 #[.int .i64 p] w fun e w' => e = .returned (.int .i64 (p / 8)) ∧ w = w' := by
  go_enter Try.func36, Try.ntmps36
  go_wp2
  go_ret
  exact ⟨rfl, rfl⟩

theorem slotInSecond_any (p : Int) (w : World) (h0 : 0 ≤ p) (h1 : p ≤ 64) : Calls Try.prog 37 #[.int .i64 p] w fun e w' => e = .returned (.int .i64 (p % 8)) ∧ w = w' := by
  go_enter Try.func37, Try.ntmps37
  go_wp2
  go_ret
  exact ⟨rfl, rfl⟩

theorem slotL_second {xs : List Int} {t g : Int} : slotL xs t (g % 8) = (tableL xs t).getD (g % 8).toNat 0 := by
  unfold slotL
  rcases tableL_length xs t with h | h
  · rw [if_neg (by rw [inB_true]; omega), List.eq_nil_of_length_eq_zero h]; rfl
  · rw [if_pos (by rw [inB_true]; omega)]

end Go.Proofs.Ytaalkjefpodceaa