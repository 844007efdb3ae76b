/- The two Draw functions of chapter 5. -/
import Derived.Test.YtaalkjefpodceabG6
namespace Go.Proofs.Ytaalkjefpodceab
open Go.RowKit

/-- A row and two numbers. -/
def SomeRowTwo (w : World) (P : Int → Prop) (e : Ending) (w' : World) : Prop :=
  ∃ (A : Option Addr) (n c : Nat) (ys : List Int) (x y : Int), P y ∧ (n ≤ 600 ∧ n ≤ c) ∧ e = .returned (.tuple #[.slice A n c, .int .i64 x, .int .i64 y]) ∧ Rd w' w'.heap.size A n ys ∧ Below w.heap.size w w'

end Go.Proofs.Ytaalkjefpodceab