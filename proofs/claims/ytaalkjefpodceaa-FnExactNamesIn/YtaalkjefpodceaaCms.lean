/- Claims, the model's side: that the Go functions compute them. -/
import Derived.Test.YtaalkjefpodceaaCm
import Derived.StillTailTactics
namespace Go.Proofs.Ytaalkjefpodceaa
open Go.RowKit

/-- It answers yes or no; nothing that was there has turned. -/
def RetB (w : World) (x : Bool) (e : Ending) (w' : World) : Prop := e = .returned (.bool x) ∧ Below w.heap.size w w'
theorem RetB.mk {w w' : World} {x y : Bool} (h : y = x) (hb : Below w.heap.size w w') : RetB w x (.returned (.bool y)) w' := by subst h; exact ⟨rfl, hb⟩

end Go.Proofs.Ytaalkjefpodceaa
