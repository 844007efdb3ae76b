/- The exact laws of chapter 6, walked, given what the program's own function answers. -/
import Derived.Test.YtimbfilbojejiaaCmu
import Derived.Test.YtimbfilbojejiaaLawClusterAt
namespace Go.Proofs.Ytimbfilbojejiaa
open Go.RowKit

/-- The answer of ClaimsIn and LooseIn, of whoever it is. -/
def RetCms (w : World) (l : List Cm) : Ending → World → Prop := RetR 45 6 w l.length (l.flatMap cmV)

theorem RetCm.toR {w : World} {l : List Cm} {e : Ending} {w' : World} (h : RetCm w l e w') : RetCms w l e w' := by
  obtain ⟨g, c, he, ho, hb⟩ := h
  exact ⟨_, c, he, ho.toR, hb⟩

def ClaimsC : Prop := ∀ (A : Option Addr) (n c : Nat) (xs : List Int) (w : World), Rd w w.heap.size A n xs → n ≤ 2097152 → n ≤ c → Calls Try.prog 63 #[.slice A n c] w (RetCms w (claimsL xs))

end Go.Proofs.Ytimbfilbojejiaa
