/- The Draw function of Blank. -/
import Derived.Test.YtibokhkohanoaabDoorG6
namespace Go.Proofs.YtibokhkohanoaabDoor
open Go.RowKit

/-- It answers a number; nothing that was there has turned. -/
def SomeNum (w : World) (e : Ending) (w' : World) : Prop := ∃ x : Int, e = .returned (.int .i64 x) ∧ Below w.heap.size w w'

theorem drawBlank_any (A : Option Addr) (n c : Nat) (xs : List Int) (w : World) (hr : Rd8 w w.heap.size A n xs) (hn : n ≤ 4096) :
    Calls Tryd.prog 5 #[.slice A n c] w (SomeNum w) := by
  go_enter Tryd.func5, Tryd.ntmps5
  go_wp2_with fail
  refine (new_any A n c xs w hr hn).mono ?_
  rintro e w1 ⟨g, rfl, hc1, hb1⟩
  go_wp2_with fail
  refine (num_any g _ 64 w1 hc1 (by omega) (by omega)).mono ?_
  rintro e w2 ⟨x, _, rfl, hc2, hg2⟩
  go_wp2_with fail
  go_ret
  exact ⟨x, rfl, hb1.trans (below_grown hg2 hb1.size (fun k e => by cases e; obtain ⟨_, _, _, _, _, _, h⟩ := hc1; exact h.lo))⟩

end Go.Proofs.YtibokhkohanoaabDoor
