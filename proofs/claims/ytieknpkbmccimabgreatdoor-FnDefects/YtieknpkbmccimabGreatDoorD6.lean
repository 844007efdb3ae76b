/- The Draw functions that draw an image alone. -/
import Derived.Test.YtieknpkbmccimabGreatDoorG6
namespace Go.Proofs.YtieknpkbmccimabGreatDoor
open Go.RowKit

theorem drawDefectsIn_any (A : Option Addr) (n c : Nat) (xs : List Int) (w : World) (hr : Rd8 w w.heap.size A n xs) (hn : n ≤ 4096) :
    Calls Tryz.prog 6 #[.slice A n c] w (SomeRow w) := by
  go_enter Tryz.func6, Tryz.ntmps6
  go_wp2_with fail
  refine (new_any A n c xs w hr hn).mono ?_
  rintro e w1 ⟨g, rfl, hc1, hb1⟩
  go_wp2_with fail
  refine (drawAny_any g _ w1 hc1).mono ?_
  rintro e w2 ⟨h, n2, c2, ys, _, hn2, _, rfl, o2, hc2, hg2⟩
  go_wp2_with fail
  go_ret
  exact ⟨_, _, _, ys, ⟨hn2, o2.cap⟩, rfl, o2.toI.rd, hb1.trans (cur_under hc1 hb1.size hg2)⟩

theorem drawSound_any (A : Option Addr) (n c : Nat) (xs : List Int) (w : World) (hr : Rd8 w w.heap.size A n xs) (hn : n ≤ 4096) :
    Calls Tryz.prog 8 #[.slice A n c] w (SomeRow w) := by
  go_enter Tryz.func8, Tryz.ntmps8
  go_wp2_with fail
  refine (new_any A n c xs w hr hn).mono ?_
  rintro e w1 ⟨g, rfl, hc1, hb1⟩
  go_wp2_with fail
  refine (drawAny_any g _ w1 hc1).mono ?_
  rintro e w2 ⟨h, n2, c2, ys, _, hn2, _, rfl, o2, hc2, hg2⟩
  go_wp2_with fail
  go_ret
  exact ⟨_, _, _, ys, ⟨hn2, o2.cap⟩, rfl, o2.toI.rd, hb1.trans (cur_under hc1 hb1.size hg2)⟩

end Go.Proofs.YtieknpkbmccimabGreatDoor
