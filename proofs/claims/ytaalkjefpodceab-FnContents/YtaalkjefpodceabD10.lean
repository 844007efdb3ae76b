/- The Draw function of ContentOf (chapter 10). -/
import Derived.Test.YtaalkjefpodceabD5
namespace Go.Proofs.Ytaalkjefpodceab
open Go.RowKit

theorem drawContentOf_any (A : Option Addr) (n c : Nat) (xs : List Int) (w : World) (hr : Rd8 w w.heap.size A n xs) (hn : n ≤ 4096) :
    Calls Try.prog 5 #[.slice A n c] w (SomeRowTwo w (fun y => -1 ≤ y ∧ y ≤ 25)) := by
  go_enter Try.func5, Try.ntmps5
  go_wp2_with fail
  refine (new_any A n c xs w hr hn).mono ?_
  rintro e w1 ⟨g, rfl, hc1, hb1⟩
  have hgl := hc1.lt
  go_wp2_with fail
  refine (drawAny_any g _ w1 hc1).mono ?_
  rintro e w2 ⟨h, n2, c2, ys, _, hn2, _, rfl, o2, hc2, hg2⟩
  go_wp2_with fail
  refine (from_any g _ (-1) 3 w2 hc2 (by omega) (by omega) (by omega)).mono ?_
  rintro e w3 ⟨x, _, rfl, hc3, hg3⟩
  have G3 := grown_trans hg2 hg3
  have p3 := o2.draw hg3 hgl hg3.size
  go_wp2_with fail
  refine (from_any g _ (-1) 25 w3 hc3 (by omega) (by omega) (by omega)).mono ?_
  rintro e w4 ⟨y, hy, rfl, hc4, hg4⟩
  have G4 := grown_trans G3 hg4
  have p4 := p3.draw hg4 hgl hg4.size
  have HY := Lib.hid hy
  clear hy
  go_wp2_with fail
  go_ret3
  exact ⟨_, _, _, ys, x, y, HY.out, ⟨hn2, p4.cap⟩, rfl, p4.toI.rd, hb1.trans (cur_under hc1 hb1.size G4)⟩
end Go.Proofs.Ytaalkjefpodceab
