/- The three Draw functions of chapter 4. -/
import Derived.Test.YtdmmdibcgffenabG6
namespace Go.Proofs.Ytdmmdibcgffenab
open Go.RowKit

theorem drawTableAt_any (A : Option Addr) (n c : Nat) (xs : List Int) (w : World) (hr : Rd8 w w.heap.size A n xs) (hn : n ≤ 4096) :
    Calls Try.prog 5 #[.slice A n c] w (SomeRowInt w) := by
  go_enter Try.func5, Try.ntmps5
  go_wp2_with fail
  refine (new_any A n c xs w hr hn).mono ?_
  rintro e w1 ⟨g, rfl, hc1, hb1⟩
  go_wp2_with fail
  refine (drawAt_any g _ w1 hc1).mono ?_
  rintro e w2 ⟨h, n2, c2, ys, x, hn2, rfl, o2, hc2, hg2⟩
  go_wp2_with fail
  go_ret2
  exact ⟨_, _, _, ys, x, ⟨hn2, o2.cap⟩, rfl, o2.toI.rd, hb1.trans (cur_under hc1 hb1.size hg2)⟩

theorem drawShotsIn_any (A : Option Addr) (n c : Nat) (xs : List Int) (w : World) (hr : Rd8 w w.heap.size A n xs) (hn : n ≤ 4096) :
    Calls Try.prog 7 #[.slice A n c] w (SomeRow w) := by
  go_enter Try.func7, Try.ntmps7
  go_wp2_with fail
  refine (new_any A n c xs w hr hn).mono ?_
  rintro e w1 ⟨g, rfl, hc1, hb1⟩
  go_wp2_with fail
  refine (drawAny_any g _ w1 hc1).mono ?_
  rintro e w2 ⟨h, n2, c2, ys, _, hn2, _, rfl, o2, hc2, hg2⟩
  go_wp2_with fail
  go_ret
  exact ⟨_, _, _, ys, ⟨hn2, o2.cap⟩, rfl, o2.toI.rd, hb1.trans (cur_under hc1 hb1.size hg2)⟩

theorem drawFirstOf_any (A : Option Addr) (n c : Nat) (xs : List Int) (w : World) (hr : Rd8 w w.heap.size A n xs) (hn : n ≤ 4096) :
    Calls Try.prog 9 #[.slice A n c] w (SomeRowInt w) := by
  go_enter Try.func9, Try.ntmps9
  go_wp2_with fail
  refine (new_any A n c xs w hr hn).mono ?_
  rintro e w1 ⟨g, rfl, hc1, hb1⟩
  have hgl := hc1.lt
  go_wp2_with fail
  refine (drawAny_any g _ w1 hc1).mono ?_
  rintro e w2 ⟨h, n2, c2, ys, _, hn2, _, rfl, o2, hc2, hg2⟩
  go_wp2_with fail
  refine (from_any g _ (-1) 5 w2 hc2 (by omega) (by omega) (by omega)).mono ?_
  rintro e w3 ⟨x, _, rfl, hc3, hg3⟩
  have G3 := grown_trans hg2 hg3
  have p3 := o2.draw hg3 hgl hg3.size
  go_wp2_with fail
  go_ret2
  exact ⟨_, _, _, ys, x, ⟨hn2, p3.cap⟩, rfl, p3.toI.rd, hb1.trans (cur_under hc1 hb1.size G3)⟩
end Go.Proofs.Ytdmmdibcgffenab
