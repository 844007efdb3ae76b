/- The Draw functions of chapters 14, 16 and 17. -/
import Derived.Test.YtfolbhjljpnjlabGreatD13
import Derived.Test.YtfolbhjljpnjlabGreatH2
namespace Go.Proofs.YtfolbhjljpnjlabGreat
open Go.RowKit

set_option maxRecDepth 100000 in
set_option maxHeartbeats 2000000 in
theorem drawCounted_any (A : Option Addr) (n c : Nat) (xs : List Int) (w : World) (hr : Rd8 w w.heap.size A n xs) (hn : n ≤ 4096) :
    Calls Tryz.prog 5 #[.slice A n c] w (SomeRow w) := by
  go_enter Tryz.func5, Tryz.ntmps5
  go_wp2_with fail
  refine (new_any A n c xs w hr hn).mono ?_
  rintro e w1 ⟨g, rfl, hc1, hb1⟩
  have hgl := hc1.lt
  go_wp2_with fail
  refine (drawAny_any g _ w1 hc1).mono ?_
  rintro e w2 ⟨h, n2, c2, ys, _, hn2, hnc2, rfl, o2, hc2, hg2⟩
  have m2 : Mi w1 g _ h n2 c2 ys w2 := ⟨o2, hc2, hg2⟩
  clear o2 hc2 hg2
  go_wp2_with fail
  refine (specHeadIn_any _ _ _ ys w2 m2.1.toI.rd (by omega)).mono ?_
  rintro e w3 ⟨rfl, b3⟩
  generalize hrr : headIn ys = r
  obtain ⟨⟨s, f, r, u, m⟩, is⟩ := r
  have HR := Lib.hid hrr
  clear hrr
  unfold hdV
  have m3 := m2.under (b3.alloc b3.size (.cells #[.int .i64 s, .int .i64 f, .int .i64 r, .int .i64 u, .int .i64 m] 34))
  clear m2 b3
  cases is
  · go_wp2_with fail
    go_ret
    exact ⟨_, _, _, ys, ⟨hn2, hnc2⟩, rfl, m3.1.toI.rd, hb1.trans (cur_under hc1 hb1.size m3.2.2)⟩
  · have hh := (headIn_true HR.out).1
    have HCL := Lib.hid (clr_head hh).2.2
    have hmm := manyN_le (hasHead_img hh)
    have hpp := whole_pos hh
    have HH := Lib.hid hh
    clear hh
    go_wp2_with fail
    generalize (w3.alloc (.cells #[.int .i64 s, .int .i64 f, .int .i64 r, .int .i64 u, .int .i64 m] 34)) = v3 at *
    refine (once_any g _ 4 v3 m3.2.1).mono ?_
    rintro e w4 ⟨b4, rfl, hc4, hg4⟩
    have m4 := m3.draw hg4 hc4 hgl
    clear m3 hc4 hg4
    cases b4
    · go_wp2_with fail
      refine (specClr_any (some ⟨h, 0, none⟩) n2 c2 ys w4 m4.1.toI.rd HH.out).mono ?_
      rintro e w5 ⟨G, ng, cg, rfl, oG, b5⟩
      have hng : ng = manyN ys * 8 := by rw [← HCL.out]; exact oG.len.symm
      rcases oG.form with ⟨_, h0, _⟩ | ⟨k, rfl, k1, k2, k3, k4⟩
      · omega
      have s4 := m4.2.2.size
      have m5 : Mi w1 g _ k ng cg (clrC ys) w5 := ⟨(oG.more s4 (Nat.le_refl _)).toV, (m4.under b5).2.1, (m4.under b5).2.2⟩
      clear m4 b5 oG k1 k2 k3
      have hng8 : 8 ≤ ng := by omega
      have hng6 : ng ≤ 600 := by omega
      clear hng hpp hmm
      go_wp2_with fail
      refine (once_any g _ 3 w5 m5.2.1).mono ?_
      rintro e w6 ⟨b6, rfl, hc6, hg6⟩
      have m6 := m5.draw hg6 hc6 hgl
      clear m5 hc6 hg6
      cases b6
      · go_wp2_with fail
        go_ret
        exact ⟨_, _, _, clrC ys, ⟨hng6, k4⟩, rfl, m6.1.toI.rd, hb1.trans (cur_under hc1 hb1.size m6.2.2)⟩
      · have qz := m6.1.toI.cell (j := 4) (by omega)
        have fz := m6.1.free 4
        have HM := Lib.hid (m6.put (j := 4) 0 hgl)
        generalize (clrC ys).getD 4 0 = v at *
        have n4 : (4 : Int) < (ng : Int) := by omega
        clear m6
        go_wp2_with fail
        go_ret
        exact ⟨_, _, _, _, ⟨hng6, k4⟩, rfl, HM.out.1.toI.rd, hb1.trans (cur_under hc1 hb1.size HM.out.2.2)⟩
    · go_wp2_with fail
      go_ret
      exact ⟨_, _, _, ys, ⟨hn2, hnc2⟩, rfl, m4.1.toI.rd, hb1.trans (cur_under hc1 hb1.size m4.2.2)⟩

end Go.Proofs.YtfolbhjljpnjlabGreat
