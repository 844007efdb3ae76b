/- The Draw functions of chapter 13. -/
import Derived.Test.YtimbfilbojejiabGreatG6
import Derived.Test.YtimbfilbojejiabGreatY3
namespace Go.Proofs.YtimbfilbojejiabGreat
open Go.RowKit

theorem Mi.row {w0 w : World} {g B h n c : Nat} {zs : List Int} (hi : Mi w0 g B h n c zs w) (hn : n ≤ 600) (hc : n ≤ c) : DrawRow g B w0 (fun _ => True) (.returned (.slice (some ⟨h, 0, none⟩) n c)) w :=
  ⟨h, n, c, zs, trivial, hn, hc, rfl, hi.1, hi.2.1, hi.2.2⟩

set_option maxRecDepth 100000 in
set_option maxHeartbeats 2000000 in
theorem draw13_any (g B : Nat) (w : World) (hc : Cur w g B) :
    Calls Tryz.prog 20 #[.pointer (some ⟨g, 0, none⟩)] w (DrawRow g B w (fun _ => True)) := by
  have hgl := hc.lt
  go_enter Tryz.func20, Tryz.ntmps20
  go_wp2_with fail
  refine (drawAny_any g B w hc).mono ?_
  rintro e w1 ⟨h, n, c, ys, _, hn, hnc, rfl, o1, hc1, hg1⟩
  have m1 : Mi w g B h n c ys w1 := ⟨o1, hc1, hg1⟩
  clear o1 hc1 hg1
  go_wp2_with fail
  refine (once_any g B 2 _ m1.2.1).mono ?_
  rintro e w2 ⟨b2, rfl, hc2, hg2⟩
  have m2 := m1.draw hg2 hc2 hgl
  clear m1
  cases b2
  case' true =>
    go_wp2_with fail
    refine (draw17_any g B _ m2.2.1).mono ?_
    rintro e w3 ⟨h, n, c, ys, _, hn, hnc, rfl, o3, hc3, hg3⟩
    have m3 : Mi w g B h n c ys w3 := ⟨o3.more m2.2.2.size (Nat.le_refl _), hc3, grown_trans m2.2.2 hg3⟩
    clear o3 hc3 hg3
  case' false =>
    obtain ⟨w3, rfl⟩ : ∃ w3, w3 = w2 := ⟨_, rfl⟩
    have m3 := m2
  all_goals
    clear m2 hg2 hc2
    go_wp2_with fail
    refine (once_any g B 4 _ m3.2.1).mono ?_
    rintro e w4 ⟨b4, rfl, hc4, hg4⟩
    have m4 := m3.draw hg4 hc4 hgl
    clear m3 hc4 hg4
    cases b4
    · by_cases h8 : n < 8
      · have hd : decide ((n : Int) < 8) = true := by simp; omega
        go_wp2_with fail
        go_ret
        exact m4.row hn hnc
      · have hd : decide ((n : Int) < 8) = false := by simp; omega
        have qz := m4.1.toI.cell (j := 3) (by omega)
        have fz := m4.1.free 3
        have HM := Lib.hid (m4.put (j := 3) 0 hgl)
        generalize ys.getD 3 0 = v at *
        have n3 : (3 : Int) < (n : Int) := by omega
        clear m4
        go_wp2_with fail
        go_ret
        exact HM.out.row hn hnc
    · go_wp2_with fail
      go_ret
      exact m4.row hn hnc

theorem drawLostIn_any (A : Option Addr) (n c : Nat) (xs : List Int) (w : World) (hr : Rd8 w w.heap.size A n xs) (hn : n ≤ 4096) :
    Calls Tryz.prog 7 #[.slice A n c] w (SomeRow w) := by
  go_enter Tryz.func7, Tryz.ntmps7
  go_wp2_with fail
  refine (new_any A n c xs w hr hn).mono ?_
  rintro e w1 ⟨g, rfl, hc1, hb1⟩
  go_wp2_with fail
  refine (draw13_any g _ w1 hc1).mono ?_
  rintro e w2 ⟨h, n2, c2, ys, _, hn2, _, rfl, o2, hc2, hg2⟩
  go_wp2_with fail
  go_ret
  exact ⟨_, _, _, ys, ⟨hn2, o2.cap⟩, rfl, o2.toI.rd, hb1.trans (cur_under hc1 hb1.size hg2)⟩

theorem drawSecondLike_any (A : Option Addr) (n c : Nat) (xs : List Int) (w : World) (hr : Rd8 w w.heap.size A n xs) (hn : n ≤ 4096) :
    Calls Tryz.prog 9 #[.slice A n c] w (SomeRowInt w) := by
  go_enter Tryz.func9, Tryz.ntmps9
  go_wp2_with fail
  refine (new_any A n c xs w hr hn).mono ?_
  rintro e w1 ⟨g, rfl, hc1, hb1⟩
  have hgl := hc1.lt
  go_wp2_with fail
  refine (draw13_any g _ w1 hc1).mono ?_
  rintro e w2 ⟨h, n2, c2, ys, _, hn2, _, rfl, o2, hc2, hg2⟩
  go_wp2_with fail
  refine (from_any g _ (-1) _ w2 hc2 (by omega) (by omega) (by omega)).mono ?_
  rintro e w3 ⟨x, _, rfl, hc3, hg3⟩
  have G3 := grown_trans hg2 hg3
  have p3 := o2.draw hg3 hgl hg3.size
  go_wp2_with fail
  go_ret2
  exact ⟨_, _, _, ys, x, ⟨hn2, p3.cap⟩, rfl, p3.toI.rd, hb1.trans (cur_under hc1 hb1.size G3)⟩

/-- Zeros behind the row, until it is long. -/
def Grow0 (w0 : World) (g B : Nat) (v : Value) (w : World) : Prop := ∃ (h n c : Nat) (ys : List Int), n ≤ 600 ∧ n ≤ c ∧ v = .slice (some ⟨h, 0, none⟩) n c ∧ Mi w0 g B h n c ys w

set_option maxRecDepth 100000 in
set_option maxHeartbeats 4000000 in
theorem drawRefound_any (A : Option Addr) (n c : Nat) (xs : List Int) (w : World) (hr : Rd8 w w.heap.size A n xs) (hn : n ≤ 4096) :
    Calls Tryz.prog 5 #[.slice A n c] w (SomeRow w) := by
  obtain ⟨i0, hi0, hz0, hz1, hz2⟩ := info_parts info2
  go_enter Tryz.func5, Tryz.ntmps5
  go_wp2_with fail
  refine (new_any A n c xs w hr hn).mono ?_
  rintro e w1 ⟨g, rfl, hc1, hb1⟩
  have hgl := hc1.lt
  go_wp2_with fail
  refine (draw13_any g _ w1 hc1).mono ?_
  rintro e w2 ⟨h, n2, c2, ys, _, hn2, hnc2, rfl, o2, hc2, hg2⟩
  have m2 : Mi w1 g _ h n2 c2 ys w2 := ⟨o2, hc2, hg2⟩
  clear o2 hc2 hg2
  go_wp2_with fail
  refine (once_any g _ 20 w2 m2.2.1).mono ?_
  rintro e w3 ⟨b3, rfl, hc3, hg3⟩
  have m3 := m2.draw hg3 hc3 hgl
  clear m2 hc3 hg3
  cases b3
  · go_wp2_with fail
    go_ret
    exact ⟨_, _, _, ys, ⟨hn2, hnc2⟩, rfl, m3.1.toI.rd, hb1.trans (cur_under hc1 hb1.size m3.2.2)⟩
  · go_wp2_with fail
    go_loopw [4] (fun v wr => Grow0 w1 g _ v wr) (fun v _ => 600 - (match v with | .slice _ n _ => n | _ => 0))
    case atStart => exact ⟨h, n2, c2, ys, hn2, hnc2, rfl, m3⟩
    case round =>
      obtain ⟨h, m, c, ys, hm, hmc, rfl, mi⟩ := hrel
      clear m3
      go_wp2_with fail
      refine (below_any g _ 2 wr mi.2.1).mono ?_
      rintro e w4 ⟨x, hx, rfl, hc4, hg4⟩
      obtain ⟨x0, x1⟩ := hx.lt (by omega)
      have m4 := mi.draw hg4 hc4 hgl
      clear mi hx hc4 hg4
      by_cases hlt : (m : Int) < 512 - 8 * x
      · have hs4 := m4.2.2.size
        have hlo := m4.1.low
        go_wp2_with (at_builtin; refine wpList_append_v rfl (.tmp 18) (.tmp 19) 24 rfl 2 1 8 _ i0 Tryz.underlying24 hi0 hz0 hz1 hz2 rfl (by omega) (by omega) w1.heap.size w4.heap.size h m c _ rfl (m4.1.grown (World.grownBy_alloc _ _ none) (fun _ h => by cases h)) ⟨w4.heap.size, 0, none⟩ 1 1 (iv [0]) rfl rfl (fun j u hj => by rw [Addr.add_lit, Nat.zero_add, World.cell?_alloc_new]; simpa [iv] using hj) (by simp [iv, Value.oneCell']) (by omega) (by simp; omega) ?_; intro g7 c7 w7 o7 hg7 _ _)
        rw [← iv_append] at o7
        have c5 := m4.2.1.grown (grown_alloc w4 (.cells #[.int .i64 0] 2) none) (by simp)
        have g5 := grown_trans m4.2.2 (grown_alloc w4 (.cells #[.int .i64 0] 2) (some g))
        have m7 : Mi w1 g _ g7 (m + 1) c7 (ys ++ [0]) w7 := ⟨o7, c5.grown hg7 (fun k e => by cases e; omega), grown_row g5 hg7 hlo⟩
        have hc7 := o7.cap
        clear o7 hg7 c5 g5 m4
        go_wp2_with fail
        go_roundw
        case rel => exact ⟨g7, m + 1, c7, _, by omega, hc7, rfl, m7⟩
        case measure => simp; omega
      · go_wp2_with fail
        go_ret
        exact ⟨_, _, _, ys, ⟨hm, hmc⟩, rfl, m4.1.toI.rd, hb1.trans (cur_under hc1 hb1.size m4.2.2)⟩
end Go.Proofs.YtimbfilbojejiabGreat
