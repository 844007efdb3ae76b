/- Any words that are drawn (l1DrawAny, l1DrawAt). -/
import Derived.Test.YtkhinppphmfniaaDr
namespace Go.Proofs.Ytkhinppphmfniaa
open Go.RowKit

theorem grown_row {w a b : World} {g h : Nat} (h1 : w.grownBy a (some g)) (h2 : a.grownBy b (some h)) (hh : w.heap.size ≤ h) : w.grownBy b (some g) :=
  ⟨h2.os.trans h1.os, h2.tape.trans h1.tape, h2.output.trans h1.output, Nat.le_trans h1.size h2.size, fun q hq hne => (h2.block q (Nat.lt_of_lt_of_le hq h1.size) (fun e => by cases e; omega)).trans (h1.block q hq hne)⟩
/-- The front of a row. -/
theorem OwV.front {t : TypeId} {sz : Nat} {w : World} {lo hi g n c : Nat} {cs : List Value} (h : OwV t sz w lo hi g n c cs) (k : Nat) (hk : k ≤ n) : OwV t sz w lo hi g k c (cs.take (k * sz)) := by
  have hl := h.len
  have hks : k * sz ≤ n * sz := Nat.mul_le_mul_right _ hk
  refine ⟨⟨by rw [List.length_take]; omega, ?_⟩, h.top⟩
  rcases h.own.2 with ⟨hv, _⟩ | ⟨g', cap, cur, hv, hb, hg, hnc, hcm, hcs, htake⟩
  · cases hv
  · injection hv with h1 h2 h3
    injection h1 with h1
    injection h1 with h1
    subst h1; subst h3
    refine .inr ⟨g, c, cur, rfl, hb, hg, by omega, hcm, hcs, ?_⟩
    rw [← htake, List.take_take, Nat.min_eq_left hks]
theorem iv_take (xs : List Int) (k : Nat) : (iv xs).take k = iv (xs.take k) := by simp [iv]
/-- A number is put into a row. -/
theorem Img.put {w0 w : World} {g B h n c j : Nat} (x : Int) (hi : Img w0 g B (.slice (some ⟨h, 0, none⟩) n c) w) (hlt : g < w0.heap.size) : Img w0 g B (.slice (some ⟨h, 0, none⟩) n c) (w.setCell ⟨h, j, none⟩ (.int .i64 x)) := by
  obtain ⟨h', n', c', ys, h1, h2, h3, e, h5, h6, h7⟩ := hi
  cases e
  obtain ⟨s1, s2⟩ := h5.set j (.int .i64 x)
  rw [iv_set] at s1
  have hlo := h5.low
  exact ⟨h, n, c, _, h1, h2, h3, rfl, s1.more (Nat.le_refl _) s2.size, h6.grown s2 (fun k e => by cases e; omega), grown_row h7 s2 hlo⟩
theorem Img.cell {w0 w : World} {g B h n c j : Nat} (hi : Img w0 g B (.slice (some ⟨h, 0, none⟩) n c) w) (hj : j < n) : ∃ y, w.cell? ⟨h, j, none⟩ = some (.int .i64 y) := by
  obtain ⟨h', n', c', ys, h1, h2, h3, e, h5, h6, h7⟩ := hi
  cases e
  exact ⟨_, h5.toI.cell hj⟩
theorem Img.free {w0 w : World} {g B h n c : Nat} (hi : Img w0 g B (.slice (some ⟨h, 0, none⟩) n c) w) (j : Nat) : w.frozen? ⟨h, j, none⟩ = false := by
  obtain ⟨h', n', c', ys, h1, h2, h3, e, h5, h6, h7⟩ := hi
  cases e
  exact h5.free j
theorem Img.cur {w0 w : World} {g B : Nat} {v : Value} (hi : Img w0 g B v w) : Cur w g B := by
  obtain ⟨h', n', c', ys, h1, h2, h3, e, h5, h6, h7⟩ := hi
  exact h6
theorem Img.row {w0 w : World} {g B h n c : Nat} (hi : Img w0 g B (.slice (some ⟨h, 0, none⟩) n c) w) : DrawRow g B w0 (fun _ => True) (.returned (.slice (some ⟨h, 0, none⟩) n c)) w := by
  obtain ⟨h', n', c', ys, h1, h2, h3, e, h5, h6, h7⟩ := hi
  cases e
  exact ⟨h, n, c, ys, trivial, by omega, h3, rfl, h5, h6, h7⟩
theorem Img.front {w0 w : World} {g B h n c : Nat} (hi : Img w0 g B (.slice (some ⟨h, 0, none⟩) n c) w) (k : Nat) (hk : k ≤ n) : DrawRow g B w0 (fun _ => True) (.returned (.slice (some ⟨h, 0, none⟩) k c)) w := by
  obtain ⟨h', n', c', ys, h1, h2, h3, e, h5, h6, h7⟩ := hi
  cases e
  have := h5.front k hk
  rw [iv_take] at this
  exact ⟨h, k, c, _, trivial, by omega, by omega, rfl, this, h6, h7⟩

set_option maxRecDepth 100000 in
set_option maxHeartbeats 4000000 in
theorem drawAny_any (g B : Nat) (w : World) (hc : Cur w g B) :
    Calls Try.prog 21 #[.pointer (some ⟨g, 0, none⟩)] w (DrawRow g B w (fun _ => True)) := by
  obtain ⟨i0, hi0, hz0, hz1, hz2⟩ := info_parts info2
  have hgl := hc.lt
  go_enter Try.func21, Try.ntmps21
  go_wp2_with fail
  refine (once_any g B 6 _ hc).mono ?_
  rintro e w1 ⟨b1, rfl, hc1, hg1⟩
  have s1 := hg1.size
  cases b1
  case true =>
    go_wp2_with fail
    refine (below_any g B 60 _ hc1).mono ?_
    rintro e w2 ⟨x, hx, rfl, hc2, hg2⟩
    obtain ⟨h0, h1⟩ := hx.lt (by omega)
    obtain ⟨j, rfl⟩ : ∃ j : Nat, x = j := ⟨x.toNat, by omega⟩
    go_wp2_with fail
    refine (drawWords_any g B j _ hc2 (by omega)).mono ?_
    rintro e w3 ⟨h, n, c, ys, _, hn, hnc, rfl, o3, hc3, hg3⟩
    go_wp2_with fail
    go_ret
    exact ⟨h, n, c, ys, trivial, hn, hnc, rfl, o3.more (Nat.le_trans s1 hg2.size) (Nat.le_refl _), hc3, grown_trans (grown_trans hg1 hg2) hg3⟩
  case false =>
    go_wp2_with fail
    refine (draw17_any g B _ hc1).mono ?_
    rintro e w2 ⟨h, n, c, ys, ⟨hp, hl⟩, _, hnc, rfl, o2, hc2, hg2⟩
    rw [o2.lenI] at hp hl
    go_wp2_with fail
    refine (below_any g B 10 _ hc2).mono ?_
    rintro e w3 ⟨x, hx, rfl, hc3, hg3⟩
    obtain ⟨h0, h1⟩ := hx.lt (by omega)
    have him : Img w g B (.slice (some ⟨h, 0, none⟩) n c) w3 := ⟨h, n, c, ys, hp, hl, hnc, rfl, (o2.draw hg3 (by have := hc.lt; omega) hg3.size).more s1 (Nat.le_refl _), hc3, grown_trans (grown_trans hg1 hg2) hg3⟩
    clear o2 hg3 hg2 hg1 hc2 hc3 hc1 hx
    rcases (by omega : (x = 0 ∨ x = 1 ∨ x = 2 ∨ x = 3) ∨ x = 4 ∨ x = 5 ∨ x = 6 ∨ x = 7 ∨ x = 8 ∨ x = 9) with h03 | rfl | rfl | rfl | rfl | rfl | rfl
    · rcases h03 with rfl | rfl | rfl | rfl
      all_goals
        go_wp2_with fail
        refine (below_any g B 3 _ him.cur).mono ?_
        rintro e w4 ⟨x, hx, rfl, hc4, hg4⟩
        obtain ⟨k0, k1⟩ := hx.lt (by omega)
        obtain ⟨m, rfl⟩ : ∃ m : Nat, x = m := ⟨x.toNat, by omega⟩
        have him4 := him.draw hg4 hc4 hgl
        clear hx hg4 hc4 him
        go_wp2_with fail
        go_loopw [4] (fun i wr => ∃ k : Nat, i = .int .i64 k ∧ k ≤ 3 ∧ Img w g B (.slice (some ⟨h, 0, none⟩) n c) wr) (fun i _ => (intOf i).toNat)
        case atStart => exact ⟨1 + m, by go_num, by omega, him4⟩
        case round =>
          obtain ⟨k, rfl, hk, hm⟩ := hrel
          by_cases hlt : 0 < k
          · go_wp2_with fail
            refine (below_any g B n _ hm.cur).mono ?_
            rintro e w5 ⟨x, hx, rfl, hc5, hg5⟩
            obtain ⟨k0, k1⟩ := hx.lt (by omega)
            obtain ⟨j, rfl⟩ : ∃ j : Nat, x = j := ⟨x.toNat, by omega⟩
            have hm5 := hm.draw hg5 hc5 hgl
            clear hx hg5 hc5
            go_wp2_with fail
            refine (drawWords_any g B 1 _ hm5.cur (by omega)).mono ?_
            rintro e w6 ⟨h6, n6, c6, vs, hv, _, _, rfl, o6, hc6, hg6⟩
            obtain rfl : n6 = 1 := by rw [← o6.lenI]; exact hv
            have hm6 := hm5.draw hg6 hc6 hgl
            have q6 := o6.toI.cell (j := 0) (by omega)
            generalize vs.getD 0 0 = y at q6
            obtain ⟨z, qz⟩ := hm6.cell (j := j) (by omega)
            have fz := hm6.free j
            have HM := Lib.hid (hm6.put (j := j) y hgl)
            have hjn : j < n := by omega
            clear hm hm5 hm6 o6 hg6 hc6 hv
            go_wp2_with fail
            go_roundw
            case rel => exact ⟨k - 1, by go_num, by omega, HM.out⟩
            case measure => simp [intOf]; omega
          · go_wp2_with fail
            go_ret
            exact hm.row
    · go_wp2_with fail
      refine (below_any g B n _ him.cur).mono ?_
      rintro e w4 ⟨x, hx, rfl, hc4, hg4⟩
      obtain ⟨k0, k1⟩ := hx.lt (by omega)
      obtain ⟨j, rfl⟩ : ∃ j : Nat, x = j := ⟨x.toNat, by omega⟩
      have HM := Lib.hid (him.draw hg4 hc4 hgl)
      have hjn : j ≤ n := by omega
      have hjc : j ≤ c := by omega
      clear hx hg4 hc4 him
      go_wp2_with fail
      go_ret
      exact HM.out.front j hjn
    · go_wp2_with fail
      refine (below_any g B 20 _ him.cur).mono ?_
      rintro e w4 ⟨x, hx, rfl, hc4, hg4⟩
      obtain ⟨k0, k1⟩ := hx.lt (by omega)
      obtain ⟨j, rfl⟩ : ∃ j : Nat, x = j := ⟨x.toNat, by omega⟩
      have him4 := him.draw hg4 hc4 hgl
      clear hx hg4 hc4 him
      go_wp2_with fail
      refine (drawWords_any g B j _ him4.cur (by omega)).mono ?_
      rintro e w6 ⟨h6, n6, c6, vs, hv, _, _, rfl, o6, hc6, hg6⟩
      have hm6 := him4.draw hg6 hc6 hgl
      obtain ⟨h', n', c', zs, p1, p2, p3, e, p5, p6, p7⟩ := hm6
      cases e
      have hn6 : n6 ≤ 20 := by rw [← o6.lenI, hv]; omega
      have hs6 := p7.size
      have hlo := p5.low
      go_wp2_with (at_builtin; refine wpList_append_v rfl (.tmp 47) (.tmp 51) 24 rfl 2 1 8 _ i0 Try.underlying24 hi0 hz0 hz1 hz2 rfl (by omega) (by omega) w.heap.size w6.heap.size h n c _ rfl p5 ⟨h6, 0, none⟩ n6 c6 (iv vs) rfl o6.len (fun j u hj => by rw [Addr.add_lit, Nat.zero_add]; exact (o6.cell (j := j) (by have := o6.len; have := (List.getElem?_eq_some_iff.1 hj).1; omega)).trans hj) (by simp [iv, Value.oneCell']) (by omega) hs6 ?_; intro g7 c7 w7 o7 hg7 _ _)
      go_ret
      rw [← iv_append] at o7
      exact ⟨g7, n + n6, c7, _, trivial, by omega, o7.cap, rfl, o7, p6.grown hg7 (fun k e => by cases e; omega), grown_row p7 hg7 hlo⟩
    · go_wp2_with fail
      refine (below_any g B n _ him.cur).mono ?_
      rintro e w4 ⟨x, hx, rfl, hc4, hg4⟩
      obtain ⟨k0, k1⟩ := hx.lt (by omega)
      obtain ⟨j, rfl⟩ : ∃ j : Nat, x = j := ⟨x.toNat, by omega⟩
      have him4 := him.draw hg4 hc4 hgl
      clear hx hg4 hc4 him
      go_wp2_with fail
      refine (below_any g B 65536 _ him4.cur).mono ?_
      rintro e w5 ⟨y, hy, rfl, hc5, hg5⟩
      have hm6 := him4.draw hg5 hc5 hgl
      obtain ⟨z, qz⟩ := hm6.cell (j := j) (by omega)
      have fz := hm6.free j
      have HM := Lib.hid (hm6.put (j := j) y hgl)
      have hjn : j < n := by omega
      clear hm6 him4 hg5 hc5 hy
      go_wp2_with fail
      go_ret
      exact HM.out.row
    · by_cases h8 : 8 < n
      · go_wp2_with fail
        refine (below_any g B 4 _ him.cur).mono ?_
        rintro e w4 ⟨x, hx, rfl, hc4, hg4⟩
        obtain ⟨k0, k1⟩ := hx.lt (by omega)
        obtain ⟨j, rfl⟩ : ∃ j : Nat, x = j := ⟨x.toNat, by omega⟩
        have him4 := him.draw hg4 hc4 hgl
        clear hx hg4 hc4 him
        go_wp2_with fail
        refine (drawWords_any g B 1 _ him4.cur (by omega)).mono ?_
        rintro e w6 ⟨h6, n6, c6, vs, hv, _, _, rfl, o6, hc6, hg6⟩
        obtain rfl : n6 = 1 := by rw [← o6.lenI]; exact hv
        have hm6 := him4.draw hg6 hc6 hgl
        have q6 := o6.toI.cell (j := 0) (by omega)
        generalize vs.getD 0 0 = y at q6
        obtain ⟨z, qz⟩ := hm6.cell (j := 3 + j) (by omega)
        have fz := hm6.free (3 + j)
        have HM := Lib.hid (hm6.put (j := 3 + j) y hgl)
        have hjn : 3 + j < n := by omega
        clear him4 hm6 o6 hg6 hc6 hv
        go_wp2_with fail
        go_ret
        exact HM.out.row
      · go_wp2_with fail
        go_ret
        exact him.row
    · go_wp2_with fail
      refine (once_any g B 6 _ him.cur).mono ?_
      rintro e w4 ⟨b4, rfl, hc4, hg4⟩
      have him4 := him.draw hg4 hc4 hgl
      clear hg4 hc4 him
      cases b4
      case' true =>
        go_wp2_with fail
        refine (odd_any g B _ him4.cur).mono ?_
        rintro e w5 ⟨y, hy, rfl, hc5, hg5⟩
        have hm6 := him4.draw hg5 hc5 hgl
        obtain ⟨z, qz⟩ := hm6.cell (j := 0) (by omega)
        have fz := hm6.free 0
        have him5 := hm6.put (j := 0) y hgl
        clear hm6 him4 hg5 hc5 hy
      case' false =>
        have him5 := him4
        clear him4
      all_goals
        go_wp2_with fail
        refine (once_any g B 20 _ him5.cur).mono ?_
        rintro e w6 ⟨b6, rfl, hc6, hg6⟩
        have him6 := him5.draw hg6 hc6 hgl
        clear hg6 hc6 him5
        cases b6
        · go_wp2_with fail
          go_ret
          exact him6.row
        · go_wp2_with fail
          refine (from_any g B (-1) 1 _ him6.cur (by omega) (by omega) (by omega)).mono ?_
          rintro e w7 ⟨y, ⟨y0, y1⟩, rfl, hc7, hg7⟩
          have him7 := him6.draw hg7 hc7 hgl
          obtain ⟨N, hN⟩ : ∃ N : Nat, 512 + y = (N : Int) := ⟨(512 + y).toNat, by omega⟩
          obtain ⟨_, _, _, _, _, _, _, _, _, _, p7⟩ := him7
          have hs7 := p7.size
          have HN := Lib.hid hN
          have hN5 : N ≤ 513 := by omega
          clear him6 hg7 hN
          go_wp2_with (at_make; go_loud (refine wpList_make_full _ rfl _ _ 24 rfl w.heap.size 2 i0 (.int .i64 0) 1 Try.underlying24 hi0 hz0 hz1 .i64 .i64 _ _ N rfl rfl HN.out HN.out (by rw [hz2]; omega) (by simp only [maxLen]; omega) hs7 ?_; intro w8 hown hg8; rw [made_iv] at hown))
          go_ret
          exact ⟨w7.heap.size, N, N, List.replicate N 0, trivial, by omega, Nat.le_refl _, rfl, ⟨hown, (hown.lt _ rfl).2⟩, hc7.grown hg8 (by simp), grown_trans p7 ⟨hg8.os, hg8.tape, hg8.output, hg8.size, fun k hk _ => hg8.block k hk (by simp)⟩⟩
    · go_wp2_with fail
      go_ret
      exact him.row

end Go.Proofs.Ytkhinppphmfniaa
