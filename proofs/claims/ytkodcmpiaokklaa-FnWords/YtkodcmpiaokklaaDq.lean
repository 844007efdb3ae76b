/- What the law of the words draws: an image and a place, a cluster; and how it compares (likeInts). -/
import Derived.Test.YtkodcmpiaokklaaDa
namespace Go.Proofs.Ytkodcmpiaokklaa
open Go.RowKit

theorem cur_under {w w' : World} {g B : Nat} (hc : Cur w g B) (hB : B ≤ w.heap.size) (hg : w.grownBy w' (some g)) : Below B w w' := below_grown hg hB (fun k e => by cases e; exact hc.lo)

set_option maxHeartbeats 400000 in
theorem like_any (A A' : Option Addr) (n c n' c' : Nat) (xs ys : List Int) (B : Nat) (w : World) (h : Rd w B A n xs) (h' : Rd w B A' n' ys) (hn : n ≤ 2097152) :
    Calls Try.prog 10 #[.slice A n c, .slice A' n' c'] w fun e w' => e = .returned (.bool (xs == ys)) ∧ ∃ d, w' = w.drewN d := by
  have hx := Lib.hid h.len
  have hy := Lib.hid h'.len
  by_cases hne : n = n'
  · subst hne
    have hd : ((n : Int) != (n : Int)) = false := by simp
    go_enter Try.func10, Try.ntmps10
    go_wp2
    go_loopw [5] (fun i wr => ∃ k : Nat, k ≤ n ∧ i = .int .i64 k ∧ xs.take k = ys.take k ∧ ∃ d, wr = w.drewN d) (fun i _ => n - (intOf i).toNat)
    case atStart => exact ⟨0, Nat.zero_le _, rfl, rfl, 0, rfl⟩
    case round =>
      obtain ⟨k, hk, rfl, ht, d, rfl⟩ := hrel
      have HT := Lib.hid ht
      clear ht
      by_cases hlt : k < n
      · obtain ⟨b, off, rfl, hbb, hc⟩ := h.2 (by omega)
        obtain ⟨b', off', rfl, hbb', hc'⟩ := h'.2 (by omega)
        have hcx : w.cell? ⟨b, off + k, none⟩ = some (.int .i64 (xs.getD k 0)) := hc k hlt
        have hcy : w.cell? ⟨b', off' + k, none⟩ = some (.int .i64 (ys.getD k 0)) := hc' k hlt
        have HE := Lib.hid (eq_step xs ys k n hx.out hy.out hlt HT.out)
        have HN := Lib.hid (eq_not xs ys k)
        clear hc hc'
        generalize xs.getD k 0 = x at *
        generalize ys.getD k 0 = y at *
        by_cases hxy : x = y
        · subst hxy
          have HE2 := Lib.hid (HE.out rfl)
          clear HE HN
          have hb : (x != x) = false := by simp
          go_wp2
          go_quiet (fail)
          go_wp2
          go_roundw
          case rel => exact ⟨k + 1, by omega, by go_num, HE2.out, _, rfl⟩
          case measure => simp [intOf]; omega
        · have HN2 := Lib.hid (HN.out hxy)
          clear HE HN
          have hb : (x != y) = true := by simp [hxy]
          go_wp2
          go_quiet (fail)
          go_wp2
          go_ret
          exact ⟨by rw [HN2.out]; rfl, _, World.drewN_drewN _ _ _⟩
      · go_wp2
        go_ret
        have hkn : k = n := by omega
        subst hkn
        have e := HT.out
        rw [List.take_of_length_le (Nat.le_of_eq hx.out), List.take_of_length_le (Nat.le_of_eq hy.out)] at e
        subst e
        exact ⟨by simp, _, rfl⟩
  · have hd : ((n : Int) != (n' : Int)) = true := by simp; omega
    go_enter Try.func10, Try.ntmps10
    go_wp2
    go_ret
    refine ⟨?_, 0, rfl⟩
    have : (xs == ys) = false := by
      rw [beq_eq_false_iff_ne]; rintro rfl; exact hne (hx.out.symm.trans hy.out)
    rw [this]; rfl

/-- It answers a new row and a number; the cursor goes on; nothing else has turned. -/
def DrawTwo (g B : Nat) (w : World) (e : Ending) (w' : World) : Prop :=
  ∃ (h n c : Nat) (ys : List Int) (x : Int), n ≤ 600 ∧ e = .returned (.tuple #[.slice (some ⟨h, 0, none⟩) n c, .int .i64 x]) ∧ OwV 2 1 w' w.heap.size w'.heap.size h n c (iv ys) ∧ Cur w' g B ∧ w.grownBy w' (some g)

set_option maxHeartbeats 1000000 in
theorem drawAt_any (g B : Nat) (w : World) (hc : Cur w g B) :
    Calls Try.prog 19 #[.pointer (some ⟨g, 0, none⟩)] w (DrawTwo g B w) := by
  have hgl := hc.lt
  go_enter Try.func19, Try.ntmps19
  go_wp2_with fail
  refine (drawAny_any g B _ hc).mono ?_
  rintro e w1 ⟨h, n, c, ys, _, hn, hnc, rfl, o1, hc1, hg1⟩
  go_wp2_with fail
  refine (from_any g B (-1) _ _ hc1 (by omega) (by omega) (by omega)).mono ?_
  rintro e w2 ⟨x, _, rfl, hc2, hg2⟩
  go_wp2_with fail
  go_ret2
  exact ⟨h, n, c, ys, x, hn, rfl, o1.draw hg2 hgl hg2.size, hc2, grown_trans hg1 hg2⟩

/-- It answers a slice that reads; nothing that was there has turned. -/
def SomeRow (w : World) (e : Ending) (w' : World) : Prop :=
  ∃ (A : Option Addr) (n c : Nat) (ys : List Int), n ≤ 600 ∧ e = .returned (.slice A n c) ∧ Rd w' w'.heap.size A n ys ∧ Below w.heap.size w w'
def SomeRowInt (w : World) (e : Ending) (w' : World) : Prop :=
  ∃ (A : Option Addr) (n c : Nat) (ys : List Int) (x : Int), n ≤ 600 ∧ e = .returned (.tuple #[.slice A n c, .int .i64 x]) ∧ Rd w' w'.heap.size A n ys ∧ Below w.heap.size w w'
def SomeRowIntRow (w : World) (e : Ending) (w' : World) : Prop :=
  ∃ (A : Option Addr) (n c : Nat) (ys : List Int) (x : Int) (W : Option Addr) (nw cw : Nat) (ws : List Int), n ≤ 600 ∧ nw ≤ 600 ∧ e = .returned (.tuple #[.slice A n c, .int .i64 x, .slice W nw cw]) ∧ Rd w' w'.heap.size A n ys ∧ Rd w' w'.heap.size W nw ws ∧ Below w.heap.size w w'

theorem drawImageOk_any (A : Option Addr) (n c : Nat) (xs : List Int) (w : World) (hr : Rd8 w w.heap.size A n xs) (hn : n ≤ 4096) :
    Calls Try.prog 9 #[.slice A n c] w (SomeRow w) := by
  go_enter Try.func9, Try.ntmps9
  go_wp2_with fail
  refine (new_any A n c xs w hr hn).mono ?_
  rintro e w1 ⟨g, rfl, hc1, hb1⟩
  go_wp2_with fail
  refine (drawAny_any g _ w1 hc1).mono ?_
  rintro e w2 ⟨h, n2, c2, ys, _, hn2, _, rfl, o2, hc2, hg2⟩
  go_wp2_with fail
  go_ret
  exact ⟨_, _, _, ys, hn2, rfl, o2.toI.rd, hb1.trans (cur_under hc1 hb1.size hg2)⟩

theorem drawClustersIn_any (A : Option Addr) (n c : Nat) (xs : List Int) (w : World) (hr : Rd8 w w.heap.size A n xs) (hn : n ≤ 4096) :
    Calls Try.prog 8 #[.slice A n c] w (SomeRow w) := by
  go_enter Try.func8, Try.ntmps8
  go_wp2_with fail
  refine (new_any A n c xs w hr hn).mono ?_
  rintro e w1 ⟨g, rfl, hc1, hb1⟩
  go_wp2_with fail
  refine (drawAny_any g _ w1 hc1).mono ?_
  rintro e w2 ⟨h, n2, c2, ys, _, hn2, _, rfl, o2, hc2, hg2⟩
  go_wp2_with fail
  go_ret
  exact ⟨_, _, _, ys, hn2, rfl, o2.toI.rd, hb1.trans (cur_under hc1 hb1.size hg2)⟩

theorem drawClusterAt_any (A : Option Addr) (n c : Nat) (xs : List Int) (w : World) (hr : Rd8 w w.heap.size A n xs) (hn : n ≤ 4096) :
    Calls Try.prog 7 #[.slice A n c] w (SomeRowInt w) := by
  go_enter Try.func7, Try.ntmps7
  go_wp2_with fail
  refine (new_any A n c xs w hr hn).mono ?_
  rintro e w1 ⟨g, rfl, hc1, hb1⟩
  go_wp2_with fail
  refine (drawAt_any g _ w1 hc1).mono ?_
  rintro e w2 ⟨h, n2, c2, ys, x, hn2, rfl, o2, hc2, hg2⟩
  go_wp2_with fail
  go_ret2
  exact ⟨_, _, _, ys, x, hn2, rfl, o2.toI.rd, hb1.trans (cur_under hc1 hb1.size hg2)⟩

set_option maxHeartbeats 2000000 in
theorem drawWithCluster_any (A : Option Addr) (n c : Nat) (xs : List Int) (w : World) (hr : Rd8 w w.heap.size A n xs) (hn : n ≤ 4096) :
    Calls Try.prog 5 #[.slice A n c] w (SomeRowIntRow w) := by
  go_enter Try.func5, Try.ntmps5
  go_wp2_with fail
  refine (new_any A n c xs w hr hn).mono ?_
  rintro e w1 ⟨g, rfl, hc1, hb1⟩
  have hgl := hc1.lt
  go_wp2_with fail
  refine (drawAt_any g _ w1 hc1).mono ?_
  rintro e w2 ⟨h, n2, c2, ys, x, hn2, rfl, o2, hc2, hg2⟩
  have s2 := hg2.size
  go_wp2_with fail
  refine (drawWords_any g _ 8 _ hc2 (by omega)).mono ?_
  rintro e w3 ⟨h3, n3, c3, vs, _, hn3, _, rfl, o3, hc3, hg3⟩
  have G3 := grown_trans hg2 hg3
  have p3 := o2.draw hg3 hgl (Nat.le_refl _)
  clear o2 hg3
  go_wp2_with fail
  refine (once_any g _ 8 _ hc3).mono ?_
  rintro e w4 ⟨b4, rfl, hc4, hg4⟩
  have G4 := grown_trans G3 hg4
  have p4 := p3.draw hg4 hgl (Nat.le_refl _)
  have o4 := o3.draw hg4 (by omega) hg4.size
  clear G3 p3 o3 hg4 hc3
  cases b4
  case' true =>
    go_wp2_with fail
    refine (below_any g _ 10 _ hc4).mono ?_
    rintro e w5 ⟨k, hk, rfl, hc5, hg5⟩
    obtain ⟨k0, k1⟩ := hk.lt (by omega)
    obtain ⟨j, rfl⟩ : ∃ j : Nat, k = j := ⟨k.toNat, by omega⟩
    have G5 := grown_trans G4 hg5
    have p5 := p4.draw hg5 hgl (Nat.le_refl _)
    have s5 := (grown_trans (grown_refl w4 (some g)) hg5).size
    have s4 := G4.size
    have o4s := o4.lt
    have o4l := o4.low
    clear hk G4 p4 o4 hc4
    go_wp2_with fail
    refine (drawWords_any g _ j _ hc5 (by omega)).mono ?_
    rintro e w6 ⟨h6, n6, c6, us, _, hn6, _, rfl, o6, hc6, hg6⟩
    have G6 := grown_trans G5 hg6
    have p6 := p5.draw hg6 hgl (Nat.le_refl _)
    have v6 : OwV 2 1 w6 w2.heap.size w6.heap.size h6 n6 c6 (iv us) := o6.more (by omega) (Nat.le_refl _)
    clear G5 p5 hc5 o6 hg5 hg6
  case' false =>
    obtain ⟨n6, rfl⟩ : ∃ x, x = n3 := ⟨_, rfl⟩
    obtain ⟨h6, rfl⟩ : ∃ x, x = h3 := ⟨_, rfl⟩
    obtain ⟨c6, rfl⟩ : ∃ x, x = c3 := ⟨_, rfl⟩
    obtain ⟨us, rfl⟩ : ∃ x, x = vs := ⟨_, rfl⟩
    have hn6 := hn3
    have hc6 := hc4
    have G6 := G4
    have p6 := p4
    have v6 := o4
    clear hc4 G4 p4 o4
  all_goals
    go_wp2_with fail
    refine (once_any g _ 12 _ hc6).mono ?_
    rintro e w7 ⟨b7, rfl, hc7, hg7⟩
    have G7 := grown_trans G6 hg7
    have p7 := p6.draw hg7 hgl (Nat.le_refl _)
    have v7 := v6.draw hg7 (by omega) hg7.size
    have s7 := G7.size
    have l7 := v7.low
    have t7 := v7.lt
    have b7' := hb1.trans (cur_under hc1 hb1.size G7)
    have s07 := hb1.size
    clear G6 p6 v6 hg7 hc6
    cases b7
    · go_wp2_with fail
      go_ret3
      exact ⟨_, _, _, ys, x, _, _, _, us, hn2, hn6, rfl, p7.toI.rd.more (by omega), v7.toI.rd, b7'⟩
    · by_cases h0 : 0 < n6
      · go_wp2_with fail
        refine (num_any g _ 65535 _ hc7 (by omega) (by omega)).mono ?_
        rintro e w8 ⟨z, _, rfl, hc8, hg8⟩
        have p8 := p7.draw hg8 hgl (Nat.le_refl _)
        have v8 := v7.draw hg8 (by omega) hg8.size
        have q8 := v8.toI.cell (j := 0) h0
        have f8 := v8.free 0
        generalize us.getD 0 0 = q at q8
        have s8 := hg8.size
        have hlow := v8.low
        have htop := p8.top
        have b8 := b7'.trans ((cur_under hc7 (by omega) hg8))
        obtain ⟨v9, g9⟩ := v8.set 0 (.int .i64 z)
        rw [iv_set] at v9
        have p9 := p8.grown g9 (fun k e => by cases e; omega)
        have V9 := Lib.hid (v9.toI.rd.more g9.size)
        have P9 := Lib.hid (p9.toI.rd)
        have B9 := Lib.hid (b8.grown g9 (by omega) (fun k e => by cases e; omega))
        have S9 := Lib.hid g9.size
        clear v9 p9 b8 v8 p8 g9 p7 v7 hc8 hg8
        go_wp2_with fail
        go_ret3
        exact ⟨_, _, _, ys, x, _, _, _, _, hn2, hn6, rfl, P9.out.more (Nat.le_trans (by omega) S9.out), V9.out, B9.out⟩
      · go_wp2_with fail
        go_ret3
        exact ⟨_, _, _, ys, x, _, _, _, us, hn2, hn6, rfl, p7.toI.rd.more (by omega), v7.toI.rd, b7'⟩

end Go.Proofs.Ytkodcmpiaokklaa
