/- A disk whose counts and flags are wrong (l11DrawMild), and the draws of Mild and Owned. The Draw functions of chapter 13. The Draw functions of chapter 17. -/
import Derived.Test.YtiokfhdkbpoadabGreatDoorH5
import Derived.Test.YtiokfhdkbpoadabGreatDoorG6
namespace Go.Proofs.YtiokfhdkbpoadabGreatDoor
open Go.RowKit

theorem put_head {xs : List Int} {i : Nat} {v : Int} (h : hasHead xs = true) (hi : 8 ≤ i) (hv : wordB v = true) : hasHead (xs.set i v) = true ∧ headOf (xs.set i v) = headOf xs := by
  have e : ∀ j, j < 8 → (xs.set i v).getD j 0 = xs.getD j 0 := fun j hj => by rw [getD_set, if_neg (by omega)]
  have hd : headOf (xs.set i v) = headOf xs := by
    unfold headOf
    rw [e 2 (by omega), e 3 (by omega), e 4 (by omega), e 5 (by omega), e 6 (by omega)]
  refine ⟨?_, hd⟩
  unfold hasHead at h ⊢
  rw [hd, e 0 (by omega), e 1 (by omega), e 7 (by omega), List.length_set]
  rw [Bool.and_eq_true] at h ⊢
  refine ⟨?_, h.2⟩
  have hi := h.1
  rw [imgB_iff] at hi ⊢
  refine ⟨fun x hx => ?_, by rw [List.length_set]; exact hi.2⟩
  rcases List.mem_or_eq_of_mem_set hx with h' | rfl
  · exact hi.1 x h'
  · exact hv

/-- The words of the first block are few. -/
structure MildI (ys : List Int) (β k : Nat) (zs : List Int) : Prop where
  head : hasHead zs = true
  len : zs.length = ys.length
  same : headOf zs = headOf ys
  few : ∀ j, j < 8 → 0 ≤ zs.getD (β * 8 + j) 0 ∧ zs.getD (β * 8 + j) 0 ≤ 1296 + 2 * (k : Int)

theorem MildI.start {ys : List Int} (h : soundB ys = true) (h0 : (blocksC (claimsC ys)).getD 0 0 ≠ 0) : MildI ys ((blocksC (claimsC ys)).getD 0 0).toNat 0 ys := by
  refine ⟨sound_head h, rfl, rfl, fun j hj => ?_⟩
  have e := sound_stored h
  unfold storedL countsL at e
  rw [if_pos (sound_head h), if_pos (sound_head h)] at e
  have e2 : (storedC ys (blocksC (claimsC ys))).getD j 0 = ys.getD (((blocksC (claimsC ys)).getD 0 0).toNat * 8 + j) 0 := by
    unfold storedC
    rw [List.getD_eq_getElem?_getD, List.getElem?_map, List.getElem?_range (by omega)]
    rw [Option.map_some, Option.getD_some, show j / 8 = 0 by omega, show j % 8 = j by omega, if_pos h0, cl_word_get _ _ _ hj]
  rw [← e2, e]
  obtain ⟨_, hb⟩ := cnt_take (claimsC ys) (claimsC ys).length
  rw [List.take_length] at hb
  have h1 := hb j
  have h2 := claims_length ys
  unfold countsC
  omega
theorem MildI.step {ys zs : List Int} {β k j : Nat} {x : Int} (h : MildI ys β k zs) (hb : 1 ≤ β) (hj : j < 8) (hk : k ≤ 3) (h0 : 0 ≤ x) (h1 : x ≤ 2) : MildI ys β (k + 1) (zs.set (β * 8 + j) (zs.getD (β * 8 + j) 0 + x)) := by
  obtain ⟨f0, f1⟩ := h.few j hj
  obtain ⟨a, b⟩ := put_head (i := β * 8 + j) (v := zs.getD (β * 8 + j) 0 + x) h.head (by omega) (by unfold wordB; rw [inB_true]; omega)
  refine ⟨a, by rw [List.length_set]; exact h.len, b.trans h.same, fun i hi => ?_⟩
  rw [getD_set]
  split
  · rename_i hh
    have : i = j := by omega
    subst this
    omega
  · have := h.few i hi
    omega
theorem MildI.more {ys zs : List Int} {β k k' : Nat} (h : MildI ys β k zs) (hk : k ≤ k') : MildI ys β k' zs := ⟨h.head, h.len, h.same, fun j hj => by have := h.few j hj; omega⟩
theorem many_same {xs zs : List Int} (h : zs.length = xs.length) : manyN zs = manyN xs := by unfold manyN; rw [h]

/-- There is a table. -/
theorem tables_some {ys zs : List Int} (h : soundB ys = true) (h1 : hasHead zs = true) (h2 : zs.length = ys.length) (h3 : headOf zs = headOf ys) : (tablesC (claimsC zs)).length ≠ 0 := by
  obtain ⟨t, _⟩ := sound_first h
  have t' : thereB zs (headOf zs).first = true := by
    unfold thereB at t ⊢
    rw [h3, many_same h2]
    exact t
  have hm := (c6_prefix zs _).subset ((c5_prefix zs _).subset (first_claim zs))
  have hs := (headB_all (hasHead_ok h1)).1.1
  have hg : goodB zs (headOf zs).size [⟨1, 0, 0, 0, 0, true⟩] ⟨2, 0, 0, 0, (headOf zs).first, false⟩ = true := by
    have t2 : 1 ≤ (headOf zs).first := by unfold thereB at t'; exact (inB_true.1 t').1
    unfold goodB
    rw [t']
    simp [barsB]
    omega
  have : (headOf zs).first ∈ tablesC (claimsC zs) := tables_in hm hg (by simp)
  exact fun e => by rw [List.eq_nil_of_length_eq_zero e] at this; cases this

/-- A row with its words, and a cursor. -/
def Mi (w0 : World) (g B h n c : Nat) (zs : List Int) (w : World) : Prop := OwV 2 1 w w0.heap.size w.heap.size h n c (iv zs) ∧ Cur w g B ∧ w0.grownBy w (some g)
theorem Mi.draw {w0 w w' : World} {g B h n c : Nat} {zs : List Int} (hi : Mi w0 g B h n c zs w) (hg : w.grownBy w' (some g)) (hc : Cur w' g B) (hlt : g < w0.heap.size) : Mi w0 g B h n c zs w' :=
  ⟨hi.1.draw hg hlt hg.size, hc, grown_trans hi.2.2 hg⟩
theorem Mi.put {w0 w : World} {g B h n c j : Nat} {zs : List Int} (x : Int) (hi : Mi w0 g B h n c zs w) (hlt : g < w0.heap.size) : Mi w0 g B h n c (zs.set j x) (w.setCell ⟨h, j, none⟩ (.int .i64 x)) := by
  obtain ⟨h5, h6, h7⟩ := hi
  obtain ⟨s1, s2⟩ := h5.set j (.int .i64 x)
  rw [iv_set] at s1
  have hlo := h5.low
  exact ⟨s1.more (Nat.le_refl _) s2.size, h6.grown s2 (fun k e => by cases e; omega), grown_row h7 s2 hlo⟩
theorem Mi.under {w0 w w' : World} {g B h n c : Nat} {zs : List Int} (hi : Mi w0 g B h n c zs w) (hb : Below w.heap.size w w') : Mi w0 g B h n c zs w' :=
  ⟨(hi.1.below hb (Nat.le_refl _)).more (Nat.le_refl _) hb.size, hi.2.1.grown (grown_under hb none) (by simp), grown_trans hi.2.2 (grown_under hb (some g))⟩
theorem Mi.drew {w0 w : World} {g B h n c : Nat} {zs : List Int} (hi : Mi w0 g B h n c zs w) : Mi w0 g B h n c zs w.drew := hi.under (Below.refl _ _).drew

theorem words_set {us : List Int} {n i : Nat} {x : Int} (h : us.length = n ∧ ∀ j, 0 ≤ us.getD j 0 ∧ us.getD j 0 ≤ 65535) (h0 : 0 ≤ x) (h1 : x ≤ 65535) : (us.set i x).length = n ∧ ∀ j, 0 ≤ (us.set i x).getD j 0 ∧ (us.set i x).getD j 0 ≤ 65535 := by
  refine ⟨by rw [List.length_set]; exact h.1, fun j => ?_⟩
  rw [getD_set]
  split
  · exact ⟨h0, h1⟩
  · exact h.2 j
/-- What the counts' loop keeps. -/
structure MR (ys : List Int) (bz : Int) (k : Nat) (zs : List Int) : Prop where
  head : hasHead zs = true
  len : zs.length = ys.length
  same : headOf zs = headOf ys
  mild : bz ≠ 0 → MildI ys bz.toNat k zs
theorem MR.more {ys zs : List Int} {bz : Int} {k k' : Nat} (h : MR ys bz k zs) (hk : k ≤ k') : MR ys bz k' zs := ⟨h.head, h.len, h.same, fun h0 => (h.mild h0).more hk⟩
theorem MR.step {ys zs : List Int} {b k j : Nat} {x : Int} (h : MR ys (b : Int) k zs) (hb : 1 ≤ b) (hj : j < 8) (hk : k ≤ 3) (h0 : 0 ≤ x) (h1 : x ≤ 2) : MR ys (b : Int) (k + 1) (zs.set (b * 8 + j) (zs.getD (b * 8 + j) 0 + x)) := by
  have m := (h.mild (by omega)).step (by simp; omega) hj hk h0 h1
  rw [Int.toNat_natCast] at m
  exact ⟨m.head, m.len, m.same, fun _ => by rw [Int.toNat_natCast]; exact m⟩

/-- .. and the blocks' first word. -/
def MiB (w0 : World) (g B h n c gb : Nat) (bz : Int) (zs : List Int) (w : World) : Prop := Mi w0 g B h n c zs w ∧ w.cell? ⟨gb, 0, none⟩ = some (.int .i64 bz) ∧ gb < w.heap.size

theorem Mi.row {w0 w : World} {g B h n c : Nat} {zs : List Int} (hi : Mi w0 g B h n c zs w) (hn : n ≤ 600) (hc : n ≤ c) : DrawRow g B w0 (fun _ => True) (.returned (.slice (some ⟨h, 0, none⟩) n c)) w :=
  ⟨h, n, c, zs, trivial, hn, hc, rfl, hi.1, hi.2.1, hi.2.2⟩

/-- Zeros behind the row, until it is long. -/
def Grow0 (w0 : World) (g B : Nat) (v : Value) (w : World) : Prop := ∃ (h n c : Nat) (ys : List Int), n ≤ 600 ∧ n ≤ c ∧ v = .slice (some ⟨h, 0, none⟩) n c ∧ Mi w0 g B h n c ys w

/-- A row, a number, a row of words. -/
def SomeWr (w : World) (e : Ending) (w' : World) : Prop :=
  ∃ (A : Option Addr) (n c : Nat) (ys : List Int) (x : Int) (W : Option Addr) (nw cw : Nat) (ws : List Int), (n ≤ 600 ∧ n ≤ c) ∧ (nw ≤ 600 ∧ nw ≤ cw) ∧ e = .returned (.tuple #[.slice A n c, .int .i64 x, .slice W nw cw]) ∧ Rd w' w'.heap.size A n ys ∧ Rd w' w'.heap.size W nw ws ∧ Below w.heap.size w w'

set_option maxRecDepth 100000 in
set_option maxHeartbeats 2000000 in
theorem drawWritten_any (A : Option Addr) (n c : Nat) (xs : List Int) (w : World) (hr : Rd8 w w.heap.size A n xs) (hn : n ≤ 4096) :
    Calls Tryz.prog 5 #[.slice A n c] w (SomeWr w) := by
  go_enter Tryz.func5, Tryz.ntmps5
  go_wp2_with fail
  refine (new_any A n c xs w hr hn).mono ?_
  rintro e w1 ⟨g, rfl, hc1, hb1⟩
  have hgl := hc1.lt
  go_wp2_with fail
  refine (draw17_any g _ w1 hc1).mono ?_
  rintro e w2 ⟨h, n2, c2, ys, _, hn2, hnc2, rfl, o2, hc2, hg2⟩
  have m2 : Mi w1 g _ h n2 c2 ys w2 := ⟨o2, hc2, hg2⟩
  clear o2 hc2 hg2
  go_wp2_with fail
  refine (once_any g _ 8 w2 m2.2.1).mono ?_
  rintro e w3 ⟨b3, rfl, hc3, hg3⟩
  have m3 := m2.draw hg3 hc3 hgl
  clear m2 hc3 hg3
  cases b3
  case' true =>
    go_wp2_with fail
    refine (drawAny_any g _ w3 m3.2.1).mono ?_
    rintro e w4 ⟨h, n2, c2, ys, _, hn2, hnc2, rfl, o4, hc4, hg4⟩
    have m4 : Mi w1 g _ h n2 c2 ys w4 := ⟨o4.more m3.2.2.size (Nat.le_refl _), hc4, grown_trans m3.2.2 hg4⟩
    clear o4 hc4 hg4 m3
  case' false =>
    obtain ⟨w4, rfl⟩ : ∃ w4, w4 = w3 := ⟨_, rfl⟩
    have m4 := m3
    clear m3
  all_goals
    go_wp2_with fail
    refine (from_any g _ (-1) 20 w4 m4.2.1 (by omega) (by omega) (by omega)).mono ?_
    rintro e w5 ⟨x, _, rfl, hc5, hg5⟩
    have m5 := m4.draw hg5 hc5 hgl
    clear m4 hc5 hg5
    go_wp2_with fail
    refine (drawWords_any g _ 8 w5 m5.2.1 (by omega)).mono ?_
    rintro e w6 ⟨h6, n6, c6, vs, _, hn6, hnc6, rfl, o6, hc6, hg6⟩
    have s5 := m5.2.2.size
    have m6 := m5.draw hg6 hc6 hgl
    have k6 : Mi w1 g _ h6 n6 c6 vs w6 := ⟨o6.more s5 (Nat.le_refl _), hc6, m6.2.2⟩
    clear m5 hc6 hg6 o6
    go_wp2_with fail
    refine (once_any g _ 10 w6 m6.2.1).mono ?_
    rintro e w7 ⟨b7, rfl, hc7, hg7⟩
    have m7 := m6.draw hg7 hc7 hgl
    have k7 := k6.draw hg7 hc7 hgl
    clear m6 k6 hc7 hg7
    cases b7
    · go_wp2_with fail
      go_ret3
      exact ⟨_, _, _, ys, x, _, _, _, vs, ⟨hn2, hnc2⟩, ⟨hn6, hnc6⟩, rfl, m7.1.toI.rd, k7.1.toI.rd, hb1.trans (cur_under hc1 hb1.size m7.2.2)⟩
    · go_wp2_with fail
      refine (below_any g _ 10 w7 m7.2.1).mono ?_
      rintro e w8 ⟨k, hk, rfl, hc8, hg8⟩
      obtain ⟨k0, k1⟩ := hk.lt (by omega)
      obtain ⟨j, rfl⟩ : ∃ j : Nat, k = j := ⟨k.toNat, by omega⟩
      have m8 := m7.draw hg8 hc8 hgl
      clear m7 k7 hk hc8 hg8
      go_wp2_with fail
      refine (drawWords_any g _ j w8 m8.2.1 (by omega)).mono ?_
      rintro e w9 ⟨h9, n9, c9, us, _, hn9, hnc9, rfl, o9, hc9, hg9⟩
      have s8 := m8.2.2.size
      have m9 := m8.draw hg9 hc9 hgl
      have k9 : Mi w1 g _ h9 n9 c9 us w9 := ⟨o9.more s8 (Nat.le_refl _), hc9, m9.2.2⟩
      clear m8 hc9 hg9 o9
      go_wp2_with fail
      go_ret3
      exact ⟨_, _, _, ys, x, _, _, _, us, ⟨hn2, hnc2⟩, ⟨hn9, hnc9⟩, rfl, m9.1.toI.rd, k9.1.toI.rd, hb1.trans (cur_under hc1 hb1.size m9.2.2)⟩

set_option maxRecDepth 100000 in
set_option maxHeartbeats 2000000 in
theorem drawPictured_any (A : Option Addr) (n c : Nat) (xs : List Int) (w : World) (hr : Rd8 w w.heap.size A n xs) (hn : n ≤ 4096) :
    Calls Tryz.prog 7 #[.slice A n c] w (SomeRowInt w) := by
  go_enter Tryz.func7, Tryz.ntmps7
  go_wp2_with fail
  refine (new_any A n c xs w hr hn).mono ?_
  rintro e w1 ⟨g, rfl, hc1, hb1⟩
  have hgl := hc1.lt
  go_wp2_with fail
  refine (draw17_any g _ w1 hc1).mono ?_
  rintro e w2 ⟨h, n2, c2, ys, _, hn2, hnc2, rfl, o2, hc2, hg2⟩
  have m2 : Mi w1 g _ h n2 c2 ys w2 := ⟨o2, hc2, hg2⟩
  clear o2 hc2 hg2
  go_wp2_with fail
  refine (once_any g _ 8 w2 m2.2.1).mono ?_
  rintro e w3 ⟨b3, rfl, hc3, hg3⟩
  have m3 := m2.draw hg3 hc3 hgl
  clear m2 hc3 hg3
  cases b3
  case' true =>
    go_wp2_with fail
    refine (drawAny_any g _ w3 m3.2.1).mono ?_
    rintro e w4 ⟨h, n2, c2, ys, _, hn2, hnc2, rfl, o4, hc4, hg4⟩
    have m4 : Mi w1 g _ h n2 c2 ys w4 := ⟨o4.more m3.2.2.size (Nat.le_refl _), hc4, grown_trans m3.2.2 hg4⟩
    clear o4 hc4 hg4 m3
  case' false =>
    obtain ⟨w4, rfl⟩ : ∃ w4, w4 = w3 := ⟨_, rfl⟩
    have m4 := m3
    clear m3
  all_goals
    go_wp2_with fail
    refine (once_any g _ 8 w4 m4.2.1).mono ?_
    rintro e w5 ⟨b5, rfl, hc5, hg5⟩
    have m5 := m4.draw hg5 hc5 hgl
    clear m4 hc5 hg5
    cases b5
    · go_wp2_with fail
      refine (below_any g _ 90 w5 m5.2.1).mono ?_
      rintro e w6 ⟨x, hx, rfl, hc6, hg6⟩
      obtain ⟨x0, x1⟩ := hx.lt (by omega)
      have m6 := m5.draw hg6 hc6 hgl
      clear m5 hc6 hg6 hx
      go_wp2_with fail
      go_ret2
      exact ⟨_, _, _, ys, _, ⟨hn2, hnc2⟩, rfl, m6.1.toI.rd, hb1.trans (cur_under hc1 hb1.size m6.2.2)⟩
    · go_wp2_with fail
      refine (num_any g _ 65535 w5 m5.2.1 (by omega) (by omega)).mono ?_
      rintro e w6 ⟨x, _, rfl, hc6, hg6⟩
      have m6 := m5.draw hg6 hc6 hgl
      clear m5 hc6 hg6
      go_wp2_with fail
      go_ret2
      exact ⟨_, _, _, ys, _, ⟨hn2, hnc2⟩, rfl, m6.1.toI.rd, hb1.trans (cur_under hc1 hb1.size m6.2.2)⟩

end Go.Proofs.YtiokfhdkbpoadabGreatDoor
