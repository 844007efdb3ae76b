/- What the laws' helpers do with rows of claims. -/
import Derived.Test.YtkgmopeocmppfaaOrw
import Derived.Test.YtkgmopeocmppfaaCt
namespace Go.Proofs.Ytkgmopeocmppfaa
open Go.RowKit

theorem mark_any_cell (cs : List Value) (f : Nat → Value) (m : Nat) (hm : m < cs.length) : ((List.range m).map f ++ cs.drop m).set m (f m) = (List.range (m + 1)).map f ++ cs.drop (m + 1) := by
  rw [List.set_append, if_neg (by simp), List.length_map, List.length_range, Nat.sub_self, List.range_succ, List.map_append, List.drop_eq_getElem_cons hm, List.set_cons_zero, List.append_assoc]
  rfl
theorem range_map_get (f : Nat → Value) (n j : Nat) (h : j < n) : ((List.range n).map f)[j]? = some (f j) := by simp [h]

theorem RdV.cm {w : World} {B n b off : Nat} {l : List Cm} (h : RdV 6 w B (some ⟨b, off, none⟩) n (l.flatMap cmV)) {k : Nat} (hk : k < l.length) (hn : l.length = n) :
    w.cell? ⟨b, off + k * 6, none⟩ = some (.int .i64 (l.getD k cm0).kind) ∧ w.cell? ⟨b, off + k * 6 + 1, none⟩ = some (.int .i64 (l.getD k cm0).frm) ∧ w.cell? ⟨b, off + k * 6 + 2, none⟩ = some (.int .i64 (l.getD k cm0).slot) ∧ w.cell? ⟨b, off + k * 6 + 3, none⟩ = some (.int .i64 (l.getD k cm0).place) ∧ w.cell? ⟨b, off + k * 6 + 4, none⟩ = some (.int .i64 (l.getD k cm0).target) ∧ w.cell? ⟨b, off + k * 6 + 5, none⟩ = some (.bool (l.getD k cm0).good) ∧ b < B := by
  obtain ⟨b', off', e, hb, hc⟩ := h.2 (by omega)
  injection e with e
  injection e with e1 e2
  subst e1; subst e2
  refine ⟨?_, ?_, ?_, ?_, ?_, ?_, hb⟩
  · have := hc (k * 6) (by omega)
    have e := cm_cell hk (show 0 < 6 by omega)
    rw [Nat.add_zero] at e
    rw [this, e]
    rfl
  · have := hc (k * 6 + 1) (by omega)
    rw [show off + k * 6 + 1 = off + (k * 6 + 1) by omega, this, cm_cell hk (by omega)]
    rfl
  · have := hc (k * 6 + 2) (by omega)
    rw [show off + k * 6 + 2 = off + (k * 6 + 2) by omega, this, cm_cell hk (by omega)]
    rfl
  · have := hc (k * 6 + 3) (by omega)
    rw [show off + k * 6 + 3 = off + (k * 6 + 3) by omega, this, cm_cell hk (by omega)]
    rfl
  · have := hc (k * 6 + 4) (by omega)
    rw [show off + k * 6 + 4 = off + (k * 6 + 4) by omega, this, cm_cell hk (by omega)]
    rfl
  · have := hc (k * 6 + 5) (by omega)
    rw [show off + k * 6 + 5 = off + (k * 6 + 5) by omega, this, cm_cell hk (by omega)]
    rfl

set_option maxHeartbeats 1000000 in
theorem eqClaim_any (x0 : Int) (x1 : Int) (x2 : Int) (x3 : Int) (x4 : Int) (x5 : Bool) (w : World) :
    Calls Try.prog 23 #[.agg #[.int .i64 x0, .int .i64 x1, .int .i64 x2, .int .i64 x3, .int .i64 x4, .bool x5], .agg #[.int .i64 x0, .int .i64 x1, .int .i64 x2, .int .i64 x3, .int .i64 x4, .bool x5]] w fun e w' => e = .returned (.bool true) ∧ Below w.heap.size w w' := by
  have q0 : (x0 != x0) = false := by simp
  have q1 : (x1 != x1) = false := by simp
  have q2 : (x2 != x2) = false := by simp
  have q3 : (x3 != x3) = false := by simp
  have q4 : (x4 != x4) = false := by simp
  have q5 : (x5 != x5) = false := by simp
  go_enter Try.func23, Try.ntmps23
  go_wp2_with fail
  go_ret
  exact ⟨rfl, ((Below.refl _ _).alloc (Nat.le_refl _) _).alloc (by simp) _⟩

set_option maxHeartbeats 2000000 in
theorem eqClaimS_any (A A' : Option Addr) (n c c' : Nat) (l : List Cm) (w : World) (h : RdV 6 w w.heap.size A n (l.flatMap cmV)) (h' : RdV 6 w w.heap.size A' n (l.flatMap cmV)) (hl : l.length = n) (hn : n ≤ 100000) :
    Calls Try.prog 13 #[.slice A n c, .slice A' n c'] w fun e w' => e = .returned (.bool true) ∧ Below w.heap.size w w' := by
  have hd : ((n : Int) != (n : Int)) = false := by simp
  go_enter Try.func13, Try.ntmps13
  go_wp2_with fail
  go_loopw [5] (fun i wr => ∃ k : Nat, k ≤ n ∧ i = .int .i64 k ∧ Below w.heap.size w wr) (fun i _ => n - (intOf i).toNat)
  case atStart => exact ⟨0, Nat.zero_le _, rfl, Below.refl _ _⟩
  case round =>
    obtain ⟨k, hk, rfl, hb⟩ := hrel
    by_cases hlt : k < n
    · obtain ⟨b, off, rfl, hbb, _⟩ := h.2 (by omega)
      obtain ⟨b', off', rfl, hbb', _⟩ := h'.2 (by omega)
      obtain ⟨p0, p1, p2, p3, p4, p5, _⟩ := (h.below hb).cm (show k < l.length by omega) hl
      obtain ⟨q0, q1, q2, q3, q4, q5, _⟩ := (h'.below hb).cm (show k < l.length by omega) hl
      generalize (l.getD k cm0).kind = x0 at *
      generalize (l.getD k cm0).frm = x1 at *
      generalize (l.getD k cm0).slot = x2 at *
      generalize (l.getD k cm0).place = x3 at *
      generalize (l.getD k cm0).target = x4 at *
      generalize (l.getD k cm0).good = x5 at *
      have n1 : (0 : Int) ≤ (k : Int) := by omega
      have n2 : (k : Int) < (n : Int) := by omega
      have hbz := hb.size
      have z1 : b < wr.heap.size := by omega
      have z2 : b' < wr.heap.size := by omega
      clear h h' hl
      go_wp2_with fail
      go_region_held3 (fun w' => w'.cell? ⟨b, off + k * 6, none⟩ = some (.int .i64 x0) ∧ w'.cell? ⟨b, off + k * 6 + 1, none⟩ = some (.int .i64 x1) ∧ w'.cell? ⟨b, off + k * 6 + 2, none⟩ = some (.int .i64 x2) ∧ w'.cell? ⟨b, off + k * 6 + 3, none⟩ = some (.int .i64 x3) ∧ w'.cell? ⟨b, off + k * 6 + 4, none⟩ = some (.int .i64 x4) ∧ w'.cell? ⟨b, off + k * 6 + 5, none⟩ = some (.bool x5) ∧ w'.cell? ⟨b', off' + k * 6, none⟩ = some (.int .i64 x0) ∧ w'.cell? ⟨b', off' + k * 6 + 1, none⟩ = some (.int .i64 x1) ∧ w'.cell? ⟨b', off' + k * 6 + 2, none⟩ = some (.int .i64 x2) ∧ w'.cell? ⟨b', off' + k * 6 + 3, none⟩ = some (.int .i64 x3) ∧ w'.cell? ⟨b', off' + k * 6 + 4, none⟩ = some (.int .i64 x4) ∧ w'.cell? ⟨b', off' + k * 6 + 5, none⟩ = some (.bool x5))
        (first
          | go_keep
          | (go_split_ands
             exact ⟨(bE.cell (p := ⟨b, off + k * 6, none⟩) z1).trans (by assumption), (bE.cell (p := ⟨b, off + k * 6 + 1, none⟩) z1).trans (by assumption), (bE.cell (p := ⟨b, off + k * 6 + 2, none⟩) z1).trans (by assumption), (bE.cell (p := ⟨b, off + k * 6 + 3, none⟩) z1).trans (by assumption), (bE.cell (p := ⟨b, off + k * 6 + 4, none⟩) z1).trans (by assumption), (bE.cell (p := ⟨b, off + k * 6 + 5, none⟩) z1).trans (by assumption), (bE.cell (p := ⟨b', off' + k * 6, none⟩) z2).trans (by assumption), (bE.cell (p := ⟨b', off' + k * 6 + 1, none⟩) z2).trans (by assumption), (bE.cell (p := ⟨b', off' + k * 6 + 2, none⟩) z2).trans (by assumption), (bE.cell (p := ⟨b', off' + k * 6 + 3, none⟩) z2).trans (by assumption), (bE.cell (p := ⟨b', off' + k * 6 + 4, none⟩) z2).trans (by assumption), (bE.cell (p := ⟨b', off' + k * 6 + 5, none⟩) z2).trans (by assumption)⟩))
        ((go_at_call 23; refine (eqClaim_any x0 x1 x2 x3 x4 x5 wr.drew).mono ?_; rintro e w2 ⟨rfl, bE⟩))
      go_wp2_with fail
      go_roundw
      case rel => exact ⟨k + 1, by omega, by go_num, below_more hb.drew bE hb.size⟩
      case measure => simp [intOf]; omega
    · go_wp2_with fail
      go_ret
      exact ⟨rfl, hb⟩

/-- What the mark leaves at cell m. -/
def mkClaim (q : Int) (m : Nat) : Value := if m % 6 = 5 then .bool ((q + (m : Int)) % 3 == 0) else .int .i64 (q + (m : Int))

set_option maxHeartbeats 4000000 in
theorem markClaimS_any (A : Option Addr) (n c lo hi : Nat) (cs : List Value) (q : Int) (w : World) (h : OwR 37 6 w lo hi A n c cs) (hn : n ≤ 100000) (hq : 0 ≤ q) (hq2 : q ≤ 100000000) :
    Calls Try.prog 14 #[.slice A n c, .int .i64 q] w fun e w' => e = .returned (.int .i64 (q + ((n * 6 : Nat) : Int))) ∧ OwR 37 6 w' lo hi A n c ((List.range (n * 6)).map (mkClaim q)) ∧ w.grownBy w' (Value.ownBlock (.slice A n c)) := by
  have hx := Lib.hid h.len
  go_enter Try.func14, Try.ntmps14
  go_wp2_with fail
  go_loopw [1, 5] (fun u i wr => ∃ k : Nat, k ≤ n ∧ i = .int .i64 k ∧ u = .int .i64 (q + ((k * 6 : Nat) : Int)) ∧ OwR 37 6 wr lo hi A n c ((List.range (k * 6)).map (mkClaim q) ++ cs.drop (k * 6)) ∧ w.grownBy wr (Value.ownBlock (.slice A n c))) (fun _ i _ => n - (intOf i).toNat)
  case atStart => exact ⟨0, Nat.zero_le _, rfl, by simp, by simpa using h, grown_refl _ _⟩
  case round =>
    obtain ⟨k, hk, rfl, rfl, ho, hg⟩ := hrel
    have HG := Lib.hid hg
    clear hg
    by_cases hlt : k < n
    · rcases ho.form with ⟨_, h0, _⟩ | ⟨g, rfl, h1, h2, h3, h4⟩
      · omega
      · have hl : ((List.range (k * 6)).map (mkClaim q) ++ cs.drop (k * 6)).length = n * 6 := ho.len
        have t0 := ho.set (k * 6) (mkClaim q (k * 6))
        rw [mark_any_cell cs (mkClaim q) (k * 6) (by have := hx.out; omega)] at t0
        have t1 := t0.1.set (k * 6 + 1) (mkClaim q (k * 6 + 1))
        rw [mark_any_cell cs (mkClaim q) (k * 6 + 1) (by have := hx.out; omega)] at t1
        have t2 := t1.1.set (k * 6 + 2) (mkClaim q (k * 6 + 2))
        rw [mark_any_cell cs (mkClaim q) (k * 6 + 2) (by have := hx.out; omega)] at t2
        have t3 := t2.1.set (k * 6 + 3) (mkClaim q (k * 6 + 3))
        rw [mark_any_cell cs (mkClaim q) (k * 6 + 3) (by have := hx.out; omega)] at t3
        have t4 := t3.1.set (k * 6 + 4) (mkClaim q (k * 6 + 4))
        rw [mark_any_cell cs (mkClaim q) (k * 6 + 4) (by have := hx.out; omega)] at t4
        have t5 := t4.1.set (k * 6 + 5) (mkClaim q (k * 6 + 5))
        rw [mark_any_cell cs (mkClaim q) (k * 6 + 5) (by have := hx.out; omega)] at t5
        have e0 : mkClaim q (k * 6) = .int .i64 ((q + ((k * 6 : Nat) : Int))) := by unfold mkClaim; rw [if_neg (by omega)]; try (congr 1; omega)
        have e1 : mkClaim q (k * 6 + 1) = .int .i64 ((q + ((k * 6 : Nat) : Int)) + 1) := by unfold mkClaim; rw [if_neg (by omega)]; try (congr 1; omega)
        have e2 : mkClaim q (k * 6 + 2) = .int .i64 ((q + ((k * 6 : Nat) : Int)) + 1 + 1) := by unfold mkClaim; rw [if_neg (by omega)]; try (congr 1; omega)
        have e3 : mkClaim q (k * 6 + 3) = .int .i64 ((q + ((k * 6 : Nat) : Int)) + 1 + 1 + 1) := by unfold mkClaim; rw [if_neg (by omega)]; try (congr 1; omega)
        have e4 : mkClaim q (k * 6 + 4) = .int .i64 ((q + ((k * 6 : Nat) : Int)) + 1 + 1 + 1 + 1) := by unfold mkClaim; rw [if_neg (by omega)]; try (congr 1; omega)
        have e5 : mkClaim q (k * 6 + 5) = .bool (((q + ((k * 6 : Nat) : Int)) + 1 + 1 + 1 + 1 + 1) % 3 == 0) := by unfold mkClaim; rw [if_pos (by omega)]; congr 3 <;> omega
        obtain ⟨a0, ha0⟩ : ∃ a, ((List.range (k * 6)).map (mkClaim q) ++ cs.drop (k * 6))[k * 6]? = some a := ⟨_, List.getElem?_eq_getElem (by omega)⟩
        have hc0 := (ho.cell (j := k * 6) (by omega)).trans ha0
        have hf0 := ho.free (k * 6)
        obtain ⟨a1, ha1⟩ : ∃ a, ((List.range (k * 6)).map (mkClaim q) ++ cs.drop (k * 6))[k * 6 + 1]? = some a := ⟨_, List.getElem?_eq_getElem (by omega)⟩
        have hc1 := (ho.cell (j := k * 6 + 1) (by omega)).trans ha1
        have hf1 := ho.free (k * 6 + 1)
        obtain ⟨a2, ha2⟩ : ∃ a, ((List.range (k * 6)).map (mkClaim q) ++ cs.drop (k * 6))[k * 6 + 2]? = some a := ⟨_, List.getElem?_eq_getElem (by omega)⟩
        have hc2 := (ho.cell (j := k * 6 + 2) (by omega)).trans ha2
        have hf2 := ho.free (k * 6 + 2)
        obtain ⟨a3, ha3⟩ : ∃ a, ((List.range (k * 6)).map (mkClaim q) ++ cs.drop (k * 6))[k * 6 + 3]? = some a := ⟨_, List.getElem?_eq_getElem (by omega)⟩
        have hc3 := (ho.cell (j := k * 6 + 3) (by omega)).trans ha3
        have hf3 := ho.free (k * 6 + 3)
        obtain ⟨a4, ha4⟩ : ∃ a, ((List.range (k * 6)).map (mkClaim q) ++ cs.drop (k * 6))[k * 6 + 4]? = some a := ⟨_, List.getElem?_eq_getElem (by omega)⟩
        have hc4 := (ho.cell (j := k * 6 + 4) (by omega)).trans ha4
        have hf4 := ho.free (k * 6 + 4)
        obtain ⟨a5, ha5⟩ : ∃ a, ((List.range (k * 6)).map (mkClaim q) ++ cs.drop (k * 6))[k * 6 + 5]? = some a := ⟨_, List.getElem?_eq_getElem (by omega)⟩
        have hc5 := (ho.cell (j := k * 6 + 5) (by omega)).trans ha5
        have hf5 := ho.free (k * 6 + 5)
        rw [e0, e1, e2, e3, e4, e5] at t5
        rw [e0] at t0
        rw [e0, e1] at t1
        rw [e0, e1, e2] at t2
        rw [e0, e1, e2, e3] at t3
        rw [e0, e1, e2, e3, e4] at t4
        have E6 := Lib.hid (show (q + ((k * 6 : Nat) : Int)) + 1 + 1 + 1 + 1 + 1 + 1 = q + (((k + 1) * 6 : Nat) : Int) by omega)
        have HS := Lib.hid t5.1
        have HT := Lib.hid ((grown_trans (grown_trans (grown_trans (grown_trans (grown_trans t0.2 t1.2) t2.2) t3.2) t4.2) t5.2))
        have b1 : 0 ≤ (q + ((k * 6 : Nat) : Int)) := by omega
        have b2 : (q + ((k * 6 : Nat) : Int)) ≤ 200000000 := by omega
        clear ho hl t0 e0 ha0 t1 e1 ha1 t2 e2 ha2 t3 e3 ha3 t4 e4 ha4 t5 e5 ha5
        generalize (q + ((k * 6 : Nat) : Int)) = u at *
        go_wp2_with fail
        go_roundw
        case rel =>
          refine ⟨k + 1, by omega, by go_num, by rw [E6.out], ?_, grown_trans HG.out HT.out⟩
          rw [show (k + 1) * 6 = k * 6 + 5 + 1 by omega]
          exact HS.out
        case measure => simp [intOf]; omega
    · go_wp2_with fail
      go_ret
      obtain rfl : k = n := by omega
      refine ⟨rfl, ?_, HG.out⟩
      have hd : cs.drop (k * 6) = [] := List.drop_of_length_le (Nat.le_of_eq hx.out)
      rw [hd, List.append_nil] at ho
      exact ho

set_option maxHeartbeats 2000000 in
theorem heldClaimS_any (A : Option Addr) (n c B : Nat) (q : Int) (w : World) (h : RdV 6 w B A n ((List.range (n * 6)).map (mkClaim q))) (hn : n ≤ 100000) (hq : 0 ≤ q) (hq2 : q ≤ 100000000) :
    Calls Try.prog 15 #[.slice A n c, .int .i64 q] w fun e w' => e = .returned (.int .i64 (q + ((n * 6 : Nat) : Int))) ∧ w = w' := by
  go_enter Try.func15, Try.ntmps15
  go_wp2_with fail
  go_loop [1, 5] (fun u i => ∃ k : Nat, k ≤ n ∧ i = .int .i64 k ∧ u = .int .i64 (q + ((k * 6 : Nat) : Int))) (fun _ i => n - (intOf i).toNat)
  case atStart => exact ⟨0, Nat.zero_le _, rfl, by simp⟩
  case round =>
    obtain ⟨k, hk, rfl, rfl⟩ := hrel
    by_cases hlt : k < n
    · obtain ⟨b, off, rfl, hbb, hc⟩ := h.2 (by omega)
      have e0 : mkClaim q (k * 6) = .int .i64 ((q + ((k * 6 : Nat) : Int))) := by unfold mkClaim; rw [if_neg (by omega)]; try (congr 1; omega)
      have hc0 := hc (k * 6) (by omega)
      rw [range_map_get _ _ _ (by omega), e0] at hc0
      have e1 : mkClaim q (k * 6 + 1) = .int .i64 ((q + ((k * 6 : Nat) : Int)) + 1) := by unfold mkClaim; rw [if_neg (by omega)]; try (congr 1; omega)
      have hc1 := hc (k * 6 + 1) (by omega)
      rw [range_map_get _ _ _ (by omega), e1] at hc1
      rw [← Nat.add_assoc] at hc1
      have e2 : mkClaim q (k * 6 + 2) = .int .i64 ((q + ((k * 6 : Nat) : Int)) + 1 + 1) := by unfold mkClaim; rw [if_neg (by omega)]; try (congr 1; omega)
      have hc2 := hc (k * 6 + 2) (by omega)
      rw [range_map_get _ _ _ (by omega), e2] at hc2
      rw [← Nat.add_assoc] at hc2
      have e3 : mkClaim q (k * 6 + 3) = .int .i64 ((q + ((k * 6 : Nat) : Int)) + 1 + 1 + 1) := by unfold mkClaim; rw [if_neg (by omega)]; try (congr 1; omega)
      have hc3 := hc (k * 6 + 3) (by omega)
      rw [range_map_get _ _ _ (by omega), e3] at hc3
      rw [← Nat.add_assoc] at hc3
      have e4 : mkClaim q (k * 6 + 4) = .int .i64 ((q + ((k * 6 : Nat) : Int)) + 1 + 1 + 1 + 1) := by unfold mkClaim; rw [if_neg (by omega)]; try (congr 1; omega)
      have hc4 := hc (k * 6 + 4) (by omega)
      rw [range_map_get _ _ _ (by omega), e4] at hc4
      rw [← Nat.add_assoc] at hc4
      have e5 : mkClaim q (k * 6 + 5) = .bool (((q + ((k * 6 : Nat) : Int)) + 1 + 1 + 1 + 1 + 1) % 3 == 0) := by unfold mkClaim; rw [if_pos (by omega)]; congr 3 <;> omega
      have hc5 := hc (k * 6 + 5) (by omega)
      rw [range_map_get _ _ _ (by omega), e5] at hc5
      rw [← Nat.add_assoc] at hc5
      have E6 := Lib.hid (show (q + ((k * 6 : Nat) : Int)) + 1 + 1 + 1 + 1 + 1 + 1 = q + (((k + 1) * 6 : Nat) : Int) by omega)
      have b1 : 0 ≤ (q + ((k * 6 : Nat) : Int)) := by omega
      have b2 : (q + ((k * 6 : Nat) : Int)) ≤ 200000000 := by omega
      clear hc e0 e1 e2 e3 e4 e5
      generalize (q + ((k * 6 : Nat) : Int)) = u at *
      have d0 : (u != u) = false := by simp
      have d1 : (u + 1 != u + 1) = false := by simp
      have d2 : (u + 1 + 1 != u + 1 + 1) = false := by simp
      have d3 : (u + 1 + 1 + 1 != u + 1 + 1 + 1) = false := by simp
      have d4 : (u + 1 + 1 + 1 + 1 != u + 1 + 1 + 1 + 1) = false := by simp
      have d5 : (((u + 1 + 1 + 1 + 1 + 1) % 3 == 0) != ((u + 1 + 1 + 1 + 1 + 1) % 3 == 0)) = false := by simp
      go_wp2_with fail
      go_round
      case rel => exact ⟨k + 1, by omega, by go_num, by rw [← E6.out]⟩
      case measure => simp [intOf]; omega
    · go_wp2_with fail
      go_ret
      obtain rfl : k = n := by omega
      exact ⟨rfl, rfl⟩

end Go.Proofs.Ytkgmopeocmppfaa
