/- What the laws' helpers do with rows of defects. The exact laws of chapter 11, walked, given what the program's own functions answer. -/
import Derived.Test.YtieknpkbmccimaaGreatDoorY5
import Derived.Test.YtieknpkbmccimaaGreatDoorDfc
import Derived.Test.YtieknpkbmccimaaGreatDoorH6
import Derived.Test.YtieknpkbmccimaaGreatDoorG3
namespace Go.Proofs.YtieknpkbmccimaaGreatDoor
open Go.RowKit

theorem dc_cell {l : List Dc} {k j : Nat} (hk : k < l.length) (hj : j < 3) : (l.flatMap dcV)[k * 3 + j]? = (dcV (l.getD k dc0))[j]? := by
  rw [flat_get dcV 3 (fun _ => rfl) l k j hk hj, List.getD_eq_getElem?_getD, List.getElem?_eq_getElem hk]; rfl

theorem RdV.dc {w : World} {B n b off : Nat} {l : List Dc} (h : RdV 3 w B (some ⟨b, off, none⟩) n (l.flatMap dcV)) {k : Nat} (hk : k < l.length) (hn : l.length = n) :
    w.cell? ⟨b, off + k * 3, none⟩ = some (.int .i64 (l.getD k dc0).kind) ∧ w.cell? ⟨b, off + k * 3 + 1, none⟩ = some (.int .i64 (l.getD k dc0).a) ∧ w.cell? ⟨b, off + k * 3 + 2, none⟩ = some (.int .i64 (l.getD k dc0).b) ∧ b < B := by
  obtain ⟨b', off', e, hb, hc⟩ := h.2 (by omega)
  injection e with e
  injection e with e1 e2
  subst e1; subst e2
  refine ⟨?_, ?_, ?_, hb⟩
  · have := hc (k * 3) (by omega)
    have e := dc_cell hk (show 0 < 3 by omega)
    rw [Nat.add_zero] at e
    rw [this, e]
    rfl
  · have := hc (k * 3 + 1) (by omega)
    rw [show off + k * 3 + 1 = off + (k * 3 + 1) by omega, this, dc_cell hk (by omega)]
    rfl
  · have := hc (k * 3 + 2) (by omega)
    rw [show off + k * 3 + 2 = off + (k * 3 + 2) by omega, this, dc_cell hk (by omega)]
    rfl

set_option maxHeartbeats 1000000 in
theorem eqDefect_any (x0 : Int) (x1 : Int) (x2 : Int) (w : World) :
    Calls Tryz.prog 22 #[.agg #[.int .i64 x0, .int .i64 x1, .int .i64 x2], .agg #[.int .i64 x0, .int .i64 x1, .int .i64 x2]] w fun e w' => e = .returned (.bool true) ∧ Below w.heap.size w w' := by
  have q0 : (x0 != x0) = false := by simp
  have q1 : (x1 != x1) = false := by simp
  have q2 : (x2 != x2) = false := by simp
  go_enter Tryz.func22, Tryz.ntmps22
  go_wp2_with fail
  go_ret
  exact ⟨rfl, ((Below.refl _ _).alloc (Nat.le_refl _) _).alloc (by simp) _⟩

set_option maxHeartbeats 2000000 in
theorem eqDefectS_any (A A' : Option Addr) (n c c' : Nat) (l : List Dc) (w : World) (h : RdV 3 w w.heap.size A n (l.flatMap dcV)) (h' : RdV 3 w w.heap.size A' n (l.flatMap dcV)) (hl : l.length = n) (hn : n ≤ 100000) :
    Calls Tryz.prog 8 #[.slice A n c, .slice A' n c'] w fun e w' => e = .returned (.bool true) ∧ Below w.heap.size w w' := by
  have hd : ((n : Int) != (n : Int)) = false := by simp
  go_enter Tryz.func8, Tryz.ntmps8
  go_wp2_with fail
  go_loopw [5] (fun i wr => ∃ k : Nat, k ≤ n ∧ i = .int .i64 k ∧ Below w.heap.size w wr) (fun i _ => n - (intOf i).toNat)
  case atStart => exact ⟨0, Nat.zero_le _, rfl, Below.refl _ _⟩
  case round =>
    obtain ⟨k, hk, rfl, hb⟩ := hrel
    by_cases hlt : k < n
    · obtain ⟨b, off, rfl, hbb, _⟩ := h.2 (by omega)
      obtain ⟨b', off', rfl, hbb', _⟩ := h'.2 (by omega)
      obtain ⟨p0, p1, p2, _⟩ := (h.below hb).dc (show k < l.length by omega) hl
      obtain ⟨q0, q1, q2, _⟩ := (h'.below hb).dc (show k < l.length by omega) hl
      generalize (l.getD k dc0).kind = x0 at *
      generalize (l.getD k dc0).a = x1 at *
      generalize (l.getD k dc0).b = x2 at *
      have n1 : (0 : Int) ≤ (k : Int) := by omega
      have n2 : (k : Int) < (n : Int) := by omega
      have hbz := hb.size
      have z1 : b < wr.heap.size := by omega
      have z2 : b' < wr.heap.size := by omega
      clear h h' hl
      go_wp2_with fail
      go_region_held3 (fun w' => w'.cell? ⟨b, off + k * 3, none⟩ = some (.int .i64 x0) ∧ w'.cell? ⟨b, off + k * 3 + 1, none⟩ = some (.int .i64 x1) ∧ w'.cell? ⟨b, off + k * 3 + 2, none⟩ = some (.int .i64 x2) ∧ w'.cell? ⟨b', off' + k * 3, none⟩ = some (.int .i64 x0) ∧ w'.cell? ⟨b', off' + k * 3 + 1, none⟩ = some (.int .i64 x1) ∧ w'.cell? ⟨b', off' + k * 3 + 2, none⟩ = some (.int .i64 x2))
        (first
          | go_keep
          | (go_split_ands
             exact ⟨(bE.cell (p := ⟨b, off + k * 3, none⟩) z1).trans (by assumption), (bE.cell (p := ⟨b, off + k * 3 + 1, none⟩) z1).trans (by assumption), (bE.cell (p := ⟨b, off + k * 3 + 2, none⟩) z1).trans (by assumption), (bE.cell (p := ⟨b', off' + k * 3, none⟩) z2).trans (by assumption), (bE.cell (p := ⟨b', off' + k * 3 + 1, none⟩) z2).trans (by assumption), (bE.cell (p := ⟨b', off' + k * 3 + 2, none⟩) z2).trans (by assumption)⟩))
        ((go_at_call 22; refine (eqDefect_any x0 x1 x2 wr.drew).mono ?_; rintro e w2 ⟨rfl, bE⟩))
      go_wp2_with fail
      go_roundw
      case rel => exact ⟨k + 1, by omega, by go_num, below_more hb.drew bE hb.size⟩
      case measure => simp [intOf]; omega
    · go_wp2_with fail
      go_ret
      exact ⟨rfl, hb⟩

/-- What the mark leaves at cell m. -/
def mkDefect (q : Int) (m : Nat) : Value := .int .i64 (q + (m : Int))

set_option maxHeartbeats 4000000 in
theorem markDefectS_any (A : Option Addr) (n c lo hi : Nat) (cs : List Value) (q : Int) (w : World) (h : OwR 36 3 w lo hi A n c cs) (hn : n ≤ 100000) (hq : 0 ≤ q) (hq2 : q ≤ 100000000) :
    Calls Tryz.prog 11 #[.slice A n c, .int .i64 q] w fun e w' => e = .returned (.int .i64 (q + ((n * 3 : Nat) : Int))) ∧ OwR 36 3 w' lo hi A n c ((List.range (n * 3)).map (mkDefect q)) ∧ w.grownBy w' (Value.ownBlock (.slice A n c)) := by
  have hx := Lib.hid h.len
  go_enter Tryz.func11, Tryz.ntmps11
  go_wp2_with fail
  go_loopw [1, 5] (fun u i wr => ∃ k : Nat, k ≤ n ∧ i = .int .i64 k ∧ u = .int .i64 (q + ((k * 3 : Nat) : Int)) ∧ OwR 36 3 wr lo hi A n c ((List.range (k * 3)).map (mkDefect q) ++ cs.drop (k * 3)) ∧ w.grownBy wr (Value.ownBlock (.slice A n c))) (fun _ i _ => n - (intOf i).toNat)
  case atStart => exact ⟨0, Nat.zero_le _, rfl, by simp, by simpa using h, grown_refl _ _⟩
  case round =>
    obtain ⟨k, hk, rfl, rfl, ho, hg⟩ := hrel
    have HG := Lib.hid hg
    clear hg
    by_cases hlt : k < n
    · rcases ho.form with ⟨_, h0, _⟩ | ⟨g, rfl, h1, h2, h3, h4⟩
      · omega
      · have hl : ((List.range (k * 3)).map (mkDefect q) ++ cs.drop (k * 3)).length = n * 3 := ho.len
        have t0 := ho.set (k * 3) (mkDefect q (k * 3))
        rw [mark_any_cell cs (mkDefect q) (k * 3) (by have := hx.out; omega)] at t0
        have t1 := t0.1.set (k * 3 + 1) (mkDefect q (k * 3 + 1))
        rw [mark_any_cell cs (mkDefect q) (k * 3 + 1) (by have := hx.out; omega)] at t1
        have t2 := t1.1.set (k * 3 + 2) (mkDefect q (k * 3 + 2))
        rw [mark_any_cell cs (mkDefect q) (k * 3 + 2) (by have := hx.out; omega)] at t2
        have e0 : mkDefect q (k * 3) = .int .i64 ((q + ((k * 3 : Nat) : Int))) := by unfold mkDefect; congr 1 <;> omega
        have e1 : mkDefect q (k * 3 + 1) = .int .i64 ((q + ((k * 3 : Nat) : Int)) + 1) := by unfold mkDefect; congr 1 <;> omega
        have e2 : mkDefect q (k * 3 + 2) = .int .i64 ((q + ((k * 3 : Nat) : Int)) + 1 + 1) := by unfold mkDefect; congr 1 <;> omega
        obtain ⟨a0, ha0⟩ : ∃ a, ((List.range (k * 3)).map (mkDefect q) ++ cs.drop (k * 3))[k * 3]? = some a := ⟨_, List.getElem?_eq_getElem (by omega)⟩
        have hc0 := (ho.cell (j := k * 3) (by omega)).trans ha0
        have hf0 := ho.free (k * 3)
        obtain ⟨a1, ha1⟩ : ∃ a, ((List.range (k * 3)).map (mkDefect q) ++ cs.drop (k * 3))[k * 3 + 1]? = some a := ⟨_, List.getElem?_eq_getElem (by omega)⟩
        have hc1 := (ho.cell (j := k * 3 + 1) (by omega)).trans ha1
        have hf1 := ho.free (k * 3 + 1)
        obtain ⟨a2, ha2⟩ : ∃ a, ((List.range (k * 3)).map (mkDefect q) ++ cs.drop (k * 3))[k * 3 + 2]? = some a := ⟨_, List.getElem?_eq_getElem (by omega)⟩
        have hc2 := (ho.cell (j := k * 3 + 2) (by omega)).trans ha2
        have hf2 := ho.free (k * 3 + 2)
        rw [e0, e1, e2] at t2
        rw [e0] at t0
        rw [e0, e1] at t1
        have E3 := Lib.hid (show (q + ((k * 3 : Nat) : Int)) + 1 + 1 + 1 = q + (((k + 1) * 3 : Nat) : Int) by omega)
        have HS := Lib.hid t2.1
        have HT := Lib.hid ((grown_trans (grown_trans t0.2 t1.2) t2.2))
        have b1 : 0 ≤ (q + ((k * 3 : Nat) : Int)) := by omega
        have b2 : (q + ((k * 3 : Nat) : Int)) ≤ 200000000 := by omega
        clear ho hl t0 e0 ha0 t1 e1 ha1 t2 e2 ha2
        generalize (q + ((k * 3 : Nat) : Int)) = u at *
        go_wp2_with fail
        go_roundw
        case rel =>
          refine ⟨k + 1, by omega, by go_num, by rw [E3.out], ?_, grown_trans HG.out HT.out⟩
          rw [show (k + 1) * 3 = k * 3 + 2 + 1 by omega]
          exact HS.out
        case measure => simp [intOf]; omega
    · go_wp2_with fail
      go_ret
      obtain rfl : k = n := by omega
      refine ⟨rfl, ?_, HG.out⟩
      have hd : cs.drop (k * 3) = [] := List.drop_of_length_le (Nat.le_of_eq hx.out)
      rw [hd, List.append_nil] at ho
      exact ho

set_option maxHeartbeats 2000000 in
theorem heldDefectS_any (A : Option Addr) (n c B : Nat) (q : Int) (w : World) (h : RdV 3 w B A n ((List.range (n * 3)).map (mkDefect q))) (hn : n ≤ 100000) (hq : 0 ≤ q) (hq2 : q ≤ 100000000) :
    Calls Tryz.prog 12 #[.slice A n c, .int .i64 q] w fun e w' => e = .returned (.int .i64 (q + ((n * 3 : Nat) : Int))) ∧ w = w' := by
  go_enter Tryz.func12, Tryz.ntmps12
  go_wp2_with fail
  go_loop [1, 5] (fun u i => ∃ k : Nat, k ≤ n ∧ i = .int .i64 k ∧ u = .int .i64 (q + ((k * 3 : Nat) : Int))) (fun _ i => n - (intOf i).toNat)
  case atStart => exact ⟨0, Nat.zero_le _, rfl, by simp⟩
  case round =>
    obtain ⟨k, hk, rfl, rfl⟩ := hrel
    by_cases hlt : k < n
    · obtain ⟨b, off, rfl, hbb, hc⟩ := h.2 (by omega)
      have e0 : mkDefect q (k * 3) = .int .i64 ((q + ((k * 3 : Nat) : Int))) := by unfold mkDefect; congr 1 <;> omega
      have hc0 := hc (k * 3) (by omega)
      rw [range_map_get _ _ _ (by omega), e0] at hc0
      have e1 : mkDefect q (k * 3 + 1) = .int .i64 ((q + ((k * 3 : Nat) : Int)) + 1) := by unfold mkDefect; congr 1 <;> omega
      have hc1 := hc (k * 3 + 1) (by omega)
      rw [range_map_get _ _ _ (by omega), e1] at hc1
      rw [← Nat.add_assoc] at hc1
      have e2 : mkDefect q (k * 3 + 2) = .int .i64 ((q + ((k * 3 : Nat) : Int)) + 1 + 1) := by unfold mkDefect; congr 1 <;> omega
      have hc2 := hc (k * 3 + 2) (by omega)
      rw [range_map_get _ _ _ (by omega), e2] at hc2
      rw [← Nat.add_assoc] at hc2
      have E3 := Lib.hid (show (q + ((k * 3 : Nat) : Int)) + 1 + 1 + 1 = q + (((k + 1) * 3 : Nat) : Int) by omega)
      have b1 : 0 ≤ (q + ((k * 3 : Nat) : Int)) := by omega
      have b2 : (q + ((k * 3 : Nat) : Int)) ≤ 200000000 := by omega
      clear hc e0 e1 e2
      generalize (q + ((k * 3 : Nat) : Int)) = u at *
      have d0 : (u != u) = false := by simp
      have d1 : (u + 1 != u + 1) = false := by simp
      have d2 : (u + 1 + 1 != u + 1 + 1) = false := by simp
      go_wp2_with fail
      go_round
      case rel => exact ⟨k + 1, by omega, by go_num, by rw [← E3.out]⟩
      case measure => simp [intOf]; omega
    · go_wp2_with fail
      go_ret
      obtain rfl : k = n := by omega
      exact ⟨rfl, rfl⟩

/-- The answer of DefectsIn, of whoever it is. -/
def RetDcs (w : World) (l : List Dc) : Ending → World → Prop := RetR 36 3 w l.length (l.flatMap dcV)

theorem RetDc.toR {w : World} {l : List Dc} {e : Ending} {w' : World} (h : RetDc w l e w') : RetDcs w l e w' := by
  obtain ⟨g, c, he, ho, hb⟩ := h
  exact ⟨_, c, he, ho.toR, hb⟩

theorem specDefectsR_any (A : Option Addr) (n c : Nat) (xs : List Int) (w : World) (h : Rd w w.heap.size A n xs) (hn : n ≤ 2097152) :
    Calls Tryz.prog 5 #[.slice A n c] w (RetDcs w (defectsL xs)) := (specDefects_any A n c xs w h hn).mono fun _ _ h => h.toR

/-- In every world that has grown out of W. -/
def DefectsC (W : World) : Prop := ∀ (A : Option Addr) (n c : Nat) (xs : List Int) (w : World), Below W.heap.size W w → Rd w w.heap.size A n xs → n ≤ 2097152 → n ≤ c → Calls Tryz.prog 7 #[.slice A n c] w (RetDcs w (defectsL xs))

/-- In every world that has grown out of W. -/
def MildC (W : World) : Prop := ∀ (A : Option Addr) (n c : Nat) (xs : List Int) (w : World), Below W.heap.size W w → Rd w w.heap.size A n xs → n ≤ 2097152 → n ≤ c → Calls Tryz.prog 14 #[.slice A n c] w (RetB w (mildB xs))

set_option maxHeartbeats 4000000 in
theorem law_DefectsIn (w : World) (hI : DefectsC w) (A : Option Addr) (n c : Nat) (xs : List Int) (h : Rd w w.heap.size A n xs) :
    Calls Tryz.prog 3 #[.slice A n c] w fun e w' => e = .returned (.bool true) ∧ Below w.heap.size w w' := by
  by_cases hbig : 1048576 < n
  · have hb : decide ((1048576 : Int) < (n : Int)) = true := by simp; omega
    go_enter Tryz.func3, Tryz.ntmps3
    go_wp2
    go_ret
    exact ⟨rfl, Below.refl _ _⟩
  have hb : decide ((1048576 : Int) < (n : Int)) = false := by simp; omega
  have hee : (xs == xs) = true := by simp
  obtain ⟨l, hl⟩ : ∃ l, l = defectsL xs := ⟨_, rfl⟩
  have hll : l.length ≤ 40000 := by rw [hl]; exact defects_length xs
  have HY := Lib.hid hl
  clear hl
  obtain ⟨ng, hng⟩ : ∃ ng, l.length = ng := ⟨_, rfl⟩
  have hn4 : ng ≤ 40000 := by omega
  go_enter Tryz.func3, Tryz.ntmps3
  go_wp2_with fail
  refine (to_any A n c xs w h (by omega)).mono ?_
  rintro e w1 ⟨B1, rfl, o1, b1⟩
  go_wp2_with fail
  refine (specDefectsR_any B1 n n xs w1 o1.rd (by omega)).mono ?_
  rintro e w2 ⟨S, cs, rfl, oS, b2⟩
  rw [← HY.out, hng] at oS ⊢
  have b02 := below_more b1 b2 b1.size
  go_wp2_with fail
  refine (to_any A n c xs w2 ((h.below b02).more b02.size) (by omega)).mono ?_
  rintro e w3 ⟨X, rfl, oX, b3⟩
  have b03 := below_more b02 b3 b02.size
  have oS := oS.below b3 (Nat.le_refl _)
  go_wp2_with fail
  refine (hI X n n xs w3 b03 oX.rd (by omega) (Nat.le_refl _)).mono ?_
  rintro e w4 ⟨G, cg, rfl, oG, b4⟩
  rw [← HY.out, hng] at oG ⊢
  have b04 := below_more b03 b4 b03.size
  have oS := oS.below b4 b3.size
  have oX := oX.below b4 (Nat.le_refl _)
  have s3 := b3.size
  have s4 := b4.size
  go_wp2_with fail
  refine (eqDefectS_any G S ng cg cs l w4 oG.rd (oS.rd.more (by omega)) hng (by omega)).mono ?_
  rintro e w4' ⟨rfl, b4'⟩
  have b04' := below_more b04 b4' b04.size
  have oS := oS.below b4' (by omega)
  have oX := oX.below b4' (by omega)
  have oG := oG.below b4' (Nat.le_refl _)
  have s4' := b4'.size
  go_wp2_with fail
  refine (to_any A n c xs w4' ((h.below b04').more b04'.size) (by omega)).mono ?_
  rintro e w5 ⟨Y, rfl, oY, b5⟩
  have b05 := below_more b04' b5 b04'.size
  have oS := oS.below b5 (by omega)
  have oX := oX.below b5 (by omega)
  have oG := oG.below b5 (by omega)
  have s5 := b5.size
  have s02 := b02.size
  go_wp2_with fail
  refine (eq_any X Y n n n n xs xs w5.heap.size w5 (oX.rd.more (by omega)) oY.rd (by omega)).mono ?_
  rintro e w5' ⟨rfl, d2, rfl⟩
  go_wp2_with fail
  refine (mark_any X n n _ _ xs 1 (w5.drewN d2) (oX.drewN d2) (by omega) (by omega) (by omega)).mono ?_
  rintro e w6 ⟨rfl, oX6, g6⟩
  have rX := row_of oX6
  have b06 : Below w.heap.size w w6 := (below_drewN b05 d2).grown g6 b05.size (fun g hg => by have := rX g hg; omega)
  have s6 : w5.heap.size ≤ w6.heap.size := g6.size
  have oS := (oS.drewN d2).grown g6 (fun g hg => by have := rX g hg; omega)
  have oG := (oG.drewN d2).grown g6 (fun g hg => by have := rX g hg; omega)
  have hk : decide ((1 : Int) + (n : Int) < 0) = false := by simp; omega
  go_wp2_with fail
  refine (eqDefectS_any G S ng cg cs l w6 (oG.rd.more (by omega)) (oS.rd.more (by omega)) hng (by omega)).mono ?_
  rintro e w6' ⟨rfl, b6'⟩
  have b06' := below_more b06 b6' b06.size
  have oS := oS.below b6' (by omega)
  have oG := oG.below b6' (by omega)
  have s6' := b6'.size
  go_wp2_with fail
  refine (markDefectS_any G ng cg _ _ _ 1 w6' oG (by omega) (by omega) (by omega)).mono ?_
  rintro e w7 ⟨rfl, oG7, g7⟩
  have rG := oG7.row
  have b07 : Below w.heap.size w w7 := b06'.grown g7 b06'.size (fun g hg => by have := rG g hg; omega)
  have s7 : w6'.heap.size ≤ w7.heap.size := g7.size
  have oS := oS.grown g7 (fun g hg => by have := rG g hg; omega)
  go_wp2_with fail
  refine (heldDefectS_any G ng cg w4.heap.size 1 w7 oG7.rd (by omega) (by omega) (by omega)).mono ?_
  rintro e w7' ⟨rfl, rfl⟩
  have hq : decide ((1 : Int) + ((ng * 3 : Nat) : Int) < 0) = false := by simp; omega
  have hq2 : ((1 : Int) + ((ng * 3 : Nat) : Int) != 1 + ((ng * 3 : Nat) : Int)) = false := by simp
  go_wp2_with fail
  refine (to_any A n c xs w7 ((h.below b07).more b07.size) (by omega)).mono ?_
  rintro e w8 ⟨Z, rfl, oZ, b8⟩
  have b08 := below_more b07 b8 b07.size
  have s8 := b8.size
  have oS := oS.below b8 (by omega)
  have oG8 := oG7.below b8 (by omega)
  go_wp2_with fail
  refine (hI Z n n xs w8 b08 oZ.rd (by omega) (Nat.le_refl _)).mono ?_
  rintro e w9 ⟨K, ck, rfl, oK, b9⟩
  rw [← HY.out, hng] at oK ⊢
  have b09 := below_more b08 b9 b08.size
  have s9 := b9.size
  have oS := oS.below b9 (by omega)
  have oG9 := oG8.below b9 (by omega)
  go_wp2_with fail
  refine (eqDefectS_any K S ng ck cs l w9 oK.rd (oS.rd.more (by omega)) hng (by omega)).mono ?_
  rintro e w9' ⟨rfl, b9'⟩
  have b09' := below_more b09 b9' b09.size
  have oG9 := oG9.below b9' (by omega)
  go_wp2_with fail
  refine (heldDefectS_any G ng cg w4.heap.size 1 w9' oG9.rd (by omega) (by omega) (by omega)).mono ?_
  rintro e w9'' ⟨rfl, rfl⟩
  go_wp2_with fail
  go_ret
  exact ⟨rfl, b09'⟩

set_option maxHeartbeats 1000000 in
theorem law_Mild (w : World) (hI : MildC w) (A : Option Addr) (n c : Nat) (xs : List Int) (h : Rd w w.heap.size A n xs) :
    Calls Tryz.prog 4 #[.slice A n c] w fun e w' => e = .returned (.bool true) ∧ Below w.heap.size w w' := by
  by_cases hbig : 1048576 < n
  · have hb : decide ((1048576 : Int) < (n : Int)) = true := by simp; omega
    go_enter Tryz.func4, Tryz.ntmps4
    go_wp2
    go_ret
    exact ⟨rfl, Below.refl _ _⟩
  have hb : decide ((1048576 : Int) < (n : Int)) = false := by simp; omega
  have hee : (xs == xs) = true := by simp
  have hff : (mildB xs != mildB xs) = false := by simp
  go_enter Tryz.func4, Tryz.ntmps4
  go_wp2_with fail
  refine (to_any A n c xs w h (by omega)).mono ?_
  rintro e w1 ⟨B1, rfl, o1, b1⟩
  go_wp2_with fail
  refine (specMild_any B1 n n xs w1 o1.rd (by omega)).mono ?_
  rintro e w2 ⟨rfl, b2⟩
  have b02 := below_more b1 b2 b1.size
  go_wp2_with fail
  refine (to_any A n c xs w2 ((h.below b02).more b02.size) (by omega)).mono ?_
  rintro e w3 ⟨X, rfl, oX, b3⟩
  have b03 := below_more b02 b3 b02.size
  go_wp2_with fail
  refine (hI X n n xs w3 b03 oX.rd (by omega) (Nat.le_refl _)).mono ?_
  rintro e w4 ⟨rfl, b4⟩
  have b04 := below_more b03 b4 b03.size
  have oX := oX.below b4 (Nat.le_refl _)
  go_wp2_with fail
  refine (to_any A n c xs w4 ((h.below b04).more b04.size) (by omega)).mono ?_
  rintro e w5 ⟨Y, rfl, oY, b5⟩
  have b05 := below_more b04 b5 b04.size
  have oX := oX.below b5 b4.size
  have s4 := b4.size
  have s5 := b5.size
  go_wp2_with fail
  refine (eq_any X Y n n n n xs xs w5.heap.size w5 (oX.rd.more (by omega)) oY.rd (by omega)).mono ?_
  rintro e w5' ⟨rfl, d2, rfl⟩
  go_wp2_with fail
  go_ret
  exact ⟨rfl, below_drewN b05 d2⟩

end Go.Proofs.YtieknpkbmccimaaGreatDoor
