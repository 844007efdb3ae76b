/- Sound; counting anew (chapter 14): a new cluster (l14More), whether it is ready (l14Ready), which block lacks (l14Lacks): the model's side. -/
import Derived.Test.YtkhinppphmfniaaIm
namespace Go.Proofs.Ytkhinppphmfniaa
open Go.RowKit

set_option maxHeartbeats 1000000 in
theorem specSound_any (A : Option Addr) (n cb : Nat) (xs : List Int) (w : World) (hr : Rd w w.heap.size A n xs) (hn : n ≤ 2097152) :
    Calls Try.prog 55 #[.slice A n cb] w (RetB w (soundB xs)) := by
  cases hi : imgB xs
  · have HE : Hid (soundB xs = false) := by unfold soundB; rw [hi]; exact rfl
    go_enter Try.func55, Try.ntmps55
    go_wp2_with fail
    refine (specImg_any _ _ _ xs _ _ hr hn).mono ?_
    rintro e w' ⟨rfl, rfl⟩
    rw [hi]
    go_wp2_with fail
    go_ret
    exact RetB.mk HE.out.symm (Below.refl _ _)
  · have HE : Hid (soundB xs = decide ((defectsL xs).length = 0)) := by unfold soundB; rw [hi]; exact Bool.true_and _
    have HI := Lib.hid hi
    clear hi
    go_enter Try.func55, Try.ntmps55
    go_wp2_with fail
    refine (specImg_any _ _ _ xs _ _ hr hn).mono ?_
    rintro e w' ⟨rfl, rfl⟩
    rw [HI.out]
    go_wp2_with fail
    refine (specDefects_any A n cb xs w hr hn).mono ?_
    rintro e w1 ⟨g, c, rfl, _, b1⟩
    by_cases h0 : (defectsL xs).length = 0
    · have hd : (((defectsL xs).length : Int) == 0) = true := by simpa using h0
      have HE2 : Hid (soundB xs = true) := by rw [HE.out]; exact decide_eq_true h0
      clear h0
      generalize (defectsL xs).length = q at *
      go_wp2_with fail
      go_ret
      exact RetB.mk HE2.out.symm b1
    · have hd : (((defectsL xs).length : Int) == 0) = false := by rw [beq_eq_false_iff_ne]; omega
      have HE2 : Hid (soundB xs = false) := by rw [HE.out]; exact decide_eq_false h0
      clear h0
      generalize (defectsL xs).length = q at *
      go_wp2_with fail
      go_ret
      exact RetB.mk HE2.out.symm b1

/-- A new image, the number of its new cluster, and whether there was room. -/
def RetMore (w : World) (xs ws : List Int) (e : Ending) (w' : World) : Prop :=
  (manyN xs < 64 ∧ ∃ (g n c : Nat), e = .returned (.tuple #[.slice (some ⟨g, 0, none⟩) n c, .int .i64 (manyN xs), .bool true]) ∧ n ≤ c ∧ Ow w' w.heap.size w'.heap.size (some ⟨g, 0, none⟩) n c (moreL xs ws) ∧ Below w.heap.size w w') ∨
  (64 ≤ manyN xs ∧ ∃ g, e = .returned (.tuple #[.slice (some ⟨g, 0, none⟩) 0 0, .int .i64 0, .bool false]) ∧ Below w.heap.size w w')

set_option maxRecDepth 100000 in
set_option maxHeartbeats 1000000 in
theorem specMore_any (A : Option Addr) (n cb : Nat) (xs : List Int) (W : Option Addr) (cw : Nat) (ws : List Int) (w : World) (hr : Rd w w.heap.size A n xs) (hw : Rd w w.heap.size W 8 ws) (hn : n ≤ 1000) :
    Calls Try.prog 57 #[.slice A n cb, .slice W 8 cw] w (RetMore w xs ws) := by
  have hx := Lib.hid hr.len
  have hm : manyN xs ≤ 200 := by have := hx.out; unfold manyN; omega
  by_cases h64 : manyN xs < 64
  · have hd : decide ((64 : Int) ≤ (manyN xs : Int)) = false := by simp; omega
    have HW := Lib.hid (whole_length xs)
    have HM : Hid (moreL xs ws = setCl (whole xs) (manyN xs) ws) := rfl
    have HML := Lib.hid (more_length xs ws hw.len)
    go_enter Try.func57, Try.ntmps57
    go_wp2_with fail
    refine (specMany_any _ _ _ xs _ hx.out (by omega)).mono ?_
    rintro e w' ⟨rfl, rfl⟩
    go_wp2_with fail
    refine (specWhole_any A n cb xs w hr (by omega)).mono ?_
    rintro e w1 ⟨g1, n1, c1, rfl, hc1, o1, b1⟩
    have hl1 : Hid (n1 = manyN xs * 8) := (o1.len).symm.trans HW.out
    go_wp2_with fail
    refine (specWith_any g1 0 n1 c1 (manyN xs) (whole xs) ws W cw w1 o1.rd ((hw.below b1).more b1.size) hc1 (by have := hl1.out; omega) (by have := hl1.out; omega) (by have := hl1.out; omega)).mono ?_
    rintro e w2 ⟨A2, n2, c2, rfl, o2, b2⟩
    rw [← HM.out] at o2
    have hn2 := o2.len
    rw [HML.out] at hn2
    have hn2' : 8 ≤ n2 := by omega
    clear hn2
    rcases o2.form with ⟨_, h0, _⟩ | ⟨g2, rfl, k1, k2, k3, k4⟩
    · omega
    go_wp2_with fail
    go_ret3
    exact .inl ⟨h64, g2, n2, c2, rfl, k4, o2.more b1.size (Nat.le_refl _), below_more b1 b2 b1.size⟩
  · have hd : decide ((64 : Int) ≤ (manyN xs : Int)) = true := by simp; omega
    go_enter Try.func57, Try.ntmps57
    go_wp2_with fail
    refine (specMany_any _ _ _ xs _ hx.out (by omega)).mono ?_
    rintro e w' ⟨rfl, rfl⟩
    go_wp2_with fail
    go_ret3
    exact .inr ⟨by omega, w.heap.size, rfl, (Below.refl _ _).alloc (Nat.le_refl _) _⟩

def readyB (xs : List Int) : Bool := hasHead xs && (looseL xs).all (fun c => c.kind == 3 && (headIn xs).1.refs == 0)
theorem all_take {α : Type} (p : α → Bool) (l : List α) (k : Nat) (hk : k < l.length) (h : (l.take k).all p = true) : (l.take (k + 1)).all p = p l[k] := by
  rw [List.take_succ_eq_append_getElem hk, List.all_append, h]; simp
theorem all_not_at {α : Type} (p : α → Bool) (l : List α) (k : Nat) (hk : k < l.length) (h : p l[k] = false) : l.all p = false := by
  rw [List.all_eq_false]
  exact ⟨l[k], List.getElem_mem hk, by simp [h]⟩

set_option maxRecDepth 100000 in
set_option maxHeartbeats 4000000 in
theorem specReady_any (A : Option Addr) (n cb : Nat) (xs : List Int) (w : World) (hr : Rd w w.heap.size A n xs) (hn : n ≤ 2097152) :
    Calls Try.prog 72 #[.slice A n cb] w (RetB w (readyB xs)) := by
  go_enter Try.func72, Try.ntmps72
  go_wp2_with fail
  refine (specHeadIn_any _ _ _ xs _ hr hn).mono ?_
  rintro e w1 ⟨rfl, b1⟩
  have HRD : Hid (readyB xs = (hasHead xs && (looseL xs).all (fun c => c.kind == 3 && (headIn xs).1.refs == 0))) := rfl
  have HHH : Hid (hasHead xs = (headIn xs).2) := by
    cases h : hasHead xs
    · rw [headIn_no h]; exact rfl
    · rw [headIn_yes h]; exact rfl
  rw [HHH.out] at HRD
  generalize headIn xs = r at *
  obtain ⟨⟨s, f, r, u, m⟩, is⟩ := r
  unfold hdV
  have b2 := b1.alloc b1.size (.cells #[.int .i64 s, .int .i64 f, .int .i64 r, .int .i64 u, .int .i64 m] 26)
  have c2 : (w1.alloc (.cells #[.int .i64 s, .int .i64 f, .int .i64 r, .int .i64 u, .int .i64 m] 26)).cell? ⟨w1.heap.size, 2, none⟩ = some (.int .i64 r) := World.cell?_alloc_new _ _ _ _
  have hz : (w1.alloc (.cells #[.int .i64 s, .int .i64 f, .int .i64 r, .int .i64 u, .int .i64 m] 26)).heap.size = w1.heap.size + 1 := by simp
  have HZ := Lib.hid hz
  clear hz
  go_wp2_with fail
  refine (specLoose_any A n cb xs _ ((hr.below b2).more b2.size) hn).mono ?_
  rintro e w3 ⟨g, c, rfl, ol, b3⟩
  have q2 : w3.cell? ⟨w1.heap.size, 2, none⟩ = some (.int .i64 r) := (b3.cell (p := ⟨w1.heap.size, 2, none⟩) (by show w1.heap.size < _; have := HZ.out; omega)).trans c2
  have b03 := below_more b2 b3 b2.size
  have RL := ol.rd
  have hll := looseL_length xs
  clear ol b3 b2 c2 HZ
  generalize looseL xs = l at *
  go_wp2_with fail
  go_loop [6] (fun i => ∃ k : Nat, k ≤ l.length ∧ i = .int .i64 k ∧ (l.take k).all (fun c => c.kind == 3 && r == 0) = true) (fun i => l.length - (intOf i).toNat)
  case atStart => exact ⟨0, Nat.zero_le _, rfl, rfl⟩
  case round =>
    obtain ⟨k, hk, rfl, ha⟩ := hrel
    have HA := Lib.hid ha
    clear ha
    by_cases hlt : k < l.length
    · have hce := cm_cells RL hlt
      have hgd : l.getD k cm0 = l[k] := by simp [List.getD_eq_getElem?_getD, hlt]
      rw [hgd] at hce
      have HNx := Lib.hid (all_take (fun c => c.kind == 3 && r == 0) l k hlt HA.out)
      have HNo := Lib.hid (all_not_at (fun c => c.kind == 3 && r == 0) l k hlt)
      clear hgd
      generalize l[k] = x at *
      obtain ⟨xk, xf, xs', xp, xt, xg⟩ := x
      have e0 : w3.cell? ⟨g, k * 6, none⟩ = some (.int .i64 xk) := hce 0 (by omega)
      clear hce
      by_cases h3 : xk = 3
      · by_cases h0 : r = 0
        · have d1 : (xk != 3) = false := by simp [h3]
          have d2 : (r != 0) = false := by simp [h0]
          have HE : Hid ((l.take (k + 1)).all (fun c => c.kind == 3 && r == 0) = true) := by rw [HNx.out]; simp [h3, h0, Hid]
          clear HNx HNo h3 h0
          go_wp2_with fail
          go_round
          case rel => exact ⟨k + 1, by omega, by go_num, HE.out⟩
          case measure => simp [intOf]; omega
        · have d1 : (xk != 3) = false := by simp [h3]
          have d2 : (r != 0) = true := by simpa using h0
          have HE : Hid (readyB xs = false) := by rw [HRD.out, HNo.out (by simp [h0])]; exact Bool.and_false _
          clear HNx HNo h3 h0
          go_wp2_with fail
          go_ret
          exact RetB.mk HE.out.symm b03
      · have d1 : (xk != 3) = true := by simpa using h3
        have HE : Hid (readyB xs = false) := by rw [HRD.out, HNo.out (by simp [h3])]; exact Bool.and_false _
        clear HNx HNo h3
        go_wp2_with fail
        go_ret
        exact RetB.mk HE.out.symm b03
    · obtain rfl : k = l.length := by omega
      have HE : Hid (readyB xs = is) := by
        have := HA.out
        rw [List.take_length] at this
        rw [HRD.out, this]; exact Bool.and_true _
      go_wp2_with fail
      go_ret
      exact RetB.mk HE.out.symm b03

end Go.Proofs.Ytkhinppphmfniaa
