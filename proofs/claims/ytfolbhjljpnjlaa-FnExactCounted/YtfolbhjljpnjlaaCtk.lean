/- Counting anew (chapter 14), the program's side: what can be counted, Refs, blocks. -/
import Derived.Test.YtfolbhjljpnjlaaCtj
import Derived.Test.YtfolbhjljpnjlaaGdi
namespace Go.Proofs.Ytfolbhjljpnjlaa
open Go.RowKit

theorem looseL_max (xs : List Int) : (looseL xs).length ≤ 1296 := Nat.le_trans (List.length_filter_le _ _) (claimsL_length xs)
theorem all_more {α : Type} (p : α → Bool) (l : List α) (k : Nat) (hk : k < l.length) (h : (l.take k).all p = true) : (l.take (k + 1)).all p = p l[k] := by
  rw [List.take_succ_eq_append_getElem hk, List.all_append, h]; simp
theorem all_fails {α : Type} (p : α → Bool) (l : List α) (k : Nat) (hk : k < l.length) (h : p l[k] = false) : l.all p = false := by
  rw [List.all_eq_false]
  exact ⟨l[k], List.getElem_mem hk, by simp [h]⟩

set_option maxRecDepth 100000 in
set_option maxHeartbeats 4000000 in
theorem countable_any (hLo : LooseC) (A : Option Addr) (n c : Nat) (xs : List Int) (w : World) (hr : Rd w w.heap.size A n xs) (hn : n ≤ 2097152) (hnc : n ≤ c) :
    Calls Try.prog 22 #[.slice A n c] w fun e w' => Below w.heap.size w w' ∧
      ((readyB xs = true ∧ e = .returned (.slice A n c)) ∨ (readyB xs = false ∧ ∃ (u : TypeId) (v : Value), e = .panicked [{ v := .iface u v, recovered := false }])) := by
  go_enter Try.func22, Try.ntmps22
  go_wp2_with fail
  refine (implHeadIn_any _ _ _ xs _ hr hn).mono ?_
  rintro e w1 ⟨rfl, b1⟩
  generalize hh : headIn xs = r
  obtain ⟨⟨s, f, r, u, m⟩, is⟩ := r
  have HR := Lib.hid hh
  clear hh
  unfold hdV
  have b2 := b1.alloc b1.size (.cells #[.int .i64 s, .int .i64 f, .int .i64 r, .int .i64 u, .int .i64 m] 28)
  cases is
  · have HN : Hid (readyB xs = false) := by show _ = _; unfold readyB; rw [(headIn_false HR.out).1]; rfl
    go_wp2_with fail
    exact ⟨rfl, b2, .inr ⟨HN.out, _, _, rfl⟩⟩
  · have HP := Lib.hid (ready_prog (headIn_true HR.out).1)
    go_wp2_with fail
    refine (hLo A n c xs _ ((hr.below b2).more b2.size) hn hnc).mono ?_
    rintro e w3 ⟨G, cg, rfl, oG, b3⟩
    have b03 := below_more b2 b3 b2.size
    have hll := looseL_max xs
    have HG := Lib.hid oG
    have HB := Lib.hid b03
    have s3 := b03.size
    clear b3 oG b2 hr b1
    generalize looseL xs = l at *
    generalize hw3 : w3.heap.size = B at *
    go_wp2_with fail
    go_loopw [18] (fun i wr => ∃ k : Nat, k ≤ l.length ∧ i = .int .i64 k ∧ (l.take k).all (fun c => c.kind == 3 && c.target == 0) = true ∧ Below B w3 wr) (fun i _ => l.length - (intOf i).toNat)
    case atStart => exact ⟨0, Nat.zero_le _, rfl, rfl, Below.refl _ _⟩
    case round =>
      obtain ⟨k, hk, rfl, ha, hg⟩ := hrel
      have sr := hg.size
      have HA := Lib.hid ha
      clear ha
      by_cases hlt : k < l.length
      · obtain ⟨g, rfl, hg1, hg2, hg3, hce⟩ := cmr_cells8 HG.out hlt
        have hce : ∀ j v, j < 6 → (cmV (l.getD k cm0))[j]? = some v → wr.cell? ⟨g, k * 6 + j, none⟩ = some v := fun j v hj hv => (hg.cell (p := ⟨g, k * 6 + j, none⟩) (by show g < B; omega)).trans ((hce j hj).trans hv)
        have HNx := Lib.hid (all_more (fun c => c.kind == 3 && c.target == 0) l k hlt HA.out)
        have HNo := Lib.hid (all_fails (fun c => c.kind == 3 && c.target == 0) l k hlt)
        rw [show l.getD k cm0 = l[k] by simp [List.getD_eq_getElem?_getD, hlt]] at hce
        generalize l[k] = x at *
        obtain ⟨xk, xf, xs', xp, xt, xg⟩ := x
        have e0 : wr.cell? ⟨g, k * 6, none⟩ = some (.int .i64 xk) := hce 0 _ (by omega) rfl
        have e1 : wr.cell? ⟨g, k * 6 + 1, none⟩ = some (.int .i64 xf) := hce 1 _ (by omega) rfl
        have e2 : wr.cell? ⟨g, k * 6 + 2, none⟩ = some (.int .i64 xs') := hce 2 _ (by omega) rfl
        have e3 : wr.cell? ⟨g, k * 6 + 3, none⟩ = some (.int .i64 xp) := hce 3 _ (by omega) rfl
        have e4 : wr.cell? ⟨g, k * 6 + 4, none⟩ = some (.int .i64 xt) := hce 4 _ (by omega) rfl
        have e5 : wr.cell? ⟨g, k * 6 + 5, none⟩ = some (.bool xg) := hce 5 _ (by omega) rfl
        clear hce
        have hg1' := hg.alloc (by omega) (.cells #[.int .i64 xk, .int .i64 xf, .int .i64 xs', .int .i64 xp, .int .i64 xt, .bool xg] 42)
        by_cases h3 : xk = 3
        · by_cases h0 : xt = 0
          · have d1 : (xk != 3) = false := by simp [h3]
            have d2 : (xt != 0) = false := by simp [h0]
            have HE : Hid ((l.take (k + 1)).all (fun c => c.kind == 3 && c.target == 0) = true) := by rw [HNx.out]; simp [h3, h0, Hid]
            clear HNx HNo h3 h0
            go_wp2_with fail
            go_roundw
            case rel => exact ⟨k + 1, by omega, by go_num, HE.out, hg1'⟩
            case measure => simp [intOf]; omega
          · have d1 : (xk != 3) = false := by simp [h3]
            have d2 : (xt != 0) = true := by simpa using h0
            have HE : Hid (readyB xs = false) := by rw [HP.out, HNo.out (by simp [h0])]; exact rfl
            clear HNx HNo h3 h0
            go_wp2_with fail
            exact ⟨rfl, HB.out.trans (hg1'.mono (by omega)), .inr ⟨HE.out, _, _, rfl⟩⟩
        · have d1 : (xk != 3) = true := by simpa using h3
          have HE : Hid (readyB xs = false) := by rw [HP.out, HNo.out (by simp [h3])]; exact rfl
          clear HNx HNo h3
          go_wp2_with fail
          exact ⟨rfl, HB.out.trans (hg1'.mono (by omega)), .inr ⟨HE.out, _, _, rfl⟩⟩
      · obtain rfl : k = l.length := by omega
        have HE : Hid (readyB xs = true) := by
          have := HA.out
          rw [List.take_length] at this
          rw [HP.out]
          exact this
        go_wp2_with fail
        go_ret
        exact ⟨HB.out.trans (hg.mono (by omega)), .inl ⟨HE.out, rfl⟩⟩

/-- A head with another Refs. -/
theorem with_refs {xs : List Int} (hh : hasHead xs = true) (hm : manyN xs < 64) : withHead (moreL xs (List.replicate 8 0)) { headOf xs with refs := manyN xs } = refsL xs := by
  have hall := headB_all (hasHead_ok hh)
  have hb : headB { headOf xs with refs := (manyN xs : Int) } = true := by
    simp only [headB, wordB, Bool.and_eq_true, inB_true]
    omega
  have hml := more_length xs (List.replicate 8 0) (by simp)
  have hmm := more_many xs (List.replicate 8 0) (by simp)
  have hmi := more_img (hasHead_img hh) zeros8 hm
  rw [withHead_yes hb]
  unfold withL
  have hall2 := headB_all hb
  have h8 : eightB (hdW { headOf xs with refs := (manyN xs : Int) }) = true := by
    unfold eightB
    rw [hdW_length, Bool.and_eq_true]
    refine ⟨rfl, ?_⟩
    unfold wordsB
    rw [List.all_eq_true]
    intro x hx
    simp [hdW] at hx
    rw [wordB, inB_true]
    rcases hx with h | h | h | h | h | h | h | h <;> subst h <;> omega
  rw [if_pos]
  · unfold refsL
    rw [more_whole, many_whole, whole_of8 (by rw [hml]; omega)]
    rfl
  · unfold withB
    rw [hmi, h8, inB_true.2 (by omega)]
    simp

set_option maxRecDepth 100000 in
set_option maxHeartbeats 4000000 in
theorem withRefs_any (A : Option Addr) (n c : Nat) (xs : List Int) (w : World) (hr : Rd w w.heap.size A n xs) (hn : n ≤ 2097152) (hnc : n ≤ c) (hh : hasHead xs = true) :
    Calls Try.prog 21 #[.slice A n c] w (RetG w (basePC xs)) := by
  have HI := Lib.hid (headIn_yes hh)
  have HM := Lib.hid (hasHead_img hh)
  have HW := Lib.hid (fun hm => with_refs hh hm)
  have HB : Hid (basePC xs = if (headOf xs).refs = 0 then (if manyN xs < 64 then some (refsL xs) else none) else some xs) := rfl
  have hl := hasHead_len hh
  have hxl := hr.len
  clear hh
  go_enter Try.func21, Try.ntmps21
  go_wp2_with fail
  refine (implHeadIn_any _ _ _ xs _ hr hn).mono ?_
  rintro e w1 ⟨rfl, b1⟩
  rw [HI.out]
  generalize headOf xs = h at *
  obtain ⟨s, f, r, u, m⟩ := h
  unfold hdV
  have b2 := b1.alloc b1.size (.cells #[.int .i64 s, .int .i64 f, .int .i64 r, .int .i64 u, .int .i64 m] 28)
  have hbox : (w1.alloc (.cells #[.int .i64 s, .int .i64 f, .int .i64 r, .int .i64 u, .int .i64 m] 28)).heap[w1.heap.size]? = some (.cells #[.int .i64 s, .int .i64 f, .int .i64 r, .int .i64 u, .int .i64 m] 28 (0, 0)) := heap_alloc_new w1 _
  have hz : (w1.alloc (.cells #[.int .i64 s, .int .i64 f, .int .i64 r, .int .i64 u, .int .i64 m] 28)).heap.size = w1.heap.size + 1 := by simp
  have HZ := Lib.hid hz
  have HBX := Lib.hid hbox
  clear hz hbox
  by_cases h0 : r = 0
  · subst h0
    rw [if_pos rfl] at HB
    go_wp2_with fail
    refine (withZeros_any A n c xs _ ((hr.below b2).more b2.size) hn HM.out).mono ?_
    have s1 := b1.size
    rintro e w3 (⟨hm, g, n3, c3, rfl, hc3, o3, b3⟩ | ⟨hm, ⟨U, V, rfl⟩, b3⟩)
    · have HW2 := Lib.hid (HW.out hm)
      rw [if_pos hm] at HB
      have b03 := below_more b2 b3 b2.size
      have s3 := b3.size
      have HB3 : Hid (w3.heap[w1.heap.size]? = some (.cells #[.int .i64 s, .int .i64 f, .int .i64 0, .int .i64 u, .int .i64 m] 28 (0, 0))) := (b3.block w1.heap.size (by have := HZ.out; omega)).trans HBX.out
      have k0 : w3.cell? ⟨w1.heap.size, 0, none⟩ = some (.int .i64 s) := by rw [cell_of_row w3 w1.heap.size 0 _ _ _ HB3.out]; rfl
      have k1 : w3.cell? ⟨w1.heap.size, 1, none⟩ = some (.int .i64 f) := by rw [cell_of_row w3 w1.heap.size 1 _ _ _ HB3.out]; rfl
      have k2 : w3.cell? ⟨w1.heap.size, 2, none⟩ = some (.int .i64 0) := by rw [cell_of_row w3 w1.heap.size 2 _ _ _ HB3.out]; rfl
      have k3 : w3.cell? ⟨w1.heap.size, 3, none⟩ = some (.int .i64 u) := by rw [cell_of_row w3 w1.heap.size 3 _ _ _ HB3.out]; rfl
      have k4 : w3.cell? ⟨w1.heap.size, 4, none⟩ = some (.int .i64 m) := by rw [cell_of_row w3 w1.heap.size 4 _ _ _ HB3.out]; rfl
      have kf : w3.frozen? ⟨w1.heap.size, 2, none⟩ = false := frozen_of_row w3 w1.heap.size 2 _ _ HB3.out
      have b04 : Below w.heap.size w (w3.setCell ⟨w1.heap.size, 2, none⟩ (.int .i64 (manyN xs))) := b03.setCell s1 _
      have o4 : Ow (w3.setCell ⟨w1.heap.size, 2, none⟩ (.int .i64 (manyN xs))) (w1.heap.size + 1) w3.heap.size (some ⟨g, 0, none⟩) n3 c3 (moreL xs (List.replicate 8 0)) := by
        have := HZ.out
        exact (o3.more (by omega) (Nat.le_refl _)).keep fun q h1 h2 _ => Below.heap_setCell _ _ _ _ (by show q ≠ w1.heap.size; omega)
      have s4 : w3.heap.size ≤ (w3.setCell ⟨w1.heap.size, 2, none⟩ (.int .i64 (manyN xs))).heap.size := by simp [World.setCell]
      have hn3 := o3.len
      rw [more_length _ _ (by simp)] at hn3
      have HN3 := Lib.hid hn3
      have hmx : manyN xs * 8 ≤ 512 := by omega
      clear hn3 b3 b03 HB3 o3
      go_wp2_with fail
      generalize w3.setCell ⟨w1.heap.size, 2, none⟩ (.int .i64 (manyN xs)) = w4 at *
      refine (implWithHead_any (some ⟨g, 0, none⟩) n3 c3 _ ⟨s, f, manyN xs, u, m⟩ w4 (o4.rd.more s4) (by have := HN3.out; omega)).mono ?_
      rintro e w5 ⟨X, nx, cx, rfl, oX, b5⟩
      go_wp2_with fail
      go_ret
      rw [HW2.out] at oX
      rw [HB.out]
      have hcx : nx ≤ cx := by
        rcases oX.form with ⟨_, h0, h1⟩ | ⟨_, _, _, _, _, h1⟩
        · omega
        · exact h1
      exact ⟨X, nx, cx, rfl, oX.rd, hcx, below_more b04 b5 b04.size⟩
    · rw [if_neg hm] at HB
      go_wp2_with fail
      rw [HB.out]
      exact ⟨rfl, ⟨U, V, rfl⟩, below_more b2 b3 b2.size⟩
  · have hd : (r != 0) = true := by simpa using h0
    rw [if_neg h0] at HB
    clear h0
    go_wp2_with fail
    go_ret
    rw [HB.out]
    exact ⟨A, n, c, rfl, (hr.below b2).more b2.size, hnc, b2⟩
end Go.Proofs.Ytfolbhjljpnjlaa
