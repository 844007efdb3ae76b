/- Counting anew (chapter 14), the program's side: what can be counted, Refs, blocks. Counting anew (chapter 14), the program's side: the blocks that are lacking. -/
import Derived.Test.YtfolbhjljpnjlabGreatT1
import Derived.Test.YtfolbhjljpnjlabGreatGdi
namespace Go.Proofs.YtfolbhjljpnjlabGreat
open Go.RowKit

theorem looseL_max (xs : List Int) : (looseL xs).length ≤ 1296 := Nat.le_trans (List.length_filter_le _ _) (claimsL_length xs)
theorem allCt_more {α : Type} (p : α → Bool) (l : List α) (k : Nat) (hk : k < l.length) (h : (l.take k).all p = true) : (l.take (k + 1)).all p = p l[k] := by
  rw [List.take_succ_eq_append_getElem hk, List.all_append, h]; simp
theorem allCt_fails {α : Type} (p : α → Bool) (l : List α) (k : Nat) (hk : k < l.length) (h : p l[k] = false) : l.all p = false := by
  rw [List.all_eq_false]
  exact ⟨l[k], List.getElem_mem hk, by simp [h]⟩

set_option maxRecDepth 100000 in
set_option maxHeartbeats 4000000 in
theorem countable_any (hLo : LooseC) (A : Option Addr) (n c : Nat) (xs : List Int) (w : World) (hr : Rd w w.heap.size A n xs) (hn : n ≤ 2097152) (hnc : n ≤ c) :
    Calls Tryz.prog 21 #[.slice A n c] w fun e w' => Below w.heap.size w w' ∧
      ((readyB xs = true ∧ e = .returned (.slice A n c)) ∨ (readyB xs = false ∧ ∃ (u : TypeId) (v : Value), e = .panicked [{ v := .iface u v, recovered := false }])) := by
  go_enter Tryz.func21, Tryz.ntmps21
  go_wp2_with fail
  refine (implHeadIn_any _ _ _ xs _ hr hn).mono ?_
  rintro e w1 ⟨rfl, b1⟩
  generalize hh : headIn xs = r
  obtain ⟨⟨s, f, r, u, m⟩, is⟩ := r
  have HR := Lib.hid hh
  clear hh
  unfold hdV
  have b2 := b1.alloc b1.size (.cells #[.int .i64 s, .int .i64 f, .int .i64 r, .int .i64 u, .int .i64 m] 34)
  cases is
  · have HN : Hid (readyB xs = false) := by show _ = _; unfold readyB; rw [(headIn_false HR.out).1]; rfl
    go_wp2_with fail
    exact ⟨rfl, b2, .inr ⟨HN.out, _, _, rfl⟩⟩
  · have HP := Lib.hid (ready_prog (headIn_true HR.out).1)
    go_wp2_with fail
    refine (hLo A n c xs _ ((hr.below b2).more b2.size) hn hnc).mono ?_
    rintro e w3 ⟨G, cg, rfl, oG, b3⟩
    have b03 := below_more b2 b3 b2.size
    have hll := looseL_max xs
    have HG := Lib.hid oG
    have HB := Lib.hid b03
    have s3 := b03.size
    clear b3 oG b2 hr b1
    generalize looseL xs = l at *
    generalize hw3 : w3.heap.size = B at *
    go_wp2_with fail
    go_loopw [18] (fun i wr => ∃ k : Nat, k ≤ l.length ∧ i = .int .i64 k ∧ (l.take k).all (fun c => c.kind == 3 && c.target == 0) = true ∧ Below B w3 wr) (fun i _ => l.length - (intOf i).toNat)
    case atStart => exact ⟨0, Nat.zero_le _, rfl, rfl, Below.refl _ _⟩
    case round =>
      obtain ⟨k, hk, rfl, ha, hg⟩ := hrel
      have sr := hg.size
      have HA := Lib.hid ha
      clear ha
      by_cases hlt : k < l.length
      · obtain ⟨g, rfl, hg1, hg2, hg3, hce⟩ := cmr_cells8 HG.out hlt
        have hce : ∀ j v, j < 6 → (cmV (l.getD k cm0))[j]? = some v → wr.cell? ⟨g, k * 6 + j, none⟩ = some v := fun j v hj hv => (hg.cell (p := ⟨g, k * 6 + j, none⟩) (by show g < B; omega)).trans ((hce j hj).trans hv)
        have HNx := Lib.hid (allCt_more (fun c => c.kind == 3 && c.target == 0) l k hlt HA.out)
        have HNo := Lib.hid (allCt_fails (fun c => c.kind == 3 && c.target == 0) l k hlt)
        rw [show l.getD k cm0 = l[k] by simp [List.getD_eq_getElem?_getD, hlt]] at hce
        generalize l[k] = x at *
        obtain ⟨xk, xf, xs', xp, xt, xg⟩ := x
        have e0 : wr.cell? ⟨g, k * 6, none⟩ = some (.int .i64 xk) := hce 0 _ (by omega) rfl
        have e1 : wr.cell? ⟨g, k * 6 + 1, none⟩ = some (.int .i64 xf) := hce 1 _ (by omega) rfl
        have e2 : wr.cell? ⟨g, k * 6 + 2, none⟩ = some (.int .i64 xs') := hce 2 _ (by omega) rfl
        have e3 : wr.cell? ⟨g, k * 6 + 3, none⟩ = some (.int .i64 xp) := hce 3 _ (by omega) rfl
        have e4 : wr.cell? ⟨g, k * 6 + 4, none⟩ = some (.int .i64 xt) := hce 4 _ (by omega) rfl
        have e5 : wr.cell? ⟨g, k * 6 + 5, none⟩ = some (.bool xg) := hce 5 _ (by omega) rfl
        clear hce
        have hg1' := hg.alloc (by omega) (.cells #[.int .i64 xk, .int .i64 xf, .int .i64 xs', .int .i64 xp, .int .i64 xt, .bool xg] 51)
        by_cases h3 : xk = 3
        · by_cases h0 : xt = 0
          · have d1 : (xk != 3) = false := by simp [h3]
            have d2 : (xt != 0) = false := by simp [h0]
            have HE : Hid ((l.take (k + 1)).all (fun c => c.kind == 3 && c.target == 0) = true) := by rw [HNx.out]; simp [h3, h0, Hid]
            clear HNx HNo h3 h0
            go_wp2_with fail
            go_roundw
            case rel => exact ⟨k + 1, by omega, by go_num, HE.out, hg1'⟩
            case measure => simp [intOf]; omega
          · have d1 : (xk != 3) = false := by simp [h3]
            have d2 : (xt != 0) = true := by simpa using h0
            have HE : Hid (readyB xs = false) := by rw [HP.out, HNo.out (by simp [h0])]; exact rfl
            clear HNx HNo h3 h0
            go_wp2_with fail
            exact ⟨rfl, HB.out.trans (hg1'.mono (by omega)), .inr ⟨HE.out, _, _, rfl⟩⟩
        · have d1 : (xk != 3) = true := by simpa using h3
          have HE : Hid (readyB xs = false) := by rw [HP.out, HNo.out (by simp [h3])]; exact rfl
          clear HNx HNo h3
          go_wp2_with fail
          exact ⟨rfl, HB.out.trans (hg1'.mono (by omega)), .inr ⟨HE.out, _, _, rfl⟩⟩
      · obtain rfl : k = l.length := by omega
        have HE : Hid (readyB xs = true) := by
          have := HA.out
          rw [List.take_length] at this
          rw [HP.out]
          exact this
        go_wp2_with fail
        go_ret
        exact ⟨HB.out.trans (hg.mono (by omega)), .inl ⟨HE.out, rfl⟩⟩

/-- A head with another Refs. -/
theorem with_refs {xs : List Int} (hh : hasHead xs = true) (hm : manyN xs < 64) : withHead (moreL xs (List.replicate 8 0)) { headOf xs with refs := manyN xs } = refsL xs := by
  have hall := headB_all (hasHead_ok hh)
  have hb : headB { headOf xs with refs := (manyN xs : Int) } = true := by
    simp only [headB, wordB, Bool.and_eq_true, inB_true]
    omega
  have hml := more_length xs (List.replicate 8 0) (by simp)
  have hmm := more_many xs (List.replicate 8 0) (by simp)
  have hmi := more_img (hasHead_img hh) zeros8 hm
  rw [withHead_yes hb]
  unfold withL
  have hall2 := headB_all hb
  have h8 : eightB (hdW { headOf xs with refs := (manyN xs : Int) }) = true := by
    unfold eightB
    rw [hdW_length, Bool.and_eq_true]
    refine ⟨rfl, ?_⟩
    unfold wordsB
    rw [List.all_eq_true]
    intro x hx
    simp [hdW] at hx
    rw [wordB, inB_true]
    rcases hx with h | h | h | h | h | h | h | h <;> subst h <;> omega
  rw [if_pos]
  · unfold refsL
    rw [more_whole, many_whole, whole_of8 (by rw [hml]; omega)]
    rfl
  · unfold withB
    rw [hmi, h8, inB_true.2 (by omega)]
    simp

set_option maxRecDepth 100000 in
set_option maxHeartbeats 4000000 in
theorem withRefs_any (A : Option Addr) (n c : Nat) (xs : List Int) (w : World) (hr : Rd w w.heap.size A n xs) (hn : n ≤ 2097152) (hnc : n ≤ c) (hh : hasHead xs = true) :
    Calls Tryz.prog 20 #[.slice A n c] w (RetG w (basePC xs)) := by
  have HI := Lib.hid (headIn_yes hh)
  have HM := Lib.hid (hasHead_img hh)
  have HW := Lib.hid (fun hm => with_refs hh hm)
  have HB : Hid (basePC xs = if (headOf xs).refs = 0 then (if manyN xs < 64 then some (refsL xs) else none) else some xs) := rfl
  have hl := hasHead_len hh
  have hxl := hr.len
  clear hh
  go_enter Tryz.func20, Tryz.ntmps20
  go_wp2_with fail
  refine (implHeadIn_any _ _ _ xs _ hr hn).mono ?_
  rintro e w1 ⟨rfl, b1⟩
  rw [HI.out]
  generalize headOf xs = h at *
  obtain ⟨s, f, r, u, m⟩ := h
  unfold hdV
  have b2 := b1.alloc b1.size (.cells #[.int .i64 s, .int .i64 f, .int .i64 r, .int .i64 u, .int .i64 m] 34)
  have hbox : (w1.alloc (.cells #[.int .i64 s, .int .i64 f, .int .i64 r, .int .i64 u, .int .i64 m] 34)).heap[w1.heap.size]? = some (.cells #[.int .i64 s, .int .i64 f, .int .i64 r, .int .i64 u, .int .i64 m] 34 (0, 0)) := heap_alloc_new w1 _
  have hz : (w1.alloc (.cells #[.int .i64 s, .int .i64 f, .int .i64 r, .int .i64 u, .int .i64 m] 34)).heap.size = w1.heap.size + 1 := by simp
  have HZ := Lib.hid hz
  have HBX := Lib.hid hbox
  clear hz hbox
  by_cases h0 : r = 0
  · subst h0
    rw [if_pos rfl] at HB
    go_wp2_with fail
    refine (withZeros_any A n c xs _ ((hr.below b2).more b2.size) hn HM.out).mono ?_
    have s1 := b1.size
    rintro e w3 (⟨hm, g, n3, c3, rfl, hc3, o3, b3⟩ | ⟨hm, ⟨U, V, rfl⟩, b3⟩)
    · have HW2 := Lib.hid (HW.out hm)
      rw [if_pos hm] at HB
      have b03 := below_more b2 b3 b2.size
      have s3 := b3.size
      have HB3 : Hid (w3.heap[w1.heap.size]? = some (.cells #[.int .i64 s, .int .i64 f, .int .i64 0, .int .i64 u, .int .i64 m] 34 (0, 0))) := (b3.block w1.heap.size (by have := HZ.out; omega)).trans HBX.out
      have k0 : w3.cell? ⟨w1.heap.size, 0, none⟩ = some (.int .i64 s) := by rw [cell_of_row w3 w1.heap.size 0 _ _ _ HB3.out]; rfl
      have k1 : w3.cell? ⟨w1.heap.size, 1, none⟩ = some (.int .i64 f) := by rw [cell_of_row w3 w1.heap.size 1 _ _ _ HB3.out]; rfl
      have k2 : w3.cell? ⟨w1.heap.size, 2, none⟩ = some (.int .i64 0) := by rw [cell_of_row w3 w1.heap.size 2 _ _ _ HB3.out]; rfl
      have k3 : w3.cell? ⟨w1.heap.size, 3, none⟩ = some (.int .i64 u) := by rw [cell_of_row w3 w1.heap.size 3 _ _ _ HB3.out]; rfl
      have k4 : w3.cell? ⟨w1.heap.size, 4, none⟩ = some (.int .i64 m) := by rw [cell_of_row w3 w1.heap.size 4 _ _ _ HB3.out]; rfl
      have kf : w3.frozen? ⟨w1.heap.size, 2, none⟩ = false := frozen_of_row w3 w1.heap.size 2 _ _ HB3.out
      have b04 : Below w.heap.size w (w3.setCell ⟨w1.heap.size, 2, none⟩ (.int .i64 (manyN xs))) := b03.setCell s1 _
      have o4 : Ow (w3.setCell ⟨w1.heap.size, 2, none⟩ (.int .i64 (manyN xs))) (w1.heap.size + 1) w3.heap.size (some ⟨g, 0, none⟩) n3 c3 (moreL xs (List.replicate 8 0)) := by
        have := HZ.out
        exact (o3.more (by omega) (Nat.le_refl _)).keep fun q h1 h2 _ => Below.heap_setCell _ _ _ _ (by show q ≠ w1.heap.size; omega)
      have s4 : w3.heap.size ≤ (w3.setCell ⟨w1.heap.size, 2, none⟩ (.int .i64 (manyN xs))).heap.size := by simp [World.setCell]
      have hn3 := o3.len
      rw [more_length _ _ (by simp)] at hn3
      have HN3 := Lib.hid hn3
      have hmx : manyN xs * 8 ≤ 512 := by omega
      clear hn3 b3 b03 HB3 o3
      go_wp2_with fail
      generalize w3.setCell ⟨w1.heap.size, 2, none⟩ (.int .i64 (manyN xs)) = w4 at *
      refine (implWithHead_any (some ⟨g, 0, none⟩) n3 c3 _ ⟨s, f, manyN xs, u, m⟩ w4 (o4.rd.more s4) (by have := HN3.out; omega)).mono ?_
      rintro e w5 ⟨X, nx, cx, rfl, oX, b5⟩
      go_wp2_with fail
      go_ret
      rw [HW2.out] at oX
      rw [HB.out]
      have hcx : nx ≤ cx := by
        rcases oX.form with ⟨_, h0, h1⟩ | ⟨_, _, _, _, _, h1⟩
        · omega
        · exact h1
      exact ⟨X, nx, cx, rfl, oX.rd, hcx, below_more b04 b5 b04.size⟩
    · rw [if_neg hm] at HB
      go_wp2_with fail
      rw [HB.out]
      exact ⟨rfl, ⟨U, V, rfl⟩, below_more b2 b3 b2.size⟩
  · have hd : (r != 0) = true := by simpa using h0
    rw [if_neg h0] at HB
    clear h0
    go_wp2_with fail
    go_ret
    rw [HB.out]
    exact ⟨A, n, c, rfl, (hr.below b2).more b2.size, hnc, b2⟩

/-- Between two rounds: what stands in b, the table Refs beside it, the head's own block. -/
def BkI (w : World) (bx g cg : Nat) (h : Hd) (R : Option (List Int)) (v : Value) (wr : World) : Prop :=
  ∃ (ys : List Int) (fuel : Nat) (A : Option Addr) (n c : Nat), v = .slice A n c ∧ Rd wr wr.heap.size A n ys ∧ n ≤ c ∧ Tidy ys ∧ headOf ys = h ∧ fixBlocks h.refs.toNat fuel ys = R ∧ 64 ≤ fuel + manyN ys ∧
    Ow wr g (g + 1) (some ⟨g, 0, none⟩) 8 cg (cl ys h.refs.toNat) ∧ wr.cell? ⟨bx, 2, none⟩ = some (.int .i64 h.refs) ∧ bx < wr.heap.size ∧ Below w.heap.size w wr

theorem counts_pos {b : List Int} (x : Int) (hx : x ∈ countsC (claimsC b)) : 0 ≤ x := by
  rw [List.mem_iff_getElem?] at hx
  obtain ⟨i, hi⟩ := hx
  have := (counts_bound (claimsC b) (claims_length b) i).1
  rw [List.getD_eq_getElem?_getD, hi] at this
  exact this

theorem with_block {ys : List Int} {R s : Nat} (hh : hasHead ys = true) (hm : manyN ys < 64) (hR : R < manyN ys) (hs : s < 8) (hl : lacksL ys = (s : Int)) :
    withL (moreL ys (List.replicate 8 0)) (R : Int) ((cl ys R).set s (manyN ys)) = blockStep R ys := by
  rw [← (step_prog hR hs hl).1]
  have hmm := more_many ys (List.replicate 8 0) (by simp)
  have hmi := more_img (hasHead_img hh) zeros8 hm
  have hw := (imgB_iff.1 (hasHead_img hh)).1
  have h8 : eightB ((cl ys R).set s (manyN ys : Int)) = true := by
    unfold eightB
    rw [List.length_set, cl_length, Bool.and_eq_true]
    refine ⟨rfl, ?_⟩
    unfold wordsB
    rw [List.all_eq_true]
    intro x hx
    rcases List.mem_or_eq_of_mem_set hx with hx | rfl
    · rw [List.mem_iff_getElem?] at hx
      obtain ⟨i, hi⟩ := hx
      have hi8 : i < 8 := by
        have := (List.getElem?_eq_some_iff.1 hi).1
        rw [cl_length] at this
        exact this
      have e := cl_word_get ys R i hi8
      rw [List.getD_eq_getElem?_getD, hi, Option.getD_some] at e
      rw [e]
      by_cases hlt : R * 8 + i < ys.length
      · rw [List.getD_eq_getElem?_getD, List.getElem?_eq_getElem hlt]
        exact hw _ (List.getElem_mem _)
      · rw [getD_past _ _ (by omega)]
        rfl
    · exact inB_true.2 (by omega)
  unfold withL
  rw [if_pos]
  · rw [Int.toNat_natCast]
  · unfold withB
    rw [hmi, h8, inB_true.2 (by omega)]
    simp
    omega

set_option maxRecDepth 100000 in
set_option maxHeartbeats 8000000 in
theorem withBlocks_any (hC : CountsC) (hT : TableC) (A : Option Addr) (n c : Nat) (xs : List Int) (w : World) (hr : Rd w w.heap.size A n xs) (hnc : n ≤ c) (T : Tidy xs) (h0 : (headOf xs).refs ≠ 0) :
    Calls Tryz.prog 19 #[.slice A n c] w (RetG w (blocksL xs)) := by
  have HX := Lib.hid hr.len
  have hlen := hasHead_len T.head
  have hn : n ≤ 512 := by have := HX.out; omega
  have HI := Lib.hid (headIn_yes T.head)
  have HT0 := Lib.hid T
  obtain ⟨r1, r2⟩ := refs_ne T h0
  obtain ⟨R, hR⟩ : ∃ R, R = blocksL xs := ⟨_, rfl⟩
  have HF : Hid (fixBlocks (headOf xs).refs.toNat 64 xs = R) := hR.symm
  rw [← hR]
  have HTL := Lib.hid (tableL_in (xs := xs) (t := (headOf xs).refs) T.head (inB_true.2 (by omega)))
  clear hR T
  go_enter Tryz.func19, Tryz.ntmps19
  go_wp2_with fail
  refine (implHeadIn_any _ _ _ xs _ hr (by omega)).mono ?_
  rintro e w1 ⟨rfl, b1⟩
  rw [HI.out]
  have HH : Hid (headOf xs = headOf xs) := rfl
  generalize hho : headOf xs = h at *
  have HHO := Lib.hid hho
  clear hho HH
  obtain ⟨s, f, r, u, m⟩ := h
  simp only at r1 r2 h0
  obtain ⟨ρ, rfl⟩ := Int.eq_ofNat_of_zero_le (show 0 ≤ r by omega)
  unfold hdV
  have b2 := b1.alloc b1.size (.cells #[.int .i64 s, .int .i64 f, .int .i64 (ρ : Int), .int .i64 u, .int .i64 m] 34)
  have c2 : (w1.alloc (.cells #[.int .i64 s, .int .i64 f, .int .i64 (ρ : Int), .int .i64 u, .int .i64 m] 34)).cell? ⟨w1.heap.size, 2, none⟩ = some (.int .i64 (ρ : Int)) := World.cell?_alloc_new _ _ _ _
  have hz : (w1.alloc (.cells #[.int .i64 s, .int .i64 f, .int .i64 (ρ : Int), .int .i64 u, .int .i64 m] 34)).heap.size = w1.heap.size + 1 := by simp
  have HZ := Lib.hid hz
  clear hz
  go_wp2_with fail
  refine (hT A n c xs (ρ : Int) _ ((hr.below b2).more b2.size) (by omega) hnc).mono ?_
  rintro e w3 ⟨X, nx, cx, rfl, oX, b3⟩
  have HTL' : tableL xs (ρ : Int) = cl xs (ρ : Int).toNat := HTL.out
  rw [HTL', Int.toNat_natCast] at oX
  obtain rfl : 8 = nx := by have := oX.len; rw [cl_length] at this; exact this
  rcases oX.form with ⟨_, hh, _⟩ | ⟨g, rfl, g1, g2, g3, g4⟩
  · omega
  have b03 := below_more b2 b3 b2.size
  have q2 := (b3.cell (p := ⟨w1.heap.size, 2, none⟩) (by show w1.heap.size < _; have := HZ.out; omega)).trans c2
  have hbx : w1.heap.size < w3.heap.size := by have := b3.size; have := HZ.out; omega
  have hgb : w1.heap.size < g := by have := HZ.out; omega
  have o3 : Ow w3 g (g + 1) (some ⟨g, 0, none⟩) 8 cx (cl xs ρ) := ⟨by
    rcases oX.own.2 with ⟨hv, _⟩ | ⟨g', cap, cur, hv, hb, hg, k1, k2, k3, k4⟩
    · cases hv
    · injection hv with e1 e2 e3
      injection e1 with e1
      injection e1 with e1
      subst e1; subst e3
      exact ⟨oX.own.1, .inr ⟨g, cx, cur, rfl, Nat.le_refl _, hg, k1, k2, k3, k4⟩⟩, fun k hk => by simp [Value.ownBlock] at hk; omega⟩
  have HREL : Hid (BkI w w1.heap.size g cx ⟨s, f, (ρ : Int), u, m⟩ R (.slice A n c) w3) := ⟨xs, 64, A, n, c, rfl, (hr.below b03).more b03.size, hnc, HT0.out, HHO.out, HF.out, by omega, by rw [Int.toNat_natCast]; exact o3, q2, hbx, b03⟩
  have gw : w.heap.size ≤ g := by have := b2.size; omega
  have bxw : w.heap.size ≤ w1.heap.size := b1.size
  clear q2 o3 b03 oX b3 b2 c2 HZ HTL HTL' HF HT0 HHO HI b1 hr r2 h0 hbx
  go_wp2_with fail
  go_loopw [0] (fun v wr => BkI w w1.heap.size g cx ⟨s, f, (ρ : Int), u, m⟩ R v wr) (fun v _ => 1000 - lenV v)
  case atStart => exact HREL.out
  case round =>
    obtain ⟨ys, fuel, A2, n2, c2, rfl, hr2, hc2, T2, hh2, hfix, hfu, ho2, q2, hbxr, hb2⟩ := hrel
    clear HREL
    have hlen2 := hasHead_len T2.head
    have hl2 := hr2.len
    have hn2 : n2 ≤ 512 := by omega
    have HL2 := Lib.hid hl2
    have HH2 := Lib.hid hh2
    have HF2 := Lib.hid hfix
    have HT2 := Lib.hid T2
    have HO2 : Hid (Ow wr g (g + 1) (some ⟨g, 0, none⟩) 8 cx (cl ys ρ)) := ho2
    have hmm : n2 ≤ manyN ys * 8 := by unfold manyN; omega
    have hre : (headOf ys).refs = (ρ : Int) := by rw [hh2]
    have hr0 : (headOf ys).refs ≠ 0 := by rw [hre]; omega
    have HRE := Lib.hid hre
    have HR0 := Lib.hid hr0
    have HCE : Hid (countsL ys = countsC (claimsC ys)) := by show _ = _; unfold countsL; rw [if_pos T2.head]
    have hgr := ow_lt ho2
    clear hfix hl2 T2 ho2 hh2 hre hr0
    go_wp2_with fail
    refine (hC A2 n2 c2 ys wr hr2 (by omega) hc2).mono ?_
    rintro e w4 ⟨C, nc, cc, rfl, oC, b4⟩
    rw [HCE.out] at oC
    obtain rfl : 64 = nc := by have := oC.len; rw [counts_length] at this; exact this
    rcases oC.form with ⟨_, hh, _⟩ | ⟨gc, rfl, k1, k2, k3, k4⟩
    · omega
    have ho4 := HO2.out.below b4 (by omega)
    have s4 := b4.size
    have HO4 := Lib.hid ho4
    have HB4 := Lib.hid (below_more hb2 b4 hb2.size)
    have hr4 := (hr2.below b4).more b4.size
    have q4 := (b4.cell (p := ⟨w1.heap.size, 2, none⟩) hbxr).trans q2
    have HCt := Lib.hid (fun x hx => counts_pos (b := ys) x hx)
    go_wp2_with fail
    refine (slotLacks_any gc cc g cx _ _ w4 oC.rd (ho4.rd.more (by omega)) k4 HCt.out).mono ?_
    have HRd := Lib.hid hr4
    clear ho4 oC hr2 b4 q2 hr4
    rintro e w5 ⟨rfl, (⟨σ, hσ, rfl, hp, hs⟩ | ⟨rfl, hp⟩)⟩
    · have hlk : lacksL ys = (σ : Int) := lacks_found HT2.out HR0.out hσ (by rw [HRE.out, Int.toNat_natCast]; exact hp) (by rw [HRE.out, Int.toNat_natCast]; exact hs)
      have hneg : ¬ lacksL ys < 0 := by omega
      have hρ : ρ < manyN ys := by have := refs_ne HT2.out HR0.out; have := HRE.out; omega
      have HSP := Lib.hid (step_prog (b := ys) (R := ρ) (s := σ) hρ hσ hlk)
      have HWB := Lib.hid (fun hm => with_block (ys := ys) (R := ρ) (s := σ) HT2.out.head hm hρ hσ hlk)
      have HNN := Lib.hid (fun h2 => fix_none (refs := ρ) (xs := ys) hneg h2 fuel)
      have HFS := Lib.hid (fun h2 k => fix_step (refs := ρ) (xs := ys) hneg h2 k)
      have HON : Hid (manyN ys < 64 → Onto ys (blockStep ρ ys) ∧ headOf (blockStep ρ ys) = headOf ys) := fun h2 => by
        have := onto_block HT2.out HR0.out h2 hneg
        rw [HRE.out, Int.toNat_natCast] at this
        exact this
      clear hlk hp hs hneg
      go_wp2_with fail
      refine (withZeros_any A2 n2 c2 ys w5 HRd.out (by omega) (hasHead_img HT2.out.head)).mono ?_
      rintro e w6 (⟨hm, g6, n6, c6, rfl, hc6, o6, b6⟩ | ⟨hm, ⟨U, V, rfl⟩, b6⟩)
      · have s6 := b6.size
        have ho6 := HO4.out.below b6 (by omega)
        have hco := ho6.cell hσ
        have hfo := ho6.free σ
        have HSt := Lib.hid (ho6.set σ (manyN ys))
        have HB6 := Lib.hid (below_more HB4.out b6 HB4.out.size)
        have q6 := (b6.cell (p := ⟨w1.heap.size, 2, none⟩) (by show w1.heap.size < _; omega)).trans q4
        have q6' : (w6.setCell ⟨g, σ, none⟩ (.int .i64 (manyN ys))).cell? ⟨w1.heap.size, 2, none⟩ = some (.int .i64 (ρ : Int)) := (World.cell?_setCell_other _ _ _ _ (by intro e; injection e with e; omega)).trans q6
        have hn6 := o6.len
        rw [more_length _ _ (by simp)] at hn6
        have HN6 := Lib.hid hn6
        have o6' := o6.keep (w' := w6.setCell ⟨g, σ, none⟩ (.int .i64 (manyN ys))) fun q h1 h2 _ => Below.heap_setCell _ _ _ _ (by show q ≠ g; omega)
        have HO6 := Lib.hid o6'
        clear b6 ho6 o6 o6' hn6
        generalize (cl ys ρ).getD σ 0 = y at *
        go_wp2_with fail
        obtain ⟨o7, g7⟩ := HSt.out
        have s7 := g7.size
        have b7 : Below w.heap.size w (w6.setCell ⟨g, σ, none⟩ (.int .i64 (manyN ys))) := HB6.out.grown g7 HB6.out.size (fun k e => by cases e; omega)
        have HST2 := Lib.hid HSP.out.2
        have HWB2 := Lib.hid (HWB.out hm)
        generalize w6.setCell ⟨g, σ, none⟩ (.int .i64 (manyN ys)) = w7 at *
        refine (implWcl_any (some ⟨g6, 0, none⟩) n6 c6 _ (ρ : Int) (some ⟨g, 0, none⟩) 8 cx _ w7 (HO6.out.rd.more (by omega)) (o7.rd.more (by omega)) (by have := HN6.out; omega) (by omega)).mono ?_
        rintro e w8 ⟨Y, ny, cy, rfl, oY, b8⟩
        rw [HWB2.out] at oY
        rw [← HST2.out] at o7
        have hcy : ny ≤ cy := by
          rcases oY.form with ⟨_, h0, h1⟩ | ⟨_, _, _, _, _, h1⟩
          · omega
          · exact h1
        have hly := oY.len
        have hms : manyN (blockStep ρ ys) = manyN ys + 1 := block_many
        obtain ⟨hO, hHo⟩ := HON.out hm
        have s8 := b8.size
        go_wp2_with fail
        go_roundw
        case rel =>
          have hfu0 : fuel ≠ 0 := by omega
          obtain ⟨fu, rfl⟩ : ∃ fu, fuel = fu + 1 := ⟨fuel - 1, by omega⟩
          refine ⟨blockStep ρ ys, fu, Y, ny, cy, rfl, oY.rd, hcy, hO.tidy, hHo.trans HH2.out, ?_, by omega, o7.below b8 (by omega), (b8.cell (p := ⟨w1.heap.size, 2, none⟩) (by show w1.heap.size < _; omega)).trans q6', by omega, below_more b7 b8 b7.size⟩
          have := HF2.out
          rw [Int.toNat_natCast, HFS.out hm] at this
          exact this
        case measure =>
          have hly2 : ny = manyN ys * 8 + 8 := by
            rw [← hly]
            unfold blockStep
            rw [List.length_set, more_length _ _ (by simp)]
          simp only [lenV]
          omega
      · have HNN2 := Lib.hid (HNN.out (by omega))
        go_wp2_with fail
        have e : R = none := by
          have := HF2.out
          rw [Int.toNat_natCast, HNN2.out] at this
          exact this.symm
        rw [e]
        exact ⟨rfl, ⟨U, V, rfl⟩, below_more HB4.out b6 HB4.out.size⟩
    · have hlk : lacksL ys < 0 := lacks_passed HT2.out HR0.out (by rw [HRE.out, Int.toNat_natCast]; exact hp)
      have HD := Lib.hid (fix_done (refs := ρ) hlk fuel)
      clear hlk hp
      go_wp2_with fail
      go_ret
      have e : R = some ys := by
        have := HF2.out
        rw [Int.toNat_natCast, HD.out] at this
        exact this.symm
      rw [e]
      exact ⟨A2, n2, c2, rfl, HRd.out, hc2, HB4.out⟩

end Go.Proofs.YtfolbhjljpnjlabGreat
