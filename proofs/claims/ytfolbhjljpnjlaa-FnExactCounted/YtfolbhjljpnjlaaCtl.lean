/- Counting anew (chapter 14), the program's side: the blocks that are lacking. -/
import Derived.Test.YtfolbhjljpnjlaaCtk
namespace Go.Proofs.Ytfolbhjljpnjlaa
open Go.RowKit

/-- Between two rounds: what stands in b, the table Refs beside it, the head's own block. -/
def BkI (w : World) (bx g cg : Nat) (h : Hd) (R : Option (List Int)) (v : Value) (wr : World) : Prop :=
  ∃ (ys : List Int) (fuel : Nat) (A : Option Addr) (n c : Nat), v = .slice A n c ∧ Rd wr wr.heap.size A n ys ∧ n ≤ c ∧ Tidy ys ∧ headOf ys = h ∧ fixBlocks h.refs.toNat fuel ys = R ∧ 64 ≤ fuel + manyN ys ∧
    Ow wr g (g + 1) (some ⟨g, 0, none⟩) 8 cg (cl ys h.refs.toNat) ∧ wr.cell? ⟨bx, 2, none⟩ = some (.int .i64 h.refs) ∧ bx < wr.heap.size ∧ Below w.heap.size w wr

theorem counts_pos {b : List Int} (x : Int) (hx : x ∈ countsC (claimsC b)) : 0 ≤ x := by
  rw [List.mem_iff_getElem?] at hx
  obtain ⟨i, hi⟩ := hx
  have := (counts_bound (claimsC b) (claims_length b) i).1
  rw [List.getD_eq_getElem?_getD, hi] at this
  exact this

theorem with_block {ys : List Int} {R s : Nat} (hh : hasHead ys = true) (hm : manyN ys < 64) (hR : R < manyN ys) (hs : s < 8) (hl : lacksL ys = (s : Int)) :
    withL (moreL ys (List.replicate 8 0)) (R : Int) ((cl ys R).set s (manyN ys)) = blockStep R ys := by
  rw [← (step_prog hR hs hl).1]
  have hmm := more_many ys (List.replicate 8 0) (by simp)
  have hmi := more_img (hasHead_img hh) zeros8 hm
  have hw := (imgB_iff.1 (hasHead_img hh)).1
  have h8 : eightB ((cl ys R).set s (manyN ys : Int)) = true := by
    unfold eightB
    rw [List.length_set, cl_length, Bool.and_eq_true]
    refine ⟨rfl, ?_⟩
    unfold wordsB
    rw [List.all_eq_true]
    intro x hx
    rcases List.mem_or_eq_of_mem_set hx with hx | rfl
    · rw [List.mem_iff_getElem?] at hx
      obtain ⟨i, hi⟩ := hx
      have hi8 : i < 8 := by
        have := (List.getElem?_eq_some_iff.1 hi).1
        rw [cl_length] at this
        exact this
      have e := cl_word_get ys R i hi8
      rw [List.getD_eq_getElem?_getD, hi, Option.getD_some] at e
      rw [e]
      by_cases hlt : R * 8 + i < ys.length
      · rw [List.getD_eq_getElem?_getD, List.getElem?_eq_getElem hlt]
        exact hw _ (List.getElem_mem _)
      · rw [getD_past _ _ (by omega)]
        rfl
    · exact inB_true.2 (by omega)
  unfold withL
  rw [if_pos]
  · rw [Int.toNat_natCast]
  · unfold withB
    rw [hmi, h8, inB_true.2 (by omega)]
    simp
    omega

set_option maxRecDepth 100000 in
set_option maxHeartbeats 8000000 in
theorem withBlocks_any (hC : CountsC) (hT : TableC) (A : Option Addr) (n c : Nat) (xs : List Int) (w : World) (hr : Rd w w.heap.size A n xs) (hnc : n ≤ c) (T : Tidy xs) (h0 : (headOf xs).refs ≠ 0) :
    Calls Try.prog 20 #[.slice A n c] w (RetG w (blocksL xs)) := by
  have HX := Lib.hid hr.len
  have hlen := hasHead_len T.head
  have hn : n ≤ 512 := by have := HX.out; omega
  have HI := Lib.hid (headIn_yes T.head)
  have HT0 := Lib.hid T
  obtain ⟨r1, r2⟩ := refs_ne T h0
  obtain ⟨R, hR⟩ : ∃ R, R = blocksL xs := ⟨_, rfl⟩
  have HF : Hid (fixBlocks (headOf xs).refs.toNat 64 xs = R) := hR.symm
  rw [← hR]
  have HTL := Lib.hid (tableL_in (xs := xs) (t := (headOf xs).refs) T.head (inB_true.2 (by omega)))
  clear hR T
  go_enter Try.func20, Try.ntmps20
  go_wp2_with fail
  refine (implHeadIn_any _ _ _ xs _ hr (by omega)).mono ?_
  rintro e w1 ⟨rfl, b1⟩
  rw [HI.out]
  have HH : Hid (headOf xs = headOf xs) := rfl
  generalize hho : headOf xs = h at *
  have HHO := Lib.hid hho
  clear hho HH
  obtain ⟨s, f, r, u, m⟩ := h
  simp only at r1 r2 h0
  obtain ⟨ρ, rfl⟩ := Int.eq_ofNat_of_zero_le (show 0 ≤ r by omega)
  unfold hdV
  have b2 := b1.alloc b1.size (.cells #[.int .i64 s, .int .i64 f, .int .i64 (ρ : Int), .int .i64 u, .int .i64 m] 28)
  have c2 : (w1.alloc (.cells #[.int .i64 s, .int .i64 f, .int .i64 (ρ : Int), .int .i64 u, .int .i64 m] 28)).cell? ⟨w1.heap.size, 2, none⟩ = some (.int .i64 (ρ : Int)) := World.cell?_alloc_new _ _ _ _
  have hz : (w1.alloc (.cells #[.int .i64 s, .int .i64 f, .int .i64 (ρ : Int), .int .i64 u, .int .i64 m] 28)).heap.size = w1.heap.size + 1 := by simp
  have HZ := Lib.hid hz
  clear hz
  go_wp2_with fail
  refine (hT A n c xs (ρ : Int) _ ((hr.below b2).more b2.size) (by omega) hnc).mono ?_
  rintro e w3 ⟨X, nx, cx, rfl, oX, b3⟩
  have HTL' : tableL xs (ρ : Int) = cl xs (ρ : Int).toNat := HTL.out
  rw [HTL', Int.toNat_natCast] at oX
  obtain rfl : 8 = nx := by have := oX.len; rw [cl_length] at this; exact this
  rcases oX.form with ⟨_, hh, _⟩ | ⟨g, rfl, g1, g2, g3, g4⟩
  · omega
  have b03 := below_more b2 b3 b2.size
  have q2 := (b3.cell (p := ⟨w1.heap.size, 2, none⟩) (by show w1.heap.size < _; have := HZ.out; omega)).trans c2
  have hbx : w1.heap.size < w3.heap.size := by have := b3.size; have := HZ.out; omega
  have hgb : w1.heap.size < g := by have := HZ.out; omega
  have o3 : Ow w3 g (g + 1) (some ⟨g, 0, none⟩) 8 cx (cl xs ρ) := ⟨by
    rcases oX.own.2 with ⟨hv, _⟩ | ⟨g', cap, cur, hv, hb, hg, k1, k2, k3, k4⟩
    · cases hv
    · injection hv with e1 e2 e3
      injection e1 with e1
      injection e1 with e1
      subst e1; subst e3
      exact ⟨oX.own.1, .inr ⟨g, cx, cur, rfl, Nat.le_refl _, hg, k1, k2, k3, k4⟩⟩, fun k hk => by simp [Value.ownBlock] at hk; omega⟩
  have HREL : Hid (BkI w w1.heap.size g cx ⟨s, f, (ρ : Int), u, m⟩ R (.slice A n c) w3) := ⟨xs, 64, A, n, c, rfl, (hr.below b03).more b03.size, hnc, HT0.out, HHO.out, HF.out, by omega, by rw [Int.toNat_natCast]; exact o3, q2, hbx, b03⟩
  have gw : w.heap.size ≤ g := by have := b2.size; omega
  have bxw : w.heap.size ≤ w1.heap.size := b1.size
  clear q2 o3 b03 oX b3 b2 c2 HZ HTL HTL' HF HT0 HHO HI b1 hr r2 h0 hbx
  go_wp2_with fail
  go_loopw [0] (fun v wr => BkI w w1.heap.size g cx ⟨s, f, (ρ : Int), u, m⟩ R v wr) (fun v _ => 1000 - lenV v)
  case atStart => exact HREL.out
  case round =>
    obtain ⟨ys, fuel, A2, n2, c2, rfl, hr2, hc2, T2, hh2, hfix, hfu, ho2, q2, hbxr, hb2⟩ := hrel
    clear HREL
    have hlen2 := hasHead_len T2.head
    have hl2 := hr2.len
    have hn2 : n2 ≤ 512 := by omega
    have HL2 := Lib.hid hl2
    have HH2 := Lib.hid hh2
    have HF2 := Lib.hid hfix
    have HT2 := Lib.hid T2
    have HO2 : Hid (Ow wr g (g + 1) (some ⟨g, 0, none⟩) 8 cx (cl ys ρ)) := ho2
    have hmm : n2 ≤ manyN ys * 8 := by unfold manyN; omega
    have hre : (headOf ys).refs = (ρ : Int) := by rw [hh2]
    have hr0 : (headOf ys).refs ≠ 0 := by rw [hre]; omega
    have HRE := Lib.hid hre
    have HR0 := Lib.hid hr0
    have HCE : Hid (countsL ys = countsC (claimsC ys)) := by show _ = _; unfold countsL; rw [if_pos T2.head]
    have hgr := ow_lt ho2
    clear hfix hl2 T2 ho2 hh2 hre hr0
    go_wp2_with fail
    refine (hC A2 n2 c2 ys wr hr2 (by omega) hc2).mono ?_
    rintro e w4 ⟨C, nc, cc, rfl, oC, b4⟩
    rw [HCE.out] at oC
    obtain rfl : 64 = nc := by have := oC.len; rw [counts_length] at this; exact this
    rcases oC.form with ⟨_, hh, _⟩ | ⟨gc, rfl, k1, k2, k3, k4⟩
    · omega
    have ho4 := HO2.out.below b4 (by omega)
    have s4 := b4.size
    have HO4 := Lib.hid ho4
    have HB4 := Lib.hid (below_more hb2 b4 hb2.size)
    have hr4 := (hr2.below b4).more b4.size
    have q4 := (b4.cell (p := ⟨w1.heap.size, 2, none⟩) hbxr).trans q2
    have HCt := Lib.hid (fun x hx => counts_pos (b := ys) x hx)
    go_wp2_with fail
    refine (slotLacks_any gc cc g cx _ _ w4 oC.rd (ho4.rd.more (by omega)) k4 HCt.out).mono ?_
    have HRd := Lib.hid hr4
    clear ho4 oC hr2 b4 q2 hr4
    rintro e w5 ⟨rfl, (⟨σ, hσ, rfl, hp, hs⟩ | ⟨rfl, hp⟩)⟩
    · have hlk : lacksL ys = (σ : Int) := lacks_found HT2.out HR0.out hσ (by rw [HRE.out, Int.toNat_natCast]; exact hp) (by rw [HRE.out, Int.toNat_natCast]; exact hs)
      have hneg : ¬ lacksL ys < 0 := by omega
      have hρ : ρ < manyN ys := by have := refs_ne HT2.out HR0.out; have := HRE.out; omega
      have HSP := Lib.hid (step_prog (b := ys) (R := ρ) (s := σ) hρ hσ hlk)
      have HWB := Lib.hid (fun hm => with_block (ys := ys) (R := ρ) (s := σ) HT2.out.head hm hρ hσ hlk)
      have HNN := Lib.hid (fun h2 => fix_none (refs := ρ) (xs := ys) hneg h2 fuel)
      have HFS := Lib.hid (fun h2 k => fix_step (refs := ρ) (xs := ys) hneg h2 k)
      have HON : Hid (manyN ys < 64 → Onto ys (blockStep ρ ys) ∧ headOf (blockStep ρ ys) = headOf ys) := fun h2 => by
        have := onto_block HT2.out HR0.out h2 hneg
        rw [HRE.out, Int.toNat_natCast] at this
        exact this
      clear hlk hp hs hneg
      go_wp2_with fail
      refine (withZeros_any A2 n2 c2 ys w5 HRd.out (by omega) (hasHead_img HT2.out.head)).mono ?_
      rintro e w6 (⟨hm, g6, n6, c6, rfl, hc6, o6, b6⟩ | ⟨hm, ⟨U, V, rfl⟩, b6⟩)
      · have s6 := b6.size
        have ho6 := HO4.out.below b6 (by omega)
        have hco := ho6.cell hσ
        have hfo := ho6.free σ
        have HSt := Lib.hid (ho6.set σ (manyN ys))
        have HB6 := Lib.hid (below_more HB4.out b6 HB4.out.size)
        have q6 := (b6.cell (p := ⟨w1.heap.size, 2, none⟩) (by show w1.heap.size < _; omega)).trans q4
        have q6' : (w6.setCell ⟨g, σ, none⟩ (.int .i64 (manyN ys))).cell? ⟨w1.heap.size, 2, none⟩ = some (.int .i64 (ρ : Int)) := (World.cell?_setCell_other _ _ _ _ (by intro e; injection e with e; omega)).trans q6
        have hn6 := o6.len
        rw [more_length _ _ (by simp)] at hn6
        have HN6 := Lib.hid hn6
        have o6' := o6.keep (w' := w6.setCell ⟨g, σ, none⟩ (.int .i64 (manyN ys))) fun q h1 h2 _ => Below.heap_setCell _ _ _ _ (by show q ≠ g; omega)
        have HO6 := Lib.hid o6'
        clear b6 ho6 o6 o6' hn6
        generalize (cl ys ρ).getD σ 0 = y at *
        go_wp2_with fail
        obtain ⟨o7, g7⟩ := HSt.out
        have s7 := g7.size
        have b7 : Below w.heap.size w (w6.setCell ⟨g, σ, none⟩ (.int .i64 (manyN ys))) := HB6.out.grown g7 HB6.out.size (fun k e => by cases e; omega)
        have HST2 := Lib.hid HSP.out.2
        have HWB2 := Lib.hid (HWB.out hm)
        generalize w6.setCell ⟨g, σ, none⟩ (.int .i64 (manyN ys)) = w7 at *
        refine (implWcl_any (some ⟨g6, 0, none⟩) n6 c6 _ (ρ : Int) (some ⟨g, 0, none⟩) 8 cx _ w7 (HO6.out.rd.more (by omega)) (o7.rd.more (by omega)) (by have := HN6.out; omega) (by omega)).mono ?_
        rintro e w8 ⟨Y, ny, cy, rfl, oY, b8⟩
        rw [HWB2.out] at oY
        rw [← HST2.out] at o7
        have hcy : ny ≤ cy := by
          rcases oY.form with ⟨_, h0, h1⟩ | ⟨_, _, _, _, _, h1⟩
          · omega
          · exact h1
        have hly := oY.len
        have hms : manyN (blockStep ρ ys) = manyN ys + 1 := block_many
        obtain ⟨hO, hHo⟩ := HON.out hm
        have s8 := b8.size
        go_wp2_with fail
        go_roundw
        case rel =>
          have hfu0 : fuel ≠ 0 := by omega
          obtain ⟨fu, rfl⟩ : ∃ fu, fuel = fu + 1 := ⟨fuel - 1, by omega⟩
          refine ⟨blockStep ρ ys, fu, Y, ny, cy, rfl, oY.rd, hcy, hO.tidy, hHo.trans HH2.out, ?_, by omega, o7.below b8 (by omega), (b8.cell (p := ⟨w1.heap.size, 2, none⟩) (by show w1.heap.size < _; omega)).trans q6', by omega, below_more b7 b8 b7.size⟩
          have := HF2.out
          rw [Int.toNat_natCast, HFS.out hm] at this
          exact this
        case measure =>
          have hly2 : ny = manyN ys * 8 + 8 := by
            rw [← hly]
            unfold blockStep
            rw [List.length_set, more_length _ _ (by simp)]
          simp only [lenV]
          omega
      · have HNN2 := Lib.hid (HNN.out (by omega))
        go_wp2_with fail
        have e : R = none := by
          have := HF2.out
          rw [Int.toNat_natCast, HNN2.out] at this
          exact this.symm
        rw [e]
        exact ⟨rfl, ⟨U, V, rfl⟩, below_more HB4.out b6 HB4.out.size⟩
    · have hlk : lacksL ys < 0 := lacks_passed HT2.out HR0.out (by rw [HRE.out, Int.toNat_natCast]; exact hp)
      have HD := Lib.hid (fix_done (refs := ρ) hlk fuel)
      clear hlk hp
      go_wp2_with fail
      go_ret
      have e : R = some ys := by
        have := HF2.out
        rw [Int.toNat_natCast, HD.out] at this
        exact this.symm
      rw [e]
      exact ⟨A2, n2, c2, rfl, HRd.out, hc2, HB4.out⟩
end Go.Proofs.Ytfolbhjljpnjlaa
