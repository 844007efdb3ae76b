/- Counting anew (chapter 14), the program's side: the blocks that are lacking. Counting anew (chapter 14), the program's side: the counts are written. Counting anew (chapter 14), the program's side: the counts are written, claim by claim. -/
import Derived.Test.YtiokfhdkbpoadaaGreatDoorQF
import Derived.Test.YtiokfhdkbpoadaaGreatDoorX2
namespace Go.Proofs.YtiokfhdkbpoadaaGreatDoor
open Go.RowKit
open Go.RowKit Go.Shelf

/-- Between two rounds: what stands in b, the table Refs beside it, the head's own block. -/
def BkI (w : World) (bx g cg : Nat) (h : Hd) (R : Option (List Int)) (v : Value) (wr : World) : Prop :=
  ∃ (ys : List Int) (fuel : Nat) (A : Option Addr) (n c : Nat), v = .slice A n c ∧ Rd wr wr.heap.size A n ys ∧ n ≤ c ∧ Tidy ys ∧ headOf ys = h ∧ fixBlocks h.refs.toNat fuel ys = R ∧ 64 ≤ fuel + manyN ys ∧
    Ow wr g (g + 1) (some ⟨g, 0, none⟩) 8 cg (cl ys h.refs.toNat) ∧ wr.cell? ⟨bx, 2, none⟩ = some (.int .i64 h.refs) ∧ bx < wr.heap.size ∧ Below w.heap.size w wr

theorem counts_pos {b : List Int} (x : Int) (hx : x ∈ countsC (claimsC b)) : 0 ≤ x := by
  rw [List.mem_iff_getElem?] at hx
  obtain ⟨i, hi⟩ := hx
  have := (counts_bound (claimsC b) (claims_length b) i).1
  rw [List.getD_eq_getElem?_getD, hi] at this
  exact this

theorem with_block {ys : List Int} {R s : Nat} (hh : hasHead ys = true) (hm : manyN ys < 64) (hR : R < manyN ys) (hs : s < 8) (hl : lacksL ys = (s : Int)) :
    withL (moreL ys (List.replicate 8 0)) (R : Int) ((cl ys R).set s (manyN ys)) = blockStep R ys := by
  rw [← (step_prog hR hs hl).1]
  have hmm := more_many ys (List.replicate 8 0) (by simp)
  have hmi := more_img (hasHead_img hh) zeros8 hm
  have hw := (imgB_iff.1 (hasHead_img hh)).1
  have h8 : eightB ((cl ys R).set s (manyN ys : Int)) = true := by
    unfold eightB
    rw [List.length_set, cl_length, Bool.and_eq_true]
    refine ⟨rfl, ?_⟩
    unfold wordsB
    rw [List.all_eq_true]
    intro x hx
    rcases List.mem_or_eq_of_mem_set hx with hx | rfl
    · rw [List.mem_iff_getElem?] at hx
      obtain ⟨i, hi⟩ := hx
      have hi8 : i < 8 := by
        have := (List.getElem?_eq_some_iff.1 hi).1
        rw [cl_length] at this
        exact this
      have e := cl_word_get ys R i hi8
      rw [List.getD_eq_getElem?_getD, hi, Option.getD_some] at e
      rw [e]
      by_cases hlt : R * 8 + i < ys.length
      · rw [List.getD_eq_getElem?_getD, List.getElem?_eq_getElem hlt]
        exact hw _ (List.getElem_mem _)
      · rw [getD_past _ _ (by omega)]
        rfl
    · exact inB_true.2 (by omega)
  unfold withL
  rw [if_pos]
  · rw [Int.toNat_natCast]
  · unfold withB
    rw [hmi, h8, inB_true.2 (by omega)]
    simp
    omega

set_option maxRecDepth 100000 in
set_option maxHeartbeats 8000000 in
theorem withBlocks_any (hC : CountsC) (hT : TableC) (A : Option Addr) (n c : Nat) (xs : List Int) (w : World) (hr : Rd w w.heap.size A n xs) (hnc : n ≤ c) (T : Tidy xs) (h0 : (headOf xs).refs ≠ 0) :
    Calls Tryz.prog 102 #[.slice A n c] w (RetG w (blocksL xs)) := by
  have HX := Lib.hid hr.len
  have hlen := hasHead_len T.head
  have hn : n ≤ 512 := by have := HX.out; omega
  have HI := Lib.hid (headIn_yes T.head)
  have HT0 := Lib.hid T
  obtain ⟨r1, r2⟩ := refs_ne T h0
  obtain ⟨R, hR⟩ : ∃ R, R = blocksL xs := ⟨_, rfl⟩
  have HF : Hid (fixBlocks (headOf xs).refs.toNat 64 xs = R) := hR.symm
  rw [← hR]
  have HTL := Lib.hid (tableL_in (xs := xs) (t := (headOf xs).refs) T.head (inB_true.2 (by omega)))
  clear hR T
  go_enter Tryz.func102, Tryz.ntmps102
  go_wp2_with fail
  refine (implHeadIn_any _ _ _ xs _ hr (by omega)).mono ?_
  rintro e w1 ⟨rfl, b1⟩
  rw [HI.out]
  have HH : Hid (headOf xs = headOf xs) := rfl
  generalize hho : headOf xs = h at *
  have HHO := Lib.hid hho
  clear hho HH
  obtain ⟨s, f, r, u, m⟩ := h
  simp only at r1 r2 h0
  obtain ⟨ρ, rfl⟩ := Int.eq_ofNat_of_zero_le (show 0 ≤ r by omega)
  unfold hdV
  have b2 := b1.alloc b1.size (.cells #[.int .i64 s, .int .i64 f, .int .i64 (ρ : Int), .int .i64 u, .int .i64 m] 31)
  have c2 : (w1.alloc (.cells #[.int .i64 s, .int .i64 f, .int .i64 (ρ : Int), .int .i64 u, .int .i64 m] 31)).cell? ⟨w1.heap.size, 2, none⟩ = some (.int .i64 (ρ : Int)) := World.cell?_alloc_new _ _ _ _
  have hz : (w1.alloc (.cells #[.int .i64 s, .int .i64 f, .int .i64 (ρ : Int), .int .i64 u, .int .i64 m] 31)).heap.size = w1.heap.size + 1 := by simp
  have HZ := Lib.hid hz
  clear hz
  go_wp2_with fail
  refine (hT A n c xs (ρ : Int) _ ((hr.below b2).more b2.size) (by omega) hnc).mono ?_
  rintro e w3 ⟨X, nx, cx, rfl, oX, b3⟩
  have HTL' : tableL xs (ρ : Int) = cl xs (ρ : Int).toNat := HTL.out
  rw [HTL', Int.toNat_natCast] at oX
  obtain rfl : 8 = nx := by have := oX.len; rw [cl_length] at this; exact this
  rcases oX.form with ⟨_, hh, _⟩ | ⟨g, rfl, g1, g2, g3, g4⟩
  · omega
  have b03 := below_more b2 b3 b2.size
  have q2 := (b3.cell (p := ⟨w1.heap.size, 2, none⟩) (by show w1.heap.size < _; have := HZ.out; omega)).trans c2
  have hbx : w1.heap.size < w3.heap.size := by have := b3.size; have := HZ.out; omega
  have hgb : w1.heap.size < g := by have := HZ.out; omega
  have o3 : Ow w3 g (g + 1) (some ⟨g, 0, none⟩) 8 cx (cl xs ρ) := ⟨by
    rcases oX.own.2 with ⟨hv, _⟩ | ⟨g', cap, cur, hv, hb, hg, k1, k2, k3, k4⟩
    · cases hv
    · injection hv with e1 e2 e3
      injection e1 with e1
      injection e1 with e1
      subst e1; subst e3
      exact ⟨oX.own.1, .inr ⟨g, cx, cur, rfl, Nat.le_refl _, hg, k1, k2, k3, k4⟩⟩, fun k hk => by simp [Value.ownBlock] at hk; omega⟩
  have HREL : Hid (BkI w w1.heap.size g cx ⟨s, f, (ρ : Int), u, m⟩ R (.slice A n c) w3) := ⟨xs, 64, A, n, c, rfl, (hr.below b03).more b03.size, hnc, HT0.out, HHO.out, HF.out, by omega, by rw [Int.toNat_natCast]; exact o3, q2, hbx, b03⟩
  have gw : w.heap.size ≤ g := by have := b2.size; omega
  have bxw : w.heap.size ≤ w1.heap.size := b1.size
  clear q2 o3 b03 oX b3 b2 c2 HZ HTL HTL' HF HT0 HHO HI b1 hr r2 h0 hbx
  go_wp2_with fail
  go_loopw [0] (fun v wr => BkI w w1.heap.size g cx ⟨s, f, (ρ : Int), u, m⟩ R v wr) (fun v _ => 1000 - lenV v)
  case atStart => exact HREL.out
  case round =>
    obtain ⟨ys, fuel, A2, n2, c2, rfl, hr2, hc2, T2, hh2, hfix, hfu, ho2, q2, hbxr, hb2⟩ := hrel
    clear HREL
    have hlen2 := hasHead_len T2.head
    have hl2 := hr2.len
    have hn2 : n2 ≤ 512 := by omega
    have HL2 := Lib.hid hl2
    have HH2 := Lib.hid hh2
    have HF2 := Lib.hid hfix
    have HT2 := Lib.hid T2
    have HO2 : Hid (Ow wr g (g + 1) (some ⟨g, 0, none⟩) 8 cx (cl ys ρ)) := ho2
    have hmm : n2 ≤ manyN ys * 8 := by unfold manyN; omega
    have hre : (headOf ys).refs = (ρ : Int) := by rw [hh2]
    have hr0 : (headOf ys).refs ≠ 0 := by rw [hre]; omega
    have HRE := Lib.hid hre
    have HR0 := Lib.hid hr0
    have HCE : Hid (countsL ys = countsC (claimsC ys)) := by show _ = _; unfold countsL; rw [if_pos T2.head]
    have hgr := ow_lt ho2
    clear hfix hl2 T2 ho2 hh2 hre hr0
    go_wp2_with fail
    refine (hC A2 n2 c2 ys wr hr2 (by omega) hc2).mono ?_
    rintro e w4 ⟨C, nc, cc, rfl, oC, b4⟩
    rw [HCE.out] at oC
    obtain rfl : 64 = nc := by have := oC.len; rw [counts_length] at this; exact this
    rcases oC.form with ⟨_, hh, _⟩ | ⟨gc, rfl, k1, k2, k3, k4⟩
    · omega
    have ho4 := HO2.out.below b4 (by omega)
    have s4 := b4.size
    have HO4 := Lib.hid ho4
    have HB4 := Lib.hid (below_more hb2 b4 hb2.size)
    have hr4 := (hr2.below b4).more b4.size
    have q4 := (b4.cell (p := ⟨w1.heap.size, 2, none⟩) hbxr).trans q2
    have HCt := Lib.hid (fun x hx => counts_pos (b := ys) x hx)
    go_wp2_with fail
    refine (slotLacks_any gc cc g cx _ _ w4 oC.rd (ho4.rd.more (by omega)) k4 HCt.out).mono ?_
    have HRd := Lib.hid hr4
    clear ho4 oC hr2 b4 q2 hr4
    rintro e w5 ⟨rfl, (⟨σ, hσ, rfl, hp, hs⟩ | ⟨rfl, hp⟩)⟩
    · have hlk : lacksL ys = (σ : Int) := lacks_found HT2.out HR0.out hσ (by rw [HRE.out, Int.toNat_natCast]; exact hp) (by rw [HRE.out, Int.toNat_natCast]; exact hs)
      have hneg : ¬ lacksL ys < 0 := by omega
      have hρ : ρ < manyN ys := by have := refs_ne HT2.out HR0.out; have := HRE.out; omega
      have HSP := Lib.hid (step_prog (b := ys) (R := ρ) (s := σ) hρ hσ hlk)
      have HWB := Lib.hid (fun hm => with_block (ys := ys) (R := ρ) (s := σ) HT2.out.head hm hρ hσ hlk)
      have HNN := Lib.hid (fun h2 => fix_none (refs := ρ) (xs := ys) hneg h2 fuel)
      have HFS := Lib.hid (fun h2 k => fix_step (refs := ρ) (xs := ys) hneg h2 k)
      have HON : Hid (manyN ys < 64 → Onto ys (blockStep ρ ys) ∧ headOf (blockStep ρ ys) = headOf ys) := fun h2 => by
        have := onto_block HT2.out HR0.out h2 hneg
        rw [HRE.out, Int.toNat_natCast] at this
        exact this
      clear hlk hp hs hneg
      go_wp2_with fail
      refine (withZeros_any A2 n2 c2 ys w5 HRd.out (by omega) (hasHead_img HT2.out.head)).mono ?_
      rintro e w6 (⟨hm, g6, n6, c6, rfl, hc6, o6, b6⟩ | ⟨hm, ⟨U, V, rfl⟩, b6⟩)
      · have s6 := b6.size
        have ho6 := HO4.out.below b6 (by omega)
        have hco := ho6.cell hσ
        have hfo := ho6.free σ
        have HSt := Lib.hid (ho6.set σ (manyN ys))
        have HB6 := Lib.hid (below_more HB4.out b6 HB4.out.size)
        have q6 := (b6.cell (p := ⟨w1.heap.size, 2, none⟩) (by show w1.heap.size < _; omega)).trans q4
        have q6' : (w6.setCell ⟨g, σ, none⟩ (.int .i64 (manyN ys))).cell? ⟨w1.heap.size, 2, none⟩ = some (.int .i64 (ρ : Int)) := (World.cell?_setCell_other _ _ _ _ (by intro e; injection e with e; omega)).trans q6
        have hn6 := o6.len
        rw [more_length _ _ (by simp)] at hn6
        have HN6 := Lib.hid hn6
        have o6' := o6.keep (w' := w6.setCell ⟨g, σ, none⟩ (.int .i64 (manyN ys))) fun q h1 h2 _ => Below.heap_setCell _ _ _ _ (by show q ≠ g; omega)
        have HO6 := Lib.hid o6'
        clear b6 ho6 o6 o6' hn6
        generalize (cl ys ρ).getD σ 0 = y at *
        go_wp2_with fail
        obtain ⟨o7, g7⟩ := HSt.out
        have s7 := g7.size
        have b7 : Below w.heap.size w (w6.setCell ⟨g, σ, none⟩ (.int .i64 (manyN ys))) := HB6.out.grown g7 HB6.out.size (fun k e => by cases e; omega)
        have HST2 := Lib.hid HSP.out.2
        have HWB2 := Lib.hid (HWB.out hm)
        generalize w6.setCell ⟨g, σ, none⟩ (.int .i64 (manyN ys)) = w7 at *
        refine (implWcl_any (some ⟨g6, 0, none⟩) n6 c6 _ (ρ : Int) (some ⟨g, 0, none⟩) 8 cx _ w7 (HO6.out.rd.more (by omega)) (o7.rd.more (by omega)) (by have := HN6.out; omega) (by omega)).mono ?_
        rintro e w8 ⟨Y, ny, cy, rfl, oY, b8⟩
        rw [HWB2.out] at oY
        rw [← HST2.out] at o7
        have hcy : ny ≤ cy := by
          rcases oY.form with ⟨_, h0, h1⟩ | ⟨_, _, _, _, _, h1⟩
          · omega
          · exact h1
        have hly := oY.len
        have hms : manyN (blockStep ρ ys) = manyN ys + 1 := block_many
        obtain ⟨hO, hHo⟩ := HON.out hm
        have s8 := b8.size
        go_wp2_with fail
        go_roundw
        case rel =>
          have hfu0 : fuel ≠ 0 := by omega
          obtain ⟨fu, rfl⟩ : ∃ fu, fuel = fu + 1 := ⟨fuel - 1, by omega⟩
          refine ⟨blockStep ρ ys, fu, Y, ny, cy, rfl, oY.rd, hcy, hO.tidy, hHo.trans HH2.out, ?_, by omega, o7.below b8 (by omega), (b8.cell (p := ⟨w1.heap.size, 2, none⟩) (by show w1.heap.size < _; omega)).trans q6', by omega, below_more b7 b8 b7.size⟩
          have := HF2.out
          rw [Int.toNat_natCast, HFS.out hm] at this
          exact this
        case measure =>
          have hly2 : ny = manyN ys * 8 + 8 := by
            rw [← hly]
            unfold blockStep
            rw [List.length_set, more_length _ _ (by simp)]
          simp only [lenV]
          omega
      · have HNN2 := Lib.hid (HNN.out (by omega))
        go_wp2_with fail
        have e : R = none := by
          have := HF2.out
          rw [Int.toNat_natCast, HNN2.out] at this
          exact this.symm
        rw [e]
        exact ⟨rfl, ⟨U, V, rfl⟩, below_more HB4.out b6 HB4.out.size⟩
    · have hlk : lacksL ys < 0 := lacks_passed HT2.out HR0.out (by rw [HRE.out, Int.toNat_natCast]; exact hp)
      have HD := Lib.hid (fix_done (refs := ρ) hlk fuel)
      clear hlk hp
      go_wp2_with fail
      go_ret
      have e : R = some ys := by
        have := HF2.out
        rw [Int.toNat_natCast, HD.out] at this
        exact this.symm
      rw [e]
      exact ⟨A2, n2, c2, rfl, HRd.out, hc2, HB4.out⟩

attribute [local go_sem] Oper.semAt_some

/-- What is kept of a good claim. -/
abbrev Gw (m : Nat) := Gq (fun c => c.kind = 4 → 0 ≤ c.slot ∧ c.slot < 8 ∧ 1 ≤ c.target ∧ c.target < (m : Int))

theorem Rd.cells {W W' : World} {A : Option Addr} {n : Nat} {xs : List Int} (h : Rd W W.heap.size A n xs) (hs : W.heap.size ≤ W'.heap.size) (hk : ∀ (p : Addr) (v : Value), W.cell? p = some v → W'.cell? p = some v) : Rd W' W'.heap.size A n xs :=
  ⟨h.1, fun hn => by
    obtain ⟨b, off, e, hb, hc⟩ := h.2 hn
    exact ⟨b, off, e, by omega, fun j hj => hk _ _ (hc j hj)⟩⟩

theorem put_snoc {m : Nat} (ct ys : List Int) (pre : List (Gw m)) (x : Gw m) : ((pre ++ [x]).map Subtype.val).foldl (putW ct) ys = putW ct ((pre.map Subtype.val).foldl (putW ct) ys) x.1 := by
  rw [List.map_append, List.foldl_append]
  rfl

/-- What stands in b between two rounds. -/
structure CwS (w : World) (m : Nat) (l : List Cm) (os : List Int) (A : Option Addr) (n c : Nat) (W : World) : Prop where
  rd : Rd W W.heap.size A n os
  cap : n ≤ c
  img : imgB os = true
  many : manyN os = m
  own : (∃ x ∈ l, x.kind = 4) → Ow W w.heap.size W.heap.size A n c os
/-- Between two rounds. -/
def CwI (w : World) (m Bb Bc gc cc : Nat) (ct ys : List Int) (pre : List (Gw m)) (W : World) : Prop :=
  ∃ A n c, Boxed W Bb 22 (.slice A n c) ∧ CwS w m (pre.map Subtype.val) ((pre.map Subtype.val).foldl (putW ct) ys) A n c W ∧ Boxed W Bc 22 (.slice (some ⟨gc, 0, none⟩) 64 cc) ∧ Rd W W.heap.size (some ⟨gc, 0, none⟩) 64 ct ∧ Below w.heap.size w W
/-- The round's claim lies in a box of its own. -/
def CwX {m : Nat} (Bb Bc : Nat) (tm : Gw m → Nat → Array Value) (x : Gw m) (a : Act) (W : World) : Prop :=
  ∃ Bx, Bb < Bx ∧ Bc < Bx ∧ W.heap[Bx]? = some (.cells #[.int .i64 x.1.kind, .int .i64 x.1.frm, .int .i64 x.1.slot, .int .i64 x.1.place, .int .i64 x.1.target, .bool x.1.good] 80 (0, 0)) ∧ a = { tmps := tm x Bx, defers := [] }

theorem CwS.kept {w W W' : World} {m n c : Nat} {l : List Cm} {os : List Int} {A : Option Addr} (h : CwS w m l os A n c W) (hs : W.heap.size ≤ W'.heap.size) (hk : ∀ (p : Addr) (v : Value), W.cell? p = some v → W'.cell? p = some v) (hb : ∀ q, q < W.heap.size → (∃ cs t f, W.heap[q]? = some (.cells cs t f)) → W'.heap[q]? = W.heap[q]?) : CwS w m l os A n c W' :=
  ⟨h.rd.cells hs hk, h.cap, h.img, h.many, fun hx => by
    have ho := h.own hx
    refine ⟨?_, fun g hg => Nat.lt_of_lt_of_le (ho.top g hg) hs⟩
    rcases ho.own.2 with ⟨hv, hn⟩ | ⟨g, cap, cur, hv, h1, hg, h2⟩
    · exact ⟨ho.own.1, .inl ⟨hv, hn⟩⟩
    · exact ⟨ho.own.1, .inr ⟨g, cap, cur, hv, h1, (hb g (Array.getElem?_eq_some_iff.1 hg).1 ⟨_, _, _, hg⟩).trans hg, h2⟩⟩⟩

theorem CwI.own {w : World} {m Bb Bc gc cc B : Nat} {ct ys : List Int} (h1 : w.heap.size ≤ B) (h2 : Bc < B) (h3 : Bb < B) : OwnFrom B (CwI w m Bb Bc gc cc ct ys) := fun s X Y row hs hg hr => by
  obtain ⟨A, n, c, b, o, d, r, l⟩ := hs
  have hne : ∀ g, row = some g → ∃ o, X.heap[g]? = some o ∧ o.isCells = false := fun g e => (hr g e).2
  refine ⟨A, n, c, b.kept hg (fun e => by have := (hr _ e.symm).1; omega), o.kept hg.size (fun p v hc => cell_kept hc hg hne) (fun q hq hx => hg.block q hq (fun e => ?_)), d.kept hg (fun e => by have := (hr _ e.symm).1; omega), r.cells hg.size (fun p v hc => cell_kept hc hg hne), l.grown hg l.size (fun k e => by have := (hr _ e).1; omega)⟩
  obtain ⟨cs, t, f, hx⟩ := hx
  obtain ⟨o', ho', hc'⟩ := hne _ e.symm
  rw [hx] at ho'
  cases ho'
  cases hc'
theorem CwX.own {m Bb Bc B : Nat} {tm : Gw m → Nat → Array Value} {x : Gw m} {a : Act} : OwnFrom B (fun (_ : Unit) W => CwX Bb Bc tm x a W) := fun _ X Y row hs hg hr => by
  obtain ⟨Bx, h1, h2, h3, h4⟩ := hs
  refine ⟨Bx, h1, h2, ?_, h4⟩
  refine (hg.block Bx (Array.getElem?_eq_some_iff.1 h3).1 (fun e => ?_)).trans h3
  obtain ⟨_, o, ho, hc⟩ := hr _ e.symm
  rw [h3] at ho
  cases ho
  cases hc

attribute [local go_sem] Oper.semAt_some

theorem with_cut {os ct : List Int} {t s : Nat} (hi : imgB os = true) (ht : t < manyN os) (hs : s < 8) (hct : ct.length = 64) (hw : ∀ x ∈ ct, wordB x = true) :
    withL os (t : Int) ((ct.drop (s * 8)).take 8) = setCl (whole os) t ((ct.drop (s * 8)).take 8) ∧ imgB (setCl (whole os) t ((ct.drop (s * 8)).take 8)) = true := by
  have hl : ((ct.drop (s * 8)).take 8).length = 8 := by rw [List.length_take, List.length_drop, hct]; omega
  have hm := manyN_le hi
  have hww : ∀ x ∈ (ct.drop (s * 8)).take 8, wordB x = true := fun x hx => hw x (List.mem_of_mem_drop (List.mem_of_mem_take hx))
  have h8 : eightB ((ct.drop (s * 8)).take 8) = true := by
    unfold eightB
    rw [hl, Bool.and_eq_true]
    refine ⟨rfl, ?_⟩
    unfold wordsB
    rw [List.all_eq_true]
    exact hww
  refine ⟨?_, setCl_img (img_whole hi) hww ?_⟩
  · unfold withL
    rw [if_pos, Int.toNat_natCast]
    unfold withB
    rw [hi, h8, inB_true.2 (by omega)]
    simp
    omega
  · rw [setCl_length (by rw [whole_length]; omega) (by rw [whole_length]; omega) hl, whole_length, if_neg (by omega)]
    omega

theorem cut_rd {w : World} {g : Nat} {ct : List Int} (h : Rd w w.heap.size (some ⟨g, 0, none⟩) 64 ct) {s : Nat} (hs : s < 8) : Rd w w.heap.size (some ⟨g, s * 8, none⟩) 8 ((ct.drop (s * 8)).take 8) := by
  obtain ⟨b, off, he, hb, hcells⟩ := h.2 (by omega)
  cases he
  refine ⟨by rw [List.length_take, List.length_drop, h.1]; omega, fun _ => ⟨g, s * 8, rfl, hb, fun j hj => ?_⟩⟩
  have := hcells (s * 8 + j) (by omega)
  rw [Nat.zero_add] at this
  rw [this, List.getD_eq_getElem?_getD, List.getD_eq_getElem?_getD, List.getElem?_take, if_pos hj, List.getElem?_drop]

theorem counts_word {b : List Int} (x : Int) (hx : x ∈ countsC (claimsC b)) : wordB x = true := by
  rw [List.mem_iff_getElem?] at hx
  obtain ⟨i, hi⟩ := hx
  have := counts_bound (claimsC b) (claims_length b) i
  rw [List.getD_eq_getElem?_getD, hi] at this
  exact inB_true.2 (by simp only [Option.getD_some] at this; omega)

set_option maxRecDepth 100000 in
set_option maxHeartbeats 8000000 in
theorem withCounts_any (hC : ClaimsC) (hCo : CountsC) (A : Option Addr) (n c : Nat) (ys : List Int) (w : World) (hr : Rd w w.heap.size A n ys) (hnc : n ≤ c) (T : Tidy ys) (hl : lacksL ys < 0) :
    Calls Tryz.prog 101 #[.slice A n c] w (Ret w (writeC ys)) := by
  have hn : n ≤ 2097152 := by have := hr.len; have := hasHead_len T.head; omega
  refine (callsIn_wide (n := 5)).1 ?_
  refine callsIn_of_wp_marks Tryz.func101 rfl trivial ?_ rfl
  simp only [Tryz.ntmps101, List.size_toArray, List.length_cons, List.length_nil, Nat.reduceAdd, Nat.reduceSub, Array.replicate_succ, Array.replicate_zero, List.push_toArray, List.append_toArray, List.nil_append, List.cons_append]
  have HCL : Hid (claimsL ys = claimsC ys) := by show _ = _; unfold claimsL; rw [T.head]; rfl
  have HCE : Hid (countsL ys = countsC (claimsC ys)) := by show _ = _; unfold countsL; rw [if_pos T.head]
  have HPW := Lib.hid (put_write T hl)
  have HEX : Hid (∃ x ∈ (claimsC ys).filter (fun c => c.good), x.kind = 4) := put_has T hl
  have HT : Hid (∀ c ∈ claimsL ys, c.good = true → (c.kind = 4 → 0 ≤ c.slot ∧ c.slot < 8 ∧ 1 ≤ c.target ∧ c.target < (manyN ys : Int))) := by
    intro c hc hg hk
    rw [HCL.out] at hc
    have h1 := claims_ok ys c hc
    have h2 := there_lt (good_there hc hg (by omega))
    have h3 := h1.slot0
    have h4 := h1.slot1
    exact ⟨h3, by omega, h2.1, by omega⟩
  have HCW := Lib.hid (fun x hx => counts_word (b := ys) x hx)
  have HIM := Lib.hid (hasHead_img T.head)
  have HCL64 := Lib.hid (counts_length (claimsC ys))
  clear T hl
  have b1 := (Below.refl w.heap.size w).alloc (Nat.le_refl _) (.cells #[.slice A n c] 22)
  have x1 : Boxed (w.alloc (.cells #[.slice A n c] 22)) w.heap.size 22 (.slice A n c) := Boxed.new _ _ _
  have HCc := Lib.hid (hCo A n c ys (w.alloc (.cells #[.slice A n c] 22)) ((hr.below b1).more b1.size) hn hnc)
  have c1 := x1.cell
  have z1 : (w.alloc (.cells #[.slice A n c] 22)).heap.size = w.heap.size + 1 := by simp
  have Z1 := Lib.hid z1
  clear z1
  gi_wp2_with (first
    | (refine ⟨trivial, ?_⟩; gi_at_call 117; refine (callsIn_wide.2 HCc.out).mono ?_; rintro e w2 ⟨G, ng, cg, rfl, oG, b2⟩; have c2 : w2.cell? ⟨w.heap.size, 0, none⟩ = some (.slice A n c) := (b2.cell (p := ⟨w.heap.size, 0, none⟩) (by show w.heap.size < _; have := Z1.out; omega)).trans c1
       have HX2 : Hid (Boxed w2 w.heap.size 22 (.slice A n c)) := x1.kept (below_grownBy b2) (by simp)
       rw [HCE.out] at oG
       obtain rfl : 64 = ng := by have := oG.len; rw [HCL64.out] at this; exact this
       rcases oG.form with ⟨_, hh, _⟩ | ⟨gc, rfl, k1, k2, k3, k4⟩
       · omega
       have l2 : w.heap.size < w2.heap.size := by have := b2.size; have := Z1.out; omega)
    | (refine ⟨trivial, ?_⟩; gi_at_call 123; refine (good_in A n c _ _).mono ?_; rintro e w' ⟨rfl, rfl⟩))
  have B2 := below_more b1 b2 b1.size
  have hcx := HCL64.out
  have HCT : Hid (Rd w2 w2.heap.size (some ⟨gc, 0, none⟩) 64 (countsC (claimsC ys))) := oG.rd
  clear oG b2 hcx HCE HCc c1
  generalize hct : countsC (claimsC ys) = ct at *
  have x2 : Boxed w2 w.heap.size 22 (.slice A n c) := HX2.out
  have b4 := B2.alloc B2.size (.cells #[.slice (some ⟨gc, 0, none⟩) 64 cg] 22)
  have b5 := b4.alloc b4.size (.cells #[.slice A n c] 22)
  have x5 := (x2.alloc (.cells #[.slice (some ⟨gc, 0, none⟩) 64 cg] 22)).alloc (.cells #[.slice A n c] 22)
  have u4 : Boxed (w2.alloc (.cells #[.slice (some ⟨gc, 0, none⟩) 64 cg] 22)) w2.heap.size 22 (.slice (some ⟨gc, 0, none⟩) 64 cg) := Boxed.new _ _ _
  have u5 := u4.alloc (.cells #[.slice A n c] 22)
  have y5 := Boxed.new (w2.alloc (.cells #[.slice (some ⟨gc, 0, none⟩) 64 cg] 22)) 22 (.slice A n c)
  have b25 : Below w2.heap.size w2 ((w2.alloc (.cells #[.slice (some ⟨gc, 0, none⟩) 64 cg] 22)).alloc (.cells #[.slice A n c] 22)) := ((Below.refl _ w2).alloc (Nat.le_refl _) _).alloc (by simp) _
  have r5 := (HCT.out.below b25).more b25.size
  have z5 : ((w2.alloc (.cells #[.slice (some ⟨gc, 0, none⟩) 64 cg] 22)).alloc (.cells #[.slice A n c] 22)).heap.size = w2.heap.size + 2 := by simp
  rw [World.size_alloc] at y5
  generalize (w2.alloc (.cells #[.slice (some ⟨gc, 0, none⟩) 64 cg] 22)).alloc (.cells #[.slice A n c] 22) = w5 at *
  have hry := (hr.below b5).more b5.size
  have S0 : CwS w (manyN ys) (([] : List (Gw (manyN ys))).map Subtype.val) ((([] : List (Gw (manyN ys))).map Subtype.val).foldl (putW ct) ys) A n c w5 := ⟨hry, hnc, HIM.out, rfl, fun ⟨x, hx, _⟩ => by cases hx⟩
  clear b1 x1 u4 b4 x2 b25 HX2 HCT
  refine wpIn_rangeFunc_ownH rfl (by omega) (gf := 140) (lb := #[.pointer (some ⟨w2.heap.size + 1, 0, none⟩)]) rfl trivial (enters_of Tryz.func140 (by kernel_rfl) rfl)
    (good_stops hC 4 (w2.heap.size + 1) w.heap.size (by omega) A n c ys w5 (by omega) y5.cell hry hn hnc (by omega) HT.out) KpC.trans (fun W l o o' _ h ho _ => KpC.put o' h ho) (Below.refl _ _) (fun _ => rfl)
    (CwI w (manyN ys) w.heap.size w2.heap.size gc cg ct ys) (fun _ _ _ => False) (CwI.own (by omega) (by omega) (by omega)) (fun _ _ _ _ _ hs _ _ => hs) ⟨A, n, c, x5, S0, u5, r5, b5⟩
    (CwX w.heap.size w2.heap.size (fun x Bx => #[.slice A n c, .pointer (some ⟨w.heap.size, 0, none⟩), .slice none 0 0, .pointer (some ⟨w2.heap.size, 0, none⟩), .pointer (some ⟨Bx, 0, none⟩), .slice A n c, .slice (some ⟨gc, 0, none⟩) 64 cg, .slice A n c, .func (.func 140) #[] #[.pointer (some ⟨w2.heap.size + 1, 0, none⟩)],
      .agg #[.int .i64 x.1.kind, .int .i64 x.1.frm, .int .i64 x.1.slot, .int .i64 x.1.place, .int .i64 x.1.target, .bool x.1.good], undef, undef, undef, undef, undef, undef, undef, undef, undef, undef, undef, undef])) (fun _ _ => CwX.own) ?assign ?body ?done ?stop
  case assign =>
    rintro l pre x W K ⟨A', n', c', hb, hs, hd, hcr, hw⟩ hK
    gi_wp2
    exact hK _ _ ((KeepsOthers.alloc _ _).from _) ((KpC.refl _ _).alloc _) ⟨A', n', c', hb.alloc _, hs.kept (by simp) (fun p v h => cell_kept h (World.grownBy_alloc W _ none) (fun _ e => by cases e)) (fun q hq _ => (World.grownBy_alloc W _ none).block q hq (by simp)), hd.alloc _, (hcr.below ((Below.refl _ W).alloc (Nat.le_refl _) _)).more (by simp), hw.alloc hw.size _⟩ ⟨W.heap.size, hb.lt, hd.lt, World.alloc_heap_new W _, rfl⟩
  case body =>
    rintro l pre x a' W hl _ ⟨A', n', c', hb, hs, hd, hcr, hw⟩ ⟨Bx, h1, h2, h3, rfl⟩ hlt
    have HS := Lib.hid (put_snoc ct ys pre x)
    have hml : (pre ++ [x]).map Subtype.val = pre.map Subtype.val ++ [x.1] := by simp
    have HML := Lib.hid hml
    clear hml
    obtain ⟨⟨xk, xf, xs', xp, xt, xg⟩, t4⟩ := x
    simp only at t4 h3 HS HML
    have e0 : W.cell? ⟨Bx, 0, none⟩ = some (.int .i64 xk) := by simp [World.cell?, h3]
    have e2 : W.cell? ⟨Bx, 2, none⟩ = some (.int .i64 xs') := by simp [World.cell?, h3]
    have e4 : W.cell? ⟨Bx, 4, none⟩ = some (.int .i64 xt) := by simp [World.cell?, h3]
    have cb := hb.cell
    have fb := hb.frozen
    have cd := hd.cell
    have lx := (Array.getElem?_eq_some_iff.1 h3).1
    have lb := hb.lt
    have ld := hd.lt
    have HSt := Lib.hid hs
    have HB := Lib.hid hb
    have HD := Lib.hid hd
    have HCR := Lib.hid hcr
    clear h3 hs hb hd hcr
    by_cases hk : xk = 4
    · subst hk
      obtain ⟨s0, s1, t1, t2⟩ := t4 rfl
      obtain ⟨σ, rfl⟩ := Int.eq_ofNat_of_zero_le s0
      obtain ⟨τ, rfl⟩ := Int.eq_ofNat_of_zero_le (show 0 ≤ xt by omega)
      have hσ : σ < 8 := by omega
      have H := HSt.out
      obtain ⟨hwi, him⟩ := with_cut (s := σ) (t := τ) H.img (by rw [H.many]; omega) hσ HCL64.out HCW.out
      have HWI := Lib.hid hwi
      have HIM2 := Lib.hid him
      have HPT : Hid (putW ct (List.foldl (putW ct) ys (pre.map Subtype.val)) ⟨4, xf, (σ : Int), xp, (τ : Int), xg⟩ = setCl (whole (List.foldl (putW ct) ys (pre.map Subtype.val))) τ ((ct.drop (σ * 8)).take 8)) := by
        show _ = _
        unfold putW
        rw [if_pos rfl]
        simp only [Int.toNat_natCast]
      have HMN : Hid (manyN (putW ct (List.foldl (putW ct) ys (pre.map Subtype.val)) ⟨4, xf, (σ : Int), xp, (τ : Int), xg⟩) = manyN ys) := by
        have := putW_many (ct := ct) (o := List.foldl (putW ct) ys (pre.map Subtype.val)) (c := ⟨4, xf, (σ : Int), xp, (τ : Int), xg⟩) HCL64.out (by simp only [Int.toNat_natCast]; omega) (fun _ => by rw [H.many]; simp only [Int.toNat_natCast]; omega)
        exact this.trans H.many
      have hln := H.rd.len
      have hlm : n' ≤ 512 := by have := (imgB_iff.1 H.img).2; omega
      have HE8 := Lib.hid (fun wq => eightOf_any gc σ cg (σ : Int) rfl hσ k4 wq)
      have HWC := Lib.hid (implWcl_any A' n' c' _ (τ : Int) (some ⟨gc, σ * 8, none⟩) 8 8 _ W.drew H.rd (cut_rd HCR.out hσ) (by omega) (by omega))
      clear hwi him H
      have hd4 : ((4 : Int) == 4) = true := rfl
      gi_wp2_with fail
      refine wpIn_region_round (S := fun w' => w'.cell? ⟨Bx, 2, none⟩ = some (.int .i64 (σ : Int)) ∧ w'.cell? ⟨Bx, 4, none⟩ = some (.int .i64 (τ : Int)) ∧ w'.cell? ⟨w2.heap.size, 0, none⟩ = some (.slice (some ⟨gc, 0, none⟩) 64 cg)) (by kernel_rfl) (by kernel_rfl) (by rintro ⟨_, _, h⟩; exact h) ⟨e2, e4, cd⟩ (fun hHeld => ?_)
      refine wpAnyH_take_to (i := 1) (d := some 14) (v := ?_) rfl rfl (by kernel_rfl) (by kernel_rfl) (by kernel_rfl) (fun _ _ _ h => h) (Or.inl ⟨by rfl, ?_⟩) (by assumption) ?_
      rotate_left 1
      · intro w hSw
        (try dsimp only at hSw)
        go_simp <;> with_reducible rfl
      simp only [Act.put, List.setIfInBounds_toArray, List.set_cons_zero, List.set_cons_succ]
      refine wpAnyH_take_to (i := 2) (d := some 15) (v := ?_) rfl rfl (by kernel_rfl) (by kernel_rfl) (by kernel_rfl) (fun _ _ _ h => h) (Or.inl ⟨by rfl, ?_⟩) (by assumption) ?_
      rotate_left 1
      · intro w hSw
        (try dsimp only at hSw)
        go_simp <;> with_reducible rfl
      simp only [Act.put, List.setIfInBounds_toArray, List.set_cons_zero, List.set_cons_succ]
      refine wpAnyH_take_to (i := 3) (d := some 16) (v := ?_) rfl rfl (by kernel_rfl) (by kernel_rfl) (by kernel_rfl) (fun _ _ _ h => h) (Or.inl ⟨by rfl, ?_⟩) (by assumption) ?_
      rotate_left 1
      · intro w hSw
        (try dsimp only at hSw)
        go_simp <;> with_reducible rfl
      simp only [Act.put, List.setIfInBounds_toArray, List.set_cons_zero, List.set_cons_succ]
      refine wpAnyH_take_to (i := 4) (d := some 17) (v := ?_) rfl rfl (by kernel_rfl) (by kernel_rfl) (by kernel_rfl) (fun _ _ _ h => h) (Or.inl ⟨by rfl, ?_⟩) (by assumption) ?_
      rotate_left 1
      · intro w hSw
        (try dsimp only at hSw)
        go_simp <;> with_reducible rfl
      simp only [Act.put, List.setIfInBounds_toArray, List.set_cons_zero, List.set_cons_succ]
      refine wpAnyH_take_to (i := 5) (d := some 18) (v := ?_) rfl rfl (by kernel_rfl) (by kernel_rfl) (by kernel_rfl) (fun _ _ _ h => h) (Or.inl ⟨by rfl, ?_⟩) (by assumption) ?_
      rotate_left 1
      · intro w hSw
        (try dsimp only at hSw)
        go_simp <;> with_reducible rfl
      simp only [Act.put, List.setIfInBounds_toArray, List.set_cons_zero, List.set_cons_succ]
      refine wpAnyH_ready (rs := [0, 6]) (by kernel_rfl) (by simp) ?_
      refine AllReadyH.cons rfl (fun K hK => ?ordA) (AllReadyH.cons rfl (fun K hK => ?ordB) AllReadyH.nil)
      case' ordA =>
        rw [if_pos (by rfl)]
        go_simp
        refine hK.out _ _ ⟨e2, e4, cd⟩ (fun hHeld1 => ?_)
        refine wpAnyH_ready (rs := [6]) (by kernel_rfl) (by simp) ?_
        refine AllReadyH.cons rfl (fun K1 hK1 => ?_) AllReadyH.nil
        rw [if_pos (by rfl)]
        go_simp
        refine (HE8.out _).mono ?_
        rintro e w' ⟨rfl, rfl⟩
        refine hK1.out _ _ ⟨e2, e4, cd⟩ (fun hHeld2 => ?_)
      case' ordB =>
        rw [if_pos (by rfl)]
        go_simp
        refine (HE8.out _).mono ?_
        rintro e w' ⟨rfl, rfl⟩
        refine hK.out _ _ ⟨e2, e4, cd⟩ (fun hHeld1 => ?_)
        refine wpAnyH_ready (rs := [0]) (by kernel_rfl) (by simp) ?_
        refine AllReadyH.cons rfl (fun K1 hK1 => ?_) AllReadyH.nil
        rw [if_pos (by rfl)]
        go_simp
        refine hK1.out _ _ ⟨e2, e4, cd⟩ (fun hHeld2 => ?_)
      all_goals
        refine wpAnyH_ready (rs := [7]) (by kernel_rfl) (by simp) ?_
        refine AllReadyH.cons rfl (fun K3 hK3 => ?_) AllReadyH.nil
        rw [if_pos (by rfl)]
        go_simp
        refine HWC.out.mono ?_
        rintro e w3 ⟨Y, ny, cy, rfl, oY, b3⟩
        rw [HWI.out, ← HPT.out] at oY
        have b3' : Below W.heap.size W w3 := Below.trans (Below.refl _ W).drew b3
        have hS3 : w3.cell? ⟨Bx, 2, none⟩ = some (.int .i64 (σ : Int)) ∧ w3.cell? ⟨Bx, 4, none⟩ = some (.int .i64 (τ : Int)) ∧ w3.cell? ⟨w2.heap.size, 0, none⟩ = some (.slice (some ⟨gc, 0, none⟩) 64 cg) :=
          ⟨(b3'.cell (p := ⟨Bx, 2, none⟩) lx).trans e2, (b3'.cell (p := ⟨Bx, 4, none⟩) lx).trans e4, (b3'.cell (p := ⟨w2.heap.size, 0, none⟩) ld).trans cd⟩
        have HB3 := Lib.hid (HB.out.kept (below_grownBy b3') (by simp))
        have cb3 := HB3.out.cell
        have fb3 := HB3.out.frozen
        refine hK3.out _ _ hS3 (fun hHeld3 => ?_)
        refine wpAnyH_ready (rs := [8]) (by kernel_rfl) (by simp) ?_
        refine AllReadyH.cons rfl (fun K4 hK4 => ?_) AllReadyH.nil
        rw [if_pos (by rfl)]
        go_simp
        refine hK4.out _ _ ⟨?_, ?_, ?_⟩ (fun _ => ?_)
        case refine_1 => exact (World.cell?_setCell_other _ _ _ _ (by intro e; injection e with e; omega)).trans hS3.1
        case refine_2 => exact (World.cell?_setCell_other _ _ _ _ (by intro e; injection e with e; omega)).trans hS3.2.1
        case refine_3 => exact (World.cell?_setCell_other _ _ _ _ (by intro e; injection e with e; omega)).trans hS3.2.2
        refine wpAnyH_done (by kernel_rfl) ?_ _
        have g4 : w3.grownBy (w3.setCell ⟨w.heap.size, 0, none⟩ (.slice Y ny cy)) (some w.heap.size) := grownBy_setCell' _ _ _
        have hw3 := below_more hw b3' hw.size
        have s3 := b3'.size
        have hd2 : W.drew.heap.size = W.heap.size := rfl
        have oY2 : Ow (w3.setCell ⟨w.heap.size, 0, none⟩ (.slice Y ny cy)) W.heap.size w3.heap.size Y ny cy (putW ct (List.foldl (putW ct) ys (pre.map Subtype.val)) ⟨4, xf, (σ : Int), xp, (τ : Int), xg⟩) := oY.keep fun q h1 h2 _ => Below.heap_setCell _ _ _ _ (by show q ≠ w.heap.size; omega)
        have sz4 : (w3.setCell ⟨w.heap.size, 0, none⟩ (.slice Y ny cy)).heap.size = w3.heap.size := by simp [World.setCell]
        have hcy : ny ≤ cy := by
          rcases oY2.form with ⟨_, h0, h1⟩ | ⟨_, _, _, _, _, h1⟩
          · omega
          · exact h1
        refine ⟨(KeepsFrom.of_grownBy (below_grownBy b3') (fun _ e => by cases e)).trans (KeepsFrom.of_grownBy g4 (fun j e => by cases e; omega)), (KpC.below b3').trans (KpC.grown g4), Y, ny, cy, HB3.out.set _, ?_, (HD.out.kept (below_grownBy b3') (by simp)).kept g4 (fun e => by injection e with e; omega), ?_, hw3.setCell (Nat.le_refl _) _⟩
        · rw [HS.out, HML.out]
          refine ⟨by rw [sz4]; exact oY2.rd, hcy, by rw [HPT.out]; exact HIM2.out, HMN.out, fun _ => by rw [sz4]; exact oY2.more hw.size (Nat.le_refl _)⟩
        · have hgc : gc ≠ w.heap.size := by have := Z1.out; omega
          have hr3 := (HCR.out.below b3').more b3'.size
          obtain ⟨b', off', he', hb', hcc⟩ := hr3.2 (by omega)
          cases he'
          exact ⟨hr3.1, fun _ => ⟨gc, 0, rfl, by rw [sz4]; exact hb', fun j hj => (World.cell?_setCell_other _ _ _ _ (by intro e; injection e with e; omega)).trans (hcc j hj)⟩⟩
    · have hd4 : (xk == 4) = false := by simpa using hk
      gi_wp2
      refine ⟨KeepsFrom.refl _ _, KpC.refl _ _, A', n', c', HB.out, ?_, HD.out, HCR.out, hw⟩
      have H := HSt.out
      rw [HS.out, HML.out, putW_skip hk]
      exact ⟨H.rd, H.cap, H.img, H.many, fun ⟨y, hy, hyk⟩ => by
        rcases List.mem_append.1 hy with hy | hy
        · exact H.own ⟨y, hy, hyk⟩
        · rw [List.mem_singleton] at hy
          subst hy
          exact absurd hyk hk⟩
  case done =>
    rintro D zs W hD hS ⟨A', n', c', hb, hs, hd, hcr, hw⟩ hK
    have cb := hb.cell
    gi_wp2
    refine ⟨by simp, .inl ⟨_, _, rfl, run_takeDeferred hK, ?_⟩⟩
    refine ⟨_, results_tmp rfl _ _ _, ?_⟩
    rw [hS, HCL.out, HPW.out] at hs
    have g7 := grownBy_putObj' W D (.deferred none)
    have hs2 := hs.kept g7.size (fun p v h => cell_kept h g7 (fun q e => by cases e; exact ⟨_, hK, rfl⟩)) (fun q hq hx => g7.block q hq (fun e => by
      cases e
      obtain ⟨cs, t, f, hx⟩ := hx
      rw [hK] at hx
      cases hx))
    exact ⟨A', n', c', rfl, hs2.own HEX.out, hw.grown g7 hw.size (fun k e => by cases e; omega)⟩
  case stop =>
    rintro D c pre W _ _ h _
    exact h.elim

end Go.Proofs.YtiokfhdkbpoadaaGreatDoor
