/- Tables (chapter 4): the program's side. -/
import Derived.Test.YtibokhkohanoaaaGreatY5
import Derived.Test.YtibokhkohanoaaaGreatQ7
namespace Go.Proofs.YtibokhkohanoaaaGreat
open Go.RowKit

theorem isThere_any (A : Option Addr) (n c : Nat) (xs : List Int) (t : Int) (w : World) (h : Rd w w.heap.size A n xs) (hn : n ≤ 2097152) (hi : imgB xs = true) :
    Calls Tryz.prog 120 #[.slice A n c, .int .i64 t] w fun e w' => e = .returned (.bool (thereB xs t)) ∧ Below w.heap.size w w' := by
  have HM := Lib.hid (show manyI xs = (manyN xs : Int) by simp [manyI, hi])
  clear hi
  by_cases h1 : 1 ≤ t
  · have hd : decide (1 ≤ t) = true := by simpa using h1
    go_enter Tryz.func120, Tryz.ntmps120
    go_wp2_with fail
    refine (implClin_any _ _ _ _ _ h hn).mono ?_
    rintro e w1 ⟨rfl, b1⟩
    go_wp2_with fail
    go_ret
    refine ⟨ret_bool ?_, b1⟩
    rw [HM.out]
    unfold thereB inB
    rw [Bool.eq_iff_iff]
    simp
    omega
  · have hd : decide (1 ≤ t) = false := by simpa using h1
    go_enter Tryz.func120, Tryz.ntmps120
    go_wp2
    go_ret
    refine ⟨ret_bool ?_, Below.refl _ _⟩
    have : thereB xs t = false := inB_false.2 (fun hh => by omega)
    rw [this]

theorem cutOf_any (b off n c k m : Nat) (q qm : Int) (w : World) (hq : q = (k : Int)) (hqm : qm = (m : Int)) (hk : k < n) (hnc : n ≤ c) (hn : n ≤ 2097152) (hm : m ≤ 8) (hm0 : 0 < m) :
    Calls Tryz.prog 112 #[.slice (some ⟨b, off, none⟩) n c, .int .i64 q, .int .i64 qm] w fun e w' => e = .returned (.slice (some ⟨b, off + k, none⟩) (min m (n - k)) (min m (n - k))) ∧ w = w' := by
  subst hq
  subst hqm
  by_cases hlt : k + m ≤ n
  · have e1 := Lib.hid (show min m (n - k) = k + m - k by omega)
    go_enter Tryz.func112, Tryz.ntmps112
    go_wp2
    go_ret
    rw [e1.out]
    exact ⟨rfl, rfl⟩
  · have e1 := Lib.hid (show min m (n - k) = n - k by omega)
    go_enter Tryz.func112, Tryz.ntmps112
    go_wp2
    go_ret
    rw [e1.out]
    exact ⟨rfl, rfl⟩

theorem Ow.heap8 {w : World} {lo hi g : Nat} {ys : List Int} (h : Ow w lo hi (some ⟨g, 0, none⟩) 8 8 ys) : w.heap[g]? = some (.cells (iv ys).toArray 2 (0, 0)) ∧ lo ≤ g := by
  rcases h.own.2 with ⟨hv, _⟩ | ⟨g', cap, cur, hv, hb, hg, h1, h2, h3, h4⟩
  · cases hv
  · injection hv with e1 e2 e3
    injection e1 with e1
    injection e1 with e1
    subst e1; subst e3
    rw [List.take_of_length_le (by simp; omega)] at h4
    rw [hg, ← h4]
    exact ⟨by simp, hb⟩
theorem Ow.of8 {w : World} {lo hi g : Nat} {ys : List Int} (h : w.heap[g]? = some (.cells (iv ys).toArray 2 (0, 0))) (hl : ys.length = 8) (h1 : lo ≤ g) (h2 : g < hi) : Ow w lo hi (some ⟨g, 0, none⟩) 8 8 ys := by
  refine ⟨⟨by rw [iv_length, hl], .inr ⟨g, 8, _, rfl, h1, h, Nat.le_refl _, by simp [maxLen], by simp [iv_length, hl], ?_⟩⟩, fun k hk => by simp [Value.ownBlock] at hk; omega⟩
  rw [List.take_of_length_le (by simp [iv_length, hl])]

theorem cut_cl (xs : List Int) (a : Nat) : (xs.drop (a * 8)).take 8 ++ (List.replicate 8 (0 : Int)).drop ((xs.drop (a * 8)).take 8).length = cl xs a := by
  unfold cl
  refine f8_eq _ _ (by simp; omega) (fun j hj => ?_)
  rw [List.getD_eq_getElem?_getD, List.getD_eq_getElem?_getD, List.getElem?_append]
  by_cases h : a * 8 + j < xs.length
  · rw [if_pos (by simp; omega), List.getElem?_take, if_pos hj, List.getElem?_drop]
  · rw [if_neg (by simp; omega), List.getElem?_drop, List.getElem?_replicate, if_pos (by simp; omega), List.getElem?_eq_none (by omega)]
    rfl
theorem splice_cl (xs : List Int) (a : Nat) : Go.splice (iv (List.replicate 8 0)) 0 (iv ((xs.drop (a * 8)).take 8)) = iv (cl xs a) := by
  rw [← cut_cl, iv_append, Go.splice, List.take_zero, List.nil_append, Nat.zero_add, iv_length]
  congr 1
  simp [iv, List.map_drop]

set_option maxRecDepth 100000 in
set_option maxHeartbeats 2000000 in
theorem implTable_any : TableC := by
  intro A n c xs t w h hn hnc
  obtain ⟨i0, hi0, hz0, hz1, hz2⟩ := info_parts info2
  have hxl := Lib.hid h.len
  go_enter Tryz.func104, Tryz.ntmps104
  go_wp2_with fail
  refine (implHeadIn_any _ _ _ xs _ h hn).mono ?_
  rintro e w1 ⟨rfl, b1⟩
  generalize hr : headIn xs = r
  obtain ⟨⟨s, f, r, u, m⟩, is⟩ := r
  have HR := Lib.hid hr
  clear hr
  unfold hdV
  have b2 := b1.alloc b1.size (.cells #[.int .i64 s, .int .i64 f, .int .i64 r, .int .i64 u, .int .i64 m] 30)
  cases is
  · have HN := Lib.hid (tableL_no (t := t) (headIn_false HR.out).1)
    go_wp2_with fail
    go_ret
    rw [HN.out]
    exact Ret.nil _ _ b2
  · have HY := Lib.hid (headIn_true HR.out).1
    cases ht : thereB xs t
    · have HN := Lib.hid (tableL_out ht)
      go_wp2_with fail
      refine (isThere_any _ _ _ xs _ _ ((h.below b2).more b2.size) hn (hasHead_img HY.out)).mono ?_
      rintro e w2 ⟨rfl, b3⟩
      rw [ht]
      go_wp2_with fail
      go_ret
      rw [HN.out]
      exact Ret.nil _ _ (below_more b2 b3 b2.size)
    · have HN := Lib.hid (tableL_in HY.out ht)
      have HT := Lib.hid ht
      obtain ⟨t1, t2⟩ := there_lt ht
      have hm := manyN_le (hasHead_img HY.out)
      obtain ⟨a, rfl⟩ := Int.eq_ofNat_of_zero_le (show 0 ≤ t by omega)
      have ha : a * 8 < n := by have := hxl.out; unfold manyN at t2; omega
      clear ht
      obtain ⟨b, off, rfl, hbb, hcx⟩ := h.2 (by omega)
      go_wp2_with fail
      refine (isThere_any _ _ _ xs _ _ ((h.below b2).more b2.size) hn (hasHead_img HY.out)).mono ?_
      rintro e w2 ⟨rfl, b3⟩
      rw [HT.out]
      have B3 := below_more b2 b3 b2.size
      go_wp2_with (at_make; refine wpList_make_full _ rfl _ _ 22 rfl w2.heap.size 2 i0 (.int .i64 0) 1 Tryz.underlying22 hi0 hz0 hz1 .i64 .i64 _ _ 8 rfl rfl rfl rfl (by rw [hz2]; omega) (by simp only [maxLen]; omega) (Nat.le_refl _) ?_; intro w4 hown hg4; rw [made_iv] at hown)
      have hlt := (hown.lt w2.heap.size rfl).2
      have b4 : Below w2.heap.size w2 w4 := below_grown hg4 (Nat.le_refl _) (fun _ h => by cases h)
      have B4 := below_more B3 b4 B3.size
      have o4 : Ow w4 w2.heap.size (w2.heap.size + 1) (some ⟨w2.heap.size, 0, none⟩) 8 8 (List.replicate 8 0) := ⟨hown, fun g hg => by simp [Value.ownBlock] at hg; omega⟩
      have HG := Lib.hid o4.heap8.1
      have sB := B3.size
      clear hown hg4 hi0 hz0 hz1 hz2 b4 b3 b2
      refine (cutOf_any b off n c (a * 8) 8 _ _ w4 (by omega) rfl ha hnc hn (by omega) (by omega)).mono ?_
      rintro e w' ⟨rfl, rfl⟩
      have r8 := (((h.below B4).drop (k := a * 8) (by omega)).take (k := min 8 (n - a * 8)) (by omega))
      have hzz : (xs.drop (a * 8)).take (min 8 (n - a * 8)) = (xs.drop (a * 8)).take 8 := by
        have := hxl.out
        rcases Nat.le_total 8 (n - a * 8) with h8 | h8
        · rw [Nat.min_eq_left h8]
        · rw [Nat.min_eq_right h8, List.take_of_length_le (by simp; omega), List.take_of_length_le (by simp; omega)]
      rw [hzz] at r8
      have HSP := Lib.hid (splice_cl xs a)
      clear hzz
      obtain ⟨zs, hzs⟩ : ∃ zs, zs = (xs.drop (a * 8)).take 8 := ⟨_, rfl⟩
      rw [← hzs] at r8 HSP
      have HZS := Lib.hid hzs
      clear hzs
      have HL := Lib.hid r8.len
      have hm8 : min 8 (n - a * 8) ≤ 8 := by omega
      have hm0 : 0 < min 8 (n - a * 8) := by omega
      generalize min 8 (n - a * 8) = mm at *
      obtain ⟨b', off', e', hb', hc'⟩ := r8.2 (by omega)
      cases e'
      go_wp2_with (with_reducible refine wpList_copy_splice (o := ⟨some 27, _, _, _, _, _⟩) rfl (.tmp 22) (.tmp 26) 22 22 rfl 2 Tryz.underlying22 info2s _ _ 8 8 mm mm rfl rfl w2.heap.size 0 (iv (List.replicate 8 0)) 2 HG.out (iv zs) ?c1 ?c2 ?c3 (int_one zs) w.heap.size w B4 ?c4 ?c5)
      case c1 => rw [iv_length, HL.out]; exact (Nat.min_eq_left hm8).symm
      case c2 =>
        intro _ j v hv
        have hj := (List.getElem?_eq_some_iff.1 hv).1
        rw [iv_length] at hj
        rw [iv_get zs j hj] at hv
        cases hv
        exact hc' j (by rw [← HL.out]; exact hj)
      case c3 => rw [iv_length, HL.out, iv_length]; simp; omega
      case c4 => exact sB
      case c5 =>
        intro w5 H5 b5
        go_wp2_with fail
        go_ret
        rw [HN.out, Int.toNat_natCast]
        have h5 : w5.heap[w2.heap.size]? = some (.cells (Go.splice (iv (List.replicate 8 0)) 0 (iv zs)).toArray 2 (0, 0)) := H5.out
        rw [HSP.out] at h5
        have hsz := Array.getElem?_eq_some_iff.1 h5
        exact ⟨_, _, _, rfl, Ow.of8 h5 (cl_length _ _) sB hsz.1, b5⟩

theorem madeSh (m : Nat) : (madeCells (Value.agg #[.int .i64 0, .int .i64 0]).cells (m * 2)).toList.length = m * 2 := by simp [madeCells]
theorem row_set2 {cs : List Value} {k : Nat} (pre : List Value) (x y : Value) (hp : pre.length = k * 2) (hl : k * 2 + 1 < cs.length) :
    ((pre ++ cs.drop (k * 2)).set (k * 2) x).set (k * 2 + 1) y = (pre ++ [x, y]) ++ cs.drop ((k + 1) * 2) := by
  obtain ⟨a, b, t, e⟩ : ∃ a b t, cs.drop (k * 2) = a :: b :: t := by
    rw [List.drop_eq_getElem_cons (show k * 2 < cs.length by omega), List.drop_eq_getElem_cons hl]
    exact ⟨_, _, _, rfl⟩
  have e2 : cs.drop ((k + 1) * 2) = t := by
    have : cs.drop ((k + 1) * 2) = (cs.drop (k * 2)).drop 2 := by rw [List.drop_drop]; congr 1; omega
    rw [this, e]; rfl
  rw [e, e2, List.set_append, if_neg (by omega), hp, Nat.sub_self, List.set_cons_zero, List.set_append, if_neg (by omega), hp, show k * 2 + 1 - k * 2 = 1 by omega]
  simp

set_option maxRecDepth 100000 in
set_option maxHeartbeats 2000000 in
theorem implShots_any : ShotsC := by
  intro A n c xs w h hn hnc
  obtain ⟨i0, hi0, hz0, hz1, hz2⟩ := info_parts infoSh
  have hxl := Lib.hid h.len
  go_enter Tryz.func90, Tryz.ntmps90
  go_wp2_with fail
  refine (implHeadIn_any _ _ _ xs _ h hn).mono ?_
  rintro e w1 ⟨rfl, b1⟩
  generalize hr : headIn xs = r
  obtain ⟨⟨s, f, r, u, m⟩, is⟩ := r
  have HR := Lib.hid hr
  clear hr
  unfold hdV
  have b2 := b1.alloc b1.size (.cells #[.int .i64 s, .int .i64 f, .int .i64 r, .int .i64 u, .int .i64 m] 30)
  cases is
  · have HN := Lib.hid (shotsL_none HR.out (by rw [(headIn_false HR.out).2]; exact there_hd0 xs))
    go_wp2_with fail
    go_ret
    rw [HN.out]
    exact ⟨none, 0, rfl, OwR.nil _ _ _ _ _, b2⟩
  · have HY := Lib.hid (headIn_true HR.out)
    go_wp2_with fail
    refine (implTable_any A n c xs u _ ((h.below b2).more b2.size) hn hnc).mono ?_
    rintro e w2 ⟨G, ng, cg, rfl, oG, b3⟩
    have q4 : w2.cell? ⟨w1.heap.size, 4, none⟩ = some (.int .i64 m) := boxed b3 4
    have s3 : w1.heap.size + 1 ≤ w2.heap.size := by have := b3.size; simp at this; omega
    have B3 := below_more b2 b3 b2.size
    cases ht : thereB xs u
    · have HN := Lib.hid (shotsL_none HR.out ht)
      rw [tableL_out ht] at oG
      obtain rfl : 0 = ng := by have := oG.len; simpa using this
      go_wp2_with fail
      go_ret
      rw [HN.out]
      exact ⟨none, 0, rfl, OwR.nil _ _ _ _ _, B3⟩
    · have HN := Lib.hid (shotsL_some HR.out ht)
      rw [tableL_in HY.out.1 ht] at oG
      have hall := headB_all (hasHead_ok HY.out.1)
      rw [HY.out.2] at hall
      obtain ⟨_, _, _, _, m0, m4⟩ := hall
      simp only at m0 m4
      obtain ⟨t1, t2⟩ := there_lt ht
      obtain ⟨a, rfl⟩ := Int.eq_ofNat_of_zero_le (show 0 ≤ u by omega)
      obtain ⟨k4, rfl⟩ := Int.eq_ofNat_of_zero_le (show 0 ≤ m by omega)
      rw [Int.toNat_natCast] at oG
      obtain rfl : 8 = ng := by have := oG.len; simpa [cl, f8_length] using this
      rcases oG.form with ⟨_, h0, _⟩ | ⟨g, rfl, g1, g2, g3, g4⟩
      · omega
      have HC := Lib.hid (show ∀ j, j < 8 → w2.cell? ⟨g, j, none⟩ = some (.int .i64 ((cl xs a).getD j 0)) from fun j hj => oG.cell hj)
      clear oG ht b3 b2 b1
      obtain ⟨pr, hpr⟩ : ∃ pr : Nat → Int × Int, pr = fun i => ((cl xs a).getD (2 * i) 0, (cl xs a).getD (2 * i + 1) 0) := ⟨_, rfl⟩
      have HP := Lib.hid hpr
      clear hpr
      go_wp2_with (at_make; refine wpList_make_full _ rfl _ _ 78 rfl w2.heap.size 81 i0 _ 2 Tryz.underlying78 hi0 hz0 hz1 .i64 .i64 _ _ k4 rfl rfl rfl rfl (by rw [hz2]; omega) (by simp only [maxLen]; omega) (Nat.le_refl _) ?_; intro w4 hown hg4)
      have hlt := (hown.lt w2.heap.size rfl).2
      have b4 : Below w2.heap.size w2 w4 := below_grown hg4 (Nat.le_refl _) (fun _ h => by cases h)
      have B4 := below_more B3 b4 B3.size
      have HZL := Lib.hid (madeSh k4)
      generalize (madeCells (Value.agg #[.int .i64 0, .int .i64 0]).cells (k4 * 2)).toList = zs at *
      have o4 : OwV 81 2 w4 w2.heap.size w4.heap.size w2.heap.size k4 k4 zs := ⟨hown, hlt⟩
      have sB := B3.size
      have K4 : KeepBut w2.heap.size w2 w4 := ⟨b4.size, fun b hb _ => b4.block b hb⟩
      clear hown hg4 hi0 hz0 hz1 hz2 b4
      go_loopw [28] (fun i wr => ∃ k : Nat, k ≤ k4 ∧ i = .int .i64 k ∧ OwV 81 2 wr w.heap.size wr.heap.size w2.heap.size k4 k4 (((List.range k).map pr).flatMap shV ++ zs.drop (k * 2)) ∧ Below w.heap.size w wr ∧ KeepBut w2.heap.size w2 wr) (fun i _ => k4 - (intOf i).toNat)
      case atStart => exact ⟨0, Nat.zero_le _, rfl, by simpa using o4.more sB (Nat.le_refl _), B4, K4⟩
      case round =>
        obtain ⟨k, hk, rfl, ho, hb, hkb⟩ := hrel
        by_cases hlt : k < k4
        · have p0 : wr.cell? ⟨g, k * 2, none⟩ = some (.int .i64 (pr k).1) := (hkb.cell (p := ⟨g, k * 2, none⟩) g3 (by show g ≠ _; omega)).trans (by rw [HC.out _ (by omega), HP.out, Nat.mul_comm k 2])
          have p1 : wr.cell? ⟨g, k * 2 + 1, none⟩ = some (.int .i64 (pr k).2) := (hkb.cell (p := ⟨g, k * 2 + 1, none⟩) g3 (by show g ≠ _; omega)).trans (by rw [HC.out _ (by omega), HP.out, Nat.mul_comm k 2])
          have hpl : (((List.range k).map pr).flatMap shV).length = k * 2 := by rw [flat_length shV 2 shV_length]; simp
          have HT := Lib.hid (row_set2 (cs := zs) (k := k) (((List.range k).map pr).flatMap shV) (.int .i64 (pr k).1) (.int .i64 (pr k).2) hpl (by have := HZL.out; omega))
          have HSn := Lib.hid (show (((List.range (k + 1)).map pr).flatMap shV) = (((List.range k).map pr).flatMap shV) ++ [.int .i64 (pr k).1, .int .i64 (pr k).2] by rw [List.range_succ]; simp [shV])
          have HS := Lib.hid (ho.set (k * 2) (.int .i64 (pr k).1))
          have HS2 := Lib.hid ((ho.set (k * 2) (.int .i64 (pr k).1)).1.set (k * 2 + 1) (.int .i64 (pr k).2))
          have hl : (((List.range k).map pr).flatMap shV ++ zs.drop (k * 2)).length = k4 * 2 := ho.len
          obtain ⟨a0, ha0⟩ : ∃ a, (((List.range k).map pr).flatMap shV ++ zs.drop (k * 2))[k * 2]? = some a := ⟨_, List.getElem?_eq_getElem (by omega)⟩
          obtain ⟨a1, ha1⟩ : ∃ a, (((List.range k).map pr).flatMap shV ++ zs.drop (k * 2))[k * 2 + 1]? = some a := ⟨_, List.getElem?_eq_getElem (by omega)⟩
          have hc0 := (ho.cell (j := k * 2) (by omega)).trans ha0
          have hc1 := (ho.cell (j := k * 2 + 1) (by omega)).trans ha1
          have hf0 := ho.free (k * 2)
          have hf1 := ho.free (k * 2 + 1)
          clear ho ha0 ha1 hl hpl
          generalize (pr k).1 = x1 at *
          generalize (pr k).2 = x2 at *
          go_wp2_with fail
          refine (cutOf_any g 0 8 cg (k * 2) 2 _ _ wr (by omega) rfl (by omega) (by omega) (by omega) (by omega) (by omega)).mono ?_
          rintro e w' ⟨rfl, rfl⟩
          rw [show min 2 (8 - k * 2) = 2 by omega, Nat.zero_add]
          go_wp2_with fail
          go_still_tail 10, (by kernel_rfl)
          go_wp2_with fail
          go_roundw
          case rel =>
            obtain ⟨s1, s2⟩ := HS.out
            obtain ⟨s3, s4⟩ := HS2.out
            rw [HT.out, ← HSn.out] at s3
            have hgr := grown_trans s2 s4
            exact ⟨k + 1, by omega, by go_num, s3.drew.more (Nat.le_refl _) hgr.size, (hb.grown hgr hb.size (fun q e => by cases e; exact sB)).drew, (hkb.step hgr (.inl rfl)).drew⟩
          case measure => simp [intOf]; omega
        · go_wp2_with fail
          go_ret
          obtain rfl : k = k4 := by omega
          have e : shotsL xs = (List.range k).map pr := by rw [HN.out, HP.out]; simp
          rw [e]
          refine ⟨some ⟨w2.heap.size, 0, none⟩, k, ?_, ?_, hb⟩
          · simp
          · rw [List.drop_of_length_le (by have := HZL.out; omega), List.append_nil] at ho
            simpa using ho.toR

set_option maxHeartbeats 1000000 in
theorem implFirst_any : FirstC := by
  intro A n c xs q w h hn hnc
  by_cases hq : q = 0
  · subst hq
    go_enter Tryz.func64, Tryz.ntmps64
    go_wp2_with fail
    refine (implHeadIn_any _ _ _ xs _ h hn).mono ?_
    rintro e w1 ⟨rfl, b1⟩
    generalize hr : headIn xs = r
    obtain ⟨⟨s, f, r, u, m⟩, is⟩ := r
    have HF : Hid (f = firstOf xs 0) := by
      cases is
      · have hh := headIn_false hr
        have e := congrArg Hd.first hh.2
        rw [firstOf_no hh.1]
        exact e
      · have hh := headIn_true hr
        have e := congrArg Hd.first hh.2
        rw [firstOf, if_pos hh.1, if_pos rfl]
        exact e.symm
    clear hr
    unfold hdV
    have b2 := b1.alloc b1.size (.cells #[.int .i64 s, .int .i64 f, .int .i64 r, .int .i64 u, .int .i64 m] 30)
    go_wp2_with fail
    go_ret
    exact RetI.mk HF.out b2
  · have hd : (q == 0) = false := by simpa using hq
    have hl4 := shotsL_length xs
    have hno : (shotsL xs).length = 0 ∨ hasHead xs = true := by
      cases hb : hasHead xs
      · left
        rw [shotsL_none (headIn_no hb) (there_hd0 xs)]; rfl
      · exact .inr rfl
    obtain ⟨l, hl⟩ : ∃ l, l = shotsL xs := ⟨_, rfl⟩
    have HL := Lib.hid hl
    rw [← hl] at hl4 hno
    have HNo := Lib.hid hno
    clear hl hno
    by_cases h0 : q < 0
    · have hd0 : decide (q < 0) = true := by simpa using h0
      go_enter Tryz.func64, Tryz.ntmps64
      go_wp2_with fail
      refine (implShots_any A n c xs _ h hn hnc).mono ?_
      rintro e w1 ⟨S, cs, rfl, oS, b1⟩
      go_wp2_with fail
      go_ret
      refine RetI.mk ?_ b1
      cases hb : hasHead xs
      · rw [firstOf_no hb]
      · rw [firstOf_out hb hq (inB_false.2 (fun hh => by omega))]
    · have hd0 : decide (q < 0) = false := by simpa using h0
      obtain ⟨k, rfl⟩ := Int.eq_ofNat_of_zero_le (show 0 ≤ q by omega)
      obtain ⟨ng, hng⟩ : ∃ ng, l.length = ng := ⟨_, rfl⟩
      by_cases h1 : ng < k
      · have hd1 : decide (ng < k) = true := by simpa using h1
        go_enter Tryz.func64, Tryz.ntmps64
        go_wp2_with fail
        refine (implShots_any A n c xs _ h hn hnc).mono ?_
        rintro e w1 ⟨S, cs, rfl, oS, b1⟩
        rw [← HL.out, hng] at oS ⊢
        have HG := Lib.hid hng
        clear hng
        go_wp2_with fail
        go_ret
        refine RetI.mk ?_ b1
        cases hb : hasHead xs
        · rw [firstOf_no hb]
        · rw [firstOf_out hb hq (inB_false.2 (fun hh => by rw [← HL.out, HG.out] at hh; omega))]
      · have hd1 : decide (ng < k) = false := by simpa using h1
        have hkk : k - 1 < l.length := by omega
        have HF := Lib.hid (show (l.getD (k - 1) (0, 0)).2 = firstOf xs (k : Int) by
          have hb : hasHead xs = true := by rcases HNo.out with h | h; omega; exact h
          rw [firstOf_in hb hq (inB_true.2 ⟨by omega, by rw [← HL.out, hng]; omega⟩), ← HL.out]
          congr 2
          omega)
        go_enter Tryz.func64, Tryz.ntmps64
        go_wp2_with fail
        refine (implShots_any A n c xs _ h hn hnc).mono ?_
        rintro e w1 ⟨S, cs, rfl, oS, b1⟩
        rw [← HL.out, hng] at oS ⊢
        rcases oS.form with ⟨_, h9, _⟩ | ⟨g, rfl, g1, g2, g3, g4⟩
        · omega
        have hc1 : w1.cell? ⟨g, (k - 1) * 2 + 1, none⟩ = some (.int .i64 (l.getD (k - 1) (0, 0)).2) := by
          rw [oS.cell (by omega), flat_get shV 2 shV_length l (k - 1) 1 hkk (by omega)]
          simp [shV, List.getD_eq_getElem?_getD, List.getElem?_eq_getElem hkk]
        generalize (l.getD (k - 1) (0, 0)).2 = x at *
        have HG := Lib.hid hng
        clear hng
        go_wp2_with fail
        go_ret
        exact RetI.mk HF.out b1
end Go.Proofs.YtibokhkohanoaaaGreat
