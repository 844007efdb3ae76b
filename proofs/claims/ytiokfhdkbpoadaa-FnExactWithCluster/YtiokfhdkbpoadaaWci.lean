/- A cluster written: the program's side. -/
import Derived.Test.YtiokfhdkbpoadaaWcl
import Derived.Laws.CopyOwn
namespace Go.Proofs.Ytiokfhdkbpoadaa
open Go.RowKit

theorem info2s : (Try.prog.info? 2).map (·.size) = some 1 := by kernel_rfl

theorem OwC.heap {w : World} {lo hi g n c : Nat} {ys : List Int} (h : OwC w lo hi (some ⟨g, 0, none⟩) n c ys) :
    ∃ cur : List Value, w.heap[g]? = some (.cells cur.toArray 38 (0, 0)) ∧ n ≤ c ∧ c ≤ maxLen ∧ cur.length = c * 8 ∧ cur.take (n * 8) = iv ys ∧ lo ≤ g := by
  rcases h.own.2 with ⟨hv, _⟩ | ⟨g', cap, cur, hv, hb, hg, h1, h2, h3, h4⟩
  · cases hv
  · injection hv with e1 e2 e3
    injection e1 with e1
    injection e1 with e1
    subst e1; subst e3
    exact ⟨cur.toList, by simpa using hg, h1, h2, by simpa using h3, h4, hb⟩

theorem splice_take (cur : List Value) (ys ws : List Int) (n a : Nat) (h : cur.take (n * 8) = iv ys) (ha : a < n) (hw : ws.length = 8) (hl : n * 8 ≤ cur.length) :
    (splice cur (a * 8) (iv ws)).take (n * 8) = iv (setCl ys a ws) := by
  have hiw : (iv ws).length = 8 := by rw [iv_length, hw]
  have e1 : cur.take (a * 8) = iv (ys.take (a * 8)) := by
    have := congrArg (List.take (a * 8)) h
    rw [List.take_take, Nat.min_eq_left (by omega)] at this
    rw [this]; simp [iv, List.map_take]
  have e2 : (cur.drop (a * 8 + 8)).take (n * 8 - (a * 8 + 8)) = iv (ys.drop ((a + 1) * 8)) := by
    have := congrArg (List.drop (a * 8 + 8)) h
    rw [List.drop_take] at this
    rw [this, show (a + 1) * 8 = a * 8 + 8 from by omega]; simp [iv, List.map_drop]
  rw [splice, setCl, iv_append, iv_append, hiw, ← List.append_assoc, List.take_append, e1]
  have hl1 : (iv (ys.take (a * 8)) ++ iv ws).length = a * 8 + 8 := by
    rw [List.length_append, hiw, ← e1, List.length_take]; omega
  rw [List.take_of_length_le (by rw [hl1]; omega), hl1, e2]

theorem OwC.splice {w w' : World} {lo hi g n c a : Nat} {ys ws : List Int} {cur : List Value} (h : OwC w lo hi (some ⟨g, 0, none⟩) n c ys)
    (hn : n ≤ c) (hc : c ≤ maxLen) (hcl : cur.length = c * 8) (ht : cur.take (n * 8) = iv ys) (hlo : lo ≤ g) (ha : a < n) (hw : ws.length = 8)
    (hg : w'.heap[g]? = some (.cells (Go.splice cur (a * 8) (iv ws)).toArray 38 (0, 0))) : OwC w' lo hi (some ⟨g, 0, none⟩) n c (setCl ys a ws) := by
  have hst := splice_take cur ys ws n a ht ha hw (by omega)
  have hsl : (Go.splice cur (a * 8) (iv ws)).length = cur.length := length_splice _ _ _ (by rw [iv_length]; omega)
  refine ⟨⟨?_, .inr ⟨g, c, _, rfl, hlo, hg, hn, hc, by simp [hsl, hcl], by simpa using hst⟩⟩, h.top⟩
  rw [← hst, List.length_take, hsl]; omega

theorem setCl_last (zs : List Int) (m : Nat) (ws : List Int) (hz : zs.length = m * 8) (e8 : List Int) (h8 : e8.length = 8) : setCl (zs ++ e8) m ws = setCl zs m ws := by
  unfold setCl
  rw [List.take_append, List.take_of_length_le (by omega), List.drop_of_length_le (by simp; omega), List.drop_of_length_le (by omega), hz, Nat.sub_self, List.take_zero]
  simp

theorem wordsB_append (xs ys : List Int) : wordsB (xs ++ ys) = (wordsB xs && wordsB ys) := by simp [wordsB]
theorem wordsB_take {xs : List Int} (k : Nat) (h : wordsB xs = true) : wordsB (xs.take k) = true := by
  unfold wordsB at *
  rw [List.all_eq_true] at *
  exact fun x hx => h x (List.mem_of_mem_take hx)
theorem wordsB_drop {xs : List Int} (k : Nat) (h : wordsB xs = true) : wordsB (xs.drop k) = true := by
  unfold wordsB at *
  rw [List.all_eq_true] at *
  exact fun x hx => h x (List.mem_of_mem_drop hx)
theorem wordsB_whole {xs : List Int} (h : wordsB xs = true) : wordsB (whole xs) = true := by
  unfold whole
  rw [wordsB_append, h, Bool.true_and]
  unfold wordsB
  rw [List.all_eq_true]
  intro x hx
  rw [List.mem_replicate] at hx
  rw [hx.2]; rfl
theorem setCl_long (zs : List Int) (m a : Nat) (ws : List Int) (hz : zs.length = m * 8) (hw : ws.length = 8) (ha : a ≤ m) : (setCl zs a ws).length = (if a = m then m + 1 else m) * 8 := by
  unfold setCl
  simp only [List.length_append, List.length_take, List.length_drop, hz, hw]
  split <;> omega
theorem setCl_img_long (xs : List Int) (a : Nat) (ws : List Int) (hi : imgB xs = true) (h8 : eightB ws = true) (ha : a ≤ manyN xs) : imgB (setCl (whole xs) a ws) = decide (a < 64) := by
  have hl := imgB_len hi
  have hw : wordsB xs = true := by simp [imgB] at hi; exact hi.1
  have hws : wordsB ws = true := by simp [eightB] at h8; exact h8.2
  have hw2 := wordsB_whole hw
  have hlen := setCl_long (whole xs) (manyN xs) a ws (whole_length xs) (eightB_len h8) ha
  have hm : manyN xs ≤ 64 := by unfold manyN; omega
  have hall : wordsB (setCl (whole xs) a ws) = true := by
    unfold setCl
    rw [wordsB_append, wordsB_append, wordsB_take _ hw2, wordsB_drop _ hw2, hws]; rfl
  rw [imgB, hall, Bool.true_and, hlen]
  apply decide_eq_decide.2
  split <;> omega

theorem OwC.of {w : World} {lo n : Nat} {v : Value} {ys : List Int} (h : w.ownsRow lo 38 8 v n (iv ys)) (hn : 0 < n) : ∃ g c, v = .slice (some ⟨g, 0, none⟩) n c ∧ OwC w lo w.heap.size (some ⟨g, 0, none⟩) n c ys := by
  have hl := h.lt
  rcases h.2 with ⟨hv, h0⟩ | ⟨g, cap, cur, hv, _⟩
  · omega
  · subst hv
    exact ⟨g, cap, rfl, h, fun g hg => (hl g hg).2⟩

theorem rd_src {w : World} {B : Nat} {W : Option Addr} {ws : List Int} (h : Rd w B W 8 ws) : ∃ ad, W = some ad ∧ ∀ (j : Nat) (v : Value), (iv ws)[j]? = some v → w.cell? (ad.add j) = some v := by
  obtain ⟨b, off, rfl, hb, hc⟩ := h.2 (by omega)
  exact ⟨_, rfl, rd_news h⟩

set_option maxRecDepth 100000 in
set_option maxHeartbeats 1600000 in
theorem implWcl_any (A : Option Addr) (n c : Nat) (xs : List Int) (at_ : Int) (W : Option Addr) (nw cw : Nat) (ws : List Int) (w : World) (h : Rd w w.heap.size A n xs) (hw : Rd w w.heap.size W nw ws) (hn : n ≤ 2097152) (hnw : nw ≤ 2097152) :
    Calls Try.prog 15 #[.slice A n c, .int .i64 at_, .slice W nw cw] w (Ret w (withL xs at_ ws)) := by
  have hxl := Lib.hid h.len
  have hwl := Lib.hid hw.len
  have hno : withB xs at_ ws = false → withL xs at_ ws = [] := fun h => by simp [withL, h]
  cases h8 : eightB ws
  · have H2 := Lib.hid (hno (by simp [withB, h8]))
    clear hno
    go_enter Try.func15, Try.ntmps15
    go_wp2_with (go_at_call 27; refine (implEight_any _ _ _ _ _ _ hw hnw).mono ?_; rintro e w' ⟨rfl, rfl⟩)
    go_ret
    rw [H2.out]
    exact Ret.nil _ _ (Below.refl _ _)
  by_cases h0 : at_ < 0
  · have hd : decide (at_ < 0) = true := by simpa using h0
    have H2 := Lib.hid (hno (by simp [withB, inB_false.2 (show ¬ (0 ≤ at_ ∧ at_ ≤ (manyN xs : Int)) by omega)]))
    clear hno
    go_enter Try.func15, Try.ntmps15
    go_wp2_with (go_at_call 27; refine (implEight_any _ _ _ _ _ _ hw hnw).mono ?_; rintro e w' ⟨rfl, rfl⟩)
    go_ret
    rw [H2.out]
    exact Ret.nil _ _ (Below.refl _ _)
  have hd0 : decide (at_ < 0) = false := by simpa using h0
  by_cases h1 : manyI xs < at_
  · have hd1 : decide (manyI xs < at_) = true := by simpa using h1
    have H2 : Hid (withL xs at_ ws = []) := hno (by
      cases hi : imgB xs
      · simp [withB, hi]
      · have h2 : inB at_ 0 (manyN xs) = false := inB_false.2 (fun hh => by simp [manyI, hi] at h1; omega)
        simp [withB, h2])
    clear hno
    go_enter Try.func15, Try.ntmps15
    go_wp2_with (first | (go_at_call 27; refine (implEight_any _ _ _ _ _ _ hw hnw).mono ?_; rintro e w' ⟨rfl, rfl⟩) | (go_at_call 8; refine (implClin_any _ _ _ _ _ h hn).mono ?_; rintro e w1 ⟨rfl, b1⟩))
    go_ret
    rw [H2.out]
    exact Ret.nil _ _ b1
  have hd1 : decide (manyI xs < at_) = false := by simpa using h1
  have hi : imgB xs = true := by
    cases hi : imgB xs
    · simp [manyI, hi] at h1; omega
    · rfl
  have hle : at_ ≤ (manyN xs : Int) := by simp [manyI, hi] at h1; omega
  have hl := imgB_len hi
  have hm : manyN xs ≤ 64 := by unfold manyN; omega
  obtain ⟨a, rfl⟩ := Int.eq_ofNat_of_zero_le (show 0 ≤ at_ by omega)
  have HL := Lib.hid (show withL xs (a : Int) ws = if a < 64 then setCl (whole xs) a ws else [] by
    have h2 : inB (a : Int) 0 (manyN xs) = true := inB_true.2 ⟨by omega, hle⟩
    by_cases h64 : a < 64
    · have : (a : Int) < 64 := by omega
      simp [withL, withB, hi, h8, h2, h64, this]
    · have : ¬ (a : Int) < 64 := by omega
      simp [withL, withB, h64, this])
  have HI := Lib.hid (setCl_img_long xs a ws hi h8 (by omega))
  clear hno
  have hw8 := eightB_len h8
  obtain rfl : nw = 8 := hwl.out.symm.trans hw8
  have HW8 := Lib.hid hw8
  have HX := Lib.hid hi
  have HWL := Lib.hid (whole_length xs)
  clear hw8 hi
  go_enter Try.func15, Try.ntmps15
  go_wp2_with (first | (go_at_call 27; refine (implEight_any _ _ _ _ _ _ hw hnw).mono ?_; rintro e w' ⟨rfl, rfl⟩) | (go_at_call 8; refine (implClin_any _ _ _ _ _ h hn).mono ?_; rintro e w1 ⟨rfl, b1⟩))
  refine (clustersOf_any _ _ _ _ _ ((h.below b1).more b1.size) hn).mono ?_
  rintro e w2 ⟨B2, m, hm2, rfl, o2, b2⟩
  have hmm : m = manyN xs := by rw [hm2, manyN, hxl.out]
  have b02 := below_more b1 b2 b1.size
  have ham : a ≤ m := by omega
  have hm64 : m ≤ 64 := by omega
  have HM := Lib.hid hmm
  clear hmm hm2
  by_cases hlast : a = m
  · subst hlast
    have hda : ((a : Int) == (a : Int)) = true := by simp
    obtain ⟨i1, hi1, hy0, hy1, hy2⟩ := info_parts infoC
    have ho2 := o2.own.alloc (.cells #[.int .i64 0, .int .i64 0, .int .i64 0, .int .i64 0, .int .i64 0, .int .i64 0, .int .i64 0, .int .i64 0] 38)
    go_wp2_with (at_builtin; refine wpList_append_own _ rfl (.tmp 28) (.tmp 30) 35 rfl w1.heap.size 38 i1 _ 8 64 Try.underlying35 hi1 hy0 hy1 hy2 rfl (by decide) _ _ _ rfl ho2 ⟨w2.heap.size, 0, none⟩ 1 1 [.int .i64 0, .int .i64 0, .int .i64 0, .int .i64 0, .int .i64 0, .int .i64 0, .int .i64 0, .int .i64 0] rfl rfl ?c1 ?c2 ?c3 ?c4 ?c5 ?_)
    case c1 => exact new_cells w2 #[.int .i64 0, .int .i64 0, .int .i64 0, .int .i64 0, .int .i64 0, .int .i64 0, .int .i64 0, .int .i64 0] 38
    case c2 => exact int_one [0, 0, 0, 0, 0, 0, 0, 0]
    case c3 => simp only [maxLen]; omega
    case c4 => omega
    case c5 => have := b2.size; simp; omega
    intro v' w3 hown' hg' _
    have hown2 : w3.ownsRow w1.heap.size 38 8 v' (a + 1) (iv (whole xs ++ [0, 0, 0, 0, 0, 0, 0, 0])) := by
      rw [iv_append]; exact hown'
    have b03 : Below w.heap.size w w3 := (b02.alloc b02.size _).grown hg' (by have := b02.size; simp; omega) (fun g hg => by have := (o2.own.lt g hg).1; have := b1.size; omega)
    clear hown' hg' ho2 hi1 hy0 hy1 hy2 b2 o2
    obtain ⟨g, cc, rfl, o3⟩ := OwC.of hown2 (by omega)
    clear hown2
    obtain ⟨cur, hg, hc1, hc2, hc3, hc4, hc5⟩ := o3.heap
    have HG := Lib.hid hg
    clear hg
    have HC := Lib.hid (show cur.length = cc * 8 ∧ cur.take ((a + 1) * 8) = iv (whole xs ++ [0, 0, 0, 0, 0, 0, 0, 0]) from ⟨hc3, hc4⟩)
    have hcl : (a + 1) * 8 ≤ cur.length := by omega
    clear hc3 hc4
    go_wp2_with (with_reducible refine wpList_copy_splice (o := ⟨some 37, _, _, _, _, _⟩) rfl (.tmp 35) (.tmp 36) 22 22 rfl 2 Try.underlying22 info2s _ W 8 8 8 cw rfl rfl g (a * 8) cur 38 HG.out (iv ws) ?_ ?_ ?_ (int_one ws) w.heap.size w b03 ?_ ?_)
    · rw [iv_length, HW8.out]; rfl
    · exact fun _ => rd_src (hw.below b03)
    · rw [iv_length, HW8.out]; omega
    · have := b1.size; omega
    intro w4 H4 b04
    have o4 := o3.splice hc1 hc2 HC.out.1 HC.out.2 hc5 (show a < a + 1 by omega) HW8.out H4.out
    rw [setCl_last (whole xs) a ws (by rw [HWL.out, ← HM.out]) _ rfl] at o4
    go_wp2_with fail
    refine (joined_any _ _ _ _ w4 o4.rdTop (by omega)).mono ?_
    rintro e w5 ⟨v5, rfl, o5, b5⟩
    obtain ⟨A5, c5, rfl, q5⟩ := Ow.of o5
    have b05 := below_more b04 b5 b04.size
    by_cases h64 : a < 64
    · have hdi : imgB (setCl (whole xs) a ws) = true := by rw [HI.out]; simpa using h64
      go_wp2_with fail
      refine (implImg_any _ _ _ _ _ _ q5.rd (by omega)).mono ?_
      rintro e w5' ⟨rfl, rfl⟩
      go_wp2
      go_ret
      rw [HL.out, if_pos h64]
      exact ⟨_, _, _, rfl, q5.more b04.size (Nat.le_refl _), b05⟩
    · have hdi : imgB (setCl (whole xs) a ws) = false := by rw [HI.out]; simpa using h64
      go_wp2_with fail
      refine (implImg_any _ _ _ _ _ _ q5.rd (by omega)).mono ?_
      rintro e w5' ⟨rfl, rfl⟩
      go_wp2
      go_ret
      rw [HL.out, if_neg h64]
      exact Ret.nil _ _ b05
  · have hda : ((a : Int) == (m : Int)) = false := by rw [beq_eq_false_iff_ne]; omega
    rcases o2.form with ⟨_, h0, _⟩ | ⟨g, rfl, h1, h2, h3, h4⟩
    · omega
    obtain ⟨cur, hg, hc1, hc2, hc3, hc4, hc5⟩ := o2.heap
    have HG := Lib.hid hg
    clear hg
    have HC := Lib.hid (show cur.length = m * 8 ∧ cur.take (m * 8) = iv (whole xs) from ⟨hc3, hc4⟩)
    have hcl : m * 8 ≤ cur.length := by omega
    clear hc3 hc4
    go_wp2_with (with_reducible refine wpList_copy_splice (o := ⟨some 37, _, _, _, _, _⟩) rfl (.tmp 35) (.tmp 36) 22 22 rfl 2 Try.underlying22 info2s _ W 8 8 8 cw rfl rfl g (a * 8) cur 38 HG.out (iv ws) ?_ ?_ ?_ (int_one ws) w.heap.size w b02 ?_ ?_)
    · rw [iv_length, HW8.out]; rfl
    · exact fun _ => rd_src (hw.below b02)
    · rw [iv_length, HW8.out]; omega
    · have := b1.size; omega
    intro w4 H4 b04
    have o4 := o2.splice hc1 hc2 HC.out.1 HC.out.2 hc5 (show a < m by omega) HW8.out H4.out
    go_wp2_with fail
    refine (joined_any _ _ _ _ w4 o4.rdTop (by omega)).mono ?_
    rintro e w5 ⟨v5, rfl, o5, b5⟩
    obtain ⟨A5, c5, rfl, q5⟩ := Ow.of o5
    have b05 := below_more b04 b5 b04.size
    have h64 : a < 64 := by omega
    have hdi : imgB (setCl (whole xs) a ws) = true := by rw [HI.out]; simpa using h64
    go_wp2_with fail
    refine (implImg_any _ _ _ _ _ _ q5.rd (by omega)).mono ?_
    rintro e w5' ⟨rfl, rfl⟩
    go_wp2
    go_ret
    rw [HL.out, if_pos h64]
    exact ⟨_, _, _, rfl, q5.more b04.size (Nat.le_refl _), b05⟩
end Go.Proofs.Ytiokfhdkbpoadaa
