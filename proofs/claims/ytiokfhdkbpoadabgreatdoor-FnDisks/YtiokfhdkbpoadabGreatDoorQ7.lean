/- A cluster written: the program's side. Heads: the program's side, and what the model still lacked of chapter 3. HeadIn and WithHead: the program's side, and the model's WithHead. WithHead: both sides. Tables (chapter 4): the program's side. -/
import Derived.Test.YtiokfhdkbpoadabGreatDoorG1
import Derived.Laws.CopyOwn
import Derived.Test.YtiokfhdkbpoadabGreatDoorG8
import Derived.StillTailTactics
import Derived.Test.YtiokfhdkbpoadabGreatDoorY5
namespace Go.Proofs.YtiokfhdkbpoadabGreatDoor
open Go.RowKit

theorem info2s : (Tryz.prog.info? 2).map (·.size) = some 1 := by kernel_rfl

theorem OwC.heap {w : World} {lo hi g n c : Nat} {ys : List Int} (h : OwC w lo hi (some ⟨g, 0, none⟩) n c ys) :
    ∃ cur : List Value, w.heap[g]? = some (.cells cur.toArray 83 (0, 0)) ∧ n ≤ c ∧ c ≤ maxLen ∧ cur.length = c * 8 ∧ cur.take (n * 8) = iv ys ∧ lo ≤ g := by
  rcases h.own.2 with ⟨hv, _⟩ | ⟨g', cap, cur, hv, hb, hg, h1, h2, h3, h4⟩
  · cases hv
  · injection hv with e1 e2 e3
    injection e1 with e1
    injection e1 with e1
    subst e1; subst e3
    exact ⟨cur.toList, by simpa using hg, h1, h2, by simpa using h3, h4, hb⟩

theorem splice_take (cur : List Value) (ys ws : List Int) (n a : Nat) (h : cur.take (n * 8) = iv ys) (ha : a < n) (hw : ws.length = 8) (hl : n * 8 ≤ cur.length) :
    (splice cur (a * 8) (iv ws)).take (n * 8) = iv (setCl ys a ws) := by
  have hiw : (iv ws).length = 8 := by rw [iv_length, hw]
  have e1 : cur.take (a * 8) = iv (ys.take (a * 8)) := by
    have := congrArg (List.take (a * 8)) h
    rw [List.take_take, Nat.min_eq_left (by omega)] at this
    rw [this]; simp [iv, List.map_take]
  have e2 : (cur.drop (a * 8 + 8)).take (n * 8 - (a * 8 + 8)) = iv (ys.drop ((a + 1) * 8)) := by
    have := congrArg (List.drop (a * 8 + 8)) h
    rw [List.drop_take] at this
    rw [this, show (a + 1) * 8 = a * 8 + 8 from by omega]; simp [iv, List.map_drop]
  rw [splice, setCl, iv_append, iv_append, hiw, ← List.append_assoc, List.take_append, e1]
  have hl1 : (iv (ys.take (a * 8)) ++ iv ws).length = a * 8 + 8 := by
    rw [List.length_append, hiw, ← e1, List.length_take]; omega
  rw [List.take_of_length_le (by rw [hl1]; omega), hl1, e2]

theorem OwC.splice {w w' : World} {lo hi g n c a : Nat} {ys ws : List Int} {cur : List Value} (h : OwC w lo hi (some ⟨g, 0, none⟩) n c ys)
    (hn : n ≤ c) (hc : c ≤ maxLen) (hcl : cur.length = c * 8) (ht : cur.take (n * 8) = iv ys) (hlo : lo ≤ g) (ha : a < n) (hw : ws.length = 8)
    (hg : w'.heap[g]? = some (.cells (Go.splice cur (a * 8) (iv ws)).toArray 83 (0, 0))) : OwC w' lo hi (some ⟨g, 0, none⟩) n c (setCl ys a ws) := by
  have hst := splice_take cur ys ws n a ht ha hw (by omega)
  have hsl : (Go.splice cur (a * 8) (iv ws)).length = cur.length := length_splice _ _ _ (by rw [iv_length]; omega)
  refine ⟨⟨?_, .inr ⟨g, c, _, rfl, hlo, hg, hn, hc, by simp [hsl, hcl], by simpa using hst⟩⟩, h.top⟩
  rw [← hst, List.length_take, hsl]; omega

theorem setCl_last (zs : List Int) (m : Nat) (ws : List Int) (hz : zs.length = m * 8) (e8 : List Int) (h8 : e8.length = 8) : setCl (zs ++ e8) m ws = setCl zs m ws := by
  unfold setCl
  rw [List.take_append, List.take_of_length_le (by omega), List.drop_of_length_le (by simp; omega), List.drop_of_length_le (by omega), hz, Nat.sub_self, List.take_zero]
  simp

theorem wordsB_append (xs ys : List Int) : wordsB (xs ++ ys) = (wordsB xs && wordsB ys) := by simp [wordsB]
theorem wordsB_take {xs : List Int} (k : Nat) (h : wordsB xs = true) : wordsB (xs.take k) = true := by
  unfold wordsB at *
  rw [List.all_eq_true] at *
  exact fun x hx => h x (List.mem_of_mem_take hx)
theorem wordsB_drop {xs : List Int} (k : Nat) (h : wordsB xs = true) : wordsB (xs.drop k) = true := by
  unfold wordsB at *
  rw [List.all_eq_true] at *
  exact fun x hx => h x (List.mem_of_mem_drop hx)
theorem wordsB_whole {xs : List Int} (h : wordsB xs = true) : wordsB (whole xs) = true := by
  unfold whole
  rw [wordsB_append, h, Bool.true_and]
  unfold wordsB
  rw [List.all_eq_true]
  intro x hx
  rw [List.mem_replicate] at hx
  rw [hx.2]; rfl
theorem setCl_long (zs : List Int) (m a : Nat) (ws : List Int) (hz : zs.length = m * 8) (hw : ws.length = 8) (ha : a ≤ m) : (setCl zs a ws).length = (if a = m then m + 1 else m) * 8 := by
  unfold setCl
  simp only [List.length_append, List.length_take, List.length_drop, hz, hw]
  split <;> omega
theorem setCl_img_long (xs : List Int) (a : Nat) (ws : List Int) (hi : imgB xs = true) (h8 : eightB ws = true) (ha : a ≤ manyN xs) : imgB (setCl (whole xs) a ws) = decide (a < 64) := by
  have hl := imgB_len hi
  have hw : wordsB xs = true := by simp [imgB] at hi; exact hi.1
  have hws : wordsB ws = true := by simp [eightB] at h8; exact h8.2
  have hw2 := wordsB_whole hw
  have hlen := setCl_long (whole xs) (manyN xs) a ws (whole_length xs) (eightB_len h8) ha
  have hm : manyN xs ≤ 64 := by unfold manyN; omega
  have hall : wordsB (setCl (whole xs) a ws) = true := by
    unfold setCl
    rw [wordsB_append, wordsB_append, wordsB_take _ hw2, wordsB_drop _ hw2, hws]; rfl
  rw [imgB, hall, Bool.true_and, hlen]
  apply decide_eq_decide.2
  split <;> omega

theorem OwC.of {w : World} {lo n : Nat} {v : Value} {ys : List Int} (h : w.ownsRow lo 83 8 v n (iv ys)) (hn : 0 < n) : ∃ g c, v = .slice (some ⟨g, 0, none⟩) n c ∧ OwC w lo w.heap.size (some ⟨g, 0, none⟩) n c ys := by
  have hl := h.lt
  rcases h.2 with ⟨hv, h0⟩ | ⟨g, cap, cur, hv, _⟩
  · omega
  · subst hv
    exact ⟨g, cap, rfl, h, fun g hg => (hl g hg).2⟩

theorem rd_src {w : World} {B : Nat} {W : Option Addr} {ws : List Int} (h : Rd w B W 8 ws) : ∃ ad, W = some ad ∧ ∀ (j : Nat) (v : Value), (iv ws)[j]? = some v → w.cell? (ad.add j) = some v := by
  obtain ⟨b, off, rfl, hb, hc⟩ := h.2 (by omega)
  exact ⟨_, rfl, rd_news h⟩

set_option maxRecDepth 100000 in
set_option maxHeartbeats 1600000 in
theorem implWcl_any (A : Option Addr) (n c : Nat) (xs : List Int) (at_ : Int) (W : Option Addr) (nw cw : Nat) (ws : List Int) (w : World) (h : Rd w w.heap.size A n xs) (hw : Rd w w.heap.size W nw ws) (hn : n ≤ 2097152) (hnw : nw ≤ 2097152) :
    Calls Tryz.prog 27 #[.slice A n c, .int .i64 at_, .slice W nw cw] w (Ret w (withL xs at_ ws)) := by
  have hxl := Lib.hid h.len
  have hwl := Lib.hid hw.len
  have hno : withB xs at_ ws = false → withL xs at_ ws = [] := fun h => by simp [withL, h]
  cases h8 : eightB ws
  · have H2 := Lib.hid (hno (by simp [withB, h8]))
    clear hno
    go_enter Tryz.func27, Tryz.ntmps27
    go_wp2_with (go_at_call 25; refine (implEight_any _ _ _ _ _ _ hw hnw).mono ?_; rintro e w' ⟨rfl, rfl⟩)
    go_ret
    rw [H2.out]
    exact Ret.nil _ _ (Below.refl _ _)
  by_cases h0 : at_ < 0
  · have hd : decide (at_ < 0) = true := by simpa using h0
    have H2 := Lib.hid (hno (by simp [withB, inB_false.2 (show ¬ (0 ≤ at_ ∧ at_ ≤ (manyN xs : Int)) by omega)]))
    clear hno
    go_enter Tryz.func27, Tryz.ntmps27
    go_wp2_with (go_at_call 25; refine (implEight_any _ _ _ _ _ _ hw hnw).mono ?_; rintro e w' ⟨rfl, rfl⟩)
    go_ret
    rw [H2.out]
    exact Ret.nil _ _ (Below.refl _ _)
  have hd0 : decide (at_ < 0) = false := by simpa using h0
  by_cases h1 : manyI xs < at_
  · have hd1 : decide (manyI xs < at_) = true := by simpa using h1
    have H2 : Hid (withL xs at_ ws = []) := hno (by
      cases hi : imgB xs
      · simp [withB, hi]
      · have h2 : inB at_ 0 (manyN xs) = false := inB_false.2 (fun hh => by simp [manyI, hi] at h1; omega)
        simp [withB, h2])
    clear hno
    go_enter Tryz.func27, Tryz.ntmps27
    go_wp2_with (first | (go_at_call 25; refine (implEight_any _ _ _ _ _ _ hw hnw).mono ?_; rintro e w' ⟨rfl, rfl⟩) | (go_at_call 76; refine (implClin_any _ _ _ _ _ h hn).mono ?_; rintro e w1 ⟨rfl, b1⟩))
    go_ret
    rw [H2.out]
    exact Ret.nil _ _ b1
  have hd1 : decide (manyI xs < at_) = false := by simpa using h1
  have hi : imgB xs = true := by
    cases hi : imgB xs
    · simp [manyI, hi] at h1; omega
    · rfl
  have hle : at_ ≤ (manyN xs : Int) := by simp [manyI, hi] at h1; omega
  have hl := imgB_len hi
  have hm : manyN xs ≤ 64 := by unfold manyN; omega
  obtain ⟨a, rfl⟩ := Int.eq_ofNat_of_zero_le (show 0 ≤ at_ by omega)
  have HL := Lib.hid (show withL xs (a : Int) ws = if a < 64 then setCl (whole xs) a ws else [] by
    have h2 : inB (a : Int) 0 (manyN xs) = true := inB_true.2 ⟨by omega, hle⟩
    by_cases h64 : a < 64
    · have : (a : Int) < 64 := by omega
      simp [withL, withB, hi, h8, h2, h64, this]
    · have : ¬ (a : Int) < 64 := by omega
      simp [withL, withB, h64, this])
  have HI := Lib.hid (setCl_img_long xs a ws hi h8 (by omega))
  clear hno
  have hw8 := eightB_len h8
  obtain rfl : nw = 8 := hwl.out.symm.trans hw8
  have HW8 := Lib.hid hw8
  have HX := Lib.hid hi
  have HWL := Lib.hid (whole_length xs)
  clear hw8 hi
  go_enter Tryz.func27, Tryz.ntmps27
  go_wp2_with (first | (go_at_call 25; refine (implEight_any _ _ _ _ _ _ hw hnw).mono ?_; rintro e w' ⟨rfl, rfl⟩) | (go_at_call 76; refine (implClin_any _ _ _ _ _ h hn).mono ?_; rintro e w1 ⟨rfl, b1⟩))
  refine (clustersOf_any _ _ _ _ _ ((h.below b1).more b1.size) hn).mono ?_
  rintro e w2 ⟨B2, m, hm2, rfl, o2, b2⟩
  have hmm : m = manyN xs := by rw [hm2, manyN, hxl.out]
  have b02 := below_more b1 b2 b1.size
  have ham : a ≤ m := by omega
  have hm64 : m ≤ 64 := by omega
  have HM := Lib.hid hmm
  clear hmm hm2
  by_cases hlast : a = m
  · subst hlast
    have hda : ((a : Int) == (a : Int)) = true := by simp
    obtain ⟨i1, hi1, hy0, hy1, hy2⟩ := info_parts infoC
    have ho2 := o2.own.alloc (.cells #[.int .i64 0, .int .i64 0, .int .i64 0, .int .i64 0, .int .i64 0, .int .i64 0, .int .i64 0, .int .i64 0] 83)
    go_wp2_with (at_builtin; refine wpList_append_own _ rfl (.tmp 28) (.tmp 30) 80 rfl w1.heap.size 83 i1 _ 8 64 Tryz.underlying80 hi1 hy0 hy1 hy2 rfl (by decide) _ _ _ rfl ho2 ⟨w2.heap.size, 0, none⟩ 1 1 [.int .i64 0, .int .i64 0, .int .i64 0, .int .i64 0, .int .i64 0, .int .i64 0, .int .i64 0, .int .i64 0] rfl rfl ?c1 ?c2 ?c3 ?c4 ?c5 ?_)
    case c1 => exact new_cells w2 #[.int .i64 0, .int .i64 0, .int .i64 0, .int .i64 0, .int .i64 0, .int .i64 0, .int .i64 0, .int .i64 0] 83
    case c2 => exact int_one [0, 0, 0, 0, 0, 0, 0, 0]
    case c3 => simp only [maxLen]; omega
    case c4 => omega
    case c5 => have := b2.size; simp; omega
    intro v' w3 hown' hg' _
    have hown2 : w3.ownsRow w1.heap.size 83 8 v' (a + 1) (iv (whole xs ++ [0, 0, 0, 0, 0, 0, 0, 0])) := by
      rw [iv_append]; exact hown'
    have b03 : Below w.heap.size w w3 := (b02.alloc b02.size _).grown hg' (by have := b02.size; simp; omega) (fun g hg => by have := (o2.own.lt g hg).1; have := b1.size; omega)
    clear hown' hg' ho2 hi1 hy0 hy1 hy2 b2 o2
    obtain ⟨g, cc, rfl, o3⟩ := OwC.of hown2 (by omega)
    clear hown2
    obtain ⟨cur, hg, hc1, hc2, hc3, hc4, hc5⟩ := o3.heap
    have HG := Lib.hid hg
    clear hg
    have HC := Lib.hid (show cur.length = cc * 8 ∧ cur.take ((a + 1) * 8) = iv (whole xs ++ [0, 0, 0, 0, 0, 0, 0, 0]) from ⟨hc3, hc4⟩)
    have hcl : (a + 1) * 8 ≤ cur.length := by omega
    clear hc3 hc4
    go_wp2_with (with_reducible refine wpList_copy_splice (o := ⟨some 37, _, _, _, _, _⟩) rfl (.tmp 35) (.tmp 36) 24 24 rfl 2 Tryz.underlying24 info2s _ W 8 8 8 cw rfl rfl g (a * 8) cur 83 HG.out (iv ws) ?_ ?_ ?_ (int_one ws) w.heap.size w b03 ?_ ?_)
    · rw [iv_length, HW8.out]; rfl
    · exact fun _ => rd_src (hw.below b03)
    · rw [iv_length, HW8.out]; omega
    · have := b1.size; omega
    intro w4 H4 b04
    have o4 := o3.splice hc1 hc2 HC.out.1 HC.out.2 hc5 (show a < a + 1 by omega) HW8.out H4.out
    rw [setCl_last (whole xs) a ws (by rw [HWL.out, ← HM.out]) _ rfl] at o4
    go_wp2_with fail
    refine (joined_any _ _ _ _ w4 o4.rdTop (by omega)).mono ?_
    rintro e w5 ⟨v5, rfl, o5, b5⟩
    obtain ⟨A5, c5, rfl, q5⟩ := Ow.of o5
    have b05 := below_more b04 b5 b04.size
    by_cases h64 : a < 64
    · have hdi : imgB (setCl (whole xs) a ws) = true := by rw [HI.out]; simpa using h64
      go_wp2_with fail
      refine (implImg_any _ _ _ _ _ _ q5.rd (by omega)).mono ?_
      rintro e w5' ⟨rfl, rfl⟩
      go_wp2
      go_ret
      rw [HL.out, if_pos h64]
      exact ⟨_, _, _, rfl, q5.more b04.size (Nat.le_refl _), b05⟩
    · have hdi : imgB (setCl (whole xs) a ws) = false := by rw [HI.out]; simpa using h64
      go_wp2_with fail
      refine (implImg_any _ _ _ _ _ _ q5.rd (by omega)).mono ?_
      rintro e w5' ⟨rfl, rfl⟩
      go_wp2
      go_ret
      rw [HL.out, if_neg h64]
      exact Ret.nil _ _ b05
  · have hda : ((a : Int) == (m : Int)) = false := by rw [beq_eq_false_iff_ne]; omega
    rcases o2.form with ⟨_, h0, _⟩ | ⟨g, rfl, h1, h2, h3, h4⟩
    · omega
    obtain ⟨cur, hg, hc1, hc2, hc3, hc4, hc5⟩ := o2.heap
    have HG := Lib.hid hg
    clear hg
    have HC := Lib.hid (show cur.length = m * 8 ∧ cur.take (m * 8) = iv (whole xs) from ⟨hc3, hc4⟩)
    have hcl : m * 8 ≤ cur.length := by omega
    clear hc3 hc4
    go_wp2_with (with_reducible refine wpList_copy_splice (o := ⟨some 37, _, _, _, _, _⟩) rfl (.tmp 35) (.tmp 36) 24 24 rfl 2 Tryz.underlying24 info2s _ W 8 8 8 cw rfl rfl g (a * 8) cur 83 HG.out (iv ws) ?_ ?_ ?_ (int_one ws) w.heap.size w b02 ?_ ?_)
    · rw [iv_length, HW8.out]; rfl
    · exact fun _ => rd_src (hw.below b02)
    · rw [iv_length, HW8.out]; omega
    · have := b1.size; omega
    intro w4 H4 b04
    have o4 := o2.splice hc1 hc2 HC.out.1 HC.out.2 hc5 (show a < m by omega) HW8.out H4.out
    go_wp2_with fail
    refine (joined_any _ _ _ _ w4 o4.rdTop (by omega)).mono ?_
    rintro e w5 ⟨v5, rfl, o5, b5⟩
    obtain ⟨A5, c5, rfl, q5⟩ := Ow.of o5
    have b05 := below_more b04 b5 b04.size
    have h64 : a < 64 := by omega
    have hdi : imgB (setCl (whole xs) a ws) = true := by rw [HI.out]; simpa using h64
    go_wp2_with fail
    refine (implImg_any _ _ _ _ _ _ q5.rd (by omega)).mono ?_
    rintro e w5' ⟨rfl, rfl⟩
    go_wp2
    go_ret
    rw [HL.out, if_pos h64]
    exact ⟨_, _, _, rfl, q5.more b04.size (Nat.le_refl _), b05⟩

theorem words3 (a b c : Int) : wordsB [a, b, c] = (wordB a && wordB b && wordB c) := by simp [wordsB, Bool.and_assoc]
theorem headB_lo {s f r t m : Int} (h : ¬ 1 ≤ s) : headB ⟨s, f, r, t, m⟩ = false := by
  have : inB s 1 64 = false := inB_false.2 (fun hh => h hh.1)
  simp [headB, this]
theorem headB_hi {s f r t m : Int} (h : ¬ s ≤ 64) : headB ⟨s, f, r, t, m⟩ = false := by
  have : inB s 1 64 = false := inB_false.2 (fun hh => h hh.2)
  simp [headB, this]
theorem headB_in {s f r t m : Int} (h1 : 1 ≤ s) (h2 : s ≤ 64) : headB ⟨s, f, r, t, m⟩ = (wordsB [f, r, t] && inB m 0 4) := by
  have : inB s 1 64 = true := inB_true.2 ⟨h1, h2⟩
  simp [headB, this, words3, Bool.and_assoc]

set_option maxHeartbeats 1000000 in
theorem implHeadOk_any (h : Hd) (w : World) :
    Calls Tryz.prog 70 #[hdV h] w fun e w' => e = .returned (.bool (headB h)) ∧ Below w.heap.size w w' := by
  obtain ⟨s, f, r, t, m⟩ := h
  have hB := Lib.hid ((Below.refl w.heap.size w).alloc (Nat.le_refl _) (.cells #[.int .i64 s, .int .i64 f, .int .i64 r, .int .i64 t, .int .i64 m] 33))
  unfold hdV
  by_cases h1 : 1 ≤ s
  case neg =>
    have h1' : decide (1 ≤ s) = false := by simpa using h1
    have H := Lib.hid (headB_lo (f := f) (r := r) (t := t) (m := m) h1)
    go_enter Tryz.func70, Tryz.ntmps70
    go_wp2_with fail
    go_ret
    exact ⟨ret_bool H.out.symm, hB.out⟩
  by_cases h2 : s ≤ 64
  case neg =>
    have h2' : decide (s ≤ 64) = false := by simpa using h2
    have H := Lib.hid (headB_hi (f := f) (r := r) (t := t) (m := m) h2)
    go_enter Tryz.func70, Tryz.ntmps70
    go_wp2_with fail
    go_ret
    exact ⟨ret_bool H.out.symm, hB.out⟩
  have H := Lib.hid (headB_in (f := f) (r := r) (t := t) (m := m) h1 h2)
  have HB2 := Lib.hid (hB.out.alloc (by simp) (.cells #[.int .i64 f, .int .i64 r, .int .i64 t] 2))
  go_enter Tryz.func70, Tryz.ntmps70
  go_wp2_with fail
  refine (implWords_any _ _ _ [f, r, t] _ _ (made_ow _ _ [f, r, t] 3 0 (w.heap.size + 2) _ rfl rfl (by omega) (by simp) (by simp) (by simp)).rd (by omega)).mono ?_
  rintro e w' ⟨rfl, rfl⟩
  cases hw : wordsB [f, r, t]
  · go_wp2_with fail
    go_ret
    exact ⟨ret_bool (by rw [H.out, hw]; rfl), HB2.out⟩
  by_cases h3 : 0 ≤ m
  case neg =>
    have h3' : decide (0 ≤ m) = false := by simpa using h3
    have H3 := Lib.hid (inB_false.2 (fun hh => h3 hh.1) : inB m 0 4 = false)
    go_wp2_with fail
    go_ret
    exact ⟨ret_bool (by rw [H.out, hw, H3.out]; rfl), HB2.out⟩
  by_cases h4 : m ≤ 4
  case neg =>
    have h4' : decide (m ≤ 4) = false := by simpa using h4
    have H4 := Lib.hid (inB_false.2 (fun hh => h4 hh.2) : inB m 0 4 = false)
    go_wp2_with fail
    go_ret
    exact ⟨ret_bool (by rw [H.out, hw, H4.out]; rfl), HB2.out⟩
  go_wp2_with fail
  go_ret
  exact ⟨ret_bool (by rw [H.out, hw, inB_true.2 ⟨h3, h4⟩]; rfl), HB2.out⟩

/-- All that stands in the cluster of a head. -/
def hcV (a b : Int) (h : Hd) (z : Int) : Value := .agg #[.int .i64 a, .int .i64 b, .int .i64 h.size, .int .i64 h.first, .int .i64 h.refs, .int .i64 h.shots, .int .i64 h.many, .int .i64 z]

set_option maxHeartbeats 1000000 in
theorem clusterOfHead_any (h : Hd) (w : World) :
    Calls Tryz.prog 71 #[hdV h] w fun e w' => e = .returned (hcV 20559 3 h 0) ∧ Below w.heap.size w w' := by
  obtain ⟨s, f, r, t, m⟩ := h
  unfold hdV
  go_enter Tryz.func71, Tryz.ntmps71
  go_wp2_with fail
  refine bodyPost_ret (v := hcV 20559 3 ⟨s, f, r, t, m⟩ 0) (by simp [results, Tryz.results71, go_sem, hcV]) rfl ⟨rfl, ?_⟩
  exact ((Below.refl _ _).alloc (Nat.le_refl _) _).alloc (by simp) _

/-- The cells of a block that was made just ahead of a call. -/
theorem boxed {w w1 : World} {vs : Array Value} {t : TypeId} (hb : Below (w.alloc (.cells vs t)).heap.size (w.alloc (.cells vs t)) w1) (j : Nat) : w1.cell? ⟨w.heap.size, j, none⟩ = vs[j]? :=
  (hb.cell (p := ⟨w.heap.size, j, none⟩) (by simp)).trans (World.cell?_alloc_new _ _ _ _)

theorem boxedF {w w1 : World} {vs : Array Value} {t : TypeId} (hb : Below (w.alloc (.cells vs t)).heap.size (w.alloc (.cells vs t)) w1) (j : Nat) : w1.frozen? ⟨w.heap.size, j, none⟩ = false :=
  (hb.frozen (p := ⟨w.heap.size, j, none⟩) (by simp)).trans (World.frozen?_alloc_new _ _ _ _)

/-- HeadWords. -/
def hdWords (h : Hd) : List Int := if headB h then hdW h else []
theorem hdWords_no {h : Hd} (hb : headB h = false) : hdWords h = [] := by simp [hdWords, hb]
theorem hdWords_yes {h : Hd} (hb : headB h = true) : hdWords h = hdW h := by simp [hdWords, hb]
theorem hdWords_len (h : Hd) : (hdWords h).length ≤ 8 := by unfold hdWords; split <;> simp [hdW]

set_option maxHeartbeats 1000000 in
theorem implHeadWords_any (h : Hd) (w : World) : Calls Tryz.prog 115 #[hdV h] w (Ret w (hdWords h)) := by
  obtain ⟨s, f, r, t, m⟩ := h
  have hB := Lib.hid ((Below.refl w.heap.size w).alloc (Nat.le_refl _) (.cells #[.int .i64 s, .int .i64 f, .int .i64 r, .int .i64 t, .int .i64 m] 33))
  cases hb : headB ⟨s, f, r, t, m⟩
  · have H := Lib.hid (hdWords_no hb)
    unfold hdV
    go_enter Tryz.func115, Tryz.ntmps115
    go_wp2_with fail
    refine (implHeadOk_any ⟨s, f, r, t, m⟩ _).mono ?_
    rintro e w1 ⟨rfl, b1⟩
    have b01 := below_more hB.out b1 hB.out.size
    go_wp2_with fail
    go_ret
    rw [H.out]
    exact Ret.nil _ _ b01
  · have H := Lib.hid (hdWords_yes hb)
    unfold hdV
    go_enter Tryz.func115, Tryz.ntmps115
    go_wp2_with fail
    refine (implHeadOk_any ⟨s, f, r, t, m⟩ _).mono ?_
    rintro e w1 ⟨rfl, b1⟩
    have b01 := below_more hB.out b1 hB.out.size
    have c0 : w1.cell? ⟨w.heap.size, 0, none⟩ = some (.int .i64 s) := boxed b1 0
    have c1 : w1.cell? ⟨w.heap.size, 1, none⟩ = some (.int .i64 f) := boxed b1 1
    have c2 : w1.cell? ⟨w.heap.size, 2, none⟩ = some (.int .i64 r) := boxed b1 2
    have c3 : w1.cell? ⟨w.heap.size, 3, none⟩ = some (.int .i64 t) := boxed b1 3
    have c4 : w1.cell? ⟨w.heap.size, 4, none⟩ = some (.int .i64 m) := boxed b1 4
    have hz1 : w.heap.size < w1.heap.size := by have := b1.size; simp at this; omega
    go_wp2_with fail
    refine (clusterOfHead_any ⟨s, f, r, t, m⟩ w1).mono ?_
    rintro e w2 ⟨rfl, b2⟩
    have b02 := below_more b01 b2 b01.size
    have c0 := (b2.cell (p := ⟨w.heap.size, 0, none⟩) hz1).trans c0
    have c1 := (b2.cell (p := ⟨w.heap.size, 1, none⟩) hz1).trans c1
    have c2 := (b2.cell (p := ⟨w.heap.size, 2, none⟩) hz1).trans c2
    have c3 := (b2.cell (p := ⟨w.heap.size, 3, none⟩) hz1).trans c3
    have c4 := (b2.cell (p := ⟨w.heap.size, 4, none⟩) hz1).trans c4
    have hz2 : w.heap.size < w2.heap.size := by have := b2.size; omega
    have hzn : w.heap.size ≠ w2.heap.size := by omega
    clear b1 b2 b01
    unfold hcV
    go_wp2_with fail
    go_ret
    rw [H.out]
    exact ⟨_, 8, 8, rfl, made_ow _ _ (hdW ⟨s, f, r, t, m⟩) 8 _ _ _ rfl rfl (by omega) (by simp; omega) (by simp) (by simp), (b02.alloc b02.size _).alloc (by simp; omega) _⟩

set_option maxRecDepth 100000 in
set_option maxHeartbeats 1000000 in
theorem readHead_any (g B c : Nat) (xs : List Int) (w : World) (h : Rd w B (some ⟨g, 0, none⟩) 8 xs) (hB : B ≤ w.heap.size) :
    Calls Tryz.prog 69 #[.slice (some ⟨g, 0, none⟩) 8 c] w fun e w' => e = .returned (hcV (xs.getD 0 0) (xs.getD 1 0) (headOf xs) (xs.getD 7 0)) ∧ Below w.heap.size w w' := by
  obtain ⟨b, off, e, hb, hc⟩ := h.2 (by omega)
  injection e with e
  injection e with e1 e2
  subst e1; subst e2
  have hgn : g ≠ w.heap.size := by omega
  have hgl : g < w.heap.size := by omega
  have c0 := hc 0 (by omega)
  have c1 := hc 1 (by omega)
  have c2 := hc 2 (by omega)
  have c3 := hc 3 (by omega)
  have c4 := hc 4 (by omega)
  have c5 := hc 5 (by omega)
  have c6 := hc 6 (by omega)
  have c7 := hc 7 (by omega)
  simp only [Nat.zero_add] at c0 c1 c2 c3 c4 c5 c6 c7
  unfold headOf
  clear hc h
  generalize xs.getD 0 0 = x0 at *
  generalize xs.getD 1 0 = x1 at *
  generalize xs.getD 2 0 = x2 at *
  generalize xs.getD 3 0 = x3 at *
  generalize xs.getD 4 0 = x4 at *
  generalize xs.getD 5 0 = x5 at *
  generalize xs.getD 6 0 = x6 at *
  generalize xs.getD 7 0 = x7 at *
  go_enter Tryz.func69, Tryz.ntmps69
  go_wp2_with fail
  have d0 := (World.cell?_alloc_lt w (.cells #[.int .i64 0, .int .i64 0, .int .i64 0, .int .i64 0, .int .i64 0, .int .i64 0, .int .i64 0, .int .i64 0] 77) ⟨g, 0, none⟩ hgl).trans c0
  have d1 := (World.cell?_alloc_lt w (.cells #[.int .i64 0, .int .i64 0, .int .i64 0, .int .i64 0, .int .i64 0, .int .i64 0, .int .i64 0, .int .i64 0] 77) ⟨g, 1, none⟩ hgl).trans c1
  have d2 := (World.cell?_alloc_lt w (.cells #[.int .i64 0, .int .i64 0, .int .i64 0, .int .i64 0, .int .i64 0, .int .i64 0, .int .i64 0, .int .i64 0] 77) ⟨g, 2, none⟩ hgl).trans c2
  have d3 := (World.cell?_alloc_lt w (.cells #[.int .i64 0, .int .i64 0, .int .i64 0, .int .i64 0, .int .i64 0, .int .i64 0, .int .i64 0, .int .i64 0] 77) ⟨g, 3, none⟩ hgl).trans c3
  have d4 := (World.cell?_alloc_lt w (.cells #[.int .i64 0, .int .i64 0, .int .i64 0, .int .i64 0, .int .i64 0, .int .i64 0, .int .i64 0, .int .i64 0] 77) ⟨g, 4, none⟩ hgl).trans c4
  have d5 := (World.cell?_alloc_lt w (.cells #[.int .i64 0, .int .i64 0, .int .i64 0, .int .i64 0, .int .i64 0, .int .i64 0, .int .i64 0, .int .i64 0] 77) ⟨g, 5, none⟩ hgl).trans c5
  have d6 := (World.cell?_alloc_lt w (.cells #[.int .i64 0, .int .i64 0, .int .i64 0, .int .i64 0, .int .i64 0, .int .i64 0, .int .i64 0, .int .i64 0] 77) ⟨g, 6, none⟩ hgl).trans c6
  have d7 := (World.cell?_alloc_lt w (.cells #[.int .i64 0, .int .i64 0, .int .i64 0, .int .i64 0, .int .i64 0, .int .i64 0, .int .i64 0, .int .i64 0] 77) ⟨g, 7, none⟩ hgl).trans c7
  have z0 : (w.alloc (.cells #[.int .i64 0, .int .i64 0, .int .i64 0, .int .i64 0, .int .i64 0, .int .i64 0, .int .i64 0, .int .i64 0] 77)).cell? ⟨w.heap.size, 0, none⟩ = some (.int .i64 0) := World.cell?_alloc_new _ _ _ _
  have z1 : (w.alloc (.cells #[.int .i64 0, .int .i64 0, .int .i64 0, .int .i64 0, .int .i64 0, .int .i64 0, .int .i64 0, .int .i64 0] 77)).cell? ⟨w.heap.size, 1, none⟩ = some (.int .i64 0) := World.cell?_alloc_new _ _ _ _
  have z2 : (w.alloc (.cells #[.int .i64 0, .int .i64 0, .int .i64 0, .int .i64 0, .int .i64 0, .int .i64 0, .int .i64 0, .int .i64 0] 77)).cell? ⟨w.heap.size, 2, none⟩ = some (.int .i64 0) := World.cell?_alloc_new _ _ _ _
  have z3 : (w.alloc (.cells #[.int .i64 0, .int .i64 0, .int .i64 0, .int .i64 0, .int .i64 0, .int .i64 0, .int .i64 0, .int .i64 0] 77)).cell? ⟨w.heap.size, 3, none⟩ = some (.int .i64 0) := World.cell?_alloc_new _ _ _ _
  have z4 : (w.alloc (.cells #[.int .i64 0, .int .i64 0, .int .i64 0, .int .i64 0, .int .i64 0, .int .i64 0, .int .i64 0, .int .i64 0] 77)).cell? ⟨w.heap.size, 4, none⟩ = some (.int .i64 0) := World.cell?_alloc_new _ _ _ _
  have z5 : (w.alloc (.cells #[.int .i64 0, .int .i64 0, .int .i64 0, .int .i64 0, .int .i64 0, .int .i64 0, .int .i64 0, .int .i64 0] 77)).cell? ⟨w.heap.size, 5, none⟩ = some (.int .i64 0) := World.cell?_alloc_new _ _ _ _
  have z6 : (w.alloc (.cells #[.int .i64 0, .int .i64 0, .int .i64 0, .int .i64 0, .int .i64 0, .int .i64 0, .int .i64 0, .int .i64 0] 77)).cell? ⟨w.heap.size, 6, none⟩ = some (.int .i64 0) := World.cell?_alloc_new _ _ _ _
  have z7 : (w.alloc (.cells #[.int .i64 0, .int .i64 0, .int .i64 0, .int .i64 0, .int .i64 0, .int .i64 0, .int .i64 0, .int .i64 0] 77)).cell? ⟨w.heap.size, 7, none⟩ = some (.int .i64 0) := World.cell?_alloc_new _ _ _ _
  have k0 : (w.alloc (.cells #[.int .i64 0, .int .i64 0, .int .i64 0, .int .i64 0, .int .i64 0, .int .i64 0, .int .i64 0, .int .i64 0] 77)).frozen? ⟨w.heap.size, 0, none⟩ = false := World.frozen?_alloc_new _ _ _ _
  have k1 : (w.alloc (.cells #[.int .i64 0, .int .i64 0, .int .i64 0, .int .i64 0, .int .i64 0, .int .i64 0, .int .i64 0, .int .i64 0] 77)).frozen? ⟨w.heap.size, 1, none⟩ = false := World.frozen?_alloc_new _ _ _ _
  have k2 : (w.alloc (.cells #[.int .i64 0, .int .i64 0, .int .i64 0, .int .i64 0, .int .i64 0, .int .i64 0, .int .i64 0, .int .i64 0] 77)).frozen? ⟨w.heap.size, 2, none⟩ = false := World.frozen?_alloc_new _ _ _ _
  have k3 : (w.alloc (.cells #[.int .i64 0, .int .i64 0, .int .i64 0, .int .i64 0, .int .i64 0, .int .i64 0, .int .i64 0, .int .i64 0] 77)).frozen? ⟨w.heap.size, 3, none⟩ = false := World.frozen?_alloc_new _ _ _ _
  have k4 : (w.alloc (.cells #[.int .i64 0, .int .i64 0, .int .i64 0, .int .i64 0, .int .i64 0, .int .i64 0, .int .i64 0, .int .i64 0] 77)).frozen? ⟨w.heap.size, 4, none⟩ = false := World.frozen?_alloc_new _ _ _ _
  have k5 : (w.alloc (.cells #[.int .i64 0, .int .i64 0, .int .i64 0, .int .i64 0, .int .i64 0, .int .i64 0, .int .i64 0, .int .i64 0] 77)).frozen? ⟨w.heap.size, 5, none⟩ = false := World.frozen?_alloc_new _ _ _ _
  have k6 : (w.alloc (.cells #[.int .i64 0, .int .i64 0, .int .i64 0, .int .i64 0, .int .i64 0, .int .i64 0, .int .i64 0, .int .i64 0] 77)).frozen? ⟨w.heap.size, 6, none⟩ = false := World.frozen?_alloc_new _ _ _ _
  have k7 : (w.alloc (.cells #[.int .i64 0, .int .i64 0, .int .i64 0, .int .i64 0, .int .i64 0, .int .i64 0, .int .i64 0, .int .i64 0] 77)).frozen? ⟨w.heap.size, 7, none⟩ = false := World.frozen?_alloc_new _ _ _ _
  have hB := Lib.hid ((Below.refl w.heap.size w).alloc (Nat.le_refl _) (.cells #[.int .i64 0, .int .i64 0, .int .i64 0, .int .i64 0, .int .i64 0, .int .i64 0, .int .i64 0, .int .i64 0] 77))
  clear c0 c1 c2 c3 c4 c5 c6 c7
  generalize (w.alloc (.cells #[.int .i64 0, .int .i64 0, .int .i64 0, .int .i64 0, .int .i64 0, .int .i64 0, .int .i64 0, .int .i64 0] 77)) = w1 at *
  go_still_tail 26, (by kernel_rfl)
  go_wp2_with fail
  refine bodyPost_ret (v := hcV x0 x1 ⟨x2, x3, x4, x5, x6⟩ x7) (by simp [results, Tryz.results69, go_sem, hcV, z0, z1, z2, z3, z4, z5, z6, z7]) rfl ⟨rfl, ?_⟩
  exact ((((((((hB.out.setCell (Nat.le_refl _) _).setCell (Nat.le_refl _) _).setCell (Nat.le_refl _) _).setCell (Nat.le_refl _) _).setCell (Nat.le_refl _) _).setCell (Nat.le_refl _) _).setCell (Nat.le_refl _) _).setCell (Nat.le_refl _) _).drew

theorem clusterL_zero {xs : List Int} (hi : imgB xs = true) (h0 : xs.length ≠ 0) : clusterL xs 0 = cl xs 0 := by
  have hm : 1 ≤ manyN xs := by unfold manyN; omega
  rw [clusterL_in hi (inB_true.2 ⟨by omega, by omega⟩)]; rfl
theorem clusterL_none {xs : List Int} (h : ¬ (imgB xs = true ∧ xs.length ≠ 0)) : clusterL xs 0 = [] := by
  cases hi : imgB xs
  · exact clusterL_no hi
  · by_cases h0 : xs.length = 0
    · exact clusterL_out (inB_false.2 (fun hh => by have : manyN xs = 0 := by unfold manyN; omega
                                                    omega))
    · exact absurd ⟨hi, h0⟩ h

set_option maxRecDepth 100000 in
set_option maxHeartbeats 4000000 in
theorem implHeadIn_any (A : Option Addr) (n c : Nat) (xs : List Int) (w : World) (h : Rd w w.heap.size A n xs) (hn : n ≤ 2097152) (hnc : n ≤ c := by omega) :
    Calls Tryz.prog 24 #[.slice A n c] w (RetHd w (headIn xs)) := by
  have hxl := Lib.hid h.len
  have hB := Lib.hid ((Below.refl w.heap.size w).alloc (Nat.le_refl _) (.cells #[.int .i64 0, .int .i64 0, .int .i64 0, .int .i64 0, .int .i64 0] 33))
  have h1 := (h.below hB.out).more hB.out.size
  by_cases hok : imgB xs = true ∧ xs.length ≠ 0
  case neg =>
    have H := Lib.hid (headIn_no (xs := xs) (by
      cases hi : imgB xs
      · simp [hasHead, hi]
      · have : xs.length = 0 := Classical.byContradiction (fun hh => hok ⟨hi, hh⟩)
        simp [hasHead, this]))
    have HC := Lib.hid (clusterL_none hok)
    go_enter Tryz.func24, Tryz.ntmps24
    go_wp2_with fail
    refine (implClat_any A n c xs 0 _ h1 hn).mono ?_
    rintro e w1 ⟨G, ng, cg, rfl, oG, b1⟩
    rw [HC.out] at oG
    obtain rfl : 0 = ng := by have := oG.len; simpa using this
    have b01 := below_more hB.out b1 hB.out.size
    have r0 : w1.cell? ⟨w.heap.size, 0, none⟩ = some (.int .i64 0) := boxed b1 0
    have r1 : w1.cell? ⟨w.heap.size, 1, none⟩ = some (.int .i64 0) := boxed b1 1
    have r2 : w1.cell? ⟨w.heap.size, 2, none⟩ = some (.int .i64 0) := boxed b1 2
    have r3 : w1.cell? ⟨w.heap.size, 3, none⟩ = some (.int .i64 0) := boxed b1 3
    have r4 : w1.cell? ⟨w.heap.size, 4, none⟩ = some (.int .i64 0) := boxed b1 4
    have f0 := boxedF b1 0
    have f1 := boxedF b1 1
    have f2 := boxedF b1 2
    have f3 := boxedF b1 3
    have f4 := boxedF b1 4
    have hd : (((0 : Nat) : Int) == 0) = true := by simp
    go_wp2_with fail
    refine bodyPost_ret (v := .tuple #[hdV hd0, .bool false]) (by simp [results, Tryz.results24, go_sem, hdV, hd0, r0, r1, r2, r3, r4]) rfl ⟨by rw [H.out], ?_⟩
    exact (((((b01.setCell (Nat.le_refl _) _).setCell (Nat.le_refl _) _).setCell (Nat.le_refl _) _).setCell (Nat.le_refl _) _).setCell (Nat.le_refl _) _)
  have HC := Lib.hid (clusterL_zero hok.1 hok.2)
  go_enter Tryz.func24, Tryz.ntmps24
  go_wp2_with fail
  refine (implClat_any A n c xs 0 _ h1 hn).mono ?_
  rintro e w1 ⟨G, ng, cg, rfl, oG, b1⟩
  rw [HC.out] at oG
  obtain rfl : 8 = ng := by have := oG.len; simpa [cl, f8_length] using this
  rcases oG.form with ⟨_, h0, _⟩ | ⟨g, rfl, g1, g2, g3, g4⟩
  · omega
  have b01 := below_more hB.out b1 hB.out.size
  have r0 : w1.cell? ⟨w.heap.size, 0, none⟩ = some (.int .i64 0) := boxed b1 0
  have r1 : w1.cell? ⟨w.heap.size, 1, none⟩ = some (.int .i64 0) := boxed b1 1
  have r2 : w1.cell? ⟨w.heap.size, 2, none⟩ = some (.int .i64 0) := boxed b1 2
  have r3 : w1.cell? ⟨w.heap.size, 3, none⟩ = some (.int .i64 0) := boxed b1 3
  have r4 : w1.cell? ⟨w.heap.size, 4, none⟩ = some (.int .i64 0) := boxed b1 4
  have f0 := boxedF b1 0
  have f1 := boxedF b1 1
  have f2 := boxedF b1 2
  have f3 := boxedF b1 3
  have f4 := boxedF b1 4
  have hz1 : w.heap.size < w1.heap.size := by have := b1.size; simp at this; omega
  have hd : (((8 : Nat) : Int) == 0) = false := by simp
  have HX := Lib.hid (show hasHead xs = (decide (xs.getD 0 0 = 20559) && (decide (xs.getD 1 0 = 3) && (decide (xs.getD 7 0 = 0) && headB ⟨xs.getD 2 0, xs.getD 3 0, xs.getD 4 0, xs.getD 5 0, xs.getD 6 0⟩))) by
    simp [hasHead, hok.1, headOf, hok.2])
  have HY := Lib.hid (show headOf xs = ⟨xs.getD 2 0, xs.getD 3 0, xs.getD 4 0, xs.getD 5 0, xs.getD 6 0⟩ from rfl)
  have HH := Lib.hid (show headOf (cl xs 0) = ⟨xs.getD 2 0, xs.getD 3 0, xs.getD 4 0, xs.getD 5 0, xs.getD 6 0⟩ by
    unfold headOf; simp only [cl0_get xs _ (show 2 < 8 by omega), cl0_get xs _ (show 3 < 8 by omega), cl0_get xs _ (show 4 < 8 by omega), cl0_get xs _ (show 5 < 8 by omega), cl0_get xs _ (show 6 < 8 by omega)])
  have H0 := Lib.hid (cl0_get xs 0 (by omega))
  have H1 := Lib.hid (cl0_get xs 1 (by omega))
  have H7 := Lib.hid (cl0_get xs 7 (by omega))
  clear h1 h b1
  go_wp2_with fail
  refine (readHead_any g w1.heap.size cg (cl xs 0) w1 oG.rd (Nat.le_refl _)).mono ?_
  rintro e w2 ⟨rfl, b2⟩
  rw [HH.out, H0.out, H1.out, H7.out]
  clear HH H0 H1 H7
  generalize xs.getD 0 0 = x0 at *
  generalize xs.getD 1 0 = x1 at *
  generalize xs.getD 2 0 = x2 at *
  generalize xs.getD 3 0 = x3 at *
  generalize xs.getD 4 0 = x4 at *
  generalize xs.getD 5 0 = x5 at *
  generalize xs.getD 6 0 = x6 at *
  generalize xs.getD 7 0 = x7 at *
  have r0 := (b2.cell (p := ⟨w.heap.size, 0, none⟩) hz1).trans r0
  have r1 := (b2.cell (p := ⟨w.heap.size, 1, none⟩) hz1).trans r1
  have r2 := (b2.cell (p := ⟨w.heap.size, 2, none⟩) hz1).trans r2
  have r3 := (b2.cell (p := ⟨w.heap.size, 3, none⟩) hz1).trans r3
  have r4 := (b2.cell (p := ⟨w.heap.size, 4, none⟩) hz1).trans r4
  have f0 := (b2.frozen (p := ⟨w.heap.size, 0, none⟩) hz1).trans f0
  have f1 := (b2.frozen (p := ⟨w.heap.size, 1, none⟩) hz1).trans f1
  have f2 := (b2.frozen (p := ⟨w.heap.size, 2, none⟩) hz1).trans f2
  have f3 := (b2.frozen (p := ⟨w.heap.size, 3, none⟩) hz1).trans f3
  have f4 := (b2.frozen (p := ⟨w.heap.size, 4, none⟩) hz1).trans f4
  have b02 := below_more b01 b2 b01.size
  have hz2 : w.heap.size < w2.heap.size := by have := b2.size; omega
  have hzn : w.heap.size ≠ w2.heap.size := by omega
  clear oG b2 b01 g1 g2 g3 g4 hz1
  unfold hcV
  dsimp only
  go_wp2_with fail
  have r0 := (World.cell?_alloc_lt w2 (.cells #[.int .i64 x0, .int .i64 x1, .int .i64 x2, .int .i64 x3, .int .i64 x4, .int .i64 x5, .int .i64 x6, .int .i64 x7] 77) ⟨w.heap.size, 0, none⟩ hz2).trans r0
  have r1 := (World.cell?_alloc_lt w2 (.cells #[.int .i64 x0, .int .i64 x1, .int .i64 x2, .int .i64 x3, .int .i64 x4, .int .i64 x5, .int .i64 x6, .int .i64 x7] 77) ⟨w.heap.size, 1, none⟩ hz2).trans r1
  have r2 := (World.cell?_alloc_lt w2 (.cells #[.int .i64 x0, .int .i64 x1, .int .i64 x2, .int .i64 x3, .int .i64 x4, .int .i64 x5, .int .i64 x6, .int .i64 x7] 77) ⟨w.heap.size, 2, none⟩ hz2).trans r2
  have r3 := (World.cell?_alloc_lt w2 (.cells #[.int .i64 x0, .int .i64 x1, .int .i64 x2, .int .i64 x3, .int .i64 x4, .int .i64 x5, .int .i64 x6, .int .i64 x7] 77) ⟨w.heap.size, 3, none⟩ hz2).trans r3
  have r4 := (World.cell?_alloc_lt w2 (.cells #[.int .i64 x0, .int .i64 x1, .int .i64 x2, .int .i64 x3, .int .i64 x4, .int .i64 x5, .int .i64 x6, .int .i64 x7] 77) ⟨w.heap.size, 4, none⟩ hz2).trans r4
  have f0 := (World.frozen?_alloc_old w2 (.cells #[.int .i64 x0, .int .i64 x1, .int .i64 x2, .int .i64 x3, .int .i64 x4, .int .i64 x5, .int .i64 x6, .int .i64 x7] 77) ⟨w.heap.size, 0, none⟩ hzn).trans f0
  have f1 := (World.frozen?_alloc_old w2 (.cells #[.int .i64 x0, .int .i64 x1, .int .i64 x2, .int .i64 x3, .int .i64 x4, .int .i64 x5, .int .i64 x6, .int .i64 x7] 77) ⟨w.heap.size, 1, none⟩ hzn).trans f1
  have f2 := (World.frozen?_alloc_old w2 (.cells #[.int .i64 x0, .int .i64 x1, .int .i64 x2, .int .i64 x3, .int .i64 x4, .int .i64 x5, .int .i64 x6, .int .i64 x7] 77) ⟨w.heap.size, 2, none⟩ hzn).trans f2
  have f3 := (World.frozen?_alloc_old w2 (.cells #[.int .i64 x0, .int .i64 x1, .int .i64 x2, .int .i64 x3, .int .i64 x4, .int .i64 x5, .int .i64 x6, .int .i64 x7] 77) ⟨w.heap.size, 3, none⟩ hzn).trans f3
  have f4 := (World.frozen?_alloc_old w2 (.cells #[.int .i64 x0, .int .i64 x1, .int .i64 x2, .int .i64 x3, .int .i64 x4, .int .i64 x5, .int .i64 x6, .int .i64 x7] 77) ⟨w.heap.size, 4, none⟩ hzn).trans f4
  have d0 : (w2.alloc (.cells #[.int .i64 x0, .int .i64 x1, .int .i64 x2, .int .i64 x3, .int .i64 x4, .int .i64 x5, .int .i64 x6, .int .i64 x7] 77)).cell? ⟨w2.heap.size, 0, none⟩ = some (.int .i64 x0) := World.cell?_alloc_new _ _ _ _
  have d1 : (w2.alloc (.cells #[.int .i64 x0, .int .i64 x1, .int .i64 x2, .int .i64 x3, .int .i64 x4, .int .i64 x5, .int .i64 x6, .int .i64 x7] 77)).cell? ⟨w2.heap.size, 1, none⟩ = some (.int .i64 x1) := World.cell?_alloc_new _ _ _ _
  have d2 : (w2.alloc (.cells #[.int .i64 x0, .int .i64 x1, .int .i64 x2, .int .i64 x3, .int .i64 x4, .int .i64 x5, .int .i64 x6, .int .i64 x7] 77)).cell? ⟨w2.heap.size, 2, none⟩ = some (.int .i64 x2) := World.cell?_alloc_new _ _ _ _
  have d3 : (w2.alloc (.cells #[.int .i64 x0, .int .i64 x1, .int .i64 x2, .int .i64 x3, .int .i64 x4, .int .i64 x5, .int .i64 x6, .int .i64 x7] 77)).cell? ⟨w2.heap.size, 3, none⟩ = some (.int .i64 x3) := World.cell?_alloc_new _ _ _ _
  have d4 : (w2.alloc (.cells #[.int .i64 x0, .int .i64 x1, .int .i64 x2, .int .i64 x3, .int .i64 x4, .int .i64 x5, .int .i64 x6, .int .i64 x7] 77)).cell? ⟨w2.heap.size, 4, none⟩ = some (.int .i64 x4) := World.cell?_alloc_new _ _ _ _
  have d5 : (w2.alloc (.cells #[.int .i64 x0, .int .i64 x1, .int .i64 x2, .int .i64 x3, .int .i64 x4, .int .i64 x5, .int .i64 x6, .int .i64 x7] 77)).cell? ⟨w2.heap.size, 5, none⟩ = some (.int .i64 x5) := World.cell?_alloc_new _ _ _ _
  have d6 : (w2.alloc (.cells #[.int .i64 x0, .int .i64 x1, .int .i64 x2, .int .i64 x3, .int .i64 x4, .int .i64 x5, .int .i64 x6, .int .i64 x7] 77)).cell? ⟨w2.heap.size, 6, none⟩ = some (.int .i64 x6) := World.cell?_alloc_new _ _ _ _
  have d7 : (w2.alloc (.cells #[.int .i64 x0, .int .i64 x1, .int .i64 x2, .int .i64 x3, .int .i64 x4, .int .i64 x5, .int .i64 x6, .int .i64 x7] 77)).cell? ⟨w2.heap.size, 7, none⟩ = some (.int .i64 x7) := World.cell?_alloc_new _ _ _ _
  have b03 := Lib.hid (b02.alloc b02.size (.cells #[.int .i64 x0, .int .i64 x1, .int .i64 x2, .int .i64 x3, .int .i64 x4, .int .i64 x5, .int .i64 x6, .int .i64 x7] 77))
  have hz3 : w.heap.size < (w2.alloc (.cells #[.int .i64 x0, .int .i64 x1, .int .i64 x2, .int .i64 x3, .int .i64 x4, .int .i64 x5, .int .i64 x6, .int .i64 x7] 77)).heap.size := by simp; omega
  have hg3 : w2.heap.size < (w2.alloc (.cells #[.int .i64 x0, .int .i64 x1, .int .i64 x2, .int .i64 x3, .int .i64 x4, .int .i64 x5, .int .i64 x6, .int .i64 x7] 77)).heap.size := by simp
  clear hz2 hzn b02
  generalize (w2.alloc (.cells #[.int .i64 x0, .int .i64 x1, .int .i64 x2, .int .i64 x3, .int .i64 x4, .int .i64 x5, .int .i64 x6, .int .i64 x7] 77)) = w3 at *
  generalize w2.heap.size = gf at *
  clear hok HC hd
  cases hb : headB ⟨x2, x3, x4, x5, x6⟩
  · have HN : Hid (hasHead xs = false) := by rw [HX.out, hb]; simp [Hid]
    clear HX
    first
      | go_region_with ((go_at_call 70; refine (implHeadOk_any ⟨x2, x3, x4, x5, x6⟩ _).mono ?_; rintro e w4 ⟨rfl, b4⟩))
      | fail
    all_goals
      have r0 := (b4.cell (p := ⟨w.heap.size, 0, none⟩) hz3).trans r0
      have r1 := (b4.cell (p := ⟨w.heap.size, 1, none⟩) hz3).trans r1
      have r2 := (b4.cell (p := ⟨w.heap.size, 2, none⟩) hz3).trans r2
      have r3 := (b4.cell (p := ⟨w.heap.size, 3, none⟩) hz3).trans r3
      have r4 := (b4.cell (p := ⟨w.heap.size, 4, none⟩) hz3).trans r4
      have f0 := (b4.frozen (p := ⟨w.heap.size, 0, none⟩) hz3).trans f0
      have f1 := (b4.frozen (p := ⟨w.heap.size, 1, none⟩) hz3).trans f1
      have f2 := (b4.frozen (p := ⟨w.heap.size, 2, none⟩) hz3).trans f2
      have f3 := (b4.frozen (p := ⟨w.heap.size, 3, none⟩) hz3).trans f3
      have f4 := (b4.frozen (p := ⟨w.heap.size, 4, none⟩) hz3).trans f4
      have b04 := below_more b03.out.drew b4 b03.out.size
      clear b4 d0 d1 d2 d3 d4 d5 d6 d7 b03
      go_wp2_with fail
      refine bodyPost_ret (v := .tuple #[hdV hd0, .bool false]) (by simp [results, Tryz.results24, go_sem, hdV, hd0, r0, r1, r2, r3, r4]) rfl ⟨by rw [headIn_no HN.out], ?_⟩
      exact (((((b04.setCell (Nat.le_refl _) _).setCell (Nat.le_refl _) _).setCell (Nat.le_refl _) _).setCell (Nat.le_refl _) _).setCell (Nat.le_refl _) _)
  by_cases hx0 : x0 = 20559
  case neg =>
    have HN : Hid (hasHead xs = false) := by rw [HX.out]; simp [hx0, Hid]
    have q : (x0 == 20559) = false := by simpa using hx0
    have q' : (x0 != 20559) = true := by simpa using hx0
    clear HX
    go_region_held3 (fun w' => w'.cell? ⟨gf, 0, none⟩ = some (.int .i64 x0) ∧ w'.cell? ⟨gf, 1, none⟩ = some (.int .i64 x1) ∧ w'.cell? ⟨gf, 2, none⟩ = some (.int .i64 x2) ∧ w'.cell? ⟨gf, 3, none⟩ = some (.int .i64 x3) ∧ w'.cell? ⟨gf, 4, none⟩ = some (.int .i64 x4) ∧ w'.cell? ⟨gf, 5, none⟩ = some (.int .i64 x5) ∧ w'.cell? ⟨gf, 6, none⟩ = some (.int .i64 x6) ∧ w'.cell? ⟨gf, 7, none⟩ = some (.int .i64 x7))
      (first
        | go_keep
        | (go_split_ands
           refine ⟨?_, ?_, ?_, ?_, ?_, ?_, ?_, ?_⟩
           all_goals (refine (b5.cell hg4).trans ?_; assumption))
        | (go_split_ands
           refine ⟨?_, ?_, ?_, ?_, ?_, ?_, ?_, ?_⟩
           all_goals (refine (b4.cell hg3).trans ?_; assumption)))
      (first
        | (go_at_call 70; refine (implHeadOk_any ⟨x2, x3, x4, x5, x6⟩ _).mono ?_; rintro e w4 ⟨rfl, b4⟩; have hg4 : gf < w4.heap.size := Nat.lt_of_lt_of_le hg3 b4.size)
        | (go_at_call 71; refine (clusterOfHead_any ⟨x2, x3, x4, x5, x6⟩ _).mono ?_; rintro e w5 ⟨rfl, b5⟩; simp only [hcV]))
    have hz4 : w.heap.size < w4.heap.size := Nat.lt_of_lt_of_le hz3 b4.size
    have b04 := below_more b03.out.drew b4 b03.out.size
    have b05 := below_more b04 b5 b04.size
    have r0 := (b5.cell (p := ⟨w.heap.size, 0, none⟩) hz4).trans ((b4.cell (p := ⟨w.heap.size, 0, none⟩) hz3).trans r0)
    have r1 := (b5.cell (p := ⟨w.heap.size, 1, none⟩) hz4).trans ((b4.cell (p := ⟨w.heap.size, 1, none⟩) hz3).trans r1)
    have r2 := (b5.cell (p := ⟨w.heap.size, 2, none⟩) hz4).trans ((b4.cell (p := ⟨w.heap.size, 2, none⟩) hz3).trans r2)
    have r3 := (b5.cell (p := ⟨w.heap.size, 3, none⟩) hz4).trans ((b4.cell (p := ⟨w.heap.size, 3, none⟩) hz3).trans r3)
    have r4 := (b5.cell (p := ⟨w.heap.size, 4, none⟩) hz4).trans ((b4.cell (p := ⟨w.heap.size, 4, none⟩) hz3).trans r4)
    have f0 := (b5.frozen (p := ⟨w.heap.size, 0, none⟩) hz4).trans ((b4.frozen (p := ⟨w.heap.size, 0, none⟩) hz3).trans f0)
    have f1 := (b5.frozen (p := ⟨w.heap.size, 1, none⟩) hz4).trans ((b4.frozen (p := ⟨w.heap.size, 1, none⟩) hz3).trans f1)
    have f2 := (b5.frozen (p := ⟨w.heap.size, 2, none⟩) hz4).trans ((b4.frozen (p := ⟨w.heap.size, 2, none⟩) hz3).trans f2)
    have f3 := (b5.frozen (p := ⟨w.heap.size, 3, none⟩) hz4).trans ((b4.frozen (p := ⟨w.heap.size, 3, none⟩) hz3).trans f3)
    have f4 := (b5.frozen (p := ⟨w.heap.size, 4, none⟩) hz4).trans ((b4.frozen (p := ⟨w.heap.size, 4, none⟩) hz3).trans f4)
    go_wp2_with fail
    refine bodyPost_ret (v := .tuple #[hdV hd0, .bool false]) (by simp [results, Tryz.results24, go_sem, hdV, hd0, r0, r1, r2, r3, r4]) rfl ⟨by rw [headIn_no HN.out], ?_⟩
    exact (((((b05.setCell (Nat.le_refl _) _).setCell (Nat.le_refl _) _).setCell (Nat.le_refl _) _).setCell (Nat.le_refl _) _).setCell (Nat.le_refl _) _)
  subst hx0
  by_cases hx1 : x1 = 3
  case neg =>
    have HN : Hid (hasHead xs = false) := by rw [HX.out]; simp [hx1, Hid]
    have q : (x1 == 3) = false := by simpa using hx1
    have q' : (x1 != 3) = true := by simpa using hx1
    clear HX
    go_region_held3 (fun w' => w'.cell? ⟨gf, 0, none⟩ = some (.int .i64 20559) ∧ w'.cell? ⟨gf, 1, none⟩ = some (.int .i64 x1) ∧ w'.cell? ⟨gf, 2, none⟩ = some (.int .i64 x2) ∧ w'.cell? ⟨gf, 3, none⟩ = some (.int .i64 x3) ∧ w'.cell? ⟨gf, 4, none⟩ = some (.int .i64 x4) ∧ w'.cell? ⟨gf, 5, none⟩ = some (.int .i64 x5) ∧ w'.cell? ⟨gf, 6, none⟩ = some (.int .i64 x6) ∧ w'.cell? ⟨gf, 7, none⟩ = some (.int .i64 x7))
      (first
        | go_keep
        | (go_split_ands
           refine ⟨?_, ?_, ?_, ?_, ?_, ?_, ?_, ?_⟩
           all_goals (refine (b5.cell hg4).trans ?_; assumption))
        | (go_split_ands
           refine ⟨?_, ?_, ?_, ?_, ?_, ?_, ?_, ?_⟩
           all_goals (refine (b4.cell hg3).trans ?_; assumption)))
      (first
        | (go_at_call 70; refine (implHeadOk_any ⟨x2, x3, x4, x5, x6⟩ _).mono ?_; rintro e w4 ⟨rfl, b4⟩; have hg4 : gf < w4.heap.size := Nat.lt_of_lt_of_le hg3 b4.size)
        | (go_at_call 71; refine (clusterOfHead_any ⟨x2, x3, x4, x5, x6⟩ _).mono ?_; rintro e w5 ⟨rfl, b5⟩; simp only [hcV]))
    have hz4 : w.heap.size < w4.heap.size := Nat.lt_of_lt_of_le hz3 b4.size
    have b04 := below_more b03.out.drew b4 b03.out.size
    have b05 := below_more b04 b5 b04.size
    have r0 := (b5.cell (p := ⟨w.heap.size, 0, none⟩) hz4).trans ((b4.cell (p := ⟨w.heap.size, 0, none⟩) hz3).trans r0)
    have r1 := (b5.cell (p := ⟨w.heap.size, 1, none⟩) hz4).trans ((b4.cell (p := ⟨w.heap.size, 1, none⟩) hz3).trans r1)
    have r2 := (b5.cell (p := ⟨w.heap.size, 2, none⟩) hz4).trans ((b4.cell (p := ⟨w.heap.size, 2, none⟩) hz3).trans r2)
    have r3 := (b5.cell (p := ⟨w.heap.size, 3, none⟩) hz4).trans ((b4.cell (p := ⟨w.heap.size, 3, none⟩) hz3).trans r3)
    have r4 := (b5.cell (p := ⟨w.heap.size, 4, none⟩) hz4).trans ((b4.cell (p := ⟨w.heap.size, 4, none⟩) hz3).trans r4)
    have f0 := (b5.frozen (p := ⟨w.heap.size, 0, none⟩) hz4).trans ((b4.frozen (p := ⟨w.heap.size, 0, none⟩) hz3).trans f0)
    have f1 := (b5.frozen (p := ⟨w.heap.size, 1, none⟩) hz4).trans ((b4.frozen (p := ⟨w.heap.size, 1, none⟩) hz3).trans f1)
    have f2 := (b5.frozen (p := ⟨w.heap.size, 2, none⟩) hz4).trans ((b4.frozen (p := ⟨w.heap.size, 2, none⟩) hz3).trans f2)
    have f3 := (b5.frozen (p := ⟨w.heap.size, 3, none⟩) hz4).trans ((b4.frozen (p := ⟨w.heap.size, 3, none⟩) hz3).trans f3)
    have f4 := (b5.frozen (p := ⟨w.heap.size, 4, none⟩) hz4).trans ((b4.frozen (p := ⟨w.heap.size, 4, none⟩) hz3).trans f4)
    go_wp2_with fail
    refine bodyPost_ret (v := .tuple #[hdV hd0, .bool false]) (by simp [results, Tryz.results24, go_sem, hdV, hd0, r0, r1, r2, r3, r4]) rfl ⟨by rw [headIn_no HN.out], ?_⟩
    exact (((((b05.setCell (Nat.le_refl _) _).setCell (Nat.le_refl _) _).setCell (Nat.le_refl _) _).setCell (Nat.le_refl _) _).setCell (Nat.le_refl _) _)
  subst hx1
  by_cases hx7 : x7 = 0
  case neg =>
    have HN : Hid (hasHead xs = false) := by rw [HX.out]; simp [hx7, Hid]
    have q : (x7 == 0) = false := by simpa using hx7
    have q' : (x7 != 0) = true := by simpa using hx7
    clear HX
    go_region_held3 (fun w' => w'.cell? ⟨gf, 0, none⟩ = some (.int .i64 20559) ∧ w'.cell? ⟨gf, 1, none⟩ = some (.int .i64 3) ∧ w'.cell? ⟨gf, 2, none⟩ = some (.int .i64 x2) ∧ w'.cell? ⟨gf, 3, none⟩ = some (.int .i64 x3) ∧ w'.cell? ⟨gf, 4, none⟩ = some (.int .i64 x4) ∧ w'.cell? ⟨gf, 5, none⟩ = some (.int .i64 x5) ∧ w'.cell? ⟨gf, 6, none⟩ = some (.int .i64 x6) ∧ w'.cell? ⟨gf, 7, none⟩ = some (.int .i64 x7))
      (first
        | go_keep
        | (go_split_ands
           refine ⟨?_, ?_, ?_, ?_, ?_, ?_, ?_, ?_⟩
           all_goals (refine (b5.cell hg4).trans ?_; assumption))
        | (go_split_ands
           refine ⟨?_, ?_, ?_, ?_, ?_, ?_, ?_, ?_⟩
           all_goals (refine (b4.cell hg3).trans ?_; assumption)))
      (first
        | (go_at_call 70; refine (implHeadOk_any ⟨x2, x3, x4, x5, x6⟩ _).mono ?_; rintro e w4 ⟨rfl, b4⟩; have hg4 : gf < w4.heap.size := Nat.lt_of_lt_of_le hg3 b4.size)
        | (go_at_call 71; refine (clusterOfHead_any ⟨x2, x3, x4, x5, x6⟩ _).mono ?_; rintro e w5 ⟨rfl, b5⟩; simp only [hcV]))
    have hz4 : w.heap.size < w4.heap.size := Nat.lt_of_lt_of_le hz3 b4.size
    have b04 := below_more b03.out.drew b4 b03.out.size
    have b05 := below_more b04 b5 b04.size
    have r0 := (b5.cell (p := ⟨w.heap.size, 0, none⟩) hz4).trans ((b4.cell (p := ⟨w.heap.size, 0, none⟩) hz3).trans r0)
    have r1 := (b5.cell (p := ⟨w.heap.size, 1, none⟩) hz4).trans ((b4.cell (p := ⟨w.heap.size, 1, none⟩) hz3).trans r1)
    have r2 := (b5.cell (p := ⟨w.heap.size, 2, none⟩) hz4).trans ((b4.cell (p := ⟨w.heap.size, 2, none⟩) hz3).trans r2)
    have r3 := (b5.cell (p := ⟨w.heap.size, 3, none⟩) hz4).trans ((b4.cell (p := ⟨w.heap.size, 3, none⟩) hz3).trans r3)
    have r4 := (b5.cell (p := ⟨w.heap.size, 4, none⟩) hz4).trans ((b4.cell (p := ⟨w.heap.size, 4, none⟩) hz3).trans r4)
    have f0 := (b5.frozen (p := ⟨w.heap.size, 0, none⟩) hz4).trans ((b4.frozen (p := ⟨w.heap.size, 0, none⟩) hz3).trans f0)
    have f1 := (b5.frozen (p := ⟨w.heap.size, 1, none⟩) hz4).trans ((b4.frozen (p := ⟨w.heap.size, 1, none⟩) hz3).trans f1)
    have f2 := (b5.frozen (p := ⟨w.heap.size, 2, none⟩) hz4).trans ((b4.frozen (p := ⟨w.heap.size, 2, none⟩) hz3).trans f2)
    have f3 := (b5.frozen (p := ⟨w.heap.size, 3, none⟩) hz4).trans ((b4.frozen (p := ⟨w.heap.size, 3, none⟩) hz3).trans f3)
    have f4 := (b5.frozen (p := ⟨w.heap.size, 4, none⟩) hz4).trans ((b4.frozen (p := ⟨w.heap.size, 4, none⟩) hz3).trans f4)
    go_wp2_with fail
    refine bodyPost_ret (v := .tuple #[hdV hd0, .bool false]) (by simp [results, Tryz.results24, go_sem, hdV, hd0, r0, r1, r2, r3, r4]) rfl ⟨by rw [headIn_no HN.out], ?_⟩
    exact (((((b05.setCell (Nat.le_refl _) _).setCell (Nat.le_refl _) _).setCell (Nat.le_refl _) _).setCell (Nat.le_refl _) _).setCell (Nat.le_refl _) _)
  subst hx7
  have HN : Hid (hasHead xs = true) := by rw [HX.out, hb]; rfl
  clear HX
  go_region_held3 (fun w' => w'.cell? ⟨gf, 0, none⟩ = some (.int .i64 20559) ∧ w'.cell? ⟨gf, 1, none⟩ = some (.int .i64 3) ∧ w'.cell? ⟨gf, 2, none⟩ = some (.int .i64 x2) ∧ w'.cell? ⟨gf, 3, none⟩ = some (.int .i64 x3) ∧ w'.cell? ⟨gf, 4, none⟩ = some (.int .i64 x4) ∧ w'.cell? ⟨gf, 5, none⟩ = some (.int .i64 x5) ∧ w'.cell? ⟨gf, 6, none⟩ = some (.int .i64 x6) ∧ w'.cell? ⟨gf, 7, none⟩ = some (.int .i64 0))
    (first
      | go_keep
      | (go_split_ands
         refine ⟨?_, ?_, ?_, ?_, ?_, ?_, ?_, ?_⟩
         all_goals (refine (b5.cell hg4).trans ?_; assumption))
      | (go_split_ands
         refine ⟨?_, ?_, ?_, ?_, ?_, ?_, ?_, ?_⟩
         all_goals (refine (b4.cell hg3).trans ?_; assumption)))
    (first
      | (go_at_call 70; refine (implHeadOk_any ⟨x2, x3, x4, x5, x6⟩ _).mono ?_; rintro e w4 ⟨rfl, b4⟩; have hg4 : gf < w4.heap.size := Nat.lt_of_lt_of_le hg3 b4.size)
      | (go_at_call 71; refine (clusterOfHead_any ⟨x2, x3, x4, x5, x6⟩ _).mono ?_; rintro e w5 ⟨rfl, b5⟩; simp only [hcV]))
  have hz4 : w.heap.size < w4.heap.size := Nat.lt_of_lt_of_le hz3 b4.size
  have b04 := below_more b03.out.drew b4 b03.out.size
  have b05 := below_more b04 b5 b04.size
  have r0 := (b5.cell (p := ⟨w.heap.size, 0, none⟩) hz4).trans ((b4.cell (p := ⟨w.heap.size, 0, none⟩) hz3).trans r0)
  have r1 := (b5.cell (p := ⟨w.heap.size, 1, none⟩) hz4).trans ((b4.cell (p := ⟨w.heap.size, 1, none⟩) hz3).trans r1)
  have r2 := (b5.cell (p := ⟨w.heap.size, 2, none⟩) hz4).trans ((b4.cell (p := ⟨w.heap.size, 2, none⟩) hz3).trans r2)
  have r3 := (b5.cell (p := ⟨w.heap.size, 3, none⟩) hz4).trans ((b4.cell (p := ⟨w.heap.size, 3, none⟩) hz3).trans r3)
  have r4 := (b5.cell (p := ⟨w.heap.size, 4, none⟩) hz4).trans ((b4.cell (p := ⟨w.heap.size, 4, none⟩) hz3).trans r4)
  have f0 := (b5.frozen (p := ⟨w.heap.size, 0, none⟩) hz4).trans ((b4.frozen (p := ⟨w.heap.size, 0, none⟩) hz3).trans f0)
  have f1 := (b5.frozen (p := ⟨w.heap.size, 1, none⟩) hz4).trans ((b4.frozen (p := ⟨w.heap.size, 1, none⟩) hz3).trans f1)
  have f2 := (b5.frozen (p := ⟨w.heap.size, 2, none⟩) hz4).trans ((b4.frozen (p := ⟨w.heap.size, 2, none⟩) hz3).trans f2)
  have f3 := (b5.frozen (p := ⟨w.heap.size, 3, none⟩) hz4).trans ((b4.frozen (p := ⟨w.heap.size, 3, none⟩) hz3).trans f3)
  have f4 := (b5.frozen (p := ⟨w.heap.size, 4, none⟩) hz4).trans ((b4.frozen (p := ⟨w.heap.size, 4, none⟩) hz3).trans f4)
  have d2 := (b5.cell (p := ⟨gf, 2, none⟩) hg4).trans ((b4.cell (p := ⟨gf, 2, none⟩) hg3).trans d2)
  have d3 := (b5.cell (p := ⟨gf, 3, none⟩) hg4).trans ((b4.cell (p := ⟨gf, 3, none⟩) hg3).trans d3)
  have d4 := (b5.cell (p := ⟨gf, 4, none⟩) hg4).trans ((b4.cell (p := ⟨gf, 4, none⟩) hg3).trans d4)
  have d5 := (b5.cell (p := ⟨gf, 5, none⟩) hg4).trans ((b4.cell (p := ⟨gf, 5, none⟩) hg3).trans d5)
  have d6 := (b5.cell (p := ⟨gf, 6, none⟩) hg4).trans ((b4.cell (p := ⟨gf, 6, none⟩) hg3).trans d6)
  go_wp2_with fail
  refine bodyPost_ret (v := .tuple #[hdV ⟨x2, x3, x4, x5, x6⟩, .bool true]) (by simp [results, Tryz.results24, go_sem, hdV, r0, r1, r2, r3, r4]) rfl ⟨by rw [headIn_yes HN.out, HY.out], ?_⟩
  exact (((((b05.setCell (Nat.le_refl _) _).setCell (Nat.le_refl _) _).setCell (Nat.le_refl _) _).setCell (Nat.le_refl _) _).setCell (Nat.le_refl _) _)

/-- WithHead. -/
def withHead (xs : List Int) (h : Hd) : List Int := withL xs 0 (hdWords h)
theorem withHead_no {xs : List Int} {h : Hd} (hi : imgB xs = false) : withHead xs h = [] := by simp [withHead, withL, withB, hi]
theorem withHead_bad {xs : List Int} {h : Hd} (hb : headB h = false) : withHead xs h = [] := by simp [withHead, withL, withB, hdWords_no hb, eightB]
theorem withHead_yes {xs : List Int} {h : Hd} (hb : headB h = true) : withHead xs h = withL xs 0 (hdW h) := by rw [withHead, hdWords_yes hb]

set_option maxHeartbeats 1000000 in
theorem implWithHead_any (A : Option Addr) (n c : Nat) (xs : List Int) (h : Hd) (w : World) (hr : Rd w w.heap.size A n xs) (hn : n ≤ 2097152) :
    Calls Tryz.prog 88 #[.slice A n c, hdV h] w (Ret w (withHead xs h)) := by
  obtain ⟨s, f, r, t, m⟩ := h
  have hB := Lib.hid ((Below.refl w.heap.size w).alloc (Nat.le_refl _) (.cells #[.int .i64 s, .int .i64 f, .int .i64 r, .int .i64 t, .int .i64 m] 33))
  have HL := Lib.hid (hdWords_len ⟨s, f, r, t, m⟩)
  have HW := Lib.hid (show withHead xs ⟨s, f, r, t, m⟩ = withL xs 0 (hdWords ⟨s, f, r, t, m⟩) from rfl)
  unfold hdV
  go_enter Tryz.func88, Tryz.ntmps88
  go_wp2_with fail
  refine (implHeadWords_any ⟨s, f, r, t, m⟩ _).mono ?_
  rintro e w1 ⟨G, ng, cg, rfl, oG, b1⟩
  have b01 := below_more hB.out b1 hB.out.size
  have lG := Lib.hid oG.len
  go_wp2_with fail
  refine (implWcl_any A n c xs 0 G ng cg _ w1 ((hr.below b01).more b01.size) oG.rd hn (by have := lG.out; have := HL.out; omega)).mono ?_
  rintro e w2 ⟨K, nk, ck, rfl, oK, b2⟩
  go_wp2_with fail
  go_ret
  rw [HW.out]
  exact ⟨K, nk, ck, rfl, oK.more b01.size (Nat.le_refl _), below_more b01 b2 b01.size⟩

theorem isThere_any (A : Option Addr) (n c : Nat) (xs : List Int) (t : Int) (w : World) (h : Rd w w.heap.size A n xs) (hn : n ≤ 2097152) (hi : imgB xs = true) :
    Calls Tryz.prog 86 #[.slice A n c, .int .i64 t] w fun e w' => e = .returned (.bool (thereB xs t)) ∧ Below w.heap.size w w' := by
  have HM := Lib.hid (show manyI xs = (manyN xs : Int) by simp [manyI, hi])
  clear hi
  by_cases h1 : 1 ≤ t
  · have hd : decide (1 ≤ t) = true := by simpa using h1
    go_enter Tryz.func86, Tryz.ntmps86
    go_wp2_with fail
    refine (implClin_any _ _ _ _ _ h hn).mono ?_
    rintro e w1 ⟨rfl, b1⟩
    go_wp2_with fail
    go_ret
    refine ⟨ret_bool ?_, b1⟩
    rw [HM.out]
    unfold thereB inB
    rw [Bool.eq_iff_iff]
    simp
    omega
  · have hd : decide (1 ≤ t) = false := by simpa using h1
    go_enter Tryz.func86, Tryz.ntmps86
    go_wp2
    go_ret
    refine ⟨ret_bool ?_, Below.refl _ _⟩
    have : thereB xs t = false := inB_false.2 (fun hh => by omega)
    rw [this]

theorem cutOf_any (b off n c k m : Nat) (q qm : Int) (w : World) (hq : q = (k : Int)) (hqm : qm = (m : Int)) (hk : k < n) (hnc : n ≤ c) (hn : n ≤ 2097152) (hm : m ≤ 8) (hm0 : 0 < m) :
    Calls Tryz.prog 87 #[.slice (some ⟨b, off, none⟩) n c, .int .i64 q, .int .i64 qm] w fun e w' => e = .returned (.slice (some ⟨b, off + k, none⟩) (min m (n - k)) (min m (n - k))) ∧ w = w' := by
  subst hq
  subst hqm
  by_cases hlt : k + m ≤ n
  · have e1 := Lib.hid (show min m (n - k) = k + m - k by omega)
    go_enter Tryz.func87, Tryz.ntmps87
    go_wp2
    go_ret
    rw [e1.out]
    exact ⟨rfl, rfl⟩
  · have e1 := Lib.hid (show min m (n - k) = n - k by omega)
    go_enter Tryz.func87, Tryz.ntmps87
    go_wp2
    go_ret
    rw [e1.out]
    exact ⟨rfl, rfl⟩

theorem Ow.heap8 {w : World} {lo hi g : Nat} {ys : List Int} (h : Ow w lo hi (some ⟨g, 0, none⟩) 8 8 ys) : w.heap[g]? = some (.cells (iv ys).toArray 2 (0, 0)) ∧ lo ≤ g := by
  rcases h.own.2 with ⟨hv, _⟩ | ⟨g', cap, cur, hv, hb, hg, h1, h2, h3, h4⟩
  · cases hv
  · injection hv with e1 e2 e3
    injection e1 with e1
    injection e1 with e1
    subst e1; subst e3
    rw [List.take_of_length_le (by simp; omega)] at h4
    rw [hg, ← h4]
    exact ⟨by simp, hb⟩
theorem Ow.of8 {w : World} {lo hi g : Nat} {ys : List Int} (h : w.heap[g]? = some (.cells (iv ys).toArray 2 (0, 0))) (hl : ys.length = 8) (h1 : lo ≤ g) (h2 : g < hi) : Ow w lo hi (some ⟨g, 0, none⟩) 8 8 ys := by
  refine ⟨⟨by rw [iv_length, hl], .inr ⟨g, 8, _, rfl, h1, h, Nat.le_refl _, by simp [maxLen], by simp [iv_length, hl], ?_⟩⟩, fun k hk => by simp [Value.ownBlock] at hk; omega⟩
  rw [List.take_of_length_le (by simp [iv_length, hl])]

theorem cut_cl (xs : List Int) (a : Nat) : (xs.drop (a * 8)).take 8 ++ (List.replicate 8 (0 : Int)).drop ((xs.drop (a * 8)).take 8).length = cl xs a := by
  unfold cl
  refine f8_eq _ _ (by simp; omega) (fun j hj => ?_)
  rw [List.getD_eq_getElem?_getD, List.getD_eq_getElem?_getD, List.getElem?_append]
  by_cases h : a * 8 + j < xs.length
  · rw [if_pos (by simp; omega), List.getElem?_take, if_pos hj, List.getElem?_drop]
  · rw [if_neg (by simp; omega), List.getElem?_drop, List.getElem?_replicate, if_pos (by simp; omega), List.getElem?_eq_none (by omega)]
    rfl
theorem splice_cl (xs : List Int) (a : Nat) : Go.splice (iv (List.replicate 8 0)) 0 (iv ((xs.drop (a * 8)).take 8)) = iv (cl xs a) := by
  rw [← cut_cl, iv_append, Go.splice, List.take_zero, List.nil_append, Nat.zero_add, iv_length]
  congr 1
  simp [iv, List.map_drop]

set_option maxRecDepth 100000 in
set_option maxHeartbeats 2000000 in
theorem implTable_any : TableC := by
  intro A n c xs t w h hn hnc
  obtain ⟨i0, hi0, hz0, hz1, hz2⟩ := info_parts info2
  have hxl := Lib.hid h.len
  go_enter Tryz.func38, Tryz.ntmps38
  go_wp2_with fail
  refine (implHeadIn_any _ _ _ xs _ h hn).mono ?_
  rintro e w1 ⟨rfl, b1⟩
  generalize hr : headIn xs = r
  obtain ⟨⟨s, f, r, u, m⟩, is⟩ := r
  have HR := Lib.hid hr
  clear hr
  unfold hdV
  have b2 := b1.alloc b1.size (.cells #[.int .i64 s, .int .i64 f, .int .i64 r, .int .i64 u, .int .i64 m] 33)
  cases is
  · have HN := Lib.hid (tableL_no (t := t) (headIn_false HR.out).1)
    go_wp2_with fail
    go_ret
    rw [HN.out]
    exact Ret.nil _ _ b2
  · have HY := Lib.hid (headIn_true HR.out).1
    cases ht : thereB xs t
    · have HN := Lib.hid (tableL_out ht)
      go_wp2_with fail
      refine (isThere_any _ _ _ xs _ _ ((h.below b2).more b2.size) hn (hasHead_img HY.out)).mono ?_
      rintro e w2 ⟨rfl, b3⟩
      rw [ht]
      go_wp2_with fail
      go_ret
      rw [HN.out]
      exact Ret.nil _ _ (below_more b2 b3 b2.size)
    · have HN := Lib.hid (tableL_in HY.out ht)
      have HT := Lib.hid ht
      obtain ⟨t1, t2⟩ := there_lt ht
      have hm := manyN_le (hasHead_img HY.out)
      obtain ⟨a, rfl⟩ := Int.eq_ofNat_of_zero_le (show 0 ≤ t by omega)
      have ha : a * 8 < n := by have := hxl.out; unfold manyN at t2; omega
      clear ht
      obtain ⟨b, off, rfl, hbb, hcx⟩ := h.2 (by omega)
      go_wp2_with fail
      refine (isThere_any _ _ _ xs _ _ ((h.below b2).more b2.size) hn (hasHead_img HY.out)).mono ?_
      rintro e w2 ⟨rfl, b3⟩
      rw [HT.out]
      have B3 := below_more b2 b3 b2.size
      go_wp2_with (at_make; refine wpList_make_full _ rfl _ _ 24 rfl w2.heap.size 2 i0 (.int .i64 0) 1 Tryz.underlying24 hi0 hz0 hz1 .i64 .i64 _ _ 8 rfl rfl rfl rfl (by rw [hz2]; omega) (by simp only [maxLen]; omega) (Nat.le_refl _) ?_; intro w4 hown hg4; rw [made_iv] at hown)
      have hlt := (hown.lt w2.heap.size rfl).2
      have b4 : Below w2.heap.size w2 w4 := below_grown hg4 (Nat.le_refl _) (fun _ h => by cases h)
      have B4 := below_more B3 b4 B3.size
      have o4 : Ow w4 w2.heap.size (w2.heap.size + 1) (some ⟨w2.heap.size, 0, none⟩) 8 8 (List.replicate 8 0) := ⟨hown, fun g hg => by simp [Value.ownBlock] at hg; omega⟩
      have HG := Lib.hid o4.heap8.1
      have sB := B3.size
      clear hown hg4 hi0 hz0 hz1 hz2 b4 b3 b2
      refine (cutOf_any b off n c (a * 8) 8 _ _ w4 (by omega) rfl ha hnc hn (by omega) (by omega)).mono ?_
      rintro e w' ⟨rfl, rfl⟩
      have r8 := (((h.below B4).drop (k := a * 8) (by omega)).take (k := min 8 (n - a * 8)) (by omega))
      have hzz : (xs.drop (a * 8)).take (min 8 (n - a * 8)) = (xs.drop (a * 8)).take 8 := by
        have := hxl.out
        rcases Nat.le_total 8 (n - a * 8) with h8 | h8
        · rw [Nat.min_eq_left h8]
        · rw [Nat.min_eq_right h8, List.take_of_length_le (by simp; omega), List.take_of_length_le (by simp; omega)]
      rw [hzz] at r8
      have HSP := Lib.hid (splice_cl xs a)
      clear hzz
      obtain ⟨zs, hzs⟩ : ∃ zs, zs = (xs.drop (a * 8)).take 8 := ⟨_, rfl⟩
      rw [← hzs] at r8 HSP
      have HZS := Lib.hid hzs
      clear hzs
      have HL := Lib.hid r8.len
      have hm8 : min 8 (n - a * 8) ≤ 8 := by omega
      have hm0 : 0 < min 8 (n - a * 8) := by omega
      generalize min 8 (n - a * 8) = mm at *
      obtain ⟨b', off', e', hb', hc'⟩ := r8.2 (by omega)
      cases e'
      go_wp2_with (with_reducible refine wpList_copy_splice (o := ⟨some 27, _, _, _, _, _⟩) rfl (.tmp 22) (.tmp 26) 24 24 rfl 2 Tryz.underlying24 info2s _ _ 8 8 mm mm rfl rfl w2.heap.size 0 (iv (List.replicate 8 0)) 2 HG.out (iv zs) ?c1 ?c2 ?c3 (int_one zs) w.heap.size w B4 ?c4 ?c5)
      case c1 => rw [iv_length, HL.out]; exact (Nat.min_eq_left hm8).symm
      case c2 =>
        intro _ j v hv
        have hj := (List.getElem?_eq_some_iff.1 hv).1
        rw [iv_length] at hj
        rw [iv_get zs j hj] at hv
        cases hv
        exact hc' j (by rw [← HL.out]; exact hj)
      case c3 => rw [iv_length, HL.out, iv_length]; simp; omega
      case c4 => exact sB
      case c5 =>
        intro w5 H5 b5
        go_wp2_with fail
        go_ret
        rw [HN.out, Int.toNat_natCast]
        have h5 : w5.heap[w2.heap.size]? = some (.cells (Go.splice (iv (List.replicate 8 0)) 0 (iv zs)).toArray 2 (0, 0)) := H5.out
        rw [HSP.out] at h5
        have hsz := Array.getElem?_eq_some_iff.1 h5
        exact ⟨_, _, _, rfl, Ow.of8 h5 (cl_length _ _) sB hsz.1, b5⟩

theorem madeSh (m : Nat) : (madeCells (Value.agg #[.int .i64 0, .int .i64 0]).cells (m * 2)).toList.length = m * 2 := by simp [madeCells]
theorem row_set2 {cs : List Value} {k : Nat} (pre : List Value) (x y : Value) (hp : pre.length = k * 2) (hl : k * 2 + 1 < cs.length) :
    ((pre ++ cs.drop (k * 2)).set (k * 2) x).set (k * 2 + 1) y = (pre ++ [x, y]) ++ cs.drop ((k + 1) * 2) := by
  obtain ⟨a, b, t, e⟩ : ∃ a b t, cs.drop (k * 2) = a :: b :: t := by
    rw [List.drop_eq_getElem_cons (show k * 2 < cs.length by omega), List.drop_eq_getElem_cons hl]
    exact ⟨_, _, _, rfl⟩
  have e2 : cs.drop ((k + 1) * 2) = t := by
    have : cs.drop ((k + 1) * 2) = (cs.drop (k * 2)).drop 2 := by rw [List.drop_drop]; congr 1; omega
    rw [this, e]; rfl
  rw [e, e2, List.set_append, if_neg (by omega), hp, Nat.sub_self, List.set_cons_zero, List.set_append, if_neg (by omega), hp, show k * 2 + 1 - k * 2 = 1 by omega]
  simp

set_option maxRecDepth 100000 in
set_option maxHeartbeats 2000000 in
theorem implShots_any : ShotsC := by
  intro A n c xs w h hn hnc
  obtain ⟨i0, hi0, hz0, hz1, hz2⟩ := info_parts infoSh
  have hxl := Lib.hid h.len
  go_enter Tryz.func60, Tryz.ntmps60
  go_wp2_with fail
  refine (implHeadIn_any _ _ _ xs _ h hn).mono ?_
  rintro e w1 ⟨rfl, b1⟩
  generalize hr : headIn xs = r
  obtain ⟨⟨s, f, r, u, m⟩, is⟩ := r
  have HR := Lib.hid hr
  clear hr
  unfold hdV
  have b2 := b1.alloc b1.size (.cells #[.int .i64 s, .int .i64 f, .int .i64 r, .int .i64 u, .int .i64 m] 33)
  cases is
  · have HN := Lib.hid (shotsL_none HR.out (by rw [(headIn_false HR.out).2]; exact there_hd0 xs))
    go_wp2_with fail
    go_ret
    rw [HN.out]
    exact ⟨none, 0, rfl, OwR.nil _ _ _ _ _, b2⟩
  · have HY := Lib.hid (headIn_true HR.out)
    go_wp2_with fail
    refine (implTable_any A n c xs u _ ((h.below b2).more b2.size) hn hnc).mono ?_
    rintro e w2 ⟨G, ng, cg, rfl, oG, b3⟩
    have q4 : w2.cell? ⟨w1.heap.size, 4, none⟩ = some (.int .i64 m) := boxed b3 4
    have s3 : w1.heap.size + 1 ≤ w2.heap.size := by have := b3.size; simp at this; omega
    have B3 := below_more b2 b3 b2.size
    cases ht : thereB xs u
    · have HN := Lib.hid (shotsL_none HR.out ht)
      rw [tableL_out ht] at oG
      obtain rfl : 0 = ng := by have := oG.len; simpa using this
      go_wp2_with fail
      go_ret
      rw [HN.out]
      exact ⟨none, 0, rfl, OwR.nil _ _ _ _ _, B3⟩
    · have HN := Lib.hid (shotsL_some HR.out ht)
      rw [tableL_in HY.out.1 ht] at oG
      have hall := headB_all (hasHead_ok HY.out.1)
      rw [HY.out.2] at hall
      obtain ⟨_, _, _, _, m0, m4⟩ := hall
      simp only at m0 m4
      obtain ⟨t1, t2⟩ := there_lt ht
      obtain ⟨a, rfl⟩ := Int.eq_ofNat_of_zero_le (show 0 ≤ u by omega)
      obtain ⟨k4, rfl⟩ := Int.eq_ofNat_of_zero_le (show 0 ≤ m by omega)
      rw [Int.toNat_natCast] at oG
      obtain rfl : 8 = ng := by have := oG.len; simpa [cl, f8_length] using this
      rcases oG.form with ⟨_, h0, _⟩ | ⟨g, rfl, g1, g2, g3, g4⟩
      · omega
      have HC := Lib.hid (show ∀ j, j < 8 → w2.cell? ⟨g, j, none⟩ = some (.int .i64 ((cl xs a).getD j 0)) from fun j hj => oG.cell hj)
      clear oG ht b3 b2 b1
      obtain ⟨pr, hpr⟩ : ∃ pr : Nat → Int × Int, pr = fun i => ((cl xs a).getD (2 * i) 0, (cl xs a).getD (2 * i + 1) 0) := ⟨_, rfl⟩
      have HP := Lib.hid hpr
      clear hpr
      go_wp2_with (at_make; refine wpList_make_full _ rfl _ _ 64 rfl w2.heap.size 67 i0 _ 2 Tryz.underlying64 hi0 hz0 hz1 .i64 .i64 _ _ k4 rfl rfl rfl rfl (by rw [hz2]; omega) (by simp only [maxLen]; omega) (Nat.le_refl _) ?_; intro w4 hown hg4)
      have hlt := (hown.lt w2.heap.size rfl).2
      have b4 : Below w2.heap.size w2 w4 := below_grown hg4 (Nat.le_refl _) (fun _ h => by cases h)
      have B4 := below_more B3 b4 B3.size
      have HZL := Lib.hid (madeSh k4)
      generalize (madeCells (Value.agg #[.int .i64 0, .int .i64 0]).cells (k4 * 2)).toList = zs at *
      have o4 : OwV 67 2 w4 w2.heap.size w4.heap.size w2.heap.size k4 k4 zs := ⟨hown, hlt⟩
      have sB := B3.size
      have K4 : KeepBut w2.heap.size w2 w4 := ⟨b4.size, fun b hb _ => b4.block b hb⟩
      clear hown hg4 hi0 hz0 hz1 hz2 b4
      go_loopw [28] (fun i wr => ∃ k : Nat, k ≤ k4 ∧ i = .int .i64 k ∧ OwV 67 2 wr w.heap.size wr.heap.size w2.heap.size k4 k4 (((List.range k).map pr).flatMap shV ++ zs.drop (k * 2)) ∧ Below w.heap.size w wr ∧ KeepBut w2.heap.size w2 wr) (fun i _ => k4 - (intOf i).toNat)
      case atStart => exact ⟨0, Nat.zero_le _, rfl, by simpa using o4.more sB (Nat.le_refl _), B4, K4⟩
      case round =>
        obtain ⟨k, hk, rfl, ho, hb, hkb⟩ := hrel
        by_cases hlt : k < k4
        · have p0 : wr.cell? ⟨g, k * 2, none⟩ = some (.int .i64 (pr k).1) := (hkb.cell (p := ⟨g, k * 2, none⟩) g3 (by show g ≠ _; omega)).trans (by rw [HC.out _ (by omega), HP.out, Nat.mul_comm k 2])
          have p1 : wr.cell? ⟨g, k * 2 + 1, none⟩ = some (.int .i64 (pr k).2) := (hkb.cell (p := ⟨g, k * 2 + 1, none⟩) g3 (by show g ≠ _; omega)).trans (by rw [HC.out _ (by omega), HP.out, Nat.mul_comm k 2])
          have hpl : (((List.range k).map pr).flatMap shV).length = k * 2 := by rw [flat_length shV 2 shV_length]; simp
          have HT := Lib.hid (row_set2 (cs := zs) (k := k) (((List.range k).map pr).flatMap shV) (.int .i64 (pr k).1) (.int .i64 (pr k).2) hpl (by have := HZL.out; omega))
          have HSn := Lib.hid (show (((List.range (k + 1)).map pr).flatMap shV) = (((List.range k).map pr).flatMap shV) ++ [.int .i64 (pr k).1, .int .i64 (pr k).2] by rw [List.range_succ]; simp [shV])
          have HS := Lib.hid (ho.set (k * 2) (.int .i64 (pr k).1))
          have HS2 := Lib.hid ((ho.set (k * 2) (.int .i64 (pr k).1)).1.set (k * 2 + 1) (.int .i64 (pr k).2))
          have hl : (((List.range k).map pr).flatMap shV ++ zs.drop (k * 2)).length = k4 * 2 := ho.len
          obtain ⟨a0, ha0⟩ : ∃ a, (((List.range k).map pr).flatMap shV ++ zs.drop (k * 2))[k * 2]? = some a := ⟨_, List.getElem?_eq_getElem (by omega)⟩
          obtain ⟨a1, ha1⟩ : ∃ a, (((List.range k).map pr).flatMap shV ++ zs.drop (k * 2))[k * 2 + 1]? = some a := ⟨_, List.getElem?_eq_getElem (by omega)⟩
          have hc0 := (ho.cell (j := k * 2) (by omega)).trans ha0
          have hc1 := (ho.cell (j := k * 2 + 1) (by omega)).trans ha1
          have hf0 := ho.free (k * 2)
          have hf1 := ho.free (k * 2 + 1)
          clear ho ha0 ha1 hl hpl
          generalize (pr k).1 = x1 at *
          generalize (pr k).2 = x2 at *
          go_wp2_with fail
          refine (cutOf_any g 0 8 cg (k * 2) 2 _ _ wr (by omega) rfl (by omega) (by omega) (by omega) (by omega) (by omega)).mono ?_
          rintro e w' ⟨rfl, rfl⟩
          rw [show min 2 (8 - k * 2) = 2 by omega, Nat.zero_add]
          go_wp2_with fail
          go_still_tail 10, (by kernel_rfl)
          go_wp2_with fail
          go_roundw
          case rel =>
            obtain ⟨s1, s2⟩ := HS.out
            obtain ⟨s3, s4⟩ := HS2.out
            rw [HT.out, ← HSn.out] at s3
            have hgr := grown_trans s2 s4
            exact ⟨k + 1, by omega, by go_num, s3.drew.more (Nat.le_refl _) hgr.size, (hb.grown hgr hb.size (fun q e => by cases e; exact sB)).drew, (hkb.step hgr (.inl rfl)).drew⟩
          case measure => simp [intOf]; omega
        · go_wp2_with fail
          go_ret
          obtain rfl : k = k4 := by omega
          have e : shotsL xs = (List.range k).map pr := by rw [HN.out, HP.out]; simp
          rw [e]
          refine ⟨some ⟨w2.heap.size, 0, none⟩, k, ?_, ?_, hb⟩
          · simp
          · rw [List.drop_of_length_le (by have := HZL.out; omega), List.append_nil] at ho
            simpa using ho.toR

set_option maxHeartbeats 1000000 in
theorem implFirst_any : FirstC := by
  intro A n c xs q w h hn hnc
  by_cases hq : q = 0
  · subst hq
    go_enter Tryz.func62, Tryz.ntmps62
    go_wp2_with fail
    refine (implHeadIn_any _ _ _ xs _ h hn).mono ?_
    rintro e w1 ⟨rfl, b1⟩
    generalize hr : headIn xs = r
    obtain ⟨⟨s, f, r, u, m⟩, is⟩ := r
    have HF : Hid (f = firstOf xs 0) := by
      cases is
      · have hh := headIn_false hr
        have e := congrArg Hd.first hh.2
        rw [firstOf_no hh.1]
        exact e
      · have hh := headIn_true hr
        have e := congrArg Hd.first hh.2
        rw [firstOf, if_pos hh.1, if_pos rfl]
        exact e.symm
    clear hr
    unfold hdV
    have b2 := b1.alloc b1.size (.cells #[.int .i64 s, .int .i64 f, .int .i64 r, .int .i64 u, .int .i64 m] 33)
    go_wp2_with fail
    go_ret
    exact RetI.mk HF.out b2
  · have hd : (q == 0) = false := by simpa using hq
    have hl4 := shotsL_length xs
    have hno : (shotsL xs).length = 0 ∨ hasHead xs = true := by
      cases hb : hasHead xs
      · left
        rw [shotsL_none (headIn_no hb) (there_hd0 xs)]; rfl
      · exact .inr rfl
    obtain ⟨l, hl⟩ : ∃ l, l = shotsL xs := ⟨_, rfl⟩
    have HL := Lib.hid hl
    rw [← hl] at hl4 hno
    have HNo := Lib.hid hno
    clear hl hno
    by_cases h0 : q < 0
    · have hd0 : decide (q < 0) = true := by simpa using h0
      go_enter Tryz.func62, Tryz.ntmps62
      go_wp2_with fail
      refine (implShots_any A n c xs _ h hn hnc).mono ?_
      rintro e w1 ⟨S, cs, rfl, oS, b1⟩
      go_wp2_with fail
      go_ret
      refine RetI.mk ?_ b1
      cases hb : hasHead xs
      · rw [firstOf_no hb]
      · rw [firstOf_out hb hq (inB_false.2 (fun hh => by omega))]
    · have hd0 : decide (q < 0) = false := by simpa using h0
      obtain ⟨k, rfl⟩ := Int.eq_ofNat_of_zero_le (show 0 ≤ q by omega)
      obtain ⟨ng, hng⟩ : ∃ ng, l.length = ng := ⟨_, rfl⟩
      by_cases h1 : ng < k
      · have hd1 : decide (ng < k) = true := by simpa using h1
        go_enter Tryz.func62, Tryz.ntmps62
        go_wp2_with fail
        refine (implShots_any A n c xs _ h hn hnc).mono ?_
        rintro e w1 ⟨S, cs, rfl, oS, b1⟩
        rw [← HL.out, hng] at oS ⊢
        have HG := Lib.hid hng
        clear hng
        go_wp2_with fail
        go_ret
        refine RetI.mk ?_ b1
        cases hb : hasHead xs
        · rw [firstOf_no hb]
        · rw [firstOf_out hb hq (inB_false.2 (fun hh => by rw [← HL.out, HG.out] at hh; omega))]
      · have hd1 : decide (ng < k) = false := by simpa using h1
        have hkk : k - 1 < l.length := by omega
        have HF := Lib.hid (show (l.getD (k - 1) (0, 0)).2 = firstOf xs (k : Int) by
          have hb : hasHead xs = true := by rcases HNo.out with h | h; omega; exact h
          rw [firstOf_in hb hq (inB_true.2 ⟨by omega, by rw [← HL.out, hng]; omega⟩), ← HL.out]
          congr 2
          omega)
        go_enter Tryz.func62, Tryz.ntmps62
        go_wp2_with fail
        refine (implShots_any A n c xs _ h hn hnc).mono ?_
        rintro e w1 ⟨S, cs, rfl, oS, b1⟩
        rw [← HL.out, hng] at oS ⊢
        rcases oS.form with ⟨_, h9, _⟩ | ⟨g, rfl, g1, g2, g3, g4⟩
        · omega
        have hc1 : w1.cell? ⟨g, (k - 1) * 2 + 1, none⟩ = some (.int .i64 (l.getD (k - 1) (0, 0)).2) := by
          rw [oS.cell (by omega), flat_get shV 2 shV_length l (k - 1) 1 hkk (by omega)]
          simp [shV, List.getD_eq_getElem?_getD, List.getElem?_eq_getElem hkk]
        generalize (l.getD (k - 1) (0, 0)).2 = x at *
        have HG := Lib.hid hng
        clear hng
        go_wp2_with fail
        go_ret
        exact RetI.mk HF.out b1

end Go.Proofs.YtiokfhdkbpoadabGreatDoor
