/- Written and Pictured as the program does them (a struct that gives new clusters): plain mathematics. -/
import Derived.Test.YtiokfhdkbpoadaaGreatDoorH5
import Derived.Test.YtiokfhdkbpoadaaGreatDoorWpd
namespace Go.Proofs.YtiokfhdkbpoadaaGreatDoor
open Go.RowKit

theorem tab8_eight (xs : List Int) (t : Int) : eightB (tab8 xs t) = true := by
  unfold tab8; split
  · rename_i h; exact eight_cl (hasHead_img h.1) _
  · exact zeros8
theorem spl_get {o cs : List Int} {off j : Nat} (h : off + cs.length ≤ o.length) : (Go.splice o off cs).getD j 0 = if off ≤ j ∧ j < off + cs.length then cs.getD (j - off) 0 else o.getD j 0 := by
  unfold Go.splice
  have h1 : (o.take off).length = off := by rw [List.length_take]; omega
  rw [List.getD_eq_getElem?_getD, ← List.append_assoc]
  by_cases hj : j < off
  · rw [List.append_assoc, List.getElem?_append_left (by omega), List.getElem?_take_of_lt hj, if_neg (by omega), List.getD_eq_getElem?_getD]
  · by_cases hj2 : j < off + cs.length
    · rw [List.append_assoc, List.getElem?_append_right (by omega), h1, List.getElem?_append_left (by omega), if_pos ⟨by omega, hj2⟩, List.getD_eq_getElem?_getD]
    · rw [List.getElem?_append_right (by rw [List.length_append, h1]; omega), List.length_append, h1, List.getElem?_drop, if_neg (by omega), show off + cs.length + (j - (off + cs.length)) = j from by omega, List.getD_eq_getElem?_getD]
theorem spl_eight {o cs : List Int} {off : Nat} (ho : eightB o = true) (hc : ∀ v ∈ cs, wordB v = true) (h : off + cs.length ≤ 8) : eightB (Go.splice o off cs) = true := by
  have hl := eightB_len ho
  unfold eightB at *
  rw [Bool.and_eq_true, decide_eq_true_eq] at *
  refine ⟨by rw [Go.length_splice _ _ _ (by omega), hl], ?_⟩
  have ha : ∀ x ∈ o, wordB x = true := by have := ho.2; unfold wordsB at this; rw [List.all_eq_true] at this; exact this
  unfold wordsB
  rw [List.all_eq_true]
  intro x hx
  unfold Go.splice at hx
  rw [List.mem_append, List.mem_append] at hx
  rcases hx with hx | hx | hx
  · exact ha x (List.mem_of_mem_take hx)
  · exact hc x hx
  · exact ha x (List.mem_of_mem_drop hx)

theorem with_yes {xs ws : List Int} {t : Nat} (hi : imgB xs = true) (h8 : eightB ws = true) (ht : t ≤ manyN xs) (h64 : t < 64) : withL xs (t : Int) ws = setCl (whole xs) t ws := by
  unfold withL
  rw [if_pos, Int.toNat_natCast]
  unfold withB
  rw [hi, h8, inB_true.2 (by omega)]
  simp
  omega
theorem with_new {xs ws : List Int} (hi : imgB xs = true) (h8 : eightB ws = true) (hm : manyN xs < 64) : withL xs (manyN xs : Int) ws = moreL xs ws := with_yes hi h8 (Nat.le_refl _) hm
theorem with_none {xs : List Int} (h : ¬ manyN xs < 64) (ws : List Int) : withL xs (manyN xs : Int) ws = [] := by
  unfold withL
  rw [if_neg]
  unfold withB
  rw [show decide ((manyN xs : Int) < 64) = false from by simp; omega]
  simp
/-- Nothing has no place but the first. -/
theorem with_nil {t : Int} (h : 1 ≤ t) (ws : List Int) : withL [] t ws = [] := by
  unfold withL
  rw [if_neg]
  unfold withB
  rw [show inB t 0 (manyN ([] : List Int)) = false from inB_false.2 (by show ¬ (0 ≤ t ∧ t ≤ ((0 + 7) / 8 : Nat)); omega)]
  simp
theorem into_nil {t : Int} (h : 1 ≤ t) (s : Nat) (vs : List Int) : intoL [] t s vs = [] := with_nil h _

theorem into_get {zs : List Int} {t s : Nat} {vs : List Int} (hh : hasHead zs = true) (h8 : zs.length % 8 = 0) (ht : thereB zs t = true) (hs : s + vs.length ≤ 8) (hv : ∀ v ∈ vs, wordB v = true) :
    (intoL zs t s vs).length = zs.length ∧ ∀ j, (intoL zs t s vs).getD j 0 = if t * 8 + s ≤ j ∧ j < t * 8 + s + vs.length then vs.getD (j - (t * 8 + s)) 0 else zs.getD j 0 := by
  have htl := there_lt ht
  have hm := manyN_le (hasHead_img hh)
  have e0 : tab8 zs (t : Int) = cl zs t := by unfold tab8; rw [if_pos ⟨hh, ht⟩, Int.toNat_natCast]
  have hcl := cl_length zs t
  have hsl : (Go.splice (cl zs t) s vs).length = 8 := by rw [Go.length_splice _ _ _ (by omega), hcl]
  have hml : manyN zs * 8 = zs.length := by unfold manyN; omega
  have e1 : intoL zs (t : Int) s vs = setCl zs t (Go.splice (cl zs t) s vs) := by
    unfold intoL
    rw [e0, with_yes (hasHead_img hh) (spl_eight (eight_cl (hasHead_img hh) _) hv hs) (by omega) (by omega), whole_eight h8]
  rw [e1]
  refine ⟨?_, fun j => ?_⟩
  · rw [setCl_length h8 (by omega) hsl, if_neg (by omega)]
  · rw [setCl_get (by omega) hsl]
    by_cases h : t * 8 ≤ j ∧ j < t * 8 + 8
    · rw [if_pos h, spl_get (by omega)]
      by_cases h2 : s ≤ j - t * 8 ∧ j - t * 8 < s + vs.length
      · rw [if_pos h2, if_pos (by omega), show j - t * 8 - s = j - (t * 8 + s) from by omega]
      · rw [if_neg h2, if_neg (by omega), cl_word_get _ _ _ (by omega), show t * 8 + (j - t * 8) = j from by omega]
    · rw [if_neg h, if_neg (by omega)]
theorem into_one {zs : List Int} {t s : Nat} {v : Int} (hh : hasHead zs = true) (h8 : zs.length % 8 = 0) (ht : thereB zs t = true) (hs : s < 8) (hv : wordB v = true) : intoL zs t s [v] = zs.set (t * 8 + s) v := by
  obtain ⟨h1, h2⟩ := into_get (s := s) (vs := [v]) hh h8 ht (by rw [List.length_singleton]; omega) (by simpa using hv)
  have htl := there_lt ht
  have hml : manyN zs * 8 = zs.length := by unfold manyN; omega
  refine getD_ext (by rw [h1, List.length_set]) (fun j => ?_)
  rw [h2, getD_set, List.length_singleton]
  by_cases h : j = t * 8 + s
  · subst h
    rw [if_pos ⟨by omega, by omega⟩, if_pos ⟨rfl, by omega⟩, Nat.sub_self]; rfl
  · rw [if_neg (by omega), if_neg (fun h3 => h h3.1.symm)]
theorem into_two {zs : List Int} {t s : Nat} {v u : Int} (hh : hasHead zs = true) (h8 : zs.length % 8 = 0) (ht : thereB zs t = true) (hs : s + 1 < 8) (hv : wordB v = true) (hu : wordB u = true) : intoL zs t s [v, u] = (zs.set (t * 8 + s) v).set (t * 8 + s + 1) u := by
  obtain ⟨h1, h2⟩ := into_get (s := s) (vs := [v, u]) hh h8 ht (by show s + 2 ≤ 8; omega) (by simp [hv, hu])
  have htl := there_lt ht
  have hml : manyN zs * 8 = zs.length := by unfold manyN; omega
  refine getD_ext (by rw [h1, List.length_set, List.length_set]) (fun j => ?_)
  rw [h2, getD_set, getD_set, List.length_set, show ([v, u] : List Int).length = 2 from rfl]
  by_cases h : j = t * 8 + s
  · subst h
    rw [if_pos ⟨by omega, by omega⟩, if_neg (by omega), if_pos ⟨rfl, by omega⟩, Nat.sub_self]; rfl
  · by_cases h' : j = t * 8 + s + 1
    · subst h'
      rw [if_pos ⟨by omega, by omega⟩, if_pos ⟨rfl, by omega⟩, show t * 8 + s + 1 - (t * 8 + s) = 1 from by omega]; rfl
    · rw [if_neg (by omega), if_neg (fun h3 => h' h3.1.symm), if_neg (fun h3 => h h3.1.symm)]

/-- Counted, and flagged: as the program calls both. -/
theorem done_prog (y : List Int) : (if hasHead (countedL y) = true then ownedC (countedL y) else []) = doneL y := by
  unfold doneL
  rcases counted_head y with h | h
  · rw [h]; rfl
  · rw [if_pos h.1, if_neg]
    have := (hasHead_len h.1).1
    omega
theorem done_nil : doneL [] = [] := by unfold doneL; rw [counted_nil]; rfl

theorem sound_led {b : List Int} (h : soundB b = true) {s : Nat} (hs : s < 8) (ht : targetOf (firstEntry b 0 s) ≠ 0) : thereB b (targetOf (firstEntry b 0 s)) = true := by
  have hfe := firstEntry_sound h s hs
  rw [hfe] at ht ⊢
  obtain ⟨c, hcm, hk, _, _, _, htc⟩ := second_claim (sound_first h).2 s hs ht
  rw [← htc]
  exact good_there (c5_sub b c hcm) (sound_good h (c5_sub b c hcm)) (by omega)
theorem there_nat {b : List Int} {t : Int} (h : thereB b t = true) : ∃ k : Nat, t = k ∧ 1 ≤ k ∧ k < manyN b := by
  have := there_lt h
  obtain ⟨k, rfl⟩ := Int.eq_ofNat_of_zero_le (show 0 ≤ t by omega)
  exact ⟨k, rfl, by omega, by omega⟩

theorem write_prog {b ws : List Int} {g : Nat} (h : soundB b = true) (hg : (g : Int) < (headOf b).size) (hws : eightB ws = true) : doneL (writeP b g ws) = writeNew g ws (secondL b (g / 8)) := by
  have S := sound_is h
  have hsz := headB_all (hasHead_ok S.head)
  have hi := hasHead_img S.head
  have hm := manyN_le hi
  have hp := whole_pos S.head
  have hs8 : g / 8 < 8 := by omega
  have hw8 := eightB_len hws
  have hwd := firstEntry_word h (g / 8) hs8
  have hwb := word_bounds hwd
  have htg := targetOf_yes hwd
  obtain ⟨hf, hf4, hft⟩ := S.firstT
  obtain ⟨f, hfe, hf1, hf2⟩ := there_nat hft
  have hfo : firstOf b 0 = (f : Int) := by rw [firstOf_zero S.head, hfe]
  unfold writeP secP secondL
  by_cases ho : 32768 ≤ firstEntry b 0 ((g / 8 : Nat) : Int)
  · have ho2 : ownIn (firstEntry b 0 ((g / 8 : Nat) : Int)) = true := by unfold ownIn; rw [hwd, Bool.true_and, decide_eq_true_eq]; exact ho
    have ht0 : targetOf (firstEntry b 0 ((g / 8 : Nat) : Int)) ≠ 0 := by
      have hne := own_ne ho2
      rw [firstEntry_sound h _ hs8] at hne ⊢
      exact sound_word S hf (.inl rfl) hs8 hne
    rw [if_pos ho, if_pos ⟨ht0, ho2⟩, ← htg]
    obtain ⟨t, hte, h1, h2⟩ := there_nat (sound_led h hs8 ht0)
    rw [hte, Int.toNat_natCast]
    unfold writeNew
    simp only
    by_cases h64 : manyN b < 64
    · rw [if_pos h64, with_new hi hws h64]
      obtain ⟨m1, m2⟩ := more_head S.head hws h64
      have hmm := more_many b ws hw8
      rw [into_one m1 (by rw [more_length _ _ hw8]; omega) (inB_true.2 (by omega)) (by omega) (inB_true.2 (by omega))]
    · rw [if_neg h64, with_none h64, into_nil (by omega), done_nil]
  · have ho2 : ownIn (firstEntry b 0 ((g / 8 : Nat) : Int)) = false := by unfold ownIn; rw [hwd, Bool.true_and, decide_eq_false_iff_not]; exact ho
    rw [if_neg ho, ho2, if_neg (fun hc => by cases hc.2)]
    have e8 : tab8 b (firstEntry b 0 ((g / 8 : Nat) : Int) % 32768) = if targetOf (firstEntry b 0 ((g / 8 : Nat) : Int)) ≠ 0 then cl b (targetOf (firstEntry b 0 ((g / 8 : Nat) : Int))).toNat else z8 := by
      rw [← htg]
      unfold tab8
      by_cases h0 : targetOf (firstEntry b 0 ((g / 8 : Nat) : Int)) = 0
      · rw [h0, if_neg (show ¬ (hasHead b = true ∧ thereB b 0 = true) from fun hc => by have := there_lt hc.2; omega), if_neg (by simp)]
        rfl
      · rw [if_pos h0, if_pos ⟨S.head, sound_led h hs8 h0⟩]
    have h88 := tab8_eight b (firstEntry b 0 ((g / 8 : Nat) : Int) % 32768)
    rw [e8] at h88 ⊢
    generalize (if targetOf (firstEntry b 0 ((g / 8 : Nat) : Int)) ≠ 0 then cl b (targetOf (firstEntry b 0 ((g / 8 : Nat) : Int))).toNat else z8) = W at h88 ⊢
    have hW8 := eightB_len h88
    rw [hfo, hfe, Int.toNat_natCast]
    simp only
    by_cases h64 : manyN b < 64
    · rw [if_pos h64, with_new hi h88 h64]
      obtain ⟨m1, m2⟩ := more_head S.head h88 h64
      have hmm := more_many b W hW8
      have hml := more_length b W hW8
      rw [into_one m1 (by rw [hml]; omega) (inB_true.2 (by omega)) hs8 (inB_true.2 (by omega))]
      obtain ⟨n1, n2⟩ := set_head (j := f * 8 + g / 8) (x := (manyN b : Int)) m1 (by omega) (inB_true.2 (by omega))
      unfold writeNew
      simp only
      have hmy : manyN ((moreL b W).set (f * 8 + g / 8) (manyN b : Int)) = manyN b + 1 := by rw [set_many, hmm]
      generalize hY : (moreL b W).set (f * 8 + g / 8) (manyN b : Int) = Y at n1 n2 hmy ⊢
      have hYl : Y.length % 8 = 0 := by rw [← hY, List.length_set, hml]; omega
      rw [show ((manyN b : Int) + 1) = ((manyN Y : Nat) : Int) from by rw [hmy]; omega]
      by_cases h65 : manyN Y < 64
      · rw [if_pos h65, with_new (hasHead_img n1) hws h65]
        obtain ⟨p1, p2⟩ := more_head n1 hws h65
        have hmm2 := more_many Y ws hw8
        rw [into_one p1 (by rw [more_length _ _ hw8]; omega) (inB_true.2 (by omega)) (by omega) (inB_true.2 (by omega))]
      · rw [if_neg h65, with_none h65, into_nil (by omega), done_nil]
    · rw [if_neg h64, with_none h64, into_nil (by omega), with_nil (by omega), into_nil (by omega), done_nil]
      rfl

theorem done_nil_if (z : List Int) : doneL (if ([] : List Int).length = 0 then [] else z) = [] := by rw [if_pos (show ([] : List Int).length = 0 from rfl), done_nil]

theorem hdW8 {h : Hd} (hb : headB h = true) : eightB (hdW h) = true := by
  obtain ⟨h1, h2, h3, h4, h5⟩ := headB_all hb
  simp only [eightB, hdW, List.length_cons, List.length_nil, List.all_cons, List.all_nil, wordsB, wordB, inB, Bool.and_eq_true, decide_eq_true_eq]
  simp
  omega
theorem withHead_set {y : List Int} {h : Hd} (hi : imgB y = true) (hb : headB h = true) (h8 : y.length % 8 = 0) : withHead y h = setCl y 0 (hdW h) := by
  rw [withHead_yes hb]
  have := with_yes (t := 0) hi (hdW8 hb) (Nat.zero_le _) (by omega)
  rw [whole_eight h8] at this
  exact this

theorem pict_prog {b : List Int} {name : Int} (h : soundB b = true) (hm4 : (headOf b).many < 4) (hn : wordB name = true) : doneL (pictP b name) = pictMid b name (shotsAtL b) := by
  have S := sound_is h
  have hall := headB_all (hasHead_ok S.head)
  have hi := hasHead_img S.head
  have hm := manyN_le hi
  have hp := whole_pos S.head
  obtain ⟨hf, hf4, hft⟩ := S.firstT
  have hT : tableL b (headOf b).first = cl b (headOf b).first.toNat := tableL_in S.head hft
  have hT8 := eight_cl hi (headOf b).first.toNat
  have hTl := eightB_len hT8
  unfold pictP headP shotP shotsAtL
  simp only
  rw [hT]
  clear hT
  obtain ⟨T, hTe⟩ : ∃ T, T = cl b (headOf b).first.toNat := ⟨_, rfl⟩
  rw [← hTe] at hT8 hTl ⊢
  have hz : List.replicate 8 (0 : Int) = z8 := rfl
  obtain ⟨μ, hμ⟩ := Int.eq_ofNat_of_zero_le (show 0 ≤ (headOf b).many by omega)
  by_cases h0 : (headOf b).many = 0
  · rw [if_pos h0, if_neg (show ¬ 0 < (headOf b).many by omega), hz]
    simp only
    have z88 : eightB z8 = true := zeros8
    by_cases h64 : manyN b < 64
    · rw [if_pos h64, with_new hi z88 h64]
      obtain ⟨m1, m2⟩ := more_head S.head z88 h64
      have hz8 : (List.replicate 8 (0 : Int)).length = 8 := by simp
      have hmm : manyN (moreL b z8) = manyN b + 1 := more_many b z8 hz8
      have hml : (moreL b z8).length = manyN b * 8 + 8 := more_length b z8 hz8
      obtain ⟨s1, s2, s3⟩ := newShots_head S.head h64
      have hms : manyN (newShots b) = manyN b + 1 := by show ((newShots b).length + 7) / 8 = _; rw [s3]; omega
      unfold pictMid
      simp only
      rw [← hTe]
      rw [show ((manyN b : Int) + 1) = ((manyN (moreL b z8) : Nat) : Int) from by rw [hmm]; omega, hms, ← hmm]
      by_cases h65 : manyN (moreL b z8) < 64
      · rw [if_pos h65, with_new (hasHead_img m1) hT8 h65]
        obtain ⟨p1, p2⟩ := more_head m1 hT8 h65
        have pm := more_many (moreL b z8) T hTl
        have pl := more_length (moreL b z8) T hTl
        have e2 : 2 * (headOf b).many.toNat = 0 := by omega
        rw [e2, into_two p1 (by rw [pl]; omega) (inB_true.2 (by omega)) (by omega) hn (inB_true.2 (by omega))]
        generalize hY : ((moreL (moreL b z8) T).set (manyN b * 8 + 0) name).set (manyN b * 8 + 0 + 1) ((manyN (moreL b z8) : Nat) : Int) = Y
        have hYl : Y.length = manyN b * 8 + 16 := by rw [← hY, List.length_set, List.length_set, pl, hmm]; omega
        obtain ⟨q1, q2⟩ := set_head (j := manyN b * 8 + 0) (x := name) p1 (by omega) hn
        obtain ⟨r1, r2⟩ := set_head (j := manyN b * 8 + 0 + 1) (x := ((manyN (moreL b z8) : Nat) : Int)) q1 (by omega) (inB_true.2 (by omega))
        rw [hY] at r1
        have hb2 : headB { headOf b with shots := (manyN b : Int), many := (headOf b).many + 1 } = true := by
          simp only [headB, wordB, Bool.and_eq_true, inB_true]
          omega
        rw [if_neg (by omega), withHead_set (hasHead_img r1) hb2 (by omega)]
        unfold pictEnd
        obtain ⟨t1, t2⟩ := more_head s1 hT8 (by omega)
        have hhz : headOf (moreL (newShots b) T) = { headOf b with shots := (manyN b : Int) } := t2.trans s2
        have tl := more_length (newShots b) T hTl
        have hx : ({ headOf (moreL (newShots b) T) with many := (headOf (moreL (newShots b) T)).many + 1 } : Hd) = { headOf b with shots := (manyN b : Int), many := (headOf b).many + 1 } := by rw [hhz]
        have hx2 : (headOf (moreL (newShots b) T)).shots.toNat = manyN b := by rw [hhz]; simp
        have hx3 : 2 * (headOf (moreL (newShots b) T)).many.toNat = 0 := by rw [hhz]; exact e2
        congr 1
        rw [hx, hx2, hx3]
        have hhd := hdW_length { headOf b with shots := (manyN b : Int), many := (headOf b).many + 1 }
        refine getD_ext ?_ (fun j => ?_)
        · rw [setCl_length (by omega) (by omega) hhd, setCl_length (by rw [List.length_set, List.length_set, tl]; omega) (by omega) hhd, List.length_set, List.length_set, tl, hms, hYl, if_neg (by omega), if_neg (by omega)]
          omega
        · rw [setCl_get (by omega) hhd, setCl_get (by omega) hhd]
          by_cases hj : 0 * 8 ≤ j ∧ j < 0 * 8 + 8
          · rw [if_pos hj, if_pos hj]
          · rw [if_neg hj, if_neg hj, ← hY, getD_set, getD_set, getD_set, getD_set, List.length_set, List.length_set, tl, pl, hms, hmm]
            have e3 : (moreL (newShots b) T).getD j 0 = (moreL (moreL b z8) T).getD j 0 := by
              rw [more_get _ _ hTl, more_get _ _ hTl, hms, hmm]
              by_cases h9 : (manyN b + 1) * 8 ≤ j
              · rw [if_pos h9, if_pos h9]
              · rw [if_neg h9, if_neg h9]
                unfold newShots
                rw [setCl_get (by omega) (hdW_length _), if_neg hj]
                rfl
            rw [e3]
      · rw [if_neg h65, with_none h65, into_nil (by omega), done_nil_if]
    · rw [if_neg h64, with_none h64, with_nil (by omega), into_nil (by omega), done_nil_if]
      rfl
  · have hsh := sound_shots h h0
    obtain ⟨σ, hσ, hs1, hs2⟩ := there_nat hsh
    rw [if_neg h0, if_pos (show 0 < (headOf b).many by omega)]
    unfold pictMid
    simp only
    rw [← hTe]
    by_cases h64 : manyN b < 64
    · rw [if_pos h64, with_new hi hT8 h64, hσ]
      obtain ⟨p1, p2⟩ := more_head S.head hT8 h64
      have pm := more_many b T hTl
      have pl := more_length b T hTl
      rw [into_two p1 (by rw [pl]; omega) (inB_true.2 (by omega)) (by omega) hn (inB_true.2 (by omega))]
      generalize hY : ((moreL b T).set (σ * 8 + 2 * (headOf b).many.toNat) name).set (σ * 8 + 2 * (headOf b).many.toNat + 1) ((manyN b : Nat) : Int) = Y
      have hYl : Y.length = manyN b * 8 + 8 := by rw [← hY, List.length_set, List.length_set, pl]
      obtain ⟨q1, q2⟩ := set_head (j := σ * 8 + 2 * (headOf b).many.toNat) (x := name) p1 (by omega) hn
      obtain ⟨r1, r2⟩ := set_head (j := σ * 8 + 2 * (headOf b).many.toNat + 1) (x := ((manyN b : Nat) : Int)) q1 (by omega) (inB_true.2 (by omega))
      rw [hY] at r1
      have hb2 : headB { headOf b with shots := (σ : Int), many := (headOf b).many + 1 } = true := by
        simp only [headB, wordB, Bool.and_eq_true, inB_true]
        omega
      rw [if_neg (by omega), withHead_set (hasHead_img r1) hb2 (by omega)]
      unfold pictEnd
      have hx : ({ headOf (moreL b T) with many := (headOf (moreL b T)).many + 1 } : Hd) = { headOf b with shots := (σ : Int), many := (headOf b).many + 1 } := by rw [p2, ← hσ]
      have hx2 : (headOf (moreL b T)).shots.toNat = σ := by rw [p2, hσ, Int.toNat_natCast]
      have hx3 : 2 * (headOf (moreL b T)).many.toNat = 2 * (headOf b).many.toNat := by rw [p2]
      rw [hx, hx2, hx3, hY]
    · rw [if_neg h64, with_none h64, into_nil (by omega), done_nil_if]

theorem own_there {b : List Int} {g : Nat} (h : soundB b = true) (hg : (g : Int) < (headOf b).size) (ho1 : ownIn (firstEntry b 0 ((g / 8 : Nat) : Int)) = true) (ho2 : ownIn (entryAt b 0 g) = true) : thereB b (targetOf (entryAt b 0 g)) = true := by
  have S := sound_is h
  have hsz := headB_all (hasHead_ok S.head)
  obtain ⟨hf, hf4, hft⟩ := S.firstT
  refine sound_entry h g hg ?_
  have e1 := firstEntry_sound S.sound (g / 8) (by omega)
  rw [entryAt_sound S.sound g hg] at ho2 ⊢
  rw [e1] at ho1 ho2 ⊢
  have ht0 := sound_word S hf (.inl rfl) (by omega : g / 8 < 8) (own_ne ho1)
  simp only at ht0
  have hff : (headOf b).first ∈ firstsC (c4C b (headOf b)) := (sound_first S.sound).2
  obtain ⟨c, hc, hk7, hcf, hcs, _, hct⟩ := second_claim hff (g / 8) (by omega) ht0
  have hcc := c5_sub b c hc
  have htc := good_there hcc (S.good c hcc) (by omega)
  rw [← hct, tableL_in S.head htc] at ho2 ⊢
  exact sound_word S hcc (.inr (.inr hk7)) (by omega : g % 8 < 8) (own_ne ho2)
/-- Written, as the program does it. -/
theorem written_prog (b : List Int) (a : Int) (ws : List Int) : writtenL b a ws =
    if soundB b = true ∧ inB a 0 ((headOf b).size - 1) = true ∧ eightB ws = true then
      (if (ownIn (firstEntry b 0 (a / 8)) && ownIn (entryAt b 0 a)) = true then withL b (targetOf (entryAt b 0 a)) ws else doneL (writeP b a.toNat ws)) else [] := by
  unfold writtenL
  by_cases h : soundB b = true ∧ inB a 0 ((headOf b).size - 1) = true ∧ eightB ws = true
  · rw [if_pos h, if_pos h]
    obtain ⟨h1, h2, h3⟩ := h
    have h2 := inB_true.1 h2
    obtain ⟨g, rfl⟩ := Int.eq_ofNat_of_zero_le h2.1
    have S := sound_is h1
    have e : ((g : Int) / 8) = ((g / 8 : Nat) : Int) := by omega
    rw [Int.toNat_natCast, e]
    unfold writeMid
    by_cases ho : (ownIn (firstEntry b 0 ((g / 8 : Nat) : Int)) && ownIn (entryAt b 0 g)) = true
    · rw [if_pos ho, if_pos ho]
      rw [Bool.and_eq_true] at ho
      obtain ⟨t, hte, t1, t2⟩ := there_nat (own_there h1 (by omega) ho.1 ho.2)
      have hm := manyN_le (hasHead_img S.head)
      rw [hte, Int.toNat_natCast, with_yes (hasHead_img S.head) h3 (by omega) (by omega), whole_eight S.eight]
    · rw [if_neg ho, if_neg ho, write_prog h1 (by omega) h3]
  · rw [if_neg h, if_neg h]
theorem pictured_prog (b : List Int) (name : Int) : picturedL b name = if soundB b = true ∧ (headOf b).many < 4 ∧ wordB name = true then doneL (pictP b name) else [] := by
  unfold picturedL
  by_cases h : soundB b = true ∧ (headOf b).many < 4 ∧ wordB name = true
  · rw [if_pos h, if_pos h, pict_prog h.1 h.2.1 h.2.2]
  · rw [if_neg h, if_neg h]
end Go.Proofs.YtiokfhdkbpoadaaGreatDoor
