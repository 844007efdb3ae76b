/- Flags (l15Owned): the model's side. What is counted anew has a head and is whole: plain mathematics. What is done behind a change (l17Done): the model's side. What is known of a sound image: plain mathematics. A disk that is written (l17Second, Written), the model's side. A disk that is written (Written), the model's side. -/
import Derived.Test.YtiokfhdkbpoadaaGreatDoorQ1
import Derived.Test.YtiokfhdkbpoadaaGreatDoorG3
import Derived.Test.YtiokfhdkbpoadaaGreatDoorH0
namespace Go.Proofs.YtiokfhdkbpoadaaGreatDoor
open Go.RowKit

/-- Where a wrong word stands. -/
theorem wr_mem (xs : List Int) (l : List Cm) (ct : List Int) (t : Int) : ∀ (k : Nat) (o : List Wr) (x : Wr), x ∈ (List.range k).foldl (wrStep xs l ct t) o → x ∈ o ∨ (x.frm = t ∧ 0 ≤ x.slot ∧ x.slot < k) := by
  intro k
  induction k with
  | zero => intro o x h; exact .inl h
  | succ k ih =>
    intro o x h
    rw [range_fold] at h
    unfold wrStep at h
    split at h
    · rw [List.mem_append] at h
      rcases h with h | h
      · rcases ih o x h with h1 | ⟨h1, h2, h3⟩
        · exact .inl h1
        · exact .inr ⟨h1, h2, by omega⟩
      · rw [List.mem_singleton] at h
        subst h
        exact .inr ⟨rfl, by simp, by simp; omega⟩
    · rcases ih o x h with h1 | ⟨h1, h2, h3⟩
      · exact .inl h1
      · exact .inr ⟨h1, h2, by omega⟩
theorem wrR_mem (xs : List Int) (l : List Cm) (ct : List Int) : ∀ (ts : List Int) (o : List Wr) (x : Wr), x ∈ ts.foldl (wrRound xs l ct) o → x ∈ o ∨ (x.frm ∈ ts ∧ 0 ≤ x.slot ∧ x.slot < 8) := by
  intro ts
  induction ts with
  | nil => intro o x h; exact .inl h
  | cons t ts ih =>
    intro o x h
    rw [List.foldl_cons] at h
    rcases ih _ x h with h1 | ⟨h1, h2⟩
    · rcases wr_mem xs l ct t 8 o x h1 with h3 | ⟨h3, h4, h5⟩
      · exact .inl h3
      · exact .inr ⟨by rw [h3]; simp, h4, h5⟩
    · exact .inr ⟨by simp [h1], h2⟩
theorem wrongs_at {xs : List Int} {x : Wr} (h : x ∈ wrongsC xs) : thereB xs x.frm = true ∧ 0 ≤ x.slot ∧ x.slot < 8 := by
  rcases wrR_mem _ _ _ _ _ _ h with h1 | ⟨h1, h2⟩
  · cases h1
  · exact ⟨tables_there h1, h2⟩

def owStep (o : List Int) (x : Wr) : List Int := o.set (x.frm.toNat * 8 + x.slot.toNat) x.must
def ownedC (xs : List Int) : List Int := (wrongsC xs).foldl owStep (whole xs)
theorem ow_length (l : List Wr) : ∀ o : List Int, (l.foldl owStep o).length = o.length := by
  induction l with
  | nil => intro o; rfl
  | cons x l ih => intro o; rw [List.foldl_cons, ih]; simp [owStep]
theorem owned_length (xs : List Int) : (ownedC xs).length = manyN xs * 8 := by unfold ownedC; rw [ow_length, whole_length]

def OwRel (w2 : World) (lo hi g n c : Nat) (xs : List Int) (l : List Wr) (i : Value) (wr : World) : Prop :=
  ∃ k : Nat, k ≤ l.length ∧ i = .int .i64 k ∧ Ow wr lo hi (some ⟨g, 0, none⟩) n c ((l.take k).foldl owStep (whole xs)) ∧ w2.grownBy wr (some g)

set_option maxRecDepth 100000 in
set_option maxHeartbeats 8000000 in
theorem specOwned_any (A : Option Addr) (n cb : Nat) (xs : List Int) (w : World) (hr : Rd w w.heap.size A n xs) (hh : hasHead xs = true) :
    Calls Tryz.prog 54 #[.slice A n cb] w (RetS w (ownedC xs)) := by
  have hx := Lib.hid hr.len
  have hlen := hasHead_len hh
  have hn : n ≤ 512 := by have := hx.out; omega
  have hmany := manyN_le (hasHead_img hh)
  have HH := Lib.hid hh
  have HWC : Hid (ownedC xs = (wrongsC xs).foldl owStep (whole xs)) := rfl
  clear hh
  go_enter Tryz.func54, Tryz.ntmps54
  go_wp2_with fail
  refine (specWhole_any A n cb xs w hr (by omega)).mono ?_
  rintro e w1 ⟨g, n1, c1, rfl, hc1, o1, b1⟩
  have hgl : w.heap.size ≤ g ∧ g < w1.heap.size := by
    rcases o1.form with ⟨h, _⟩ | ⟨x, hx, h1, h2, _⟩
    · cases h
    · injection hx with hx; injection hx with hx; omega
  obtain rfl : manyN xs * 8 = n1 := by have := o1.len; rw [whole_length] at this; exact this
  go_wp2_with fail
  refine (specWrongs_any A n cb xs w1 ((hr.below b1).more b1.size) (by omega) HH.out).mono ?_
  rintro e w2 ⟨gw, cw, rfl, ow, b2⟩
  have hgw := ow.low
  have hgwt := ow.lt
  have RW := ow.rd
  have b02 := below_more b1 b2 b1.size
  have o2 := o1.below b2 (Nat.le_refl _)
  have s2 := b2.size
  have hwl := wrongs_length xs
  have HMM := Lib.hid (fun x (hx : x ∈ wrongsC xs) => wrongs_at hx)
  clear ow b1 b2 o1
  generalize wrongsC xs = l at *
  go_wp2_with fail
  go_loopw [5] (fun i wr => OwRel w2 w.heap.size w1.heap.size g (manyN xs * 8) c1 xs l i wr) (fun i _ => l.length - (intOf i).toNat)
  case atStart => exact ⟨0, Nat.zero_le _, rfl, o2, grown_refl _ _⟩
  case round =>
    obtain ⟨k, hk, rfl, ho, hg⟩ := hrel
    have sr := hg.size
    by_cases hlt : k < l.length
    · have hce := wr_cells (RW.grown hg hgwt (by show gw ≠ _; omega)) hlt
      have HS := Lib.hid (take_fold owStep l (whole xs) k hlt)
      have hgd : l.getD k wr0 = l[k] := by simp [List.getD_eq_getElem?_getD, hlt]
      obtain ⟨m1, m2, m3⟩ := HMM.out _ (List.getElem_mem hlt)
      rw [hgd] at hce
      clear hgd
      generalize l[k] = x at *
      obtain ⟨xf, xs', xm⟩ := x
      have e0 : wr.cell? ⟨gw, k * 3, none⟩ = some (.int .i64 xf) := hce 0 (by omega)
      have e1 : wr.cell? ⟨gw, k * 3 + 1, none⟩ = some (.int .i64 xs') := hce 1 (by omega)
      have e2 : wr.cell? ⟨gw, k * 3 + 2, none⟩ = some (.int .i64 xm) := hce 2 (by omega)
      simp only at m1 m2 m3
      obtain ⟨t1, t2⟩ := there_lt m1
      obtain ⟨τ, rfl⟩ := Int.eq_ofNat_of_zero_le (show 0 ≤ xf by omega)
      obtain ⟨σ, rfl⟩ := Int.eq_ofNat_of_zero_le m2
      have HE : Hid ((l.take (k + 1)).foldl owStep (whole xs) = ((l.take k).foldl owStep (whole xs)).set (τ * 8 + σ) xm) := by rw [HS.out]; simp [owStep, Hid]
      have hidx : τ * 8 + σ < manyN xs * 8 := by omega
      have hco := ho.cell hidx
      have hfo := ho.free (τ * 8 + σ)
      have HSt := Lib.hid (ho.set (τ * 8 + σ) xm)
      clear hce m1 m2 m3 HS
      generalize ((l.take k).foldl owStep (whole xs)).getD (τ * 8 + σ) 0 = z at *
      go_wp2_with fail
      have n1 : (0 : Int) ≤ (k : Int) := by omega
      have n2 : (k : Int) < (l.length : Int) := by omega
      have n3 : IntKind.i64.wrap ((τ : Int) * 8) = (τ : Int) * 8 := IntWalk.i64_in _ (by omega)
      have n6 : IntKind.i64.wrap ((τ : Int) * 8 + (σ : Int)) = (τ : Int) * 8 + (σ : Int) := IntWalk.i64_in _ (by omega)
      have n6a : (0 : Int) ≤ (τ : Int) * 8 + (σ : Int) := by omega
      have n6b : (τ : Int) * 8 + (σ : Int) < (manyN xs : Int) * 8 := by omega
      have n6d : (τ : Int) * 8 + (σ : Int) < ((manyN xs * 8 : Nat) : Int) := by omega
      have n6c : ((τ : Int) * 8 + (σ : Int)).toNat = τ * 8 + σ := by omega
      go_still_tail 19, (by kernel_rfl)
      change wpList _ _ _ _ _ wr.drew
      clear n1 n2 n3 n6 n6a n6b n6c n6d
      go_wp2_with fail
      go_roundw
      case rel =>
        obtain ⟨h1, h2⟩ := HSt.out
        exact ⟨k + 1, by omega, by go_num, by rw [HE.out]; exact h1.drew, grown_trans hg (grown_drew h2)⟩
      case measure => simp [intOf]; omega
    · obtain rfl : k = l.length := by omega
      go_wp2_with fail
      go_ret
      rw [List.take_length] at ho
      rw [HWC.out]
      exact ⟨g, _, c1, rfl, by rcases ho.form with ⟨h, _⟩ | ⟨_, _, _, _, _, h⟩; cases h; exact h, ho.more (Nat.le_refl _) (by omega), below_of_grown b02 hg hgl.1⟩

theorem counts_bound (l : List Cm) (hl : l.length ≤ 1296) (j : Nat) : 0 ≤ (countsC l).getD j 0 ∧ (countsC l).getD j 0 ≤ 1296 := by
  obtain ⟨_, h⟩ := cnt_take l l.length
  have := h j
  rw [List.take_length] at this
  unfold countsC
  omega
theorem wt_head {xs : List Int} (h : hasHead xs = true) (k : Nat) : hasHead (wtTo xs (countsC (claimsC xs)) (blocksC (claimsC xs)) k) = true ∧ headOf (wtTo xs (countsC (claimsC xs)) (blocksC (claimsC xs)) k) = headOf xs := by
  induction k with
  | zero => exact head_whole h
  | succ k ih =>
    have e : wtTo xs (countsC (claimsC xs)) (blocksC (claimsC xs)) (k + 1) = wtStep (countsC (claimsC xs)) (blocksC (claimsC xs)) (wtTo xs (countsC (claimsC xs)) (blocksC (claimsC xs)) k) k := by unfold wtTo; rw [range_fold_s]
    rw [e]
    unfold wtStep
    split
    · rename_i hv
      rcases blocks_there xs (k / 8) with hb | hb
      · exact absurd hb hv
      · have := there_lt hb
        have hc := counts_bound (claimsC xs) (claims_length xs) k
        obtain ⟨h1, h2⟩ := set_head (j := ((blocksC (claimsC xs)).getD (k / 8) 0).toNat * 8 + k % 8) (x := (countsC (claimsC xs)).getD k 0) ih.1 (by omega) (inB_true.2 (by omega))
        exact ⟨h1, h2.trans ih.2⟩
    · exact ih
theorem write_head {xs : List Int} (h : hasHead xs = true) : hasHead (writeC xs) = true ∧ headOf (writeC xs) = headOf xs := wt_head h 64
theorem write_length (xs : List Int) : (writeC xs).length = manyN xs * 8 := wt_length _ _ _ _

theorem fix_head {refs : Nat} (hr : 1 ≤ refs) : ∀ (k : Nat) (xs ys : List Int), hasHead xs = true → fixBlocks refs k xs = some ys → hasHead ys = true ∧ headOf ys = headOf xs
  | 0, xs, ys, h, e => by
    unfold fixBlocks at e
    split at e
    · cases e; exact ⟨h, rfl⟩
    · cases e
  | k + 1, xs, ys, h, e => by
    unfold fixBlocks at e
    split at e
    · cases e; exact ⟨h, rfl⟩
    · split at e
      · cases e
      · rename_i _ hm
        obtain ⟨h1, h2⟩ := block_head (refs := refs) h (by omega) hr
        obtain ⟨h3, h4⟩ := fix_head hr k _ ys h1 e
        exact ⟨h3, h4.trans h2⟩
/-- What is counted anew is nothing, or has a head, and is whole. -/
theorem counted_head (xs : List Int) : countedL xs = [] ∨ (hasHead (countedL xs) = true ∧ (countedL xs).length % 8 = 0) := by
  unfold countedL
  split
  · rename_i hq
    have hh := ready_head hq
    have key : ∀ ys, hasHead ys = true → thereB ys (headOf ys).refs = true → countEnd (blocksL ys) = [] ∨ (hasHead (countEnd (blocksL ys)) = true ∧ (countEnd (blocksL ys)).length % 8 = 0) := by
      intro ys hy ht
      have := there_lt ht
      cases hb : blocksL ys with
      | none => exact .inl rfl
      | some zs =>
        obtain ⟨h1, h2⟩ := fix_head (refs := (headOf ys).refs.toNat) (by omega) 64 ys zs hy hb
        exact .inr ⟨(write_head h1).1, by show (writeC zs).length % 8 = 0; rw [write_length]; omega⟩
    unfold countBase
    split
    · split
      · rename_i _ hm
        obtain ⟨h1, h2, h3⟩ := refsL_head hh hm
        refine key _ h1 ?_
        rw [h2, thereB, inB_true]
        have hm1 : manyN (refsL xs) = manyN xs + 1 := by show ((refsL xs).length + 7) / 8 = _; rw [h3]; omega
        rw [hm1]
        have := many_whole xs
        have := whole_pos hh
        simp only
        omega
      · exact .inl rfl
    · rename_i hr0
      refine key _ (head_whole hh).1 ?_
      rw [there_many (many_whole xs), (head_whole hh).2]
      exact ready_refs hq hr0
  · exact .inl rfl

def doneL (xs : List Int) : List Int := if (countedL xs).length = 0 then [] else ownedC (countedL xs)

set_option maxHeartbeats 4000000 in
theorem specDone_any (A : Option Addr) (n cb : Nat) (xs : List Int) (w : World) (hr : Rd w w.heap.size A n xs) (hn : n ≤ 2097152) :
    Calls Tryz.prog 24 #[.slice A n cb] w (Ret w (doneL xs)) := by
  go_enter Tryz.func24, Tryz.ntmps24
  go_wp2_with fail
  refine (specCounted_any A n cb xs w hr hn).mono ?_
  rintro e w1 ⟨A1, n1, c1, rfl, o1, b1⟩
  have HL := Lib.hid o1.len
  have HCH := Lib.hid (counted_head xs)
  have HDN : Hid (doneL xs = if (countedL xs).length = 0 then [] else ownedC (countedL xs)) := rfl
  generalize countedL xs = ys at *
  by_cases h0 : n1 = 0
  · subst h0
    have hd : (((0 : Nat) : Int) == 0) = true := by simp
    have HE : Hid (doneL xs = ys) := by
      rw [HDN.out, HL.out, if_pos rfl]; exact (List.eq_nil_of_length_eq_zero HL.out).symm
    go_wp2_with fail
    go_ret
    rw [HE.out]
    exact ⟨A1, 0, c1, rfl, o1, b1⟩
  · have hd : ((n1 : Int) == 0) = false := by rw [beq_eq_false_iff_ne]; omega
    have HE : Hid (doneL xs = ownedC ys) := by rw [HDN.out, HL.out, if_neg h0]; exact rfl
    have hhy : hasHead ys = true := by
      rcases HCH.out with h | h
      · rw [h] at HL; exact absurd HL.out.symm h0
      · exact h.1
    go_wp2_with fail
    refine (specOwned_any A1 n1 c1 ys w1 o1.rd hhy).mono ?_
    rintro e w2 ⟨g2, n2, c2, rfl, _, o2, b2⟩
    go_wp2_with fail
    go_ret
    rw [HE.out]
    exact ⟨_, n2, c2, rfl, o2.more b1.size (Nat.le_refl _), below_more b1 b2 b1.size⟩

theorem sound_img {xs : List Int} (h : soundB xs = true) : imgB xs = true := by unfold soundB at h; rw [Bool.and_eq_true] at h; exact h.1
theorem sound_none {xs : List Int} (h : soundB xs = true) : defectsL xs = [] := by
  unfold soundB at h
  rw [Bool.and_eq_true, decide_eq_true_eq] at h
  exact List.eq_nil_of_length_eq_zero h.2
theorem sound_head {xs : List Int} (h : soundB xs = true) : hasHead xs = true := by
  have hn := sound_none h
  unfold defectsL at hn
  rw [sound_img h, if_pos rfl] at hn
  split at hn
  · assumption
  · cases hn
theorem sound_d5 {xs : List Int} (h : soundB xs = true) : d5L xs = [] := by
  have hn := sound_none h
  unfold defectsL at hn
  rw [sound_img h, if_pos rfl, sound_head h, if_pos rfl] at hn
  exact hn
theorem sound_parts {xs : List Int} (h : soundB xs = true) : xs.length % 8 = 0 ∧ looseL xs = [] ∧ wrongsC xs = [] := by
  have h5 := sound_d5 h
  unfold d5L at h5
  rw [List.append_eq_nil_iff] at h5
  obtain ⟨h4, hw⟩ := h5
  unfold d4L at h4
  rw [List.append_eq_nil_iff] at h4
  obtain ⟨h3, _⟩ := h4
  have h2 : d2L xs = [] := by
    unfold d3L at h3
    split at h3
    · rw [List.append_eq_nil_iff] at h3; exact h3.1
    · exact h3
  unfold d2L at h2
  rw [List.append_eq_nil_iff] at h2
  obtain ⟨h1, hl⟩ := h2
  refine ⟨?_, by simpa using hl, by simpa using hw⟩
  unfold d1L at h1
  split at h1
  · cases h1
  · omega
theorem sound_good {xs : List Int} (h : soundB xs = true) {c : Cm} (hc : c ∈ claimsC xs) : c.good = true := by
  have hl := (sound_parts h).2.1
  unfold looseL claimsL at hl
  rw [sound_head h, if_pos rfl] at hl
  cases hg : c.good
  · have : c ∈ (claimsC xs).filter (fun c => !c.good) := by rw [List.mem_filter]; exact ⟨hc, by simp [hg]⟩
    rw [hl] at this
    cases this
  · rfl

theorem sound_first {xs : List Int} (h : soundB xs = true) : thereB xs (headOf xs).first = true ∧ (headOf xs).first ∈ firstsC (c4C xs (headOf xs)) := by
  have hm := first_claim xs
  have hg := sound_good h ((c6_prefix xs _).subset ((c5_prefix xs _).subset hm))
  simp only at hg
  refine ⟨goodB_there hg, ?_⟩
  unfold firstsC
  rw [List.mem_map]
  refine ⟨_, List.mem_filter.2 ⟨hm, ?_⟩, rfl⟩
  simp [hg]
theorem firstEntry_sound {xs : List Int} (h : soundB xs = true) (s : Nat) (hs : s < 8) : firstEntry xs 0 s = (cl xs (headOf xs).first.toNat).getD s 0 := by
  have hh := sound_head h
  have hf := (sound_first h).1
  have e : tableL xs (firstOf xs 0) = cl xs (headOf xs).first.toNat := by rw [firstOf_zero hh, tableL_in hh hf]
  unfold firstEntry
  rw [e, cl_length, if_pos (inB_true.2 (by omega))]
  simp
theorem entryAt_sound {xs : List Int} (h : soundB xs = true) (g : Nat) (hg : (g : Int) < (headOf xs).size) : entryAt xs 0 g = (tableL xs (targetOf (firstEntry xs 0 ((g / 8 : Nat) : Int)))).getD (g % 8) 0 := by
  rw [entryAt_in (sound_head h) (inB_true.2 (by omega)), show ((g : Int) / 8) = ((g / 8 : Nat) : Int) by omega, show ((g : Int) % 8).toNat = g % 8 by omega]
/-- An entry of the disk leads to a cluster that is there. -/
theorem sound_entry {xs : List Int} (h : soundB xs = true) (g : Nat) (hg : (g : Int) < (headOf xs).size) (ht : targetOf (entryAt xs 0 g) ≠ 0) : thereB xs (targetOf (entryAt xs 0 g)) = true := by
  have hh := sound_head h
  have hsz := headB_all (hasHead_ok hh)
  have hg8 : g / 8 < 8 := by omega
  rw [entryAt_sound h g hg] at ht ⊢
  have hfe := firstEntry_sound h (g / 8) hg8
  generalize firstEntry xs 0 ((g / 8 : Nat) : Int) = e1 at *
  cases hth : thereB xs (targetOf e1)
  · rw [tableL_out hth] at ht
    exact absurd rfl ht
  · rw [tableL_in hh hth] at ht ⊢
    have htl := there_lt hth
    obtain ⟨c, hc, hk, _, _, _, htc⟩ := second_claim (sound_first h).2 (g / 8) hg8 (by rw [← hfe]; omega)
    rw [← hfe] at htc
    have hcg := sound_good h ((c6_prefix xs _).subset hc)
    rw [← htc] at ht ⊢
    obtain ⟨d, hd, hdk, _, _, hdt⟩ := data_claim hc hk hcg (g % 8) (by omega) ht
    have hdg := sound_good h hd
    rcases (claims_ok xs d hd).lead hdg with h1 | h1
    · omega
    · rw [hdt] at h1; exact h1

def z8 : List Int := List.replicate 8 0
/-- The second table of a slot, that may be written into. -/
def secondL (xs : List Int) (slot : Nat) : Option (List Int × Nat) :=
  if targetOf (firstEntry xs 0 slot) ≠ 0 ∧ ownIn (firstEntry xs 0 slot) = true then some (xs, (targetOf (firstEntry xs 0 slot)).toNat)
  else (if manyN xs < 64 then some ((moreL xs (if targetOf (firstEntry xs 0 slot) ≠ 0 then cl xs (targetOf (firstEntry xs 0 slot)).toNat else z8)).set ((headOf xs).first.toNat * 8 + slot) (manyN xs), manyN xs) else none)

def RetSec (w : World) (r : Option (List Int × Nat)) (e : Ending) (w' : World) : Prop :=
  (∃ ys t A n c, r = some (ys, t) ∧ e = .returned (.tuple #[.slice A n c, .int .i64 (t : Nat), .bool true]) ∧ Rd w' w'.heap.size A n ys ∧ Below w.heap.size w w') ∨
  (∃ g, r = none ∧ e = .returned (.tuple #[.slice (some ⟨g, 0, none⟩) 0 0, .int .i64 0, .bool false]) ∧ Below w.heap.size w w')

theorem target_nonneg {e : Int} (hw : wordB e = true) : 0 ≤ targetOf e ∧ targetOf e ≤ 32767 := by
  rw [targetOf_yes hw] at *; have := word_bounds hw; omega
theorem firstEntry_word {xs : List Int} (h : soundB xs = true) (s : Nat) (hs : s < 8) : wordB (firstEntry xs 0 s) = true := by
  rw [firstEntry_sound h s hs, cl_word_get _ _ _ hs, wordB, inB_true]
  exact word_get (sound_img h) _

set_option maxRecDepth 100000 in
set_option maxHeartbeats 8000000 in
theorem specSecond_any (A : Option Addr) (n cb : Nat) (xs : List Int) (slot : Nat) (w : World) (hr : Rd w w.heap.size A n xs) (hs : soundB xs = true) (h8 : slot < 8) :
    Calls Tryz.prog 22 #[.slice A n cb, .int .i64 slot] w (RetSec w (secondL xs slot)) := by
  obtain ⟨i0, hi0, hz0, hz1, hz2⟩ := info_parts info2
  have hh := sound_head hs
  have hlen := hasHead_len hh
  have hn : n ≤ 512 := by have := hr.len; omega
  have hmany := manyN_le (hasHead_img hh)
  obtain ⟨f1, f2⟩ := there_lt (sound_first hs).1
  have HFW := Lib.hid (firstEntry_word hs slot h8)
  have HF0 := Lib.hid (firstOf_zero hh)
  have HS : Hid (secondL xs slot = if targetOf (firstEntry xs 0 slot) ≠ 0 ∧ ownIn (firstEntry xs 0 slot) = true then some (xs, (targetOf (firstEntry xs 0 slot)).toNat)
    else (if manyN xs < 64 then some ((moreL xs (if targetOf (firstEntry xs 0 slot) ≠ 0 then cl xs (targetOf (firstEntry xs 0 slot)).toNat else z8)).set ((headOf xs).first.toNat * 8 + slot) (manyN xs), manyN xs) else none)) := rfl
  generalize (headOf xs).first = φ at *
  obtain ⟨fi, rfl⟩ := Int.eq_ofNat_of_zero_le (show 0 ≤ φ by omega)
  rw [Int.toNat_natCast] at HS
  clear hs hh
  go_enter Tryz.func22, Tryz.ntmps22
  go_wp2_with fail
  refine (specFirstEntry_any A n cb xs 0 slot w hr (by omega)).mono ?_
  rintro e w1 ⟨rfl, b1⟩
  generalize firstEntry xs 0 slot = e1 at *
  go_wp2_with fail
  refine (specTarget_any _ _).mono ?_
  rintro e w' ⟨rfl, rfl⟩
  have HTG := Lib.hid (target_nonneg (e := e1) HFW.out)
  generalize targetOf e1 = at1 at *
  -- the words that a new second table has
  by_cases h0 : at1 = 0
  case' pos =>
    subst h0
    have hd : ((0 : Int) != 0) = false := by simp
    have HS2 : Hid (secondL xs slot = if manyN xs < 64 then some ((moreL xs z8).set (fi * 8 + slot) (manyN xs), manyN xs) else none) := by rw [HS.out]; simp [Hid]
    go_wp2_with (at_make; refine wpList_make_full _ rfl _ _ 22 rfl w1.heap.size 2 i0 (.int .i64 0) 1 Tryz.underlying22 hi0 hz0 hz1 .i64 .i64 _ _ 8 rfl rfl rfl rfl (by rw [hz2]; omega) (by simp only [maxLen]; omega) (Nat.le_refl _) ?_; intro w2 hown hg2; rw [made_iv] at hown)
    have b2 : Below w1.heap.size w1 w2 := below_grown hg2 (Nat.le_refl _) (fun _ h => by cases h)
    have oz := zeros_ow hown
    have hltz := ow_lt oz
    have b02 := below_more b1 b2 b1.size
    have s2 := b2.size
    clear hown hg2 b2
    have rw3 : Rd w2 w2.heap.size (some ⟨w1.heap.size, 0, none⟩) 8 z8 := oz.rd.more (by omega)
    obtain ⟨w3, rfl⟩ : ∃ x, x = w2 := ⟨_, rfl⟩
    obtain ⟨ws, hws⟩ : ∃ ws, ws = z8 := ⟨_, rfl⟩
    rw [← hws] at rw3 HS2
    have HWL : Hid (ws.length = 8) := by rw [hws]; exact rfl
    have b03 := b02
    clear hws
  case' neg =>
    have hd : (at1 != 0) = true := by simpa using h0
    obtain ⟨a1, a2⟩ := HTG.out
    obtain ⟨α, rfl⟩ := Int.eq_ofNat_of_zero_le a1
    go_wp2_with (at_make; refine wpList_make_full _ rfl _ _ 22 rfl w1.heap.size 2 i0 (.int .i64 0) 1 Tryz.underlying22 hi0 hz0 hz1 .i64 .i64 _ _ 8 rfl rfl rfl rfl (by rw [hz2]; omega) (by simp only [maxLen]; omega) (Nat.le_refl _) ?_; intro w2 hown hg2; rw [made_iv] at hown)
    have b2 : Below w1.heap.size w1 w2 := below_grown hg2 (Nat.le_refl _) (fun _ h => by cases h)
    have oz := zeros_ow hown
    have hltz := ow_lt oz
    have b02 := below_more b1 b2 b1.size
    have s2 := b2.size
    clear hown hg2 b2
    refine (specCluster_any A n cb α xs w2 ((hr.below b02).more b02.size) (by omega) (by omega)).mono ?_
    rintro e w3 ⟨G, ng, cg, rfl, oG, b3⟩
    obtain rfl : 8 = ng := by have := oG.len; simpa [cl, f8_length] using this
    have b03 := below_more b02 b3 b02.size
    cases ho : ownIn e1
    case' true =>
      have HE : Hid (secondL xs slot = some (xs, α)) := by rw [HS.out, if_pos ⟨h0, ho⟩, Int.toNat_natCast]; exact rfl
      have HO := Lib.hid ho
      clear ho h0
      go_wp2_with fail
      refine (specOwn_any _ _).mono ?_
      rintro e w' ⟨rfl, rfl⟩
      rw [HO.out]
      go_wp2_with fail
      go_ret3
      exact .inl ⟨xs, α, A, n, cb, HE.out, rfl, (hr.below b03).more b03.size, b03⟩
    have HS2 : Hid (secondL xs slot = if manyN xs < 64 then some ((moreL xs (cl xs α)).set (fi * 8 + slot) (manyN xs), manyN xs) else none) := by
      have hα : ¬ α = 0 := by omega
      rw [HS.out, ho, Int.toNat_natCast]; simp [hα, Hid]
    have HO := Lib.hid ho
    clear ho h0
    go_wp2_with fail
    refine (specOwn_any _ _).mono ?_
    rintro e w' ⟨rfl, rfl⟩
    rw [HO.out]
    have rw3 := oG.rd
    have HWL := Lib.hid (cl_length xs α)
    clear oG b3
    generalize cl xs α = ws at *
    go_wp2_with fail
  all_goals
    refine (specMore_any A n cb xs _ _ ws w3 ((hr.below b03).more b03.size) rw3 (by omega)).mono ?_
    rintro e w4 (⟨h64, g4, n4, c4, rfl, hc4, o4, b4⟩ | ⟨h64, g4, rfl, b4⟩)
    · have HE : Hid (secondL xs slot = some ((moreL xs ws).set (fi * 8 + slot) (manyN xs), manyN xs)) := by rw [HS2.out, if_pos h64]; exact rfl
      have b04 := below_more b03 b4 b03.size
      have hn4 := o4.len
      rw [more_length _ _ HWL.out] at hn4
      have hidx : fi * 8 + slot < n4 := by omega
      have hg4 : w.heap.size ≤ g4 := by
        rcases o4.form with ⟨h, _⟩ | ⟨x, hx, h1, h2, _⟩
        · cases h
        · injection hx with hx; injection hx with hx; have := b03.size; omega
      clear hn4
      go_wp2_with fail
      refine (specFirstOf_any A n cb xs 0 w4 ((hr.below b04).more b04.size) (by omega)).mono ?_
      rintro e w5 ⟨rfl, b5⟩
      rw [HF0.out]
      have o5 := o4.below b5 (Nat.le_refl _)
      have b05 := below_more b04 b5 b04.size
      have hco := o5.cell hidx
      have hfo := o5.free (fi * 8 + slot)
      have HSt := Lib.hid (o5.set (fi * 8 + slot) (manyN xs))
      have s5 := b5.size
      clear o4 o5
      go_wp2_with fail
      go_ret3
      obtain ⟨o6, hg6⟩ := HSt.out
      refine .inl ⟨_, _, some ⟨g4, 0, none⟩, n4, c4, HE.out, rfl, o6.rd.more (Nat.le_trans s5 hg6.size), b05.grown hg6 b05.size (fun q e => by cases e; exact hg4)⟩
    · have HE : Hid (secondL xs slot = none) := by rw [HS2.out, if_neg (by omega)]; exact rfl
      have b04 := below_more b03 b4 b03.size
      go_wp2_with fail
      go_ret3
      exact .inr ⟨w4.heap.size, HE.out, rfl, b04.alloc b04.size _⟩

def writeNew (g : Nat) (ws : List Int) : Option (List Int × Nat) → List Int
  | none => []
  | some (ys, t) => if manyN ys < 64 then doneL ((moreL ys ws).set (t * 8 + g % 8) (manyN ys)) else []
def writeMid (xs : List Int) (g : Nat) (ws : List Int) : List Int :=
  if (ownIn (firstEntry xs 0 ((g / 8 : Nat) : Int)) && ownIn (entryAt xs 0 g)) = true then setCl xs (targetOf (entryAt xs 0 g)).toNat ws else writeNew g ws (secondL xs (g / 8))
def writtenL (xs : List Int) (g : Int) (ws : List Int) : List Int :=
  if soundB xs = true ∧ inB g 0 ((headOf xs).size - 1) = true ∧ eightB ws = true then writeMid xs g.toNat ws else []

theorem second_ok {xs : List Int} (h : soundB xs = true) {s : Nat} (hs : s < 8) {ys : List Int} {t : Nat} (e : secondL xs s = some (ys, t)) : t ≤ manyN ys ∧ ys.length ≤ 520 := by
  have hh := sound_head h
  have hl := hasHead_len hh
  have hm := manyN_le (hasHead_img hh)
  unfold secondL at e
  split at e
  · rename_i hc
    cases e
    have hfe := firstEntry_sound h s hs
    obtain ⟨c, hcm, hk, _, _, _, htc⟩ := second_claim (sound_first h).2 s hs (by rw [← hfe]; exact hc.1)
    rw [← hfe] at htc
    have hcg := sound_good h ((c6_prefix xs _).subset hcm)
    rcases (claims_ok xs c ((c6_prefix xs _).subset hcm)).lead hcg with h1 | h1
    · omega
    · rw [htc] at h1
      have := there_lt h1
      omega
  · split at e
    · rename_i hm64
      cases e
      have h8 : (if targetOf (firstEntry xs 0 s) ≠ 0 then cl xs (targetOf (firstEntry xs 0 s)).toNat else z8).length = 8 := by split; exact cl_length _ _; rfl
      rw [set_many, more_many _ _ h8, List.length_set, more_length _ _ h8]
      omega
    · cases e
theorem own_target {e : Int} (h : ownIn e = true) : wordB e = true ∧ 0 ≤ targetOf e := by
  unfold ownIn at h
  rw [Bool.and_eq_true] at h
  exact ⟨h.1, (target_nonneg h.1).1⟩
theorem rd_some {w : World} {B n : Nat} {A : Option Addr} {xs : List Int} (h : Rd w B A n xs) (hn : 0 < n) : ∃ b off, A = some ⟨b, off, none⟩ := by
  obtain ⟨b, off, e, _⟩ := h.2 hn
  exact ⟨b, off, e⟩

set_option maxRecDepth 100000 in
set_option maxHeartbeats 8000000 in
theorem specWritten_any (A : Option Addr) (n cb : Nat) (xs : List Int) (g : Int) (W : Option Addr) (nw cw : Nat) (ws : List Int) (w : World) (hr : Rd w w.heap.size A n xs) (hc : n ≤ cb) (hw : Rd w w.heap.size W nw ws) (hn : n ≤ 2097152) (hnw : nw ≤ 2097152) :
    Calls Tryz.prog 5 #[.slice A n cb, .int .i64 g, .slice W nw cw] w (Ret w (writtenL xs g ws)) := by
  have hno : ¬ (soundB xs = true ∧ inB g 0 ((headOf xs).size - 1) = true ∧ eightB ws = true) → writtenL xs g ws = [] := fun h => by unfold writtenL; rw [if_neg h]
  have HNO := Lib.hid hno
  clear hno
  go_enter Tryz.func5, Tryz.ntmps5
  go_wp2_with fail
  refine (specHeadIn_any _ _ _ xs _ hr hn).mono ?_
  rintro e w1 ⟨rfl, b1⟩
  generalize hh : headIn xs = r
  obtain ⟨⟨s, f, r, u, m⟩, is⟩ := r
  have HR := Lib.hid hh
  clear hh
  unfold hdV
  have b2 := b1.alloc b1.size (.cells #[.int .i64 s, .int .i64 f, .int .i64 r, .int .i64 u, .int .i64 m] 31)
  have c0 : (w1.alloc (.cells #[.int .i64 s, .int .i64 f, .int .i64 r, .int .i64 u, .int .i64 m] 31)).cell? ⟨w1.heap.size, 0, none⟩ = some (.int .i64 s) := World.cell?_alloc_new _ _ _ _
  have hz : (w1.alloc (.cells #[.int .i64 s, .int .i64 f, .int .i64 r, .int .i64 u, .int .i64 m] 31)).heap.size = w1.heap.size + 1 := by simp
  have HZ := Lib.hid hz
  clear hz
  go_wp2_with fail
  refine (specSound_any A n cb xs _ ((hr.below b2).more b2.size) hn).mono ?_
  rintro e w3 ⟨rfl, b3⟩
  have b03 := below_more b2 b3 b2.size
  have q0 : w3.cell? ⟨w1.heap.size, 0, none⟩ = some (.int .i64 s) := (b3.cell (p := ⟨w1.heap.size, 0, none⟩) (by show w1.heap.size < _; have := HZ.out; omega)).trans c0
  clear b3 b2 c0 HZ
  cases hsd : soundB xs
  · have HN := Lib.hid (HNO.out (by rw [hsd]; simp))
    clear hsd
    go_wp2_with fail
    go_ret
    rw [HN.out]
    exact Ret.emptyAt _ rfl b03
  have hh := sound_head hsd
  have his : is = true ∧ headOf xs = ⟨s, f, r, u, m⟩ := by
    have e := HR.out
    rw [headIn_yes hh] at e
    cases e; exact ⟨rfl, rfl⟩
  obtain ⟨rfl, hho⟩ := his
  have hall := headB_all (hasHead_ok hh)
  have HHO := Lib.hid hho
  rw [hho] at hall
  obtain ⟨⟨z1, z2⟩, _⟩ := hall
  simp only at z1 z2
  have HSD := Lib.hid hsd
  clear hsd hho
  cases hig : inB g 0 (s - 1)
  · have HN := Lib.hid (HNO.out (by rw [HHO.out, hig]; simp))
    have HIG := Lib.hid hig
    clear hig
    go_wp2_with fail
    refine (in_any _ _ _ _).mono ?_
    rintro e w' ⟨rfl, rfl⟩
    rw [HIG.out]
    go_wp2_with fail
    go_ret
    rw [HN.out]
    exact Ret.emptyAt _ rfl b03
  have HIG := Lib.hid hig
  obtain ⟨g0, g1⟩ := inB_true.1 hig
  obtain ⟨γ, rfl⟩ := Int.eq_ofNat_of_zero_le g0
  clear hig
  go_wp2_with fail
  refine (in_any _ _ _ _).mono ?_
  rintro e w' ⟨rfl, rfl⟩
  rw [HIG.out]
  go_wp2_with fail
  refine (specEight_any _ _ _ ws _ _ ((hw.below b03)) hnw).mono ?_
  rintro e w' ⟨rfl, rfl⟩
  cases h8 : eightB ws
  · have HN := Lib.hid (HNO.out (by rw [h8]; simp))
    clear h8
    go_wp2_with fail
    go_ret
    rw [HN.out]
    exact Ret.emptyAt _ rfl b03
  have HM : Hid (writtenL xs γ ws = writeMid xs γ ws) := by
    unfold writtenL; rw [if_pos ⟨HSD.out, by rw [HHO.out]; exact HIG.out, h8⟩, Int.toNat_natCast]; exact rfl
  have hw8 := eightB_len h8
  obtain rfl : nw = 8 := hw.len.symm.trans hw8
  have hlen := hasHead_len hh
  have hx := hr.len
  have hn512 : n ≤ 512 := by omega
  obtain ⟨ab, aoff, rfl⟩ := rd_some hr (by omega)
  have hpar := (sound_parts HSD.out).1
  have HX := Lib.hid hx
  have HMN : Hid (manyN xs * 8 = n) := by show _ = _; unfold manyN; omega
  have HSE := Lib.hid (sound_entry HSD.out γ (by rw [HHO.out]; show (γ : Int) < s; omega))
  have HW8 := Lib.hid hw8
  have r3 := (hr.below b03).more b03.size
  have rw3 := (hw.below b03).more b03.size
  clear h8 hw8 hx HNO HR
  go_wp2_with fail
  refine (specEntryAt_any _ n cb xs 0 γ w3 r3 hn).mono ?_
  rintro e w4 ⟨rfl, b4⟩
  have b04 := below_more b03 b4 b03.size
  have HMD : Hid (writeMid xs γ ws = if (ownIn (firstEntry xs 0 ((γ / 8 : Nat) : Int)) && ownIn (entryAt xs 0 γ)) = true then setCl xs (targetOf (entryAt xs 0 γ)).toNat ws else writeNew γ ws (secondL xs (γ / 8))) := rfl
  generalize entryAt xs 0 γ = e2 at *
  go_wp2_with fail
  have e8 : ((γ / 8 : Nat) : Int) = (γ : Int) / 8 := by omega
  rw [e8] at HMD
  have E8 := Lib.hid e8
  clear e8
  refine (specFirstEntry_any _ n cb xs 0 ((γ : Int) / 8) w4 ((hr.below b04).more b04.size) hn).mono ?_
  rintro e w5 ⟨rfl, b5⟩
  have b05 := below_more b04 b5 b04.size
  generalize firstEntry xs 0 ((γ : Int) / 8) = e1 at *
  go_wp2_with fail
  refine (specOwn_any _ _).mono ?_
  rintro e w' ⟨rfl, rfl⟩
  have hγ8 : γ / 8 < 8 := by omega
  cases ho1 : ownIn e1
  case' false =>
    have HNW : Hid (writtenL xs γ ws = writeNew γ ws (secondL xs (γ / 8))) := by rw [HM.out, HMD.out, ho1]; exact rfl
    clear ho1
    go_wp2_with fail
  case' true =>
    have HO1 := Lib.hid ho1
    clear ho1
    go_wp2_with fail
    refine (specOwn_any _ _).mono ?_
    rintro e w' ⟨rfl, rfl⟩
    cases ho2 : ownIn e2
    case' true =>
      have HNW : Hid (writtenL xs γ ws = setCl xs (targetOf e2).toNat ws) := by rw [HM.out, HMD.out, HO1.out, ho2]; exact rfl
      have ht0 := (own_target ho2).2
      clear ho2
      go_wp2_with fail
      refine (specTarget_any _ _).mono ?_
      rintro e w' ⟨rfl, rfl⟩
      generalize targetOf e2 = t2 at *
      obtain ⟨τ, rfl⟩ := Int.eq_ofNat_of_zero_le ht0
      have hτ : τ * 8 ≤ n := by
        by_cases h0 : τ = 0
        · omega
        · have := there_lt (HSE.out (by omega))
          have := HMN.out
          omega
      go_wp2_with fail
      refine (specWith_any ab aoff n cb τ xs ws W cw w5 ((hr.below b05).more b05.size) ((hw.below b05).more b05.size) hc hn (by have := HMN.out; omega) hτ).mono ?_
      rintro e w6 ⟨A6, n6, c6, rfl, o6, b6⟩
      go_wp2_with fail
      go_ret
      rw [HNW.out, Int.toNat_natCast]
      exact ⟨A6, n6, c6, rfl, o6.more b05.size (Nat.le_refl _), below_more b05 b6 b05.size⟩
    have HNW : Hid (writtenL xs γ ws = writeNew γ ws (secondL xs (γ / 8))) := by rw [HM.out, HMD.out, HO1.out, ho2]; exact rfl
    clear ho2 HO1
    go_wp2_with fail
  all_goals
    rw [← E8.out]
    refine (specSecond_any _ n cb xs (γ / 8) w5 ((hr.below b05).more b05.size) HSD.out hγ8).mono ?_
    rintro e w6 (⟨ys, t, A6, n6, c6, hsec, rfl, r6, b6⟩ | ⟨g6, hsec, rfl, b6⟩)
    · obtain ⟨k1, k2⟩ := second_ok HSD.out hγ8 hsec
      have hn6 := r6.len
      have hn6' : n6 ≤ 520 := by omega
      have HNW2 : Hid (writtenL xs γ ws = if manyN ys < 64 then doneL ((moreL ys ws).set (t * 8 + γ % 8) (manyN ys)) else []) := by rw [HNW.out, hsec]; exact rfl
      have b06 := below_more b05 b6 b05.size
      clear hsec hn6 HNW
      go_wp2_with fail
      refine (specMore_any A6 n6 c6 ys W cw ws w6 r6 ((hw.below b06).more b06.size) (by omega)).mono ?_
      rintro e w7 (⟨h64, g7, n7, c7, rfl, hc7, o7, b7⟩ | ⟨h64, g7, rfl, b7⟩)
      · have HNW3 : Hid (writtenL xs γ ws = doneL ((moreL ys ws).set (t * 8 + γ % 8) (manyN ys))) := by rw [HNW2.out, if_pos h64]; exact rfl
        have hn7 := o7.len
        rw [more_length _ _ HW8.out] at hn7
        have hidx : t * 8 + γ % 8 < n7 := by omega
        have hn7' : n7 ≤ 520 := by omega
        have hg7 : w.heap.size ≤ g7 := by
          rcases o7.form with ⟨h, _⟩ | ⟨x, hx, h1, h2, _⟩
          · cases h
          · injection hx with hx; injection hx with hx; have := b06.size; omega
        have b07 := below_more b06 b7 b06.size
        have hco := o7.cell hidx
        have hfo := o7.free (t * 8 + γ % 8)
        have HSt := Lib.hid (o7.set (t * 8 + γ % 8) (manyN ys))
        clear hn7 o7
        go_wp2_with fail
        obtain ⟨o8, hg8⟩ := HSt.out
        have b08 := b07.grown hg8 b07.size (fun q e => by cases e; exact hg7)
        have r8 := o8.rd.more hg8.size
        clear HSt hg8 o8 hco hfo
        generalize w7.setCell ⟨g7, t * 8 + γ % 8, none⟩ (.int .i64 (manyN ys)) = w8 at *
        refine (specDone_any (some ⟨g7, 0, none⟩) n7 c7 _ w8 r8 (by omega)).mono ?_
        rintro e w9 ⟨A9, n9, c9, rfl, o9, b9⟩
        go_wp2_with fail
        go_ret
        rw [HNW3.out]
        exact ⟨A9, n9, c9, rfl, o9.more b08.size (Nat.le_refl _), below_more b08 b9 b08.size⟩
      · have HNW3 : Hid (writtenL xs γ ws = []) := by rw [HNW2.out, if_neg (by omega)]; exact rfl
        go_wp2_with fail
        go_ret
        rw [HNW3.out]
        exact Ret.emptyAt _ rfl (below_more b06 b7 b06.size)
    · have HNW3 : Hid (writtenL xs γ ws = []) := by rw [HNW.out, hsec]; exact rfl
      clear hsec
      go_wp2_with fail
      go_ret
      rw [HNW3.out]
      exact Ret.emptyAt _ rfl (below_more b05 b6 b05.size)

end Go.Proofs.YtiokfhdkbpoadaaGreatDoor
