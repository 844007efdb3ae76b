/- Flags (l15Owned): the model's side. What is counted anew has a head and is whole: plain mathematics. What is done behind a change (l17Done): the model's side. What is known of a sound image: plain mathematics. A disk that is written (l17Second, Written), the model's side. A disk that is written (Written), the model's side. -/
import Derived.Test.YtibokhkohanoaabDoorQ1
import Derived.Test.YtibokhkohanoaabDoorG3
import Derived.Test.YtibokhkohanoaabDoorH0
namespace Go.Proofs.YtibokhkohanoaabDoor
open Go.RowKit

/-- Where a wrong word stands. -/
theorem wr_mem (xs : List Int) (l : List Cm) (ct : List Int) (t : Int) : ∀ (k : Nat) (o : List Wr) (x : Wr), x ∈ (List.range k).foldl (wrStep xs l ct t) o → x ∈ o ∨ (x.frm = t ∧ 0 ≤ x.slot ∧ x.slot < k) := by
  intro k
  induction k with
  | zero => intro o x h; exact .inl h
  | succ k ih =>
    intro o x h
    rw [range_fold] at h
    unfold wrStep at h
    split at h
    · rw [List.mem_append] at h
      rcases h with h | h
      · rcases ih o x h with h1 | ⟨h1, h2, h3⟩
        · exact .inl h1
        · exact .inr ⟨h1, h2, by omega⟩
      · rw [List.mem_singleton] at h
        subst h
        exact .inr ⟨rfl, by simp, by simp; omega⟩
    · rcases ih o x h with h1 | ⟨h1, h2, h3⟩
      · exact .inl h1
      · exact .inr ⟨h1, h2, by omega⟩
theorem wrR_mem (xs : List Int) (l : List Cm) (ct : List Int) : ∀ (ts : List Int) (o : List Wr) (x : Wr), x ∈ ts.foldl (wrRound xs l ct) o → x ∈ o ∨ (x.frm ∈ ts ∧ 0 ≤ x.slot ∧ x.slot < 8) := by
  intro ts
  induction ts with
  | nil => intro o x h; exact .inl h
  | cons t ts ih =>
    intro o x h
    rw [List.foldl_cons] at h
    rcases ih _ x h with h1 | ⟨h1, h2⟩
    · rcases wr_mem xs l ct t 8 o x h1 with h3 | ⟨h3, h4, h5⟩
      · exact .inl h3
      · exact .inr ⟨by rw [h3]; simp, h4, h5⟩
    · exact .inr ⟨by simp [h1], h2⟩
theorem wrongs_at {xs : List Int} {x : Wr} (h : x ∈ wrongsC xs) : thereB xs x.frm = true ∧ 0 ≤ x.slot ∧ x.slot < 8 := by
  rcases wrR_mem _ _ _ _ _ _ h with h1 | ⟨h1, h2⟩
  · cases h1
  · exact ⟨tables_there h1, h2⟩

def owStep (o : List Int) (x : Wr) : List Int := o.set (x.frm.toNat * 8 + x.slot.toNat) x.must
def ownedC (xs : List Int) : List Int := (wrongsC xs).foldl owStep (whole xs)
theorem ow_length (l : List Wr) : ∀ o : List Int, (l.foldl owStep o).length = o.length := by
  induction l with
  | nil => intro o; rfl
  | cons x l ih => intro o; rw [List.foldl_cons, ih]; simp [owStep]
theorem owned_length (xs : List Int) : (ownedC xs).length = manyN xs * 8 := by unfold ownedC; rw [ow_length, whole_length]

def OwRel (w2 : World) (lo hi g n c : Nat) (xs : List Int) (l : List Wr) (i : Value) (wr : World) : Prop :=
  ∃ k : Nat, k ≤ l.length ∧ i = .int .i64 k ∧ Ow wr lo hi (some ⟨g, 0, none⟩) n c ((l.take k).foldl owStep (whole xs)) ∧ w2.grownBy wr (some g)

theorem counts_bound (l : List Cm) (hl : l.length ≤ 1296) (j : Nat) : 0 ≤ (countsC l).getD j 0 ∧ (countsC l).getD j 0 ≤ 1296 := by
  obtain ⟨_, h⟩ := cnt_take l l.length
  have := h j
  rw [List.take_length] at this
  unfold countsC
  omega
theorem wt_head {xs : List Int} (h : hasHead xs = true) (k : Nat) : hasHead (wtTo xs (countsC (claimsC xs)) (blocksC (claimsC xs)) k) = true ∧ headOf (wtTo xs (countsC (claimsC xs)) (blocksC (claimsC xs)) k) = headOf xs := by
  induction k with
  | zero => exact head_whole h
  | succ k ih =>
    have e : wtTo xs (countsC (claimsC xs)) (blocksC (claimsC xs)) (k + 1) = wtStep (countsC (claimsC xs)) (blocksC (claimsC xs)) (wtTo xs (countsC (claimsC xs)) (blocksC (claimsC xs)) k) k := by unfold wtTo; rw [range_fold_s]
    rw [e]
    unfold wtStep
    split
    · rename_i hv
      rcases blocks_there xs (k / 8) with hb | hb
      · exact absurd hb hv
      · have := there_lt hb
        have hc := counts_bound (claimsC xs) (claims_length xs) k
        obtain ⟨h1, h2⟩ := set_head (j := ((blocksC (claimsC xs)).getD (k / 8) 0).toNat * 8 + k % 8) (x := (countsC (claimsC xs)).getD k 0) ih.1 (by omega) (inB_true.2 (by omega))
        exact ⟨h1, h2.trans ih.2⟩
    · exact ih
theorem write_head {xs : List Int} (h : hasHead xs = true) : hasHead (writeC xs) = true ∧ headOf (writeC xs) = headOf xs := wt_head h 64
theorem write_length (xs : List Int) : (writeC xs).length = manyN xs * 8 := wt_length _ _ _ _

theorem fix_head {refs : Nat} (hr : 1 ≤ refs) : ∀ (k : Nat) (xs ys : List Int), hasHead xs = true → fixBlocks refs k xs = some ys → hasHead ys = true ∧ headOf ys = headOf xs
  | 0, xs, ys, h, e => by
    unfold fixBlocks at e
    split at e
    · cases e; exact ⟨h, rfl⟩
    · cases e
  | k + 1, xs, ys, h, e => by
    unfold fixBlocks at e
    split at e
    · cases e; exact ⟨h, rfl⟩
    · split at e
      · cases e
      · rename_i _ hm
        obtain ⟨h1, h2⟩ := block_head (refs := refs) h (by omega) hr
        obtain ⟨h3, h4⟩ := fix_head hr k _ ys h1 e
        exact ⟨h3, h4.trans h2⟩
/-- What is counted anew is nothing, or has a head, and is whole. -/
theorem counted_head (xs : List Int) : countedL xs = [] ∨ (hasHead (countedL xs) = true ∧ (countedL xs).length % 8 = 0) := by
  unfold countedL
  split
  · rename_i hq
    have hh := ready_head hq
    have key : ∀ ys, hasHead ys = true → thereB ys (headOf ys).refs = true → countEnd (blocksL ys) = [] ∨ (hasHead (countEnd (blocksL ys)) = true ∧ (countEnd (blocksL ys)).length % 8 = 0) := by
      intro ys hy ht
      have := there_lt ht
      cases hb : blocksL ys with
      | none => exact .inl rfl
      | some zs =>
        obtain ⟨h1, h2⟩ := fix_head (refs := (headOf ys).refs.toNat) (by omega) 64 ys zs hy hb
        exact .inr ⟨(write_head h1).1, by show (writeC zs).length % 8 = 0; rw [write_length]; omega⟩
    unfold countBase
    split
    · split
      · rename_i _ hm
        obtain ⟨h1, h2, h3⟩ := refsL_head hh hm
        refine key _ h1 ?_
        rw [h2, thereB, inB_true]
        have hm1 : manyN (refsL xs) = manyN xs + 1 := by show ((refsL xs).length + 7) / 8 = _; rw [h3]; omega
        rw [hm1]
        have := many_whole xs
        have := whole_pos hh
        simp only
        omega
      · exact .inl rfl
    · rename_i hr0
      refine key _ (head_whole hh).1 ?_
      rw [there_many (many_whole xs), (head_whole hh).2]
      exact ready_refs hq hr0
  · exact .inl rfl

def doneL (xs : List Int) : List Int := if (countedL xs).length = 0 then [] else ownedC (countedL xs)

theorem sound_img {xs : List Int} (h : soundB xs = true) : imgB xs = true := by unfold soundB at h; rw [Bool.and_eq_true] at h; exact h.1
theorem sound_none {xs : List Int} (h : soundB xs = true) : defectsL xs = [] := by
  unfold soundB at h
  rw [Bool.and_eq_true, decide_eq_true_eq] at h
  exact List.eq_nil_of_length_eq_zero h.2
theorem sound_head {xs : List Int} (h : soundB xs = true) : hasHead xs = true := by
  have hn := sound_none h
  unfold defectsL at hn
  rw [sound_img h, if_pos rfl] at hn
  split at hn
  · assumption
  · cases hn
theorem sound_d5 {xs : List Int} (h : soundB xs = true) : d5L xs = [] := by
  have hn := sound_none h
  unfold defectsL at hn
  rw [sound_img h, if_pos rfl, sound_head h, if_pos rfl] at hn
  exact hn
theorem sound_parts {xs : List Int} (h : soundB xs = true) : xs.length % 8 = 0 ∧ looseL xs = [] ∧ wrongsC xs = [] := by
  have h5 := sound_d5 h
  unfold d5L at h5
  rw [List.append_eq_nil_iff] at h5
  obtain ⟨h4, hw⟩ := h5
  unfold d4L at h4
  rw [List.append_eq_nil_iff] at h4
  obtain ⟨h3, _⟩ := h4
  have h2 : d2L xs = [] := by
    unfold d3L at h3
    split at h3
    · rw [List.append_eq_nil_iff] at h3; exact h3.1
    · exact h3
  unfold d2L at h2
  rw [List.append_eq_nil_iff] at h2
  obtain ⟨h1, hl⟩ := h2
  refine ⟨?_, by simpa using hl, by simpa using hw⟩
  unfold d1L at h1
  split at h1
  · cases h1
  · omega
theorem sound_good {xs : List Int} (h : soundB xs = true) {c : Cm} (hc : c ∈ claimsC xs) : c.good = true := by
  have hl := (sound_parts h).2.1
  unfold looseL claimsL at hl
  rw [sound_head h, if_pos rfl] at hl
  cases hg : c.good
  · have : c ∈ (claimsC xs).filter (fun c => !c.good) := by rw [List.mem_filter]; exact ⟨hc, by simp [hg]⟩
    rw [hl] at this
    cases this
  · rfl

theorem sound_first {xs : List Int} (h : soundB xs = true) : thereB xs (headOf xs).first = true ∧ (headOf xs).first ∈ firstsC (c4C xs (headOf xs)) := by
  have hm := first_claim xs
  have hg := sound_good h ((c6_prefix xs _).subset ((c5_prefix xs _).subset hm))
  simp only at hg
  refine ⟨goodB_there hg, ?_⟩
  unfold firstsC
  rw [List.mem_map]
  refine ⟨_, List.mem_filter.2 ⟨hm, ?_⟩, rfl⟩
  simp [hg]
theorem firstEntry_sound {xs : List Int} (h : soundB xs = true) (s : Nat) (hs : s < 8) : firstEntry xs 0 s = (cl xs (headOf xs).first.toNat).getD s 0 := by
  have hh := sound_head h
  have hf := (sound_first h).1
  have e : tableL xs (firstOf xs 0) = cl xs (headOf xs).first.toNat := by rw [firstOf_zero hh, tableL_in hh hf]
  unfold firstEntry
  rw [e, cl_length, if_pos (inB_true.2 (by omega))]
  simp
theorem entryAt_sound {xs : List Int} (h : soundB xs = true) (g : Nat) (hg : (g : Int) < (headOf xs).size) : entryAt xs 0 g = (tableL xs (targetOf (firstEntry xs 0 ((g / 8 : Nat) : Int)))).getD (g % 8) 0 := by
  rw [entryAt_in (sound_head h) (inB_true.2 (by omega)), show ((g : Int) / 8) = ((g / 8 : Nat) : Int) by omega, show ((g : Int) % 8).toNat = g % 8 by omega]
/-- An entry of the disk leads to a cluster that is there. -/
theorem sound_entry {xs : List Int} (h : soundB xs = true) (g : Nat) (hg : (g : Int) < (headOf xs).size) (ht : targetOf (entryAt xs 0 g) ≠ 0) : thereB xs (targetOf (entryAt xs 0 g)) = true := by
  have hh := sound_head h
  have hsz := headB_all (hasHead_ok hh)
  have hg8 : g / 8 < 8 := by omega
  rw [entryAt_sound h g hg] at ht ⊢
  have hfe := firstEntry_sound h (g / 8) hg8
  generalize firstEntry xs 0 ((g / 8 : Nat) : Int) = e1 at *
  cases hth : thereB xs (targetOf e1)
  · rw [tableL_out hth] at ht
    exact absurd rfl ht
  · rw [tableL_in hh hth] at ht ⊢
    have htl := there_lt hth
    obtain ⟨c, hc, hk, _, _, _, htc⟩ := second_claim (sound_first h).2 (g / 8) hg8 (by rw [← hfe]; omega)
    rw [← hfe] at htc
    have hcg := sound_good h ((c6_prefix xs _).subset hc)
    rw [← htc] at ht ⊢
    obtain ⟨d, hd, hdk, _, _, hdt⟩ := data_claim hc hk hcg (g % 8) (by omega) ht
    have hdg := sound_good h hd
    rcases (claims_ok xs d hd).lead hdg with h1 | h1
    · omega
    · rw [hdt] at h1; exact h1

def z8 : List Int := List.replicate 8 0
/-- The second table of a slot, that may be written into. -/
def secondL (xs : List Int) (slot : Nat) : Option (List Int × Nat) :=
  if targetOf (firstEntry xs 0 slot) ≠ 0 ∧ ownIn (firstEntry xs 0 slot) = true then some (xs, (targetOf (firstEntry xs 0 slot)).toNat)
  else (if manyN xs < 64 then some ((moreL xs (if targetOf (firstEntry xs 0 slot) ≠ 0 then cl xs (targetOf (firstEntry xs 0 slot)).toNat else z8)).set ((headOf xs).first.toNat * 8 + slot) (manyN xs), manyN xs) else none)

def RetSec (w : World) (r : Option (List Int × Nat)) (e : Ending) (w' : World) : Prop :=
  (∃ ys t A n c, r = some (ys, t) ∧ e = .returned (.tuple #[.slice A n c, .int .i64 (t : Nat), .bool true]) ∧ Rd w' w'.heap.size A n ys ∧ Below w.heap.size w w') ∨
  (∃ g, r = none ∧ e = .returned (.tuple #[.slice (some ⟨g, 0, none⟩) 0 0, .int .i64 0, .bool false]) ∧ Below w.heap.size w w')

theorem target_nonneg {e : Int} (hw : wordB e = true) : 0 ≤ targetOf e ∧ targetOf e ≤ 32767 := by
  rw [targetOf_yes hw] at *; have := word_bounds hw; omega
theorem firstEntry_word {xs : List Int} (h : soundB xs = true) (s : Nat) (hs : s < 8) : wordB (firstEntry xs 0 s) = true := by
  rw [firstEntry_sound h s hs, cl_word_get _ _ _ hs, wordB, inB_true]
  exact word_get (sound_img h) _

def writeNew (g : Nat) (ws : List Int) : Option (List Int × Nat) → List Int
  | none => []
  | some (ys, t) => if manyN ys < 64 then doneL ((moreL ys ws).set (t * 8 + g % 8) (manyN ys)) else []
def writeMid (xs : List Int) (g : Nat) (ws : List Int) : List Int :=
  if (ownIn (firstEntry xs 0 ((g / 8 : Nat) : Int)) && ownIn (entryAt xs 0 g)) = true then setCl xs (targetOf (entryAt xs 0 g)).toNat ws else writeNew g ws (secondL xs (g / 8))
def writtenL (xs : List Int) (g : Int) (ws : List Int) : List Int :=
  if soundB xs = true ∧ inB g 0 ((headOf xs).size - 1) = true ∧ eightB ws = true then writeMid xs g.toNat ws else []

theorem second_ok {xs : List Int} (h : soundB xs = true) {s : Nat} (hs : s < 8) {ys : List Int} {t : Nat} (e : secondL xs s = some (ys, t)) : t ≤ manyN ys ∧ ys.length ≤ 520 := by
  have hh := sound_head h
  have hl := hasHead_len hh
  have hm := manyN_le (hasHead_img hh)
  unfold secondL at e
  split at e
  · rename_i hc
    cases e
    have hfe := firstEntry_sound h s hs
    obtain ⟨c, hcm, hk, _, _, _, htc⟩ := second_claim (sound_first h).2 s hs (by rw [← hfe]; exact hc.1)
    rw [← hfe] at htc
    have hcg := sound_good h ((c6_prefix xs _).subset hcm)
    rcases (claims_ok xs c ((c6_prefix xs _).subset hcm)).lead hcg with h1 | h1
    · omega
    · rw [htc] at h1
      have := there_lt h1
      omega
  · split at e
    · rename_i hm64
      cases e
      have h8 : (if targetOf (firstEntry xs 0 s) ≠ 0 then cl xs (targetOf (firstEntry xs 0 s)).toNat else z8).length = 8 := by split; exact cl_length _ _; rfl
      rw [set_many, more_many _ _ h8, List.length_set, more_length _ _ h8]
      omega
    · cases e
theorem own_target {e : Int} (h : ownIn e = true) : wordB e = true ∧ 0 ≤ targetOf e := by
  unfold ownIn at h
  rw [Bool.and_eq_true] at h
  exact ⟨h.1, (target_nonneg h.1).1⟩
theorem rd_some {w : World} {B n : Nat} {A : Option Addr} {xs : List Int} (h : Rd w B A n xs) (hn : 0 < n) : ∃ b off, A = some ⟨b, off, none⟩ := by
  obtain ⟨b, off, e, _⟩ := h.2 hn
  exact ⟨b, off, e⟩

end Go.Proofs.YtibokhkohanoaabDoor
