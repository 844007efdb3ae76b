/- Counting anew, as the program does it: plain mathematics. Counting anew (chapter 14), the program's side: the greatest of a row, slots, what gives up by a panic. Counting anew (chapter 14), the program's side: a new cluster of zeros, the slot that lacks a block, what can be counted, Refs. Counting anew (chapter 14), the program's side: what can be counted, Refs, blocks. -/
import Derived.Test.YtiokfhdkbpoadabGreatDoorH3
import Derived.Test.YtiokfhdkbpoadabGreatDoorY2
import Derived.Test.YtiokfhdkbpoadabGreatDoorQ7
import Derived.Test.YtiokfhdkbpoadabGreatDoorY5
import Derived.WalkLawsBesides
import Derived.Test.YtiokfhdkbpoadabGreatDoorX2
namespace Go.Proofs.YtiokfhdkbpoadabGreatDoor
open Go.RowKit

theorem eq_getD {a b : List Int} (hl : a.length = b.length) (h : ∀ j, a.getD j 0 = b.getD j 0) : a = b := by
  apply List.ext_getElem hl
  intro i h1 h2
  have := h i
  rw [List.getD_eq_getElem?_getD, List.getD_eq_getElem?_getD, List.getElem?_eq_getElem h1, List.getElem?_eq_getElem h2] at this
  exact this
theorem whole_of8 {b : List Int} (h : b.length % 8 = 0) : whole b = b := eq_getD (by rw [whole_length]; unfold manyN; omega) (whole_get b)
theorem raw_four {b : List Int} {h : Hd} {c : Cm} (hc : c ∈ rawC b h) (hk : c.kind = 4) : c ∈ rBlk b h := by
  unfold rawC r4C r1C at hc
  simp only [List.mem_append, List.mem_cons, List.not_mem_nil, or_false] at hc
  rcases hc with ((((rfl | rfl | rfl) | h) | h) | h) | h
  · cases hk
  · cases hk
  · cases hk
  · exact h
  · exfalso
    unfold rSh at h
    split at h
    · cases h
    · rw [List.mem_cons] at h
      rcases h with rfl | h
      · cases hk
      · unfold shotT at h
        rw [List.mem_map] at h
        obtain ⟨i, _, rfl⟩ := h
        cases hk
  · exfalso
    unfold rSec at h
    rw [List.mem_flatMap] at h
    obtain ⟨f, _, h⟩ := h
    have := (tabT_kind h).1
    omega
  · exfalso
    unfold rDat at h
    rw [List.mem_flatMap] at h
    obtain ⟨f, _, h⟩ := h
    have := (tabT_kind h).1
    omega
/-- Where a block's claim leads. -/
theorem four_target {b : List Int} {c : Cm} (hc : c ∈ rawC b (headOf b)) (hk : c.kind = 4) : c.target = targetOf ((cl b (headOf b).refs.toNat).getD c.slot.toNat 0) := by
  have hb := raw_four hc hk
  unfold rBlk at hb
  split at hb
  · obtain ⟨i, hi, ht, rfl⟩ := tabT_mem.1 hb
    simp only [Int.toNat_natCast]
  · cases hb
/-- The slot's block is where the word of Refs leads. -/
theorem block_word {b : List Int} (T : Tidy b) (h0 : (headOf b).refs ≠ 0) (s : Nat) (hs : s < 8) : (blocksC (claimsC b)).getD s 0 = targetOf ((cl b (headOf b).refs.toNat).getD s 0) := by
  rcases block_is (b := b) s hs with ⟨c, hc, hg, hk, hsl, he⟩ | ⟨he, hno⟩
  · rw [T.claims] at hc
    rw [he, four_target hc hk, hsl, Int.toNat_natCast]
  · rw [he]
    by_cases hz : targetOf ((cl b (headOf b).refs.toNat).getD s 0) = 0
    · exact hz.symm
    · exfalso
      have hin : (⟨4, (headOf b).refs.toNat, s, 0 + 0 * (s : Int), targetOf ((cl b (headOf b).refs.toNat).getD s 0), true⟩ : Cm) ∈ claimsC b := by
        rw [T.claims]
        refine raw_blk ?_
        unfold rBlk
        rw [if_pos h0]
        exact tabT_mem.2 ⟨s, hs, hz, rfl⟩
      exact hno _ hin rfl rfl rfl
theorem count_zero {b : List Int} (T : Tidy b) : 1 ≤ (countsC (claimsC b)).getD 0 0 := by
  have hm : (⟨1, 0, 0, 0, 0, true⟩ : Cm) ∈ claimsC b := by rw [T.claims]; exact raw_r1 (by unfold r1C; simp)
  have hp : 0 < ((claimsC b).filter (fun x => x.good && decide (x.target.toNat = 0))).length := List.length_pos_of_mem (List.mem_filter.2 ⟨hm, by simp⟩)
  unfold countsC
  rw [cnt_sum 0 _ _ (by simp), zeros_get]
  omega

/-- The first slot that lacks a block is found by slots. -/
theorem lacks_slot {ct bs : List Int} {s : Nat} (hs : s < 8) (hb : bs.getD s 0 = 0) (hx : ∃ i, i < 8 ∧ ct.getD (s * 8 + i) 0 ≠ 0) (hno : ∀ s', s' < s → bs.getD s' 0 = 0 → ∀ i, i < 8 → ct.getD (s' * 8 + i) 0 = 0) : lacksC ct bs = (s : Int) := by
  obtain ⟨i, hi, hc⟩ := hx
  have hl : lackAt ct bs (s * 8 + i) = true := by
    unfold lackAt
    rw [show (s * 8 + i) / 8 = s from by omega, hb]
    simpa using hc
  unfold lacksC
  cases hf : (List.range 64).find? (lackAt ct bs) with
  | none =>
    rw [List.find?_eq_none] at hf
    exact absurd hl (by simpa using hf (s * 8 + i) (List.mem_range.2 (by omega)))
  | some c =>
    obtain ⟨h1, h2, h3⟩ := List.find?_range_eq_some.1 hf
    have h2 := List.mem_range.1 h2
    have hc1 : c ≤ s * 8 + i := by
      by_cases h : c ≤ s * 8 + i
      · exact h
      · have := h3 (s * 8 + i) (by omega)
        rw [hl] at this
        cases this
    have hc2 : ¬ c / 8 < s := fun h => by
      unfold lackAt at h1
      rw [Bool.and_eq_true, decide_eq_true_eq, decide_eq_true_eq] at h1
      have := hno (c / 8) h h1.2 (c % 8) (by omega)
      rw [show c / 8 * 8 + c % 8 = c from by omega] at this
      exact h1.1 this
    show ((c / 8 : Nat) : Int) = s
    have : c / 8 = s := by omega
    omega
theorem lacks_no {ct bs : List Int} (hno : ∀ s', s' < 8 → bs.getD s' 0 = 0 → ∀ i, i < 8 → ct.getD (s' * 8 + i) 0 = 0) : lacksC ct bs < 0 := by
  unfold lacksC
  cases hf : (List.range 64).find? (lackAt ct bs) with
  | none => simp
  | some c =>
    exfalso
    have h1 := List.find?_some hf
    have h2 := List.mem_range.1 (List.mem_of_find?_eq_some hf)
    unfold lackAt at h1
    rw [Bool.and_eq_true, decide_eq_true_eq, decide_eq_true_eq] at h1
    have := hno (c / 8) (by omega) h1.2 (c % 8) (by omega)
    rw [show c / 8 * 8 + c % 8 = c from by omega] at this
    exact h1.1 this

/-- What the program asks of a slot. -/
def slotB (ct ts : List Int) (s : Nat) : Bool := decide (targetOf (ts.getD s 0) = 0) && !((ct.drop (s * 8)).take 8).all (fun x => x == 0)
theorem cut_all {ct : List Int} {s : Nat} : ((ct.drop (s * 8)).take 8).all (fun x => x == 0) = true ↔ ∀ i, i < 8 → ct.getD (s * 8 + i) 0 = 0 := by
  rw [List.all_eq_true]
  constructor
  · intro h i hi
    by_cases hl : s * 8 + i < ct.length
    · have := h ct[s * 8 + i] (by
        rw [List.mem_iff_getElem?]
        refine ⟨i, ?_⟩
        rw [List.getElem?_take, if_pos hi, List.getElem?_drop, List.getElem?_eq_getElem hl])
      rw [List.getD_eq_getElem?_getD, List.getElem?_eq_getElem hl]
      simpa using this
    · exact getD_past _ _ (by omega)
  · intro h x hx
    rw [List.mem_iff_getElem?] at hx
    obtain ⟨i, hx⟩ := hx
    rw [List.getElem?_take] at hx
    split at hx
    · rename_i hi
      rw [List.getElem?_drop] at hx
      have := h i hi
      rw [List.getD_eq_getElem?_getD, hx] at this
      simpa using this
    · cases hx
/-- Slots below k have been passed over. -/
def passedB (ct ts : List Int) (k : Nat) : Bool := (List.range k).all (fun s => !slotB ct ts s)
theorem passed_step {ct ts : List Int} {k : Nat} (h : passedB ct ts k = true) (hs : slotB ct ts k = false) : passedB ct ts (k + 1) = true := by
  unfold passedB at *
  rw [List.range_succ, List.all_append, h]
  simp [hs]
theorem passed_at {ct ts : List Int} {k s : Nat} (h : passedB ct ts k = true) (hs : s < k) (ht : targetOf (ts.getD s 0) = 0) : ∀ i, i < 8 → ct.getD (s * 8 + i) 0 = 0 := by
  unfold passedB at h
  rw [List.all_eq_true] at h
  have := h s (List.mem_range.2 hs)
  unfold slotB at this
  rw [ht] at this
  exact cut_all.1 (by simpa using this)
theorem lacks_found {b : List Int} (T : Tidy b) (h0 : (headOf b).refs ≠ 0) {k : Nat} (hk : k < 8) (h : passedB (countsC (claimsC b)) (cl b (headOf b).refs.toNat) k = true) (hs : slotB (countsC (claimsC b)) (cl b (headOf b).refs.toNat) k = true) : lacksL b = (k : Int) := by
  unfold slotB at hs
  rw [Bool.and_eq_true, decide_eq_true_eq] at hs
  unfold lacksL
  refine lacks_slot hk (by rw [block_word T h0 k hk]; exact hs.1) ?_ (fun s' h1 h2 => passed_at h h1 (by rw [← block_word T h0 s' (by omega)]; exact h2))
  by_cases hx : ∃ i, i < 8 ∧ (countsC (claimsC b)).getD (k * 8 + i) 0 ≠ 0
  · exact hx
  · exfalso
    have : ((List.drop (k * 8) (countsC (claimsC b))).take 8).all (fun x => x == 0) = true := cut_all.2 (fun i hi => by
      by_cases hz : (countsC (claimsC b)).getD (k * 8 + i) 0 = 0
      · exact hz
      · exact absurd ⟨i, hi, hz⟩ hx)
    rw [this] at hs
    simp at hs
theorem lacks_passed {b : List Int} (T : Tidy b) (h0 : (headOf b).refs ≠ 0) (h : passedB (countsC (claimsC b)) (cl b (headOf b).refs.toNat) 8 = true) : lacksL b < 0 := by
  unfold lacksL
  exact lacks_no (fun s' h1 h2 => passed_at h h1 (by rw [← block_word T h0 s' h1]; exact h2))

/-- A block more, as the program makes it: the table Refs is written anew. -/
theorem step_prog {b : List Int} {R s : Nat} (hR : R < manyN b) (hs : s < 8) (hl : lacksL b = (s : Int)) :
    setCl (whole (moreL b (List.replicate 8 0))) R ((cl b R).set s (manyN b)) = blockStep R b ∧ cl (blockStep R b) R = (cl b R).set s (manyN b) := by
  have hml := more_length b (List.replicate 8 0) (by simp)
  have hwe : whole (moreL b (List.replicate 8 0)) = moreL b (List.replicate 8 0) := whole_of8 (by rw [hml]; omega)
  have hw8 : ((cl b R).set s (manyN b : Int)).length = 8 := by rw [List.length_set, cl_length]
  have e : blockStep R b = (moreL b (List.replicate 8 0)).set (R * 8 + s) (manyN b) := by unfold blockStep; rw [hl]; rfl
  have hcw : ∀ i, i < 8 → ((cl b R).set s (manyN b : Int)).getD i 0 = if i = s then (manyN b : Int) else b.getD (R * 8 + i) 0 := by
    intro i hi
    rw [getD_set, cl_length]
    by_cases h : s = i
    · rw [if_pos ⟨h, by omega⟩, if_pos h.symm]
    · rw [if_neg (fun h2 => h h2.1), if_neg (fun h2 => h h2.symm), cl_word_get _ _ _ hi]
  refine ⟨?_, ?_⟩
  · rw [hwe, e]
    refine eq_getD ?_ (fun j => ?_)
    · rw [setCl_length (by rw [hml]; omega) (by rw [hml]; omega) hw8, if_neg (by rw [hml]; omega), List.length_set]
    · rw [setCl_get (by rw [hml]; omega) hw8, getD_set (moreL b (List.replicate 8 0)), hml, more_get _ _ (by simp)]
      by_cases h : R * 8 ≤ j ∧ j < R * 8 + 8
      · rw [if_pos h, hcw _ (by omega)]
        by_cases h2 : j - R * 8 = s
        · rw [if_pos h2, if_pos ⟨by omega, by omega⟩]
        · rw [if_neg h2, if_neg (show ¬ (R * 8 + s = j ∧ R * 8 + s < manyN b * 8 + 8) by omega), if_neg (show ¬ manyN b * 8 ≤ j by omega), show R * 8 + (j - R * 8) = j from by omega]
      · rw [if_neg h, if_neg (show ¬ (R * 8 + s = j ∧ R * 8 + s < manyN b * 8 + 8) by omega)]
  · refine eq_getD (by rw [cl_length, hw8]) (fun i => ?_)
    by_cases hi : i < 8
    · rw [cl_word_get _ _ _ hi, hcw i hi, e, getD_set, hml, more_get _ _ (by simp)]
      by_cases h2 : i = s
      · rw [if_pos h2, if_pos ⟨by omega, by omega⟩]
      · rw [if_neg h2, if_neg (show ¬ (R * 8 + s = R * 8 + i ∧ R * 8 + s < manyN b * 8 + 8) by omega), if_neg (show ¬ manyN b * 8 ≤ R * 8 + i by omega)]
    · rw [getD_past _ _ (by rw [cl_length]; omega), getD_past _ _ (by rw [hw8]; omega)]

/-- The counts are written, claim by claim. -/
def putW (ct : List Int) (o : List Int) (c : Cm) : List Int := if c.kind = 4 then setCl (whole o) c.target.toNat ((ct.drop (c.slot.toNat * 8)).take 8) else o
theorem putW_many {ct o : List Int} {c : Cm} (hc : ct.length = 64) (hs : c.slot.toNat < 8) (ht : c.kind = 4 → c.target.toNat < manyN o) : manyN (putW ct o c) = manyN o := by
  unfold putW
  split
  · rename_i hk
    have := ht hk
    unfold manyN at this ⊢
    rw [setCl_length (by rw [whole_length]; omega) (by rw [whole_length]; unfold manyN; omega) (by rw [List.length_take, List.length_drop, hc]; omega), whole_length]
    unfold manyN
    rw [if_neg (by omega)]
    omega
  · rfl
theorem putW_get {ct o : List Int} {c : Cm} (hc : ct.length = 64) (hs : c.slot.toNat < 8) (hk : c.kind = 4) (ht : c.target.toNat < manyN o) (j : Nat) :
    (putW ct o c).getD j 0 = if c.target.toNat * 8 ≤ j ∧ j < c.target.toNat * 8 + 8 then ct.getD (c.slot.toNat * 8 + (j - c.target.toNat * 8)) 0 else o.getD j 0 := by
  unfold putW
  rw [if_pos hk, setCl_get (by rw [whole_length]; omega) (by rw [List.length_take, List.length_drop, hc]; omega), whole_get]
  split
  · rw [List.getD_eq_getElem?_getD, List.getElem?_take, if_pos (by omega), List.getElem?_drop, ← List.getD_eq_getElem?_getD]
  · rfl
/-- What lets the counts be written by these claims. -/
structure PutOk (m : Nat) (l : List Cm) : Prop where
  slot : ∀ c ∈ l, c.kind = 4 → c.slot.toNat < 8
  there : ∀ c ∈ l, c.kind = 4 → c.target.toNat < m
  one : ∀ c ∈ l, ∀ d ∈ l, c.kind = 4 → d.kind = 4 → c.target.toNat = d.target.toNat → c = d
theorem putW_skip {ct o : List Int} {c : Cm} (hk : ¬ c.kind = 4) : putW ct o c = o := if_neg hk
theorem putW_many' {ct o : List Int} {c : Cm} (hc : ct.length = 64) (hs : c.kind = 4 → c.slot.toNat < 8) (ht : c.kind = 4 → c.target.toNat < manyN o) : manyN (putW ct o c) = manyN o := by
  by_cases hk : c.kind = 4
  · exact putW_many hc (hs hk) ht
  · rw [putW_skip hk]
theorem put_many {ct : List Int} (hc : ct.length = 64) : ∀ (l : List Cm) (o : List Int), (∀ c ∈ l, c.kind = 4 → c.slot.toNat < 8) → (∀ c ∈ l, c.kind = 4 → c.target.toNat < manyN o) → manyN (l.foldl (putW ct) o) = manyN o
  | [], _, _, _ => rfl
  | c :: l, o, h1, h2 => by
    have e := putW_many' hc (h1 c (by simp)) (h2 c (by simp))
    rw [List.foldl_cons, put_many hc l _ (fun d hd => h1 d (by simp [hd])) (fun d hd => by rw [e]; exact h2 d (by simp [hd])), e]
theorem put_other {ct : List Int} (hc : ct.length = 64) (j : Nat) : ∀ (l : List Cm) (o : List Int), (∀ c ∈ l, c.kind = 4 → c.slot.toNat < 8) → (∀ c ∈ l, c.kind = 4 → c.target.toNat < manyN o) → (∀ c ∈ l, c.kind = 4 → c.target.toNat ≠ j / 8) → (l.foldl (putW ct) o).getD j 0 = o.getD j 0
  | [], _, _, _, _ => rfl
  | c :: l, o, h1, h2, h3 => by
    have e := putW_many' hc (h1 c (by simp)) (h2 c (by simp))
    rw [List.foldl_cons, put_other hc j l _ (fun d hd => h1 d (by simp [hd])) (fun d hd => by rw [e]; exact h2 d (by simp [hd])) (fun d hd => h3 d (by simp [hd]))]
    by_cases hk : c.kind = 4
    · have := h3 c (by simp) hk
      rw [putW_get hc (h1 c (by simp) hk) hk (h2 c (by simp) hk), if_neg (by omega)]
    · rw [putW_skip hk]
theorem put_at {ct : List Int} (hc : ct.length = 64) (d : Cm) (hd4 : d.kind = 4) (i : Nat) (hi : i < 8) : ∀ (l : List Cm) (o : List Int), (∀ c ∈ l, c.kind = 4 → c.slot.toNat < 8) → (∀ c ∈ l, c.kind = 4 → c.target.toNat < manyN o) → (∀ c ∈ l, c.kind = 4 → c.target.toNat = d.target.toNat → c = d) → d ∈ l →
    (l.foldl (putW ct) o).getD (d.target.toNat * 8 + i) 0 = ct.getD (d.slot.toNat * 8 + i) 0
  | [], _, _, _, _, h => by cases h
  | c :: l, o, h1, h2, h3, h => by
    have e := putW_many' hc (h1 c (by simp)) (h2 c (by simp))
    rw [List.foldl_cons]
    by_cases hin : d ∈ l
    · exact put_at hc d hd4 i hi l _ (fun x hx => h1 x (by simp [hx])) (fun x hx => by rw [e]; exact h2 x (by simp [hx])) (fun x hx => h3 x (by simp [hx])) hin
    · have hcd : d = c := by
        rcases List.mem_cons.1 h with h | h
        · exact h
        · exact absurd h hin
      subst hcd
      rw [put_other hc _ l _ (fun x hx => h1 x (by simp [hx])) (fun x hx => by rw [e]; exact h2 x (by simp [hx])) (fun x hx hk ht => hin (by
        have := h3 x (by simp [hx]) hk (by omega)
        rw [← this]; exact hx)), putW_get hc (h1 d (by simp) hd4) hd4 (h2 d (by simp) hd4), if_pos (by omega)]
      congr 1
      omega
theorem put_length {ct : List Int} (hc : ct.length = 64) : ∀ (l : List Cm) (o : List Int), (∀ c ∈ l, c.kind = 4 → c.slot.toNat < 8) → (∀ c ∈ l, c.kind = 4 → c.target.toNat < manyN o) → (o.length % 8 = 0 ∨ ∃ c ∈ l, c.kind = 4) → (l.foldl (putW ct) o).length = manyN o * 8
  | [], o, _, _, h => by
    rcases h with h | ⟨c, hc, _⟩
    · show o.length = _; unfold manyN; omega
    · cases hc
  | c :: l, o, h1, h2, h => by
    have e := putW_many' hc (h1 c (by simp)) (h2 c (by simp))
    rw [List.foldl_cons, put_length hc l _ (fun d hd => h1 d (by simp [hd])) (fun d hd => by rw [e]; exact h2 d (by simp [hd])) ?_, e]
    by_cases hk : c.kind = 4
    · have h3 := h1 c (by simp) hk
      have h4 := h2 c (by simp) hk
      refine .inl ?_
      unfold putW
      rw [if_pos hk, setCl_length (by rw [whole_length]; omega) (by rw [whole_length]; omega) (by rw [List.length_take, List.length_drop, hc]; omega), whole_length, if_neg (by omega)]
      omega
    · rw [putW_skip hk]
      rcases h with h | ⟨x, hx, hxk⟩
      · exact .inl h
      · rcases List.mem_cons.1 hx with rfl | hx
        · exact absurd hxk hk
        · exact .inr ⟨x, hx, hxk⟩
theorem put_has {b : List Int} (T : Tidy b) (hl : lacksL b < 0) : ∃ c ∈ (claimsC b).filter (fun c => c.good), c.kind = 4 := by
  rcases block_is (b := b) 0 (by omega) with ⟨c, hc, hg, hk, _, _⟩ | ⟨h4, _⟩
  · exact ⟨c, List.mem_filter.2 ⟨hc, hg⟩, hk⟩
  · exfalso
    have hz := lacks_none (ct := countsC (claimsC b)) (bs := blocksC (claimsC b)) hl 0 (by omega) h4
    have hone : 1 ≤ (countsC (claimsC b)).getD 0 0 := count_zero T
    omega
/-- All that the program writes is what is written. -/
theorem put_write {b : List Int} (T : Tidy b) (hl : lacksL b < 0) : ((claimsC b).filter (fun c => c.good)).foldl (putW (countsC (claimsC b))) b = writeC b := by
  have hct := counts_length (claimsC b)
  have hmem : ∀ {c : Cm}, c ∈ (claimsC b).filter (fun c => c.good) → c ∈ claimsC b ∧ c.good = true := fun h => by rw [List.mem_filter] at h; exact ⟨h.1, h.2⟩
  have h1 : ∀ c ∈ (claimsC b).filter (fun c => c.good), c.kind = 4 → c.slot.toNat < 8 := fun c hc _ => by
    have := claims_ok b c (hmem hc).1
    have := this.slot0
    have := (claims_ok b c (hmem hc).1).slot1
    omega
  have h2 : ∀ c ∈ (claimsC b).filter (fun c => c.good), c.kind = 4 → 1 ≤ c.target ∧ c.target.toNat < manyN b := fun c hc hk => by
    have := there_lt (good_there (hmem hc).1 (hmem hc).2 (by omega))
    omega
  have h3 : ∀ c ∈ (claimsC b).filter (fun c => c.good), ∀ d ∈ (claimsC b).filter (fun c => c.good), c.kind = 4 → d.kind = 4 → c.target.toNat = d.target.toNat → c = d := fun c hc d hd hk hk' ht => by
    have := h2 c hc hk
    have := h2 d hd hk'
    exact (good_one (hmem hc).1 (hmem hd).1 (hmem hc).2 (hmem hd).2 (by omega)).2 (by omega)
  have hex := put_has T hl
  refine eq_getD ?_ (fun j => ?_)
  · rw [put_length hct _ _ h1 (fun c hc hk => (h2 c hc hk).2) (.inr hex), write_length]
  · by_cases hj : ∃ d ∈ (claimsC b).filter (fun c => c.good), d.kind = 4 ∧ d.target.toNat = j / 8
    · obtain ⟨d, hd, hk, ht⟩ := hj
      have e1 := put_at hct d hk (j % 8) (by omega) _ b h1 (fun c hc hk => (h2 c hc hk).2) (fun c hc hk' ht' => h3 c hc d hd hk' hk ht') hd
      rw [show d.target.toNat * 8 + j % 8 = j from by omega] at e1
      rw [e1]
      have hs7 := h1 d hd hk
      have hs0 := (claims_ok b d (hmem hd).1).slot0
      have hbw : (blocksC (claimsC b)).getD d.slot.toNat 0 = d.target := by
        rcases block_is (b := b) d.slot.toNat hs7 with ⟨c, hc, hg, hk', hsl, he⟩ | ⟨_, hno⟩
        · have hc' := hc
          have hd' := (hmem hd).1
          rw [T.claims] at hc' hd'
          rw [he, four_target hc' hk', four_target hd' hk, hsl]
          rw [Int.toNat_natCast]
        · exact absurd (by omega) (hno d (hmem hd).1 (hmem hd).2 hk)
      have ht2 := h2 d hd hk
      unfold writeC wtTo
      have e2 := wt_at (countsC (claimsC b)) (blocksC (claimsC b)) (whole b) (fun s s' hs hs' h h' => block_inj hs hs' h h') (fun s => block_pos s) (fun s hs => by
        rcases blocks_there b s with h | h
        · exact absurd h hs
        · have := there_lt h
          rw [whole_length]
          omega) 64 (Nat.le_refl _) (d.slot.toNat * 8 + j % 8) (by omega) (by rw [show (d.slot.toNat * 8 + j % 8) / 8 = d.slot.toNat from by omega, hbw]; omega)
      unfold posB at e2
      rw [show (d.slot.toNat * 8 + j % 8) / 8 = d.slot.toNat from by omega, hbw, show (d.slot.toNat * 8 + j % 8) % 8 = j % 8 from by omega, show d.target.toNat * 8 + j % 8 = j from by omega] at e2
      exact e2.symm
    · rw [put_other hct j _ b h1 (fun c hc hk => (h2 c hc hk).2) (fun c hc hk ht => hj ⟨c, hc, hk, ht⟩)]
      unfold writeC wtTo
      rw [wt_other _ _ _ _ _ (fun c hc hb e => ?_), whole_get]
      rcases block_is (b := b) (c / 8) (by omega) with ⟨d, hd, hg, hk, _, ht⟩ | ⟨h4, _⟩
      · refine hj ⟨d, List.mem_filter.2 ⟨hd, hg⟩, hk, ?_⟩
        unfold posB at e
        rw [ht] at e
        omega
      · exact hb h4

/-- What the program makes ready: Refs, where there is none. -/
def basePC (xs : List Int) : Option (List Int) := if (headOf xs).refs = 0 then (if manyN xs < 64 then some (refsL xs) else none) else some xs
theorem lacks_whole {xs : List Int} (T : Tidy xs) : lacksL (whole xs) = lacksL xs := by
  obtain ⟨O, e⟩ := onto_whole T
  unfold lacksL
  rw [show claimsC (whole xs) = claimsC xs from by rw [O.tidy.claims, T.claims, e]]
theorem whole_whole (xs : List Int) : whole (whole xs) = whole xs := whole_of8 (by rw [whole_length]; omega)
theorem more_whole (xs ws : List Int) : moreL (whole xs) ws = moreL xs ws := by unfold moreL; rw [whole_whole, many_whole]
theorem step_whole {xs : List Int} (T : Tidy xs) (R : Nat) : blockStep R (whole xs) = blockStep R xs := by unfold blockStep; rw [more_whole, many_whole, lacks_whole T]
theorem write_whole {xs : List Int} (T : Tidy xs) : writeC (whole xs) = writeC xs := by
  obtain ⟨O, e⟩ := onto_whole T
  unfold writeC wtTo
  rw [show claimsC (whole xs) = claimsC xs from by rw [O.tidy.claims, T.claims, e], whole_whole]
theorem fix_whole {xs : List Int} (T : Tidy xs) (R : Nat) : ∀ k, countEnd (fixBlocks R k (whole xs)) = countEnd (fixBlocks R k xs)
  | 0 => by
    unfold fixBlocks
    rw [lacks_whole T]
    split
    · exact write_whole T
    · rfl
  | k + 1 => by
    unfold fixBlocks
    rw [lacks_whole T, many_whole, step_whole T]
    split
    · exact write_whole T
    · rfl
theorem counted_prog {xs : List Int} (h : readyB xs = true) : countedL xs = countMid (basePC xs) := by
  obtain ⟨T, _⟩ := ready_tidy h
  unfold countedL
  rw [if_pos h]
  unfold countBase basePC
  rw [many_whole]
  split
  · rfl
  · show countEnd (fixBlocks (headOf (whole xs)).refs.toNat 64 (whole xs)) = countEnd (fixBlocks (headOf xs).refs.toNat 64 xs)
    rw [(head_whole T.head).2]
    exact fix_whole T _ _
/-- The program asks each loose claim for its target. -/
theorem ready_prog {xs : List Int} (h : hasHead xs = true) : readyB xs = (looseL xs).all (fun c => c.kind == 3 && c.target == 0) := by
  unfold readyB
  rw [h, Bool.true_and, headIn_yes h]
  have hm : ∀ c ∈ looseL xs, c ∈ claimsC xs := by
    intro c hc
    unfold looseL claimsL at hc
    rw [h, if_pos rfl, List.mem_filter] at hc
    exact hc.1
  generalize looseL xs = l at *
  induction l with
  | nil => rfl
  | cons c l ih =>
    rw [List.all_cons, List.all_cons, ih (fun x hx => hm x (by simp [hx]))]
    congr 1
    by_cases hk : c.kind = 3
    · rw [kind3_is (hm c (by simp)) hk]
    · have hf : (c.kind == 3) = false := by simpa using hk
      rw [hf]
      rfl

/-- What gives up by a panic: the words, or a panic. -/
def RetG (w : World) (r : Option (List Int)) (e : Ending) (w' : World) : Prop :=
  match r with
  | some ys => ∃ (A : Option Addr) (n c : Nat), e = .returned (.slice A n c) ∧ Rd w' w'.heap.size A n ys ∧ n ≤ c ∧ Below w.heap.size w w'
  | none => (∃ (u : TypeId) (v : Value), e = .panicked [{ v := .iface u v, recovered := false }]) ∧ Below w.heap.size w w'

/-- The greatest word. -/
def maxN (xs : List Int) : Int := xs.foldl max 0
theorem maxN_ge : ∀ (xs : List Int) (a : Int), a ≤ xs.foldl max a ∧ ∀ x ∈ xs, x ≤ xs.foldl max a
  | [], a => ⟨Int.le_refl _, fun x h => by cases h⟩
  | y :: xs, a => by
    obtain ⟨h1, h2⟩ := maxN_ge xs (max a y)
    refine ⟨by rw [List.foldl_cons]; omega, fun x hx => ?_⟩
    rw [List.foldl_cons]
    rcases List.mem_cons.1 hx with rfl | hx
    · omega
    · exact h2 x hx
theorem maxN_le : ∀ (xs : List Int) (a b : Int), a ≤ b → (∀ x ∈ xs, x ≤ b) → xs.foldl max a ≤ b
  | [], a, b, h, _ => h
  | y :: xs, a, b, h, hx => by
    rw [List.foldl_cons]
    exact maxN_le xs _ b (by have := hx y (by simp); omega) (fun x h' => hx x (by simp [h']))
theorem maxN_zero {xs : List Int} (h : ∀ x ∈ xs, 0 ≤ x) : (maxN xs != 0) = !xs.all (fun x => x == 0) := by
  cases ha : xs.all (fun x => x == 0)
  · simp only [Bool.not_false]
    rw [List.all_eq_false] at ha
    obtain ⟨x, hx, hz⟩ := ha
    have h1 := (maxN_ge xs 0).2 x hx
    have h2 := h x hx
    have h3 : x ≠ 0 := by simpa using hz
    simp only [bne_iff_ne, ne_eq]
    unfold maxN
    omega
  · rw [List.all_eq_true] at ha
    have h1 := maxN_le xs 0 0 (Int.le_refl _) (fun x hx => by have := ha x hx; simp at this; omega)
    have h2 := (maxN_ge xs 0).1
    have : maxN xs = 0 := by unfold maxN; omega
    rw [this]
    rfl
theorem maxN_bound {xs : List Int} (h : ∀ x ∈ xs, x ≤ 65535) : 0 ≤ maxN xs ∧ maxN xs ≤ 65535 := ⟨(maxN_ge xs 0).1, maxN_le xs 0 65535 (by omega) h⟩
theorem maxN_take (xs : List Int) (k : Nat) (hk : k < xs.length) : maxN (xs.take (k + 1)) = max (maxN (xs.take k)) (xs.getD k 0) := by
  have e : xs.getD k 0 = xs[k] := by simp [List.getD_eq_getElem?_getD, hk]
  unfold maxN
  rw [List.take_succ_eq_append_getElem hk, List.foldl_append, e]
  rfl

set_option maxRecDepth 100000 in
set_option maxHeartbeats 2000000 in
theorem max_any (b off n c : Nat) (xs : List Int) (w : World) (hr : Rd w w.heap.size (some ⟨b, off, none⟩) n xs) (hn : n ≤ 64) (h1 : 1 ≤ n) (h0 : ∀ x ∈ xs, 0 ≤ x) :
    Calls Tryz.prog 151 #[.slice (some ⟨b, off, none⟩) n c] w fun e w' => e = .returned (.int .i64 (maxN xs)) ∧ w' = w := by
  have hl := Lib.hid hr.len
  obtain ⟨b', off', he, hb, hc⟩ := hr.2 (by omega)
  cases he
  have hd : decide ((n : Int) < 1) = false := by simp; omega
  have hc0 : w.cell? ⟨b, off, none⟩ = some (.int .i64 (xs.getD 0 0)) := hc 0 (by omega)
  have hm1 : Hid (maxN (xs.take 1) = xs.getD 0 0) := by
    show _ = _
    rw [maxN_take xs 0 (by have := hl.out; omega)]
    have : 0 ≤ xs.getD 0 0 := by
      rw [List.getD_eq_getElem?_getD, List.getElem?_eq_getElem (by have := hl.out; omega)]
      exact h0 _ (List.getElem_mem _)
    have e : maxN (xs.take 0) = 0 := rfl
    rw [e]
    omega
  have HT := Lib.hid (maxN_take xs)
  have HA : Hid (maxN (xs.take n) = maxN xs) := by
    show _ = _
    rw [List.take_of_length_le (by have := hl.out; omega)]
  clear h0 hr
  go_enter Tryz.func151, Tryz.ntmps151
  go_wp2_with fail
  go_loop [3, 4] (fun m i => ∃ k : Nat, 1 ≤ k ∧ k ≤ n ∧ i = .int .i64 k ∧ m = .int .i64 (maxN (xs.take k))) (fun _ i => n - (intOf i).toNat)
  case atStart => exact ⟨1, Nat.le_refl _, h1, rfl, by rw [hm1.out, List.getD_eq_getElem?_getD]⟩
  case round =>
    obtain ⟨k, hk1, hk, rfl, rfl⟩ := hrel
    by_cases hlt : k < n
    · have hck := hc k hlt
      have HE := Lib.hid (HT.out k (by have := hl.out; omega))
      clear hc hc0
      generalize maxN (xs.take k) = mk at *
      generalize xs.getD k 0 = y at *
      go_wp2
      go_round
      case rel => exact ⟨k + 1, by omega, by omega, by go_num, by rw [HE.out, Int.max_def]; congr 1; split <;> split <;> omega⟩
      case measure => simp [intOf]; omega
    · obtain rfl : k = n := by omega
      go_wp2
      go_ret
      rw [HA.out]
      exact ⟨rfl, rfl⟩

set_option maxRecDepth 100000 in
theorem eightOf_any (g s cc : Nat) (q : Int) (hq : q = (s : Int)) (hs : s < 8) (hcc : 64 ≤ cc) (w : World) :
    Calls Tryz.prog 132 #[.slice (some ⟨g, 0, none⟩) 64 cc, .int .i64 q] w fun e w' => e = .returned (.slice (some ⟨g, s * 8, none⟩) 8 8) ∧ w = w' := by
  subst hq
  have n1 : IntKind.i64.wrap ((s : Int) * 8) = ((s * 8 : Nat) : Int) := by rw [IntWalk.i64_in _ (by omega)]; omega
  go_enter Tryz.func132, Tryz.ntmps132
  go_wp2_with fail
  refine (cutOf_any g 0 64 cc (s * 8) 8 _ _ w (by omega) rfl (by omega) (by omega) (by omega) (by omega) (by omega)).mono ?_
  rintro e w' ⟨rfl, rfl⟩
  rw [show min 8 (64 - s * 8) = 8 by omega, Nat.zero_add]
  go_wp2_with fail
  go_ret
  exact ⟨rfl, rfl⟩

theorem with_more {xs : List Int} (hi : imgB xs = true) (h : manyN xs < 64) : withL xs (manyN xs : Int) (List.replicate 8 0) = moreL xs (List.replicate 8 0) := by
  unfold withL
  rw [if_pos]
  · rw [Int.toNat_natCast]; exact rfl
  · unfold withB
    rw [hi, zeros8, inB_true.2 (by omega)]
    simp
    omega
theorem with_full {xs : List Int} (h : ¬ manyN xs < 64) (ws : List Int) : withL xs (manyN xs : Int) ws = [] := by
  unfold withL
  rw [if_neg]
  unfold withB
  rw [show decide ((manyN xs : Int) < 64) = false from by simp; omega]
  simp

set_option maxRecDepth 100000 in
set_option maxHeartbeats 2000000 in
theorem withZeros_any (A : Option Addr) (n c : Nat) (xs : List Int) (w : World) (hr : Rd w w.heap.size A n xs) (hn : n ≤ 2097152) (hi : imgB xs = true) :
    Calls Tryz.prog 134 #[.slice A n c] w fun e w' =>
      (manyN xs < 64 ∧ ∃ g n' c', e = .returned (.tuple #[.slice (some ⟨g, 0, none⟩) n' c', .int .i64 (manyN xs)]) ∧ n' ≤ c' ∧ Ow w' w.heap.size w'.heap.size (some ⟨g, 0, none⟩) n' c' (moreL xs (List.replicate 8 0)) ∧ Below w.heap.size w w') ∨
      (¬ manyN xs < 64 ∧ (∃ (u : TypeId) (v : Value), e = .panicked [{ v := .iface u v, recovered := false }]) ∧ Below w.heap.size w w') := by
  obtain ⟨i0, hi0, hz0, hz1, hz2⟩ := info_parts info2
  have HM := Lib.hid (show manyI xs = (manyN xs : Int) by simp [manyI, hi])
  have H1 := Lib.hid (with_more hi)
  have H2 := Lib.hid (with_full (xs := xs))
  have H3 := Lib.hid (more_length xs (List.replicate 8 0) (by simp))
  clear hi
  go_enter Tryz.func134, Tryz.ntmps134
  go_wp2_with fail
  refine (implClin_any _ _ _ _ _ hr hn).mono ?_
  rintro e w1 ⟨rfl, b1⟩
  rw [HM.out]
  go_wp2_with (at_make; refine wpList_make_full _ rfl _ _ 24 rfl w1.heap.size 2 i0 (.int .i64 0) 1 Tryz.underlying24 hi0 hz0 hz1 .i64 .i64 _ _ 8 rfl rfl rfl rfl (by rw [hz2]; omega) (by simp only [maxLen]; omega) (Nat.le_refl _) ?_; intro w2 hown hg; rw [made_iv] at hown)
  have b2 : Below w1.heap.size w1 w2 := below_grown hg (Nat.le_refl _) (fun _ h => by cases h)
  have B2 := below_more b1 b2 b1.size
  have oz := zeros_ow hown
  have hlt := ow_lt oz
  clear hown hg b1 b2
  refine (implWcl_any A n c xs (manyN xs) (some ⟨w1.heap.size, 0, none⟩) 8 8 (List.replicate 8 0) w2 ((hr.below B2).more B2.size) (oz.rd.more (by omega)) hn (by omega)).mono ?_
  rintro e w3 ⟨X, nx, cx, rfl, oX, b3⟩
  have B3 := below_more B2 b3 B2.size
  have s2 := B2.size
  by_cases hm : manyN xs < 64
  · rw [H1.out hm] at oX
    have hl := oX.len
    rw [H3.out] at hl
    rcases oX.form with ⟨_, h0, _⟩ | ⟨g, rfl, g1, g2, g3, g4⟩
    · omega
    have hd : ((nx : Int) == 0) = false := by simp; omega
    have HL := Lib.hid hl
    clear hl b3 oz H1 H2
    go_wp2_with fail
    go_ret2
    exact .inl ⟨hm, g, nx, cx, rfl, g4, oX.more (by omega) (Nat.le_refl _), B3⟩
  · rw [H2.out hm] at oX
    have hl := oX.len
    obtain rfl : 0 = nx := hl
    clear b3 oz H1 H2
    go_wp2_with fail
    exact ⟨rfl, .inr ⟨hm, ⟨_, _, rfl⟩, B3⟩⟩

set_option maxRecDepth 100000 in
set_option maxHeartbeats 4000000 in
theorem slotLacks_any (gc cc gt ct8 : Nat) (ct ts : List Int) (w : World) (hc : Rd w w.heap.size (some ⟨gc, 0, none⟩) 64 ct) (ht : Rd w w.heap.size (some ⟨gt, 0, none⟩) 8 ts) (hcc : 64 ≤ cc) (h0 : ∀ x ∈ ct, 0 ≤ x) :
    Calls Tryz.prog 133 #[.slice (some ⟨gc, 0, none⟩) 64 cc, .slice (some ⟨gt, 0, none⟩) 8 ct8] w fun e w' => w' = w ∧
      ((∃ k : Nat, k < 8 ∧ e = .returned (.tuple #[.int .i64 k, .bool true]) ∧ passedB ct ts k = true ∧ slotB ct ts k = true) ∨ (e = .returned (.tuple #[.int .i64 0, .bool false]) ∧ passedB ct ts 8 = true)) := by
  have HCl := Lib.hid hc.len
  obtain ⟨b, off, he, hb, hcells⟩ := hc.2 (by omega)
  cases he
  obtain ⟨b', off', he, hb', htc⟩ := ht.2 (by omega)
  cases he
  have HC := Lib.hid hcells
  have HT := Lib.hid htc
  have H0 := Lib.hid h0
  clear hcells htc h0 hc ht
  go_enter Tryz.func133, Tryz.ntmps133
  go_wp2_with fail
  go_loop [7] (fun i => ∃ k : Nat, k ≤ 8 ∧ i = .int .i64 k ∧ passedB ct ts k = true) (fun i => 8 - (intOf i).toNat)
  case atStart => exact ⟨0, by omega, rfl, rfl⟩
  case round =>
    obtain ⟨k, hk, rfl, hp⟩ := hrel
    have HP := Lib.hid hp
    clear hp
    by_cases hlt : k < 8
    · have hck := HT.out k hlt
      rw [Nat.zero_add] at hck
      have HX : Hid (slotB ct ts k = (decide (targetOf (ts.getD k 0) = 0) && !((ct.drop (k * 8)).take 8).all (fun x => x == 0))) := rfl
      generalize ts.getD k 0 = y at *
      by_cases hz : targetOf y = 0
      · have hd : (targetOf y == 0) = true := by simpa using hz
        have hds : decide (targetOf y = 0) = true := by simpa using hz
        rw [hds, Bool.true_and] at HX
        clear hz hds
        have HR8 : Hid (Rd w w.heap.size (some ⟨gc, k * 8, none⟩) 8 ((ct.drop (k * 8)).take 8)) := by
          refine ⟨by rw [List.length_take, List.length_drop, HCl.out]; omega, fun _ => ⟨gc, k * 8, rfl, hb, fun j hj => ?_⟩⟩
          have := HC.out (k * 8 + j) (by omega)
          rw [Nat.zero_add] at this
          rw [this, List.getD_eq_getElem?_getD, List.getD_eq_getElem?_getD, List.getElem?_take, if_pos hj, List.getElem?_drop]
        have HN := Lib.hid (maxN_zero (xs := (ct.drop (k * 8)).take 8) (fun x hx => H0.out x (List.mem_of_mem_drop (List.mem_of_mem_take hx))))
        have HG := Lib.hid (fun x hx => H0.out x (List.mem_of_mem_drop (i := k * 8) (List.mem_of_mem_take (i := 8) hx)))
        rw [← HN.out] at HX
        generalize hcut : (ct.drop (k * 8)).take 8 = cut at *
        cases hm : (maxN cut != 0)
        · have HS : Hid (passedB ct ts (k + 1) = true) := passed_step HP.out (by rw [HX.out, hm])
          clear hcut
          go_wp2_with fail
          refine (implTarget_any y w).mono ?_
          rintro e w' ⟨rfl, rfl⟩
          go_wp2_with fail
          refine (eightOf_any gc k cc k rfl hlt hcc w).mono ?_
          rintro e w' ⟨rfl, rfl⟩
          go_wp2_with fail
          refine (max_any gc (k * 8) 8 8 cut w HR8.out (by omega) (by omega) HG.out).mono ?_
          rintro e w' ⟨rfl, rfl⟩
          go_wp2_with fail
          go_round
          case rel => exact ⟨k + 1, by omega, by go_num, HS.out⟩
          case measure => simp [intOf]; omega
        · have HS : Hid (slotB ct ts k = true) := by show _ = _; rw [HX.out, hm]
          clear hcut
          go_wp2_with fail
          refine (implTarget_any y w).mono ?_
          rintro e w' ⟨rfl, rfl⟩
          go_wp2_with fail
          refine (eightOf_any gc k cc k rfl hlt hcc w).mono ?_
          rintro e w' ⟨rfl, rfl⟩
          go_wp2_with fail
          refine (max_any gc (k * 8) 8 8 cut w HR8.out (by omega) (by omega) HG.out).mono ?_
          rintro e w' ⟨rfl, rfl⟩
          go_wp2_with fail
          go_ret2
          exact ⟨rfl, .inl ⟨k, hlt, rfl, HP.out, HS.out⟩⟩
      · have hd : (targetOf y == 0) = false := by simpa using hz
        have HS : Hid (passedB ct ts (k + 1) = true) := passed_step HP.out (by
          rw [HX.out, show decide (targetOf y = 0) = false from by simpa using hz]
          rfl)
        clear hz HX
        go_wp2_with fail
        refine (implTarget_any y w).mono ?_
        rintro e w' ⟨rfl, rfl⟩
        go_wp2_with fail
        go_round
        case rel => exact ⟨k + 1, by omega, by go_num, HS.out⟩
        case measure => simp [intOf]; omega
    · obtain rfl : k = 8 := by omega
      go_wp2_with fail
      go_ret2
      exact ⟨rfl, .inr ⟨rfl, HP.out⟩⟩

theorem looseL_max (xs : List Int) : (looseL xs).length ≤ 1296 := Nat.le_trans (List.length_filter_le _ _) (claimsL_length xs)
theorem allCt_more {α : Type} (p : α → Bool) (l : List α) (k : Nat) (hk : k < l.length) (h : (l.take k).all p = true) : (l.take (k + 1)).all p = p l[k] := by
  rw [List.take_succ_eq_append_getElem hk, List.all_append, h]; simp
theorem allCt_fails {α : Type} (p : α → Bool) (l : List α) (k : Nat) (hk : k < l.length) (h : p l[k] = false) : l.all p = false := by
  rw [List.all_eq_false]
  exact ⟨l[k], List.getElem_mem hk, by simp [h]⟩

set_option maxRecDepth 100000 in
set_option maxHeartbeats 4000000 in
theorem countable_any (hLo : LooseC) (A : Option Addr) (n c : Nat) (xs : List Int) (w : World) (hr : Rd w w.heap.size A n xs) (hn : n ≤ 2097152) (hnc : n ≤ c) :
    Calls Tryz.prog 114 #[.slice A n c] w fun e w' => Below w.heap.size w w' ∧
      ((readyB xs = true ∧ e = .returned (.slice A n c)) ∨ (readyB xs = false ∧ ∃ (u : TypeId) (v : Value), e = .panicked [{ v := .iface u v, recovered := false }])) := by
  go_enter Tryz.func114, Tryz.ntmps114
  go_wp2_with fail
  refine (implHeadIn_any _ _ _ xs _ hr hn).mono ?_
  rintro e w1 ⟨rfl, b1⟩
  generalize hh : headIn xs = r
  obtain ⟨⟨s, f, r, u, m⟩, is⟩ := r
  have HR := Lib.hid hh
  clear hh
  unfold hdV
  have b2 := b1.alloc b1.size (.cells #[.int .i64 s, .int .i64 f, .int .i64 r, .int .i64 u, .int .i64 m] 33)
  cases is
  · have HN : Hid (readyB xs = false) := by show _ = _; unfold readyB; rw [(headIn_false HR.out).1]; rfl
    go_wp2_with fail
    exact ⟨rfl, b2, .inr ⟨HN.out, _, _, rfl⟩⟩
  · have HP := Lib.hid (ready_prog (headIn_true HR.out).1)
    go_wp2_with fail
    refine (hLo A n c xs _ ((hr.below b2).more b2.size) hn hnc).mono ?_
    rintro e w3 ⟨G, cg, rfl, oG, b3⟩
    have b03 := below_more b2 b3 b2.size
    have hll := looseL_max xs
    have HG := Lib.hid oG
    have HB := Lib.hid b03
    have s3 := b03.size
    clear b3 oG b2 hr b1
    generalize looseL xs = l at *
    generalize hw3 : w3.heap.size = B at *
    go_wp2_with fail
    go_loopw [18] (fun i wr => ∃ k : Nat, k ≤ l.length ∧ i = .int .i64 k ∧ (l.take k).all (fun c => c.kind == 3 && c.target == 0) = true ∧ Below B w3 wr) (fun i _ => l.length - (intOf i).toNat)
    case atStart => exact ⟨0, Nat.zero_le _, rfl, rfl, Below.refl _ _⟩
    case round =>
      obtain ⟨k, hk, rfl, ha, hg⟩ := hrel
      have sr := hg.size
      have HA := Lib.hid ha
      clear ha
      by_cases hlt : k < l.length
      · obtain ⟨g, rfl, hg1, hg2, hg3, hce⟩ := cmr_cells8 HG.out hlt
        have hce : ∀ j v, j < 6 → (cmV (l.getD k cm0))[j]? = some v → wr.cell? ⟨g, k * 6 + j, none⟩ = some v := fun j v hj hv => (hg.cell (p := ⟨g, k * 6 + j, none⟩) (by show g < B; omega)).trans ((hce j hj).trans hv)
        have HNx := Lib.hid (allCt_more (fun c => c.kind == 3 && c.target == 0) l k hlt HA.out)
        have HNo := Lib.hid (allCt_fails (fun c => c.kind == 3 && c.target == 0) l k hlt)
        rw [show l.getD k cm0 = l[k] by simp [List.getD_eq_getElem?_getD, hlt]] at hce
        generalize l[k] = x at *
        obtain ⟨xk, xf, xs', xp, xt, xg⟩ := x
        have e0 : wr.cell? ⟨g, k * 6, none⟩ = some (.int .i64 xk) := hce 0 _ (by omega) rfl
        have e1 : wr.cell? ⟨g, k * 6 + 1, none⟩ = some (.int .i64 xf) := hce 1 _ (by omega) rfl
        have e2 : wr.cell? ⟨g, k * 6 + 2, none⟩ = some (.int .i64 xs') := hce 2 _ (by omega) rfl
        have e3 : wr.cell? ⟨g, k * 6 + 3, none⟩ = some (.int .i64 xp) := hce 3 _ (by omega) rfl
        have e4 : wr.cell? ⟨g, k * 6 + 4, none⟩ = some (.int .i64 xt) := hce 4 _ (by omega) rfl
        have e5 : wr.cell? ⟨g, k * 6 + 5, none⟩ = some (.bool xg) := hce 5 _ (by omega) rfl
        clear hce
        have hg1' := hg.alloc (by omega) (.cells #[.int .i64 xk, .int .i64 xf, .int .i64 xs', .int .i64 xp, .int .i64 xt, .bool xg] 115)
        by_cases h3 : xk = 3
        · by_cases h0 : xt = 0
          · have d1 : (xk != 3) = false := by simp [h3]
            have d2 : (xt != 0) = false := by simp [h0]
            have HE : Hid ((l.take (k + 1)).all (fun c => c.kind == 3 && c.target == 0) = true) := by rw [HNx.out]; simp [h3, h0, Hid]
            clear HNx HNo h3 h0
            go_wp2_with fail
            go_roundw
            case rel => exact ⟨k + 1, by omega, by go_num, HE.out, hg1'⟩
            case measure => simp [intOf]; omega
          · have d1 : (xk != 3) = false := by simp [h3]
            have d2 : (xt != 0) = true := by simpa using h0
            have HE : Hid (readyB xs = false) := by rw [HP.out, HNo.out (by simp [h0])]; exact rfl
            clear HNx HNo h3 h0
            go_wp2_with fail
            exact ⟨rfl, HB.out.trans (hg1'.mono (by omega)), .inr ⟨HE.out, _, _, rfl⟩⟩
        · have d1 : (xk != 3) = true := by simpa using h3
          have HE : Hid (readyB xs = false) := by rw [HP.out, HNo.out (by simp [h3])]; exact rfl
          clear HNx HNo h3
          go_wp2_with fail
          exact ⟨rfl, HB.out.trans (hg1'.mono (by omega)), .inr ⟨HE.out, _, _, rfl⟩⟩
      · obtain rfl : k = l.length := by omega
        have HE : Hid (readyB xs = true) := by
          have := HA.out
          rw [List.take_length] at this
          rw [HP.out]
          exact this
        go_wp2_with fail
        go_ret
        exact ⟨HB.out.trans (hg.mono (by omega)), .inl ⟨HE.out, rfl⟩⟩

/-- A head with another Refs. -/
theorem with_refs {xs : List Int} (hh : hasHead xs = true) (hm : manyN xs < 64) : withHead (moreL xs (List.replicate 8 0)) { headOf xs with refs := manyN xs } = refsL xs := by
  have hall := headB_all (hasHead_ok hh)
  have hb : headB { headOf xs with refs := (manyN xs : Int) } = true := by
    simp only [headB, wordB, Bool.and_eq_true, inB_true]
    omega
  have hml := more_length xs (List.replicate 8 0) (by simp)
  have hmm := more_many xs (List.replicate 8 0) (by simp)
  have hmi := more_img (hasHead_img hh) zeros8 hm
  rw [withHead_yes hb]
  unfold withL
  have hall2 := headB_all hb
  have h8 : eightB (hdW { headOf xs with refs := (manyN xs : Int) }) = true := by
    unfold eightB
    rw [hdW_length, Bool.and_eq_true]
    refine ⟨rfl, ?_⟩
    unfold wordsB
    rw [List.all_eq_true]
    intro x hx
    simp [hdW] at hx
    rw [wordB, inB_true]
    rcases hx with h | h | h | h | h | h | h | h <;> subst h <;> omega
  rw [if_pos]
  · unfold refsL
    rw [more_whole, many_whole, whole_of8 (by rw [hml]; omega)]
    rfl
  · unfold withB
    rw [hmi, h8, inB_true.2 (by omega)]
    simp

set_option maxRecDepth 100000 in
set_option maxHeartbeats 4000000 in
theorem withRefs_any (A : Option Addr) (n c : Nat) (xs : List Int) (w : World) (hr : Rd w w.heap.size A n xs) (hn : n ≤ 2097152) (hnc : n ≤ c) (hh : hasHead xs = true) :
    Calls Tryz.prog 113 #[.slice A n c] w (RetG w (basePC xs)) := by
  have HI := Lib.hid (headIn_yes hh)
  have HM := Lib.hid (hasHead_img hh)
  have HW := Lib.hid (fun hm => with_refs hh hm)
  have HB : Hid (basePC xs = if (headOf xs).refs = 0 then (if manyN xs < 64 then some (refsL xs) else none) else some xs) := rfl
  have hl := hasHead_len hh
  have hxl := hr.len
  clear hh
  go_enter Tryz.func113, Tryz.ntmps113
  go_wp2_with fail
  refine (implHeadIn_any _ _ _ xs _ hr hn).mono ?_
  rintro e w1 ⟨rfl, b1⟩
  rw [HI.out]
  generalize headOf xs = h at *
  obtain ⟨s, f, r, u, m⟩ := h
  unfold hdV
  have b2 := b1.alloc b1.size (.cells #[.int .i64 s, .int .i64 f, .int .i64 r, .int .i64 u, .int .i64 m] 33)
  have hbox : (w1.alloc (.cells #[.int .i64 s, .int .i64 f, .int .i64 r, .int .i64 u, .int .i64 m] 33)).heap[w1.heap.size]? = some (.cells #[.int .i64 s, .int .i64 f, .int .i64 r, .int .i64 u, .int .i64 m] 33 (0, 0)) := heap_alloc_new w1 _
  have hz : (w1.alloc (.cells #[.int .i64 s, .int .i64 f, .int .i64 r, .int .i64 u, .int .i64 m] 33)).heap.size = w1.heap.size + 1 := by simp
  have HZ := Lib.hid hz
  have HBX := Lib.hid hbox
  clear hz hbox
  by_cases h0 : r = 0
  · subst h0
    rw [if_pos rfl] at HB
    go_wp2_with fail
    refine (withZeros_any A n c xs _ ((hr.below b2).more b2.size) hn HM.out).mono ?_
    have s1 := b1.size
    rintro e w3 (⟨hm, g, n3, c3, rfl, hc3, o3, b3⟩ | ⟨hm, ⟨U, V, rfl⟩, b3⟩)
    · have HW2 := Lib.hid (HW.out hm)
      rw [if_pos hm] at HB
      have b03 := below_more b2 b3 b2.size
      have s3 := b3.size
      have HB3 : Hid (w3.heap[w1.heap.size]? = some (.cells #[.int .i64 s, .int .i64 f, .int .i64 0, .int .i64 u, .int .i64 m] 33 (0, 0))) := (b3.block w1.heap.size (by have := HZ.out; omega)).trans HBX.out
      have k0 : w3.cell? ⟨w1.heap.size, 0, none⟩ = some (.int .i64 s) := by rw [cell_of_row w3 w1.heap.size 0 _ _ _ HB3.out]; rfl
      have k1 : w3.cell? ⟨w1.heap.size, 1, none⟩ = some (.int .i64 f) := by rw [cell_of_row w3 w1.heap.size 1 _ _ _ HB3.out]; rfl
      have k2 : w3.cell? ⟨w1.heap.size, 2, none⟩ = some (.int .i64 0) := by rw [cell_of_row w3 w1.heap.size 2 _ _ _ HB3.out]; rfl
      have k3 : w3.cell? ⟨w1.heap.size, 3, none⟩ = some (.int .i64 u) := by rw [cell_of_row w3 w1.heap.size 3 _ _ _ HB3.out]; rfl
      have k4 : w3.cell? ⟨w1.heap.size, 4, none⟩ = some (.int .i64 m) := by rw [cell_of_row w3 w1.heap.size 4 _ _ _ HB3.out]; rfl
      have kf : w3.frozen? ⟨w1.heap.size, 2, none⟩ = false := frozen_of_row w3 w1.heap.size 2 _ _ HB3.out
      have b04 : Below w.heap.size w (w3.setCell ⟨w1.heap.size, 2, none⟩ (.int .i64 (manyN xs))) := b03.setCell s1 _
      have o4 : Ow (w3.setCell ⟨w1.heap.size, 2, none⟩ (.int .i64 (manyN xs))) (w1.heap.size + 1) w3.heap.size (some ⟨g, 0, none⟩) n3 c3 (moreL xs (List.replicate 8 0)) := by
        have := HZ.out
        exact (o3.more (by omega) (Nat.le_refl _)).keep fun q h1 h2 _ => Below.heap_setCell _ _ _ _ (by show q ≠ w1.heap.size; omega)
      have s4 : w3.heap.size ≤ (w3.setCell ⟨w1.heap.size, 2, none⟩ (.int .i64 (manyN xs))).heap.size := by simp [World.setCell]
      have hn3 := o3.len
      rw [more_length _ _ (by simp)] at hn3
      have HN3 := Lib.hid hn3
      have hmx : manyN xs * 8 ≤ 512 := by omega
      clear hn3 b3 b03 HB3 o3
      go_wp2_with fail
      generalize w3.setCell ⟨w1.heap.size, 2, none⟩ (.int .i64 (manyN xs)) = w4 at *
      refine (implWithHead_any (some ⟨g, 0, none⟩) n3 c3 _ ⟨s, f, manyN xs, u, m⟩ w4 (o4.rd.more s4) (by have := HN3.out; omega)).mono ?_
      rintro e w5 ⟨X, nx, cx, rfl, oX, b5⟩
      go_wp2_with fail
      go_ret
      rw [HW2.out] at oX
      rw [HB.out]
      have hcx : nx ≤ cx := by
        rcases oX.form with ⟨_, h0, h1⟩ | ⟨_, _, _, _, _, h1⟩
        · omega
        · exact h1
      exact ⟨X, nx, cx, rfl, oX.rd, hcx, below_more b04 b5 b04.size⟩
    · rw [if_neg hm] at HB
      go_wp2_with fail
      rw [HB.out]
      exact ⟨rfl, ⟨U, V, rfl⟩, below_more b2 b3 b2.size⟩
  · have hd : (r != 0) = true := by simpa using h0
    rw [if_neg h0] at HB
    clear h0
    go_wp2_with fail
    go_ret
    rw [HB.out]
    exact ⟨A, n, c, rfl, (hr.below b2).more b2.size, hnc, b2⟩

end Go.Proofs.YtiokfhdkbpoadabGreatDoor
