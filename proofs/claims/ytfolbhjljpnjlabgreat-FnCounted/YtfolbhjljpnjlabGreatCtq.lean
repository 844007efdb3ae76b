/- Counting anew, as the program does it: plain mathematics. -/
import Derived.Test.YtfolbhjljpnjlabGreatH3
import Derived.Test.YtfolbhjljpnjlabGreatRoQ
namespace Go.Proofs.YtfolbhjljpnjlabGreat
open Go.RowKit

theorem eq_getD {a b : List Int} (hl : a.length = b.length) (h : ∀ j, a.getD j 0 = b.getD j 0) : a = b := by
  apply List.ext_getElem hl
  intro i h1 h2
  have := h i
  rw [List.getD_eq_getElem?_getD, List.getD_eq_getElem?_getD, List.getElem?_eq_getElem h1, List.getElem?_eq_getElem h2] at this
  exact this
theorem whole_of8 {b : List Int} (h : b.length % 8 = 0) : whole b = b := eq_getD (by rw [whole_length]; unfold manyN; omega) (whole_get b)
theorem raw_four {b : List Int} {h : Hd} {c : Cm} (hc : c ∈ rawC b h) (hk : c.kind = 4) : c ∈ rBlk b h := by
  unfold rawC r4C r1C at hc
  simp only [List.mem_append, List.mem_cons, List.not_mem_nil, or_false] at hc
  rcases hc with ((((rfl | rfl | rfl) | h) | h) | h) | h
  · cases hk
  · cases hk
  · cases hk
  · exact h
  · exfalso
    unfold rSh at h
    split at h
    · cases h
    · rw [List.mem_cons] at h
      rcases h with rfl | h
      · cases hk
      · unfold shotT at h
        rw [List.mem_map] at h
        obtain ⟨i, _, rfl⟩ := h
        cases hk
  · exfalso
    unfold rSec at h
    rw [List.mem_flatMap] at h
    obtain ⟨f, _, h⟩ := h
    have := (tabT_kind h).1
    omega
  · exfalso
    unfold rDat at h
    rw [List.mem_flatMap] at h
    obtain ⟨f, _, h⟩ := h
    have := (tabT_kind h).1
    omega
/-- Where a block's claim leads. -/
theorem four_target {b : List Int} {c : Cm} (hc : c ∈ rawC b (headOf b)) (hk : c.kind = 4) : c.target = targetOf ((cl b (headOf b).refs.toNat).getD c.slot.toNat 0) := by
  have hb := raw_four hc hk
  unfold rBlk at hb
  split at hb
  · obtain ⟨i, hi, ht, rfl⟩ := tabT_mem.1 hb
    simp only [Int.toNat_natCast]
  · cases hb
/-- The slot's block is where the word of Refs leads. -/
theorem block_word {b : List Int} (T : Tidy b) (h0 : (headOf b).refs ≠ 0) (s : Nat) (hs : s < 8) : (blocksC (claimsC b)).getD s 0 = targetOf ((cl b (headOf b).refs.toNat).getD s 0) := by
  rcases block_is (b := b) s hs with ⟨c, hc, hg, hk, hsl, he⟩ | ⟨he, hno⟩
  · rw [T.claims] at hc
    rw [he, four_target hc hk, hsl, Int.toNat_natCast]
  · rw [he]
    by_cases hz : targetOf ((cl b (headOf b).refs.toNat).getD s 0) = 0
    · exact hz.symm
    · exfalso
      have hin : (⟨4, (headOf b).refs.toNat, s, 0 + 0 * (s : Int), targetOf ((cl b (headOf b).refs.toNat).getD s 0), true⟩ : Cm) ∈ claimsC b := by
        rw [T.claims]
        refine raw_blk ?_
        unfold rBlk
        rw [if_pos h0]
        exact tabT_mem.2 ⟨s, hs, hz, rfl⟩
      exact hno _ hin rfl rfl rfl
theorem count_zero {b : List Int} (T : Tidy b) : 1 ≤ (countsC (claimsC b)).getD 0 0 := by
  have hm : (⟨1, 0, 0, 0, 0, true⟩ : Cm) ∈ claimsC b := by rw [T.claims]; exact raw_r1 (by unfold r1C; simp)
  have hp : 0 < ((claimsC b).filter (fun x => x.good && decide (x.target.toNat = 0))).length := List.length_pos_of_mem (List.mem_filter.2 ⟨hm, by simp⟩)
  unfold countsC
  rw [cnt_sum 0 _ _ (by simp), zeros_get]
  omega

/-- The first slot that lacks a block is found by slots. -/
theorem lacks_slot {ct bs : List Int} {s : Nat} (hs : s < 8) (hb : bs.getD s 0 = 0) (hx : ∃ i, i < 8 ∧ ct.getD (s * 8 + i) 0 ≠ 0) (hno : ∀ s', s' < s → bs.getD s' 0 = 0 → ∀ i, i < 8 → ct.getD (s' * 8 + i) 0 = 0) : lacksC ct bs = (s : Int) := by
  obtain ⟨i, hi, hc⟩ := hx
  have hl : lackAt ct bs (s * 8 + i) = true := by
    unfold lackAt
    rw [show (s * 8 + i) / 8 = s from by omega, hb]
    simpa using hc
  unfold lacksC
  cases hf : (List.range 64).find? (lackAt ct bs) with
  | none =>
    rw [List.find?_eq_none] at hf
    exact absurd hl (by simpa using hf (s * 8 + i) (List.mem_range.2 (by omega)))
  | some c =>
    obtain ⟨h1, h2, h3⟩ := List.find?_range_eq_some.1 hf
    have h2 := List.mem_range.1 h2
    have hc1 : c ≤ s * 8 + i := by
      by_cases h : c ≤ s * 8 + i
      · exact h
      · have := h3 (s * 8 + i) (by omega)
        rw [hl] at this
        cases this
    have hc2 : ¬ c / 8 < s := fun h => by
      unfold lackAt at h1
      rw [Bool.and_eq_true, decide_eq_true_eq, decide_eq_true_eq] at h1
      have := hno (c / 8) h h1.2 (c % 8) (by omega)
      rw [show c / 8 * 8 + c % 8 = c from by omega] at this
      exact h1.1 this
    show ((c / 8 : Nat) : Int) = s
    have : c / 8 = s := by omega
    omega
theorem lacks_no {ct bs : List Int} (hno : ∀ s', s' < 8 → bs.getD s' 0 = 0 → ∀ i, i < 8 → ct.getD (s' * 8 + i) 0 = 0) : lacksC ct bs < 0 := by
  unfold lacksC
  cases hf : (List.range 64).find? (lackAt ct bs) with
  | none => simp
  | some c =>
    exfalso
    have h1 := List.find?_some hf
    have h2 := List.mem_range.1 (List.mem_of_find?_eq_some hf)
    unfold lackAt at h1
    rw [Bool.and_eq_true, decide_eq_true_eq, decide_eq_true_eq] at h1
    have := hno (c / 8) (by omega) h1.2 (c % 8) (by omega)
    rw [show c / 8 * 8 + c % 8 = c from by omega] at this
    exact h1.1 this

/-- What the program asks of a slot. -/
def slotB (ct ts : List Int) (s : Nat) : Bool := decide (targetOf (ts.getD s 0) = 0) && !((ct.drop (s * 8)).take 8).all (fun x => x == 0)
theorem cut_all {ct : List Int} {s : Nat} : ((ct.drop (s * 8)).take 8).all (fun x => x == 0) = true ↔ ∀ i, i < 8 → ct.getD (s * 8 + i) 0 = 0 := by
  rw [List.all_eq_true]
  constructor
  · intro h i hi
    by_cases hl : s * 8 + i < ct.length
    · have := h ct[s * 8 + i] (by
        rw [List.mem_iff_getElem?]
        refine ⟨i, ?_⟩
        rw [List.getElem?_take, if_pos hi, List.getElem?_drop, List.getElem?_eq_getElem hl])
      rw [List.getD_eq_getElem?_getD, List.getElem?_eq_getElem hl]
      simpa using this
    · exact getD_past _ _ (by omega)
  · intro h x hx
    rw [List.mem_iff_getElem?] at hx
    obtain ⟨i, hx⟩ := hx
    rw [List.getElem?_take] at hx
    split at hx
    · rename_i hi
      rw [List.getElem?_drop] at hx
      have := h i hi
      rw [List.getD_eq_getElem?_getD, hx] at this
      simpa using this
    · cases hx
/-- Slots below k have been passed over. -/
def passedB (ct ts : List Int) (k : Nat) : Bool := (List.range k).all (fun s => !slotB ct ts s)
theorem passed_step {ct ts : List Int} {k : Nat} (h : passedB ct ts k = true) (hs : slotB ct ts k = false) : passedB ct ts (k + 1) = true := by
  unfold passedB at *
  rw [List.range_succ, List.all_append, h]
  simp [hs]
theorem passed_at {ct ts : List Int} {k s : Nat} (h : passedB ct ts k = true) (hs : s < k) (ht : targetOf (ts.getD s 0) = 0) : ∀ i, i < 8 → ct.getD (s * 8 + i) 0 = 0 := by
  unfold passedB at h
  rw [List.all_eq_true] at h
  have := h s (List.mem_range.2 hs)
  unfold slotB at this
  rw [ht] at this
  exact cut_all.1 (by simpa using this)
theorem lacks_found {b : List Int} (T : Tidy b) (h0 : (headOf b).refs ≠ 0) {k : Nat} (hk : k < 8) (h : passedB (countsC (claimsC b)) (cl b (headOf b).refs.toNat) k = true) (hs : slotB (countsC (claimsC b)) (cl b (headOf b).refs.toNat) k = true) : lacksL b = (k : Int) := by
  unfold slotB at hs
  rw [Bool.and_eq_true, decide_eq_true_eq] at hs
  unfold lacksL
  refine lacks_slot hk (by rw [block_word T h0 k hk]; exact hs.1) ?_ (fun s' h1 h2 => passed_at h h1 (by rw [← block_word T h0 s' (by omega)]; exact h2))
  by_cases hx : ∃ i, i < 8 ∧ (countsC (claimsC b)).getD (k * 8 + i) 0 ≠ 0
  · exact hx
  · exfalso
    have : ((List.drop (k * 8) (countsC (claimsC b))).take 8).all (fun x => x == 0) = true := cut_all.2 (fun i hi => by
      by_cases hz : (countsC (claimsC b)).getD (k * 8 + i) 0 = 0
      · exact hz
      · exact absurd ⟨i, hi, hz⟩ hx)
    rw [this] at hs
    simp at hs
theorem lacks_passed {b : List Int} (T : Tidy b) (h0 : (headOf b).refs ≠ 0) (h : passedB (countsC (claimsC b)) (cl b (headOf b).refs.toNat) 8 = true) : lacksL b < 0 := by
  unfold lacksL
  exact lacks_no (fun s' h1 h2 => passed_at h h1 (by rw [← block_word T h0 s' h1]; exact h2))

/-- A block more, as the program makes it: the table Refs is written anew. -/
theorem step_prog {b : List Int} {R s : Nat} (hR : R < manyN b) (hs : s < 8) (hl : lacksL b = (s : Int)) :
    setCl (whole (moreL b (List.replicate 8 0))) R ((cl b R).set s (manyN b)) = blockStep R b ∧ cl (blockStep R b) R = (cl b R).set s (manyN b) := by
  have hml := more_length b (List.replicate 8 0) (by simp)
  have hwe : whole (moreL b (List.replicate 8 0)) = moreL b (List.replicate 8 0) := whole_of8 (by rw [hml]; omega)
  have hw8 : ((cl b R).set s (manyN b : Int)).length = 8 := by rw [List.length_set, cl_length]
  have e : blockStep R b = (moreL b (List.replicate 8 0)).set (R * 8 + s) (manyN b) := by unfold blockStep; rw [hl]; rfl
  have hcw : ∀ i, i < 8 → ((cl b R).set s (manyN b : Int)).getD i 0 = if i = s then (manyN b : Int) else b.getD (R * 8 + i) 0 := by
    intro i hi
    rw [getD_set, cl_length]
    by_cases h : s = i
    · rw [if_pos ⟨h, by omega⟩, if_pos h.symm]
    · rw [if_neg (fun h2 => h h2.1), if_neg (fun h2 => h h2.symm), cl_word_get _ _ _ hi]
  refine ⟨?_, ?_⟩
  · rw [hwe, e]
    refine eq_getD ?_ (fun j => ?_)
    · rw [setCl_length (by rw [hml]; omega) (by rw [hml]; omega) hw8, if_neg (by rw [hml]; omega), List.length_set]
    · rw [setCl_get (by rw [hml]; omega) hw8, getD_set (moreL b (List.replicate 8 0)), hml, more_get _ _ (by simp)]
      by_cases h : R * 8 ≤ j ∧ j < R * 8 + 8
      · rw [if_pos h, hcw _ (by omega)]
        by_cases h2 : j - R * 8 = s
        · rw [if_pos h2, if_pos ⟨by omega, by omega⟩]
        · rw [if_neg h2, if_neg (show ¬ (R * 8 + s = j ∧ R * 8 + s < manyN b * 8 + 8) by omega), if_neg (show ¬ manyN b * 8 ≤ j by omega), show R * 8 + (j - R * 8) = j from by omega]
      · rw [if_neg h, if_neg (show ¬ (R * 8 + s = j ∧ R * 8 + s < manyN b * 8 + 8) by omega)]
  · refine eq_getD (by rw [cl_length, hw8]) (fun i => ?_)
    by_cases hi : i < 8
    · rw [cl_word_get _ _ _ hi, hcw i hi, e, getD_set, hml, more_get _ _ (by simp)]
      by_cases h2 : i = s
      · rw [if_pos h2, if_pos ⟨by omega, by omega⟩]
      · rw [if_neg h2, if_neg (show ¬ (R * 8 + s = R * 8 + i ∧ R * 8 + s < manyN b * 8 + 8) by omega), if_neg (show ¬ manyN b * 8 ≤ R * 8 + i by omega)]
    · rw [getD_past _ _ (by rw [cl_length]; omega), getD_past _ _ (by rw [hw8]; omega)]

/-- The counts are written, claim by claim. -/
def putW (ct : List Int) (o : List Int) (c : Cm) : List Int := if c.kind = 4 then setCl (whole o) c.target.toNat ((ct.drop (c.slot.toNat * 8)).take 8) else o
theorem putW_many {ct o : List Int} {c : Cm} (hc : ct.length = 64) (hs : c.slot.toNat < 8) (ht : c.kind = 4 → c.target.toNat < manyN o) : manyN (putW ct o c) = manyN o := by
  unfold putW
  split
  · rename_i hk
    have := ht hk
    unfold manyN at this ⊢
    rw [setCl_length (by rw [whole_length]; omega) (by rw [whole_length]; unfold manyN; omega) (by rw [List.length_take, List.length_drop, hc]; omega), whole_length]
    unfold manyN
    rw [if_neg (by omega)]
    omega
  · rfl
theorem putW_get {ct o : List Int} {c : Cm} (hc : ct.length = 64) (hs : c.slot.toNat < 8) (hk : c.kind = 4) (ht : c.target.toNat < manyN o) (j : Nat) :
    (putW ct o c).getD j 0 = if c.target.toNat * 8 ≤ j ∧ j < c.target.toNat * 8 + 8 then ct.getD (c.slot.toNat * 8 + (j - c.target.toNat * 8)) 0 else o.getD j 0 := by
  unfold putW
  rw [if_pos hk, setCl_get (by rw [whole_length]; omega) (by rw [List.length_take, List.length_drop, hc]; omega), whole_get]
  split
  · rw [List.getD_eq_getElem?_getD, List.getElem?_take, if_pos (by omega), List.getElem?_drop, ← List.getD_eq_getElem?_getD]
  · rfl
/-- What lets the counts be written by these claims. -/
structure PutOk (m : Nat) (l : List Cm) : Prop where
  slot : ∀ c ∈ l, c.kind = 4 → c.slot.toNat < 8
  there : ∀ c ∈ l, c.kind = 4 → c.target.toNat < m
  one : ∀ c ∈ l, ∀ d ∈ l, c.kind = 4 → d.kind = 4 → c.target.toNat = d.target.toNat → c = d
theorem putW_skip {ct o : List Int} {c : Cm} (hk : ¬ c.kind = 4) : putW ct o c = o := if_neg hk
theorem putW_many' {ct o : List Int} {c : Cm} (hc : ct.length = 64) (hs : c.kind = 4 → c.slot.toNat < 8) (ht : c.kind = 4 → c.target.toNat < manyN o) : manyN (putW ct o c) = manyN o := by
  by_cases hk : c.kind = 4
  · exact putW_many hc (hs hk) ht
  · rw [putW_skip hk]
theorem put_many {ct : List Int} (hc : ct.length = 64) : ∀ (l : List Cm) (o : List Int), (∀ c ∈ l, c.kind = 4 → c.slot.toNat < 8) → (∀ c ∈ l, c.kind = 4 → c.target.toNat < manyN o) → manyN (l.foldl (putW ct) o) = manyN o
  | [], _, _, _ => rfl
  | c :: l, o, h1, h2 => by
    have e := putW_many' hc (h1 c (by simp)) (h2 c (by simp))
    rw [List.foldl_cons, put_many hc l _ (fun d hd => h1 d (by simp [hd])) (fun d hd => by rw [e]; exact h2 d (by simp [hd])), e]
theorem put_other {ct : List Int} (hc : ct.length = 64) (j : Nat) : ∀ (l : List Cm) (o : List Int), (∀ c ∈ l, c.kind = 4 → c.slot.toNat < 8) → (∀ c ∈ l, c.kind = 4 → c.target.toNat < manyN o) → (∀ c ∈ l, c.kind = 4 → c.target.toNat ≠ j / 8) → (l.foldl (putW ct) o).getD j 0 = o.getD j 0
  | [], _, _, _, _ => rfl
  | c :: l, o, h1, h2, h3 => by
    have e := putW_many' hc (h1 c (by simp)) (h2 c (by simp))
    rw [List.foldl_cons, put_other hc j l _ (fun d hd => h1 d (by simp [hd])) (fun d hd => by rw [e]; exact h2 d (by simp [hd])) (fun d hd => h3 d (by simp [hd]))]
    by_cases hk : c.kind = 4
    · have := h3 c (by simp) hk
      rw [putW_get hc (h1 c (by simp) hk) hk (h2 c (by simp) hk), if_neg (by omega)]
    · rw [putW_skip hk]
theorem put_at {ct : List Int} (hc : ct.length = 64) (d : Cm) (hd4 : d.kind = 4) (i : Nat) (hi : i < 8) : ∀ (l : List Cm) (o : List Int), (∀ c ∈ l, c.kind = 4 → c.slot.toNat < 8) → (∀ c ∈ l, c.kind = 4 → c.target.toNat < manyN o) → (∀ c ∈ l, c.kind = 4 → c.target.toNat = d.target.toNat → c = d) → d ∈ l →
    (l.foldl (putW ct) o).getD (d.target.toNat * 8 + i) 0 = ct.getD (d.slot.toNat * 8 + i) 0
  | [], _, _, _, _, h => by cases h
  | c :: l, o, h1, h2, h3, h => by
    have e := putW_many' hc (h1 c (by simp)) (h2 c (by simp))
    rw [List.foldl_cons]
    by_cases hin : d ∈ l
    · exact put_at hc d hd4 i hi l _ (fun x hx => h1 x (by simp [hx])) (fun x hx => by rw [e]; exact h2 x (by simp [hx])) (fun x hx => h3 x (by simp [hx])) hin
    · have hcd : d = c := by
        rcases List.mem_cons.1 h with h | h
        · exact h
        · exact absurd h hin
      subst hcd
      rw [put_other hc _ l _ (fun x hx => h1 x (by simp [hx])) (fun x hx => by rw [e]; exact h2 x (by simp [hx])) (fun x hx hk ht => hin (by
        have := h3 x (by simp [hx]) hk (by omega)
        rw [← this]; exact hx)), putW_get hc (h1 d (by simp) hd4) hd4 (h2 d (by simp) hd4), if_pos (by omega)]
      congr 1
      omega
theorem put_length {ct : List Int} (hc : ct.length = 64) : ∀ (l : List Cm) (o : List Int), (∀ c ∈ l, c.kind = 4 → c.slot.toNat < 8) → (∀ c ∈ l, c.kind = 4 → c.target.toNat < manyN o) → (o.length % 8 = 0 ∨ ∃ c ∈ l, c.kind = 4) → (l.foldl (putW ct) o).length = manyN o * 8
  | [], o, _, _, h => by
    rcases h with h | ⟨c, hc, _⟩
    · show o.length = _; unfold manyN; omega
    · cases hc
  | c :: l, o, h1, h2, h => by
    have e := putW_many' hc (h1 c (by simp)) (h2 c (by simp))
    rw [List.foldl_cons, put_length hc l _ (fun d hd => h1 d (by simp [hd])) (fun d hd => by rw [e]; exact h2 d (by simp [hd])) ?_, e]
    by_cases hk : c.kind = 4
    · have h3 := h1 c (by simp) hk
      have h4 := h2 c (by simp) hk
      refine .inl ?_
      unfold putW
      rw [if_pos hk, setCl_length (by rw [whole_length]; omega) (by rw [whole_length]; omega) (by rw [List.length_take, List.length_drop, hc]; omega), whole_length, if_neg (by omega)]
      omega
    · rw [putW_skip hk]
      rcases h with h | ⟨x, hx, hxk⟩
      · exact .inl h
      · rcases List.mem_cons.1 hx with rfl | hx
        · exact absurd hxk hk
        · exact .inr ⟨x, hx, hxk⟩
theorem put_has {b : List Int} (T : Tidy b) (hl : lacksL b < 0) : ∃ c ∈ (claimsC b).filter (fun c => c.good), c.kind = 4 := by
  rcases block_is (b := b) 0 (by omega) with ⟨c, hc, hg, hk, _, _⟩ | ⟨h4, _⟩
  · exact ⟨c, List.mem_filter.2 ⟨hc, hg⟩, hk⟩
  · exfalso
    have hz := lacks_none (ct := countsC (claimsC b)) (bs := blocksC (claimsC b)) hl 0 (by omega) h4
    have hone : 1 ≤ (countsC (claimsC b)).getD 0 0 := count_zero T
    omega
/-- All that the program writes is what is written. -/
theorem put_write {b : List Int} (T : Tidy b) (hl : lacksL b < 0) : ((claimsC b).filter (fun c => c.good)).foldl (putW (countsC (claimsC b))) b = writeC b := by
  have hct := counts_length (claimsC b)
  have hmem : ∀ {c : Cm}, c ∈ (claimsC b).filter (fun c => c.good) → c ∈ claimsC b ∧ c.good = true := fun h => by rw [List.mem_filter] at h; exact ⟨h.1, h.2⟩
  have h1 : ∀ c ∈ (claimsC b).filter (fun c => c.good), c.kind = 4 → c.slot.toNat < 8 := fun c hc _ => by
    have := claims_ok b c (hmem hc).1
    have := this.slot0
    have := (claims_ok b c (hmem hc).1).slot1
    omega
  have h2 : ∀ c ∈ (claimsC b).filter (fun c => c.good), c.kind = 4 → 1 ≤ c.target ∧ c.target.toNat < manyN b := fun c hc hk => by
    have := there_lt (good_there (hmem hc).1 (hmem hc).2 (by omega))
    omega
  have h3 : ∀ c ∈ (claimsC b).filter (fun c => c.good), ∀ d ∈ (claimsC b).filter (fun c => c.good), c.kind = 4 → d.kind = 4 → c.target.toNat = d.target.toNat → c = d := fun c hc d hd hk hk' ht => by
    have := h2 c hc hk
    have := h2 d hd hk'
    exact (good_one (hmem hc).1 (hmem hd).1 (hmem hc).2 (hmem hd).2 (by omega)).2 (by omega)
  have hex := put_has T hl
  refine eq_getD ?_ (fun j => ?_)
  · rw [put_length hct _ _ h1 (fun c hc hk => (h2 c hc hk).2) (.inr hex), write_length]
  · by_cases hj : ∃ d ∈ (claimsC b).filter (fun c => c.good), d.kind = 4 ∧ d.target.toNat = j / 8
    · obtain ⟨d, hd, hk, ht⟩ := hj
      have e1 := put_at hct d hk (j % 8) (by omega) _ b h1 (fun c hc hk => (h2 c hc hk).2) (fun c hc hk' ht' => h3 c hc d hd hk' hk ht') hd
      rw [show d.target.toNat * 8 + j % 8 = j from by omega] at e1
      rw [e1]
      have hs7 := h1 d hd hk
      have hs0 := (claims_ok b d (hmem hd).1).slot0
      have hbw : (blocksC (claimsC b)).getD d.slot.toNat 0 = d.target := by
        rcases block_is (b := b) d.slot.toNat hs7 with ⟨c, hc, hg, hk', hsl, he⟩ | ⟨_, hno⟩
        · have hc' := hc
          have hd' := (hmem hd).1
          rw [T.claims] at hc' hd'
          rw [he, four_target hc' hk', four_target hd' hk, hsl]
          rw [Int.toNat_natCast]
        · exact absurd (by omega) (hno d (hmem hd).1 (hmem hd).2 hk)
      have ht2 := h2 d hd hk
      unfold writeC wtTo
      have e2 := wt_at (countsC (claimsC b)) (blocksC (claimsC b)) (whole b) (fun s s' hs hs' h h' => block_inj hs hs' h h') (fun s => block_pos s) (fun s hs => by
        rcases blocks_there b s with h | h
        · exact absurd h hs
        · have := there_lt h
          rw [whole_length]
          omega) 64 (Nat.le_refl _) (d.slot.toNat * 8 + j % 8) (by omega) (by rw [show (d.slot.toNat * 8 + j % 8) / 8 = d.slot.toNat from by omega, hbw]; omega)
      unfold posB at e2
      rw [show (d.slot.toNat * 8 + j % 8) / 8 = d.slot.toNat from by omega, hbw, show (d.slot.toNat * 8 + j % 8) % 8 = j % 8 from by omega, show d.target.toNat * 8 + j % 8 = j from by omega] at e2
      exact e2.symm
    · rw [put_other hct j _ b h1 (fun c hc hk => (h2 c hc hk).2) (fun c hc hk ht => hj ⟨c, hc, hk, ht⟩)]
      unfold writeC wtTo
      rw [wt_other _ _ _ _ _ (fun c hc hb e => ?_), whole_get]
      rcases block_is (b := b) (c / 8) (by omega) with ⟨d, hd, hg, hk, _, ht⟩ | ⟨h4, _⟩
      · refine hj ⟨d, List.mem_filter.2 ⟨hd, hg⟩, hk, ?_⟩
        unfold posB at e
        rw [ht] at e
        omega
      · exact hb h4

/-- What the program makes ready: Refs, where there is none. -/
def basePC (xs : List Int) : Option (List Int) := if (headOf xs).refs = 0 then (if manyN xs < 64 then some (refsL xs) else none) else some xs
theorem lacks_whole {xs : List Int} (T : Tidy xs) : lacksL (whole xs) = lacksL xs := by
  obtain ⟨O, e⟩ := onto_whole T
  unfold lacksL
  rw [show claimsC (whole xs) = claimsC xs from by rw [O.tidy.claims, T.claims, e]]
theorem whole_whole (xs : List Int) : whole (whole xs) = whole xs := whole_of8 (by rw [whole_length]; omega)
theorem more_whole (xs ws : List Int) : moreL (whole xs) ws = moreL xs ws := by unfold moreL; rw [whole_whole, many_whole]
theorem step_whole {xs : List Int} (T : Tidy xs) (R : Nat) : blockStep R (whole xs) = blockStep R xs := by unfold blockStep; rw [more_whole, many_whole, lacks_whole T]
theorem write_whole {xs : List Int} (T : Tidy xs) : writeC (whole xs) = writeC xs := by
  obtain ⟨O, e⟩ := onto_whole T
  unfold writeC wtTo
  rw [show claimsC (whole xs) = claimsC xs from by rw [O.tidy.claims, T.claims, e], whole_whole]
theorem fix_whole {xs : List Int} (T : Tidy xs) (R : Nat) : ∀ k, countEnd (fixBlocks R k (whole xs)) = countEnd (fixBlocks R k xs)
  | 0 => by
    unfold fixBlocks
    rw [lacks_whole T]
    split
    · exact write_whole T
    · rfl
  | k + 1 => by
    unfold fixBlocks
    rw [lacks_whole T, many_whole, step_whole T]
    split
    · exact write_whole T
    · rfl
theorem counted_prog {xs : List Int} (h : readyB xs = true) : countedL xs = countMid (basePC xs) := by
  obtain ⟨T, _⟩ := ready_tidy h
  unfold countedL
  rw [if_pos h]
  unfold countBase basePC
  rw [many_whole]
  split
  · rfl
  · show countEnd (fixBlocks (headOf (whole xs)).refs.toNat 64 (whole xs)) = countEnd (fixBlocks (headOf xs).refs.toNat 64 xs)
    rw [(head_whole T.head).2]
    exact fix_whole T _ _
/-- The program asks each loose claim for its target. -/
theorem ready_prog {xs : List Int} (h : hasHead xs = true) : readyB xs = (looseL xs).all (fun c => c.kind == 3 && c.target == 0) := by
  unfold readyB
  rw [h, Bool.true_and, headIn_yes h]
  have hm : ∀ c ∈ looseL xs, c ∈ claimsC xs := by
    intro c hc
    unfold looseL claimsL at hc
    rw [h, if_pos rfl, List.mem_filter] at hc
    exact hc.1
  generalize looseL xs = l at *
  induction l with
  | nil => rfl
  | cons c l ih =>
    rw [List.all_cons, List.all_cons, ih (fun x hx => hm x (by simp [hx]))]
    congr 1
    by_cases hk : c.kind = 3
    · rw [kind3_is (hm c (by simp)) hk]
    · have hf : (c.kind == 3) = false := by simpa using hk
      rw [hf]
      rfl
end Go.Proofs.YtfolbhjljpnjlabGreat
