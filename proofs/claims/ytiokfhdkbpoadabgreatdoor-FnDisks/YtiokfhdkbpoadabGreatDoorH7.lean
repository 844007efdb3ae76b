/- Scans and repair, as plain functions; what is repaired is sound, and reads as it did or as zeros: plain mathematics. The top promise: what is repaired reads as it did, or as zeros; what was mild keeps all: plain mathematics. -/
import Derived.Test.YtiokfhdkbpoadabGreatDoorH4
import Derived.Test.YtiokfhdkbpoadabGreatDoorH6
import Derived.Test.YtiokfhdkbpoadabGreatDoorG4
import Derived.Test.YtiokfhdkbpoadabGreatDoorG5
namespace Go.Proofs.YtiokfhdkbpoadabGreatDoor
open Go.RowKit

theorem lost_mem (b : List Int) : ∀ (k : Nat) (x : Int), x ∈ (List.range k).foldl (lostStep b) [] → secLikeB b x = true ∧ 1 ≤ x ∧ x ≤ k
  | 0, x, h => by simp at h
  | k + 1, x, h => by
    rw [range_fold] at h
    have ih := lost_mem b k x
    unfold lostStep at h ih
    split at h
    · rename_i hc
      rw [List.mem_append, List.mem_singleton] at h
      rcases h with h | rfl
      · have := ih h; exact ⟨this.1, this.2.1, by omega⟩
      · exact ⟨hc.1, by omega, by omega⟩
    · have := ih h; exact ⟨this.1, this.2.1, by omega⟩
theorem lost_in {b : List Int} {x : Int} (h : x ∈ lostL b) : secLikeB b x = true := (lost_mem b _ x h).1
theorem sec_in {b : List Int} {x : Int} (h : secLikeB b x = true) : 1 ≤ x ∧ x < (rolesL b).length ∧ (rolesL b).getD x.toNat 0 = 0 := by
  unfold secLikeB at h
  rw [Bool.and_eq_true, Bool.and_eq_true] at h
  have := inB_true.1 h.1.1
  exact ⟨by omega, by omega, by simpa using h.1.2⟩
theorem lost_up (b : List Int) : ∀ (k : Nat), ((List.range k).foldl (lostStep b) []).Pairwise (· < ·)
  | 0 => by simp
  | k + 1 => by
    rw [range_fold]
    have ih := lost_up b k
    have hm := lost_mem b k
    unfold lostStep at ih hm ⊢
    split
    · rw [List.pairwise_append]
      refine ⟨ih, by simp, fun x hx y hy => ?_⟩
      rw [List.mem_singleton] at hy
      subst hy
      have := hm x hx
      omega
    · exact ih
theorem lostT_eight {b : List Int} (hh : hasHead b = true) : eightB (lostT b) = true := by
  have hm := manyN_le (hasHead_img hh)
  unfold eightB lostT wordsB
  rw [Bool.and_eq_true, decide_eq_true_eq, List.all_eq_true]
  refine ⟨by simp, fun x hx => ?_⟩
  rw [List.mem_map] at hx
  obtain ⟨i, _, rfl⟩ := hx
  split
  · rename_i hi
    have hmem : (lostL b).getD i 0 ∈ lostL b := by
      rw [List.getD_eq_getElem?_getD, List.getElem?_eq_getElem hi]
      exact List.getElem_mem hi
    have h1 := sec_in (lost_in hmem)
    have h2 := rolesL_length (xs := b)
    exact (target_entry (by omega) (by omega)).2
  · rfl
theorem refound_head {b : List Int} (hh : hasHead b = true) (hm : manyN b < 64) : hasHead (refoundL b) = true ∧ headOf (refoundL b) = { headOf b with first := manyN b } ∧ (refoundL b).length = manyN b * 8 + 8 := by
  have h8 := lostT_eight hh
  have hl := more_length b (lostT b) (eightB_len h8)
  have hall := headB_all (hasHead_ok hh)
  have hb : headB { headOf b with first := manyN b } = true := by
    simp only [headB, wordB, Bool.and_eq_true, inB_true]
    omega
  unfold refoundL
  rw [if_pos ⟨hh, hm⟩]
  obtain ⟨h1, h2, h3⟩ := hd_set (more_img (hasHead_img hh) h8 hm) (by rw [hl]; omega) (by rw [hl]; omega) hb
  exact ⟨h1, h2, h3.trans hl⟩

/-- Cleared, with a first table; nothing for want of room. -/
def first16 (b : List Int) : List Int := if (headOf (clrC b)).first ≠ 0 then clrC b else (if refoundL (clrC b) = [] then [] else clrC (refoundL (clrC b)))
/-- Repaired. -/
def repairedL (b : List Int) : List Int := if hasHead b = true then (if countedL (first16 b) = [] then blankL (headOf b).size else ownedC (countedL (first16 b))) else blankL 8

set_option maxRecDepth 100000 in
theorem blank_all : ((List.range 64).all fun n => soundB (blankL ((n : Int) + 1))) = true := by kernel_rfl
theorem blank_sound {n : Int} (h0 : 1 ≤ n) (h1 : n ≤ 64) : soundB (blankL n) = true := by
  have := blank_all
  rw [List.all_eq_true] at this
  have h2 := this (n - 1).toNat (List.mem_range.2 (by omega))
  rw [show (((n - 1).toNat : Nat) : Int) + 1 = n by omega] at h2
  exact h2
theorem blank_is {n : Int} (h0 : 1 ≤ n) (h1 : n ≤ 64) : blankL n = [20559, 3, n, 1, 2, 0, 0, 0, 0, 0, 0, 0, 0, 0, 0, 0, 3, 0, 0, 0, 0, 0, 0, 0, 1, 1, 1, 1, 0, 0, 0, 0] := by
  unfold blankL
  rw [if_pos (inB_true.2 ⟨h0, h1⟩)]
  rfl
theorem blank_head {n : Int} (h0 : 1 ≤ n) (h1 : n ≤ 64) : hasHead (blankL n) = true ∧ headOf (blankL n) = ⟨n, 1, 2, 0, 0⟩ := by
  refine ⟨sound_head (blank_sound h0 h1), ?_⟩
  rw [blank_is h0 h1]
  rfl
theorem blank_shots {n : Int} (h0 : 1 ≤ n) (h1 : n ≤ 64) : shotsL (blankL n) = [] := by
  unfold shotsL
  rw [headIn_yes (blank_head h0 h1).1, (blank_head h0 h1).2]
  simp only
  split <;> rfl
theorem blank_content {n : Int} (h0 : 1 ≤ n) (h1 : n ≤ 64) {g : Nat} (hg : (g : Int) < n) : contentL (blankL n) 0 g = List.replicate 8 0 := by
  obtain ⟨hh, hd⟩ := blank_head h0 h1
  have ht : thereB (blankL n) 1 = true := by
    have : manyN (blankL n) = 4 := by rw [blank_is h0 h1]; unfold manyN; simp
    exact inB_true.2 (by omega)
  rw [content_at hh (f := 1) (by rw [blank_shots h0 h1]; rfl) (by rw [firstOf_zero hh, hd]) ht (by rw [hd]; exact hg)]
  have hz : targetOf ((cl (blankL n) (1 : Int).toNat).getD (g / 8) 0) = 0 := by
    by_cases h8 : g / 8 < 8
    · rw [cl_word_get _ _ _ h8, blank_is h0 h1]
      have : g / 8 = 0 ∨ g / 8 = 1 ∨ g / 8 = 2 ∨ g / 8 = 3 ∨ g / 8 = 4 ∨ g / 8 = 5 ∨ g / 8 = 6 ∨ g / 8 = 7 := by omega
      rcases this with h | h | h | h | h | h | h | h <;> rw [h] <;> rfl
    · rw [getD_past _ _ (by rw [cl_length]; omega)]; rfl
  exact zero_second hz _
theorem counted_nil : countedL [] = [] := by
  unfold countedL
  have : readyB [] = false := by unfold readyB; rfl
  rw [this]
  rfl
/-- What is cleared, with a first table, may be counted. -/
theorem first16_is {b : List Int} (hh : hasHead b = true) : first16 b = [] ∨ (hasHead (first16 b) = true ∧ (headOf (first16 b)).size = (headOf b).size ∧ ((headOf (first16 b)).many = 0 → (headOf (first16 b)).shots = 0)) := by
  have key : ∀ y : List Int, hasHead y = true → (headOf (clrC y)).size = (headOf y).size ∧ ((headOf (clrC y)).many = 0 → (headOf (clrC y)).shots = 0) := by
    intro y hy
    rw [(clr_head hy).2.1]
    refine ⟨rfl, fun h => ?_⟩
    show (if ((keepW y).length / 2 : Nat) = 0 then 0 else (headOf y).shots) = 0
    have h2 : (((keepW y).length / 2 : Nat) : Int) = 0 := h
    rw [if_pos (by omega)]
  obtain ⟨k1, k2⟩ := key b hh
  unfold first16
  by_cases h0 : (headOf (clrC b)).first ≠ 0
  · rw [if_pos h0]
    exact .inr ⟨(clr_head hh).1, k1, k2⟩
  · rw [if_neg h0]
    by_cases hn : refoundL (clrC b) = []
    · rw [if_pos hn]; exact .inl rfl
    · rw [if_neg hn]
      have hm : manyN (clrC b) < 64 := by
        by_cases h : hasHead (clrC b) = true ∧ manyN (clrC b) < 64
        · exact h.2
        · exact absurd (by unfold refoundL; rw [if_neg h]) hn
      obtain ⟨r1, r2, _⟩ := refound_head (clr_head hh).1 hm
      obtain ⟨k3, k4⟩ := key _ r1
      exact .inr ⟨(clr_head r1).1, by rw [k3, r2]; exact k1, k4⟩
/-- What is repaired is sound, and of the same size. -/
theorem repaired_sound {b : List Int} : soundB (repairedL b) = true ∧ (hasHead b = true → (headOf (repairedL b)).size = (headOf b).size) := by
  unfold repairedL
  cases hh : hasHead b
  · rw [if_neg (by simp)]
    exact ⟨blank_sound (by omega) (by omega), fun h => by cases h⟩
  · rw [if_pos rfl]
    have hsz := (headB_all (hasHead_ok hh)).1
    by_cases hn : countedL (first16 b) = []
    · rw [if_pos hn]
      exact ⟨blank_sound hsz.1 hsz.2, fun _ => by rw [(blank_head hsz.1 hsz.2).2]⟩
    · rw [if_neg hn]
      rcases first16_is hh with h | ⟨_, h2, h3⟩
      · rw [h, counted_nil] at hn; exact absurd rfl hn
      · refine ⟨done_sound hn h3, fun _ => ?_⟩
        obtain ⟨_, K⟩ := counted_ok hn
        rw [(owned_head K.onto.beside.head).2, K.onto.beside.size, h2]
theorem first_ne {b : List Int} (hg : ∀ c ∈ claimsC b, c.good = true) : (headOf b).first ≠ 0 := by
  intro h0
  have hm := c4_sub b _ (first_claim b)
  have := good_there hm (hg _ hm) (by simp)
  simp only at this
  rw [h0, there_zero] at this
  cases this
/-- A sound image stays as it is. -/
theorem repaired_same {b : List Int} (h : soundB b = true) : repairedL b = b := by
  have S := sound_is h
  obtain ⟨e1, e2, e3⟩ := sound_same S
  have ef : first16 b = b := by unfold first16; rw [e1, if_pos (first_ne S.good)]
  have hne : b ≠ [] := fun e => by
    have := (hasHead_len S.head).1
    rw [e] at this
    simp at this
  unfold repairedL
  rw [if_pos S.head, ef, e2, if_neg hne, e3]

theorem cd_few (st ct : List Int) : ∀ (k c : Nat), c < k → st.getD c 0 < ct.getD c 0 → ∃ d ∈ (List.range k).foldl (cdStep st ct) [], d.kind = 5
  | 0, c, h, _ => by omega
  | k + 1, c, hc, hlt => by
    rw [range_fold]
    have pre : (List.range k).foldl (cdStep st ct) [] <+: cdStep st ct ((List.range k).foldl (cdStep st ct) []) k := by
      generalize (List.range k).foldl (cdStep st ct) [] = o
      unfold cdStep
      split
      · exact List.prefix_append _ _
      · split
        · exact List.prefix_append _ _
        · exact List.prefix_refl _
    by_cases e : c = k
    · subst e
      generalize (List.range c).foldl (cdStep st ct) [] = o
      refine ⟨⟨5, c, st.getD c 0⟩, ?_, rfl⟩
      unfold cdStep
      rw [if_pos hlt]
      simp
    · obtain ⟨d, hd, hk⟩ := cd_few st ct k c (by omega) hlt
      exact ⟨d, pre.subset hd, hk⟩
/-- What is known of a mild image. -/
structure MildP (b : List Int) : Prop where
  head : hasHead b = true
  eight : b.length % 8 = 0
  good : ∀ c ∈ claimsC b, c.good = true
  shots : (headOf b).many = 0 → (headOf b).shots = 0
  most : ∀ c, c < 64 → (countsC (claimsC b)).getD c 0 ≤ (storedL b).getD c 0
theorem mild_is {b : List Int} (h : mildB b = true) : MildP b := by
  unfold mildB at h
  rw [Bool.and_eq_true, List.all_eq_true] at h
  obtain ⟨hh, h⟩ := h
  have hd : ∀ d ∈ d5L b, d.kind = 6 ∨ d.kind = 7 := by
    intro d hd
    have := h d (by unfold defectsL; rw [hasHead_img hh, if_pos rfl, hh, if_pos rfl]; exact hd)
    unfold mildK at this
    simpa using this
  have h4 : ∀ d ∈ d4L b, d.kind = 6 ∨ d.kind = 7 := fun d hd' => hd d (by unfold d5L; simp [hd'])
  have h3 : ∀ d ∈ d3L b, d.kind = 6 ∨ d.kind = 7 := fun d hd' => h4 d (by unfold d4L; simp [hd'])
  have h2 : ∀ d ∈ d2L b, d.kind = 6 ∨ d.kind = 7 := fun d hd' => h3 d (by unfold d3L; split <;> simp [hd'])
  refine ⟨hh, ?_, fun c hc => ?_, fun hm => ?_, fun c hc => ?_⟩
  · by_cases h8 : b.length % 8 = 0
    · exact h8
    · have := h2 ⟨2, b.length, 0⟩ (by unfold d2L d1L; rw [if_pos h8]; simp)
      simp at this
  · cases hg : c.good
    · have := h2 (looseD c) (by
        unfold d2L
        rw [List.mem_append]
        refine .inr (List.mem_map.2 ⟨c, ?_, rfl⟩)
        unfold looseL claimsL
        rw [if_pos hh, List.mem_filter]
        exact ⟨hc, by simp [hg]⟩)
      simp [looseD] at this
    · rfl
  · by_cases hs : (headOf b).shots = 0
    · exact hs
    · have := h3 ⟨4, (headOf b).shots, 0⟩ (by unfold d3L; rw [if_pos ⟨hm, hs⟩]; simp)
      simp at this
  · by_cases hlt : (storedL b).getD c 0 < (countsC (claimsC b)).getD c 0
    · obtain ⟨d, hd', hk⟩ := cd_few (storedL b) (countsC (claimsC b)) 64 c hc hlt
      have := h4 d (by unfold d4L cntDefs; simp [hd'])
      omega
    · omega
theorem MildP.counted {b : List Int} (M : MildP b) : first16 b = b ∧ countedL (first16 b) ≠ [] := by
  have e1 := clr_same M.head M.eight M.good M.shots
  have ef : first16 b = b := by unfold first16; rw [e1, if_pos (first_ne M.good)]
  refine ⟨ef, ?_⟩
  rw [ef, (counted_writes M.head M.eight M.good (lacks_stored M.head M.most)).1]
  intro e
  have h1 := congrArg List.length e
  rw [write_length] at h1
  have := whole_pos M.head
  simp at h1
  omega
theorem shots_none {b : List Int} (hh : hasHead b = true) (hm : (headOf b).many = 0) : shotsL b = [] := by
  unfold shotsL
  rw [headIn_yes hh]
  simp only
  rw [hm]
  split <;> rfl
/-- What comes of clearing, counting and flagging. -/
structure Chain (b x : List Int) : Prop where
  shows : Shows b x
  first : (headOf x).first = (headOf (clrC b)).first
  seconds : (shotsL x).map (·.2) = (keepC b).map (·.target)
  names : namesL x = (keepC b).map (fun c => ((shotsL b).getD c.slot.toNat (0, 0)).1)
theorem chain_is {b : List Int} (hh : hasHead b = true) (h : countedL (clrC b) ≠ []) : Chain b (ownedC (countedL (clrC b))) := by
  obtain ⟨_, K⟩ := counted_ok h
  have T := clr_tidy hh
  have C := clr_is hh
  have O := K.onto
  have Sz : Shows b (countedL (clrC b)) := shows_onto (shows_clr hh) (fun t ht => clr_plain hh ht) O
  have hz := O.beside.head
  obtain ⟨e1, e2, e3, e4, e5⟩ := O.beside.body T
  obtain ⟨o1, o2⟩ := owned_head hz
  have Sx : Shows b (ownedC (countedL (clrC b))) := by
    refine shows_owned Sz (fun c hc hg hk => ⟨c, ?_, hg, hk, rfl⟩)
    have hm : c ∈ gd (claimsC b) := List.mem_filter.2 ⟨hc, hg⟩
    rw [gd_c6 C, List.mem_append, List.mem_append] at hm
    rw [O.tidy.claims]
    rcases hm with (hm | hm) | hm
    · unfold gd at hm
      have := c4_kind b c (List.mem_filter.1 hm).1
      omega
    · have := (rSec_kind hm).1
      omega
    · rw [← e4] at hm
      unfold rawC
      simp [hm]
  have hmany : (headOf (ownedC (countedL (clrC b)))).many = (keepC b).length := by rw [o2, O.beside.many]; exact C.kept
  by_cases hn : keepC b = []
  · have h0 : shotsL (ownedC (countedL (clrC b))) = [] := shots_none o1 (by rw [hmany, hn]; rfl)
    exact ⟨Sx, by rw [o2, O.beside.first], by rw [h0, hn]; rfl, by unfold namesL; rw [h0, hn]; rfl⟩
  · obtain ⟨s1, s2, s3⟩ := clr_shots hh hn
    have hmy : (headOf (clrC b)).many ≠ 0 := by rw [C.kept]; have := List.length_pos_iff.2 hn; omega
    have hsz : shotsL (countedL (clrC b)) = shotsL (clrC b) := e5 hmy
    have h5 : (⟨5, 0, 0, 0, (headOf (countedL (clrC b))).shots, true⟩ : Cm) ∈ claimsC (countedL (clrC b)) := by
      rw [O.tidy.claims]
      refine raw_sh ?_
      unfold rSh
      rw [if_neg (by rw [O.beside.many]; exact hmy)]
      simp
    have hsx := owned_shots hz h5
    exact ⟨Sx, by rw [o2, O.beside.first], by rw [hsx, hsz]; exact s2, by unfold namesL; rw [hsx, hsz]; exact s3⟩
/-- Which numbers the first tables have that stay. -/
def leftL (b : List Int) : List Int := 0 :: (keepC b).map (fun c => c.slot + 1)
theorem keep_c4 {b : List Int} {c : Cm} (hc : c ∈ keepC b) : c ∈ c4C b (headOf b) := by
  unfold keepC at hc
  exact (List.mem_filter.1 hc).1
theorem keep_slot {b : List Int} {c : Cm} (hc : c ∈ keepC b) : 0 ≤ c.slot ∧ c.slot < (shotsL b).length := by
  obtain ⟨h1, h2, _⟩ := keepC_mem hc
  obtain ⟨J3, J4, J5, J6, P⟩ := claims_parts b
  rcases P.of4 (P.kind6 h1 (.inr h2)) with h | h
  · omega
  · exact ⟨h.2.2.1, h.2.2.2.1⟩
theorem chain_content {b x : List Int} (hh : hasHead b = true) (R : Chain b x) (hf : goodB b (headOf b).size [⟨1, 0, 0, 0, 0, true⟩] ⟨2, 0, 0, 0, (headOf b).first, false⟩ = true) {i : Nat} (hi : i < (leftL b).length) {g : Nat} (hg : (g : Int) < (headOf b).size) :
    (contentL x i g).length = 8 ∧ (contentL x i g = contentL b ((leftL b).getD i 0) g ∨ (contentL x i g = List.replicate 8 0 ∧ ∃ c ∈ claimsC b, c.good = false)) := by
  have hx := R.shows.head
  cases i with
  | zero =>
    have hm := first_claim b
    rw [hf] at hm
    have e : (headOf x).first = (headOf b).first := by rw [R.first, (clr_is hh).first, if_pos hf]
    exact content_shows hh R.shows hm rfl (.inl rfl) (inB_true.2 (by omega)) (inB_true.2 (by omega)) (firstOf_zero hh) (by rw [show ((0 : Nat) : Int) = 0 from rfl, firstOf_zero hx, e]) hg
  | succ i =>
    have hi2 : i < (keepC b).length := by unfold leftL at hi; simpa using hi
    have hc := List.getElem_mem hi2
    have hgl : (leftL b).getD (i + 1) 0 = ((keepC b)[i]).slot + 1 := by
      unfold leftL
      rw [List.getD_cons_succ, List.getD_eq_getElem?_getD, List.getElem?_map, List.getElem?_eq_getElem hi2]
      rfl
    obtain ⟨_, hk, hgd⟩ := keepC_mem hc
    obtain ⟨s0, s1⟩ := keep_slot hc
    have ht := (keepC_shot hc).1
    have hlen : (shotsL x).length = (keepC b).length := by
      have := congrArg List.length R.seconds
      rw [List.length_map, List.length_map] at this
      exact this
    have hsec : ((shotsL x).getD i (0, 0)).2 = ((keepC b)[i]).target := by
      have h1 : ((shotsL x).map (·.2))[i]? = ((keepC b).map (·.target))[i]? := by rw [R.seconds]
      rw [List.getElem?_map, List.getElem?_map, List.getElem?_eq_getElem hi2, List.getElem?_eq_getElem (by omega)] at h1
      rw [List.getD_eq_getElem?_getD, List.getElem?_eq_getElem (by omega)]
      simpa using h1
    generalize (keepC b)[i] = c at *
    rw [hgl]
    refine content_shows hh R.shows (keep_c4 hc) hgd (.inr hk) (inB_true.2 (by omega)) (inB_true.2 (by omega)) ?_ ?_ hg
    · rw [firstOf_in hh (by omega) (inB_true.2 (by omega)), ht, show (c.slot + 1 - 1).toNat = c.slot.toNat by omega]
    · rw [firstOf_in hx (by omega) (inB_true.2 (by omega)), show (((i + 1 : Nat) : Int) - 1).toNat = i by omega, hsec]
theorem blank_left {n : Int} (h0 : 1 ≤ n) (h1 : n ≤ 64) {i : Nat} (hi : i ≤ (namesL (blankL n)).length) {g : Nat} (hg : (g : Int) < n) : contentL (blankL n) i g = List.replicate 8 0 := by
  unfold namesL at hi
  rw [blank_shots h0 h1] at hi
  have : i = 0 := by simpa using hi
  subst this
  exact blank_content h0 h1 hg
/-- What is repaired has all that was mild, and else reads as it did, or as zeros. -/
theorem repaired_reads {b : List Int} (hh : hasHead b = true) :
    (mildB b = true → namesL (repairedL b) = namesL b) ∧ (goodB b (headOf b).size [⟨1, 0, 0, 0, 0, true⟩] ⟨2, 0, 0, 0, (headOf b).first, false⟩ = true →
      ∀ i : Nat, i < (leftL b).length → i ≤ (namesL (repairedL b)).length → ∀ g : Nat, (g : Int) < (headOf b).size →
        (contentL (repairedL b) i g).length = 8 ∧ (contentL (repairedL b) i g = contentL b ((leftL b).getD i 0) g ∨ (contentL (repairedL b) i g = List.replicate 8 0 ∧ mildB b = false))) := by
  have hsz := (headB_all (hasHead_ok hh)).1
  have er : repairedL b = if countedL (first16 b) = [] then blankL (headOf b).size else ownedC (countedL (first16 b)) := by unfold repairedL; rw [if_pos hh]
  refine ⟨fun hm => ?_, fun hf i hi hin g hg => ?_⟩
  · have M := mild_is hm
    obtain ⟨e1, e2⟩ := M.counted
    have ec := clr_same M.head M.eight M.good M.shots
    rw [er, if_neg e2]
    rw [e1] at e2 ⊢
    have R := chain_is hh (by rw [ec]; exact e2)
    rw [ec] at R
    rw [R.names]
    obtain ⟨hk, hsl⟩ := keep_full hh M.good
    unfold namesL
    have hlen : (shotsL b).length = (keepC b).length := by
      by_cases h0 : (headOf b).many = 0
      · rw [shots_none hh h0, hk, if_pos h0]; rfl
      · rw [hk, if_neg h0]
        have hne : keepC b ≠ [] := fun e => by
          rw [e, if_neg h0] at hk
          have := headB_all (hasHead_ok hh)
          simp at hk
          omega
        obtain ⟨c, hc⟩ := List.exists_mem_of_ne_nil _ hne
        rw [shots_len hh (keepC_shot hc).2]
        simp
    apply List.ext_getElem?
    intro i
    rw [List.getElem?_map, List.getElem?_map]
    by_cases hi : i < (keepC b).length
    · rw [List.getElem?_eq_getElem hi, List.getElem?_eq_getElem (by omega)]
      simp only [Option.map_some]
      rw [hsl i hi, Int.toNat_natCast, List.getD_eq_getElem?_getD, List.getElem?_eq_getElem (by omega)]
      rfl
    · rw [List.getElem?_eq_none (by omega), List.getElem?_eq_none (by omega)]
      rfl
  · have e16 : first16 b = clrC b := by
      unfold first16
      rw [if_pos]
      rw [(clr_is hh).first, if_pos hf]
      intro h0
      have := goodB_there hf
      simp only at this
      rw [h0, there_zero] at this
      cases this
    rw [er] at hin ⊢
    by_cases hn : countedL (first16 b) = []
    · rw [if_pos hn] at hin ⊢
      have hc := blank_left hsz.1 hsz.2 hin hg
      refine ⟨by rw [hc]; simp, .inr ⟨hc, ?_⟩⟩
      cases hm : mildB b
      · rfl
      · exact absurd hn ((mild_is hm).counted).2
    · rw [if_neg hn] at hin ⊢
      rw [e16] at hn hin ⊢
      obtain ⟨h1, h2⟩ := chain_content hh (chain_is hh hn) hf hi hg
      refine ⟨h1, ?_⟩
      rcases h2 with h | ⟨h, c, hc, hg2⟩
      · exact .inl h
      · refine .inr ⟨h, ?_⟩
        cases hm : mildB b
        · rfl
        · have := (mild_is hm).good c hc
          rw [hg2] at this
          cases this

end Go.Proofs.YtiokfhdkbpoadabGreatDoor
