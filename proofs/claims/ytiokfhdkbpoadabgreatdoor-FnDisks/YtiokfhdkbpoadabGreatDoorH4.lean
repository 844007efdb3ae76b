/- Sound images: what they are, that what is done anew is sound, and that they stay: plain mathematics. Contents: what is read of an image, and of what was cleared, counted and flagged anew: plain mathematics. -/
import Derived.Test.YtiokfhdkbpoadabGreatDoorH3
import Derived.Test.YtiokfhdkbpoadabGreatDoorH6
namespace Go.Proofs.YtiokfhdkbpoadabGreatDoor
open Go.RowKit

theorem cd_same (st : List Int) : ∀ k : Nat, (List.range k).foldl (cdStep st st) [] = []
  | 0 => rfl
  | k + 1 => by
    rw [range_fold, cd_same st k]
    unfold cdStep
    rw [if_neg (by omega), if_neg (by omega)]
/-- What a sound image is. -/
structure SoundP (b : List Int) : Prop where
  head : hasHead b = true
  eight : b.length % 8 = 0
  good : ∀ c ∈ claimsC b, c.good = true
  shots : (headOf b).many = 0 → (headOf b).shots = 0
  stored : storedL b = countsL b
  wrongs : wrongsC b = []
theorem sound_is {b : List Int} (h : soundB b = true) : SoundP b := by
  obtain ⟨h1, _, h3⟩ := sound_parts h
  refine ⟨sound_head h, h1, fun c hc => sound_good h hc, fun hm => ?_, sound_stored h, h3⟩
  have h5 := sound_d5 h
  unfold d5L d4L d3L at h5
  by_cases hs : (headOf b).shots = 0
  · exact hs
  · rw [if_pos ⟨hm, hs⟩] at h5
    simp at h5
theorem SoundP.sound {b : List Int} (S : SoundP b) : soundB b = true := by
  have hi := hasHead_img S.head
  have hl : looseL b = [] := by
    unfold looseL claimsL
    rw [if_pos S.head, List.filter_eq_nil_iff]
    intro c hc
    simp [S.good c hc]
  have ec : countsL b = countsC (claimsC b) := by unfold countsL; rw [if_pos S.head]
  have hd : defectsL b = [] := by
    unfold defectsL
    rw [hi, if_pos rfl, S.head, if_pos rfl]
    unfold d5L d4L d3L d2L d1L
    rw [S.wrongs, hl, S.stored, ec, if_neg (fun h => h.2 (S.shots h.1)), if_neg (by simpa using S.eight)]
    unfold cntDefs
    rw [cd_same]
    rfl
  unfold soundB
  rw [hi, hd]
  rfl
/-- What is counted and flagged anew is sound. -/
theorem done_sound {y : List Int} (h : countedL y ≠ []) (hs : (headOf y).many = 0 → (headOf y).shots = 0) : soundB (ownedC (countedL y)) = true := by
  obtain ⟨_, K⟩ := counted_ok h
  have hh := K.onto.beside.head
  obtain ⟨h1, h2⟩ := owned_head hh
  refine SoundP.sound ⟨h1, by rw [owned_length]; omega, fun c hc => ?_, fun hm => ?_, ?_, owned_wrongs hh⟩
  · rw [owned_claims hh] at hc
    exact K.good c hc
  · rw [h2] at hm ⊢
    rw [K.onto.beside.many] at hm
    rw [K.onto.beside.shots]
    exact hs hm
  · rw [owned_stored hh, K.stored]
    unfold countsL
    rw [hh, h1, owned_claims hh]

theorem getD_ext {a b : List Int} (hl : a.length = b.length) (h : ∀ j, a.getD j 0 = b.getD j 0) : a = b := by
  apply List.ext_getElem hl
  intro i h1 h2
  have := h i
  rw [List.getD_eq_getElem?_getD, List.getD_eq_getElem?_getD, List.getElem?_eq_getElem h1, List.getElem?_eq_getElem h2] at this
  exact this
theorem whole_eight {b : List Int} (h : b.length % 8 = 0) : whole b = b := getD_ext (by rw [whole_length]; unfold manyN; omega) (whole_get b)
theorem hasHead_words {b : List Int} (h : hasHead b = true) : b.getD 0 0 = 20559 ∧ b.getD 1 0 = 3 ∧ b.getD 7 0 = 0 := by
  unfold hasHead at h
  simp only [Bool.and_eq_true, decide_eq_true_eq] at h
  exact ⟨h.2.2.1, h.2.2.2.1, h.2.2.2.2.1⟩
/-- Where no claim is loose all shots stay. -/
theorem keep_full {b : List Int} (hh : hasHead b = true) (hg : ∀ c ∈ claimsC b, c.good = true) : (keepC b).length = (if (headOf b).many = 0 then 0 else (headOf b).many.toNat) ∧ ∀ i (hi : i < (keepC b).length), ((keepC b)[i]).slot = i := by
  obtain ⟨J3, J4, J5, J6, P⟩ := claims_parts b
  have e : keepC b = J4.filter (fun c => c.kind == 6 && c.good) := by
    unfold keepC
    rw [P.c4, List.filter_append]
    have : (c3C b (headOf b)).filter (fun c => c.kind == 6 && c.good) = [] := by
      rw [List.filter_eq_nil_iff]
      intro c hc
      have := c3_kind b _ c hc
      simp
      intro h
      omega
    rw [this, List.nil_append]
  have hall : ∀ c ∈ J4, c.good = true := fun c hc => hg c (P.mem.2 (.inr (.inr (.inl hc))))
  by_cases hm : (headOf b).many = 0
  · have h4 : J4 = [] := by
      have := P.c4
      unfold c4C shotsC at this
      rw [if_pos hm] at this
      have h2 := congrArg List.length this
      simp at h2
      exact h2
    rw [e, h4, if_pos hm]
    exact ⟨rfl, by simp⟩
  · have h5 : ∃ J, J4 = ⟨5, 0, 0, 0, (headOf b).shots, true⟩ :: J ∧ J.map erC = (shotT (headOf b) (shotsL b)).map erC := by
      rcases P.e4 with ⟨g, h1, h2⟩ | h1 | h1
      · have := hall ⟨5, 0, 0, 0, (headOf b).shots, g⟩ (by rw [h1]; simp)
        simp only at this
        rw [h2] at this
        cases this
      · exfalso
        have h2 := P.c4
        rw [h1, List.append_nil] at h2
        unfold c4C shotsC at h2
        rw [if_neg hm] at h2
        have hl := congrArg List.length h2
        split at hl
        · rw [shot_fold] at hl
          obtain ⟨J, hJ, _⟩ := fold_er b (headOf b).size (shotT (headOf b) (shotsL b)) (addC b (headOf b).size (c3C b (headOf b)) ⟨5, 0, 0, 0, (headOf b).shots, false⟩)
          rw [hJ, List.length_append, addC_length] at hl
          omega
        · rw [addC_length] at hl
          omega
      · exact h1
    obtain ⟨J, h6, h7⟩ := h5
    have hmem5 : (⟨5, 0, 0, 0, (headOf b).shots, true⟩ : Cm) ∈ claimsC b := P.mem.2 (.inr (.inr (.inl (by rw [h6]; simp))))
    have hk : ∀ c ∈ J, c.kind = 6 := by
      intro c hc
      obtain ⟨d, hd, he⟩ := er_mem h7 hc
      rw [(er_eq he).1]
      exact (shotT_kind hd).1
    have e2 : keepC b = J := by
      rw [e, h6, List.filter_cons_of_neg (by simp), List.filter_eq_self]
      intro c hc
      rw [hk c hc, hall c (by rw [h6]; simp [hc])]
      rfl
    have hlen : J.length = (shotsL b).length := by
      have := congrArg List.length h7
      rw [List.length_map, List.length_map] at this
      rw [this]
      unfold shotT
      simp
    have hsl : (shotsL b).length = (headOf b).many.toNat := by rw [shots_len hh hmem5]; simp
    rw [if_neg hm]
    refine ⟨by rw [e2]; omega, fun i hi => ?_⟩
    have hi2 : i < J.length := by rw [← e2]; exact hi
    have h8 : (J.map erC)[i]? = ((shotT (headOf b) (shotsL b)).map erC)[i]? := by rw [h7]
    rw [List.getElem?_map, List.getElem?_map, List.getElem?_eq_getElem hi2] at h8
    unfold shotT at h8
    rw [List.getElem?_map, List.getElem?_range (by omega)] at h8
    simp only [Option.map_some, Option.some.injEq] at h8
    have h9 := (er_eq h8.symm).2.2.1
    simp only at h9
    have e3 : (keepC b)[i] = J[i] := by simp only [e2]
    rw [e3]
    exact h9
/-- Where nothing is loose nothing is cleared. -/
theorem clr_same {b : List Int} (hh : hasHead b = true) (h8 : b.length % 8 = 0) (hg : ∀ c ∈ claimsC b, c.good = true) (hs : (headOf b).many = 0 → (headOf b).shots = 0) : clrC b = b := by
  obtain ⟨hk, hsl⟩ := keep_full hh hg
  have hkw := keepW_length b
  have hall := headB_all (hasHead_ok hh)
  have hhd : clrHead b = headOf b := by
    have n2 : (claimsC b).any (fun c => !c.good && c.kind == 2) = false := by
      rw [List.any_eq_false]; intro c hc; rw [hg c hc]; simp
    have n3 : (claimsC b).any (fun c => !c.good && c.kind == 3) = false := by
      rw [List.any_eq_false]; intro c hc; rw [hg c hc]; simp
    have hmany : (((keepW b).length / 2 : Nat) : Int) = (headOf b).many := by
      rw [hkw, hk]
      split <;> omega
    have hshots : (if ((keepW b).length / 2 : Nat) = 0 then 0 else (headOf b).shots) = (headOf b).shots := by
      split
      · rename_i h0
        rw [hs (by omega)]
      · rfl
    unfold clrHead
    rw [n2, n3, hmany, hshots]
    simp
  obtain ⟨_, _, hlen⟩ := clr_head hh
  obtain ⟨w0, w1, w7⟩ := hasHead_words hh
  refine getD_ext (by rw [hlen]; unfold manyN; omega) (fun j => ?_)
  unfold clrC
  rw [setCl_get (by omega) (hdW_length _), hhd]
  by_cases hj : j < 8
  · rw [if_pos (by omega)]
    have : j = 0 ∨ j = 1 ∨ j = 2 ∨ j = 3 ∨ j = 4 ∨ j = 5 ∨ j = 6 ∨ j = 7 := by omega
    rcases this with rfl | rfl | rfl | rfl | rfl | rfl | rfl | rfl
    · exact w0.symm
    · exact w1.symm
    · rfl
    · rfl
    · rfl
    · rfl
    · rfl
    · exact w7.symm
  · rw [if_neg (by omega)]
    unfold clr2
    rw [clr_get, if_neg, clr1_get hh]
    · split
      · rename_i h
        obtain ⟨hok, hj1, hj2⟩ := h
        have h5 := shots_ok.1 hok
        have hne : ¬ (headOf b).many = 0 := fun h0 => by omega
        have hk2 : (keepC b).length = (headOf b).many.toNat := by rw [hk, if_neg hne]
        have hmm := hall.2.2.2.2
        generalize hi : j - (headOf b).shots.toNat * 8 = i
        have hij : j = (headOf b).shots.toNat * 8 + i := by omega
        have hi2 : i / 2 < (keepC b).length := by omega
        have hg2 := pairs_get (pairW b) (fun _ => rfl) (keepC b) (i / 2) (i % 2) hi2 (by omega)
        rw [show 2 * (i / 2) + i % 2 = i by omega, ← keepW_flat] at hg2
        rw [hg2]
        unfold pairW
        rw [hsl _ hi2, Int.toNat_natCast, shots_len hh h5, List.getD_eq_getElem?_getD (i := i / 2), List.getElem?_map, List.getElem?_range (by omega)]
        simp only [Option.map_some, Option.getD_some]
        have hc : i % 2 = 0 ∨ i % 2 = 1 := by omega
        rcases hc with hc | hc
        · rw [hc]
          show (cl b (headOf b).shots.toNat).getD (2 * (i / 2)) 0 = _
          rw [cl_word_get _ _ _ (by omega), hij]
          congr 1
          omega
        · rw [hc]
          show (cl b (headOf b).shots.toNat).getD (2 * (i / 2) + 1) 0 = _
          rw [cl_word_get _ _ _ (by omega), hij]
          congr 1
          omega
      · rfl
    · rw [List.any_eq_true]
      rintro ⟨c, hc, h⟩
      unfold lzB at h
      rw [hg c hc] at h
      simp at h
/-- Where no block lacks nothing is made. -/
theorem counted_writes {b : List Int} (hh : hasHead b = true) (h8 : b.length % 8 = 0) (hg : ∀ c ∈ claimsC b, c.good = true) (hl : lacksL b < 0) : countedL b = writeC b ∧ (headOf b).refs ≠ 0 := by
  have hr : readyB b = true := by
    unfold readyB
    have : looseL b = [] := by
      unfold looseL claimsL
      rw [if_pos hh, List.filter_eq_nil_iff]
      intro c hc
      simp [hg c hc]
    rw [hh, this]
    rfl
  have h0 : (headOf b).refs ≠ 0 := by
    intro h0
    have hm := refs_claim b
    have := good_there hm (hg _ hm) (by simp)
    simp only at this
    rw [h0, there_zero] at this
    cases this
  refine ⟨?_, h0⟩
  unfold countedL countBase
  rw [hr, if_pos rfl, if_neg h0, whole_eight h8]
  show countEnd (blocksL b) = _
  unfold blocksL
  rw [fix_done hl]
  rfl
theorem lacks_stored {b : List Int} (hh : hasHead b = true) (hle : ∀ c, c < 64 → (countsC (claimsC b)).getD c 0 ≤ (storedL b).getD c 0) : lacksL b < 0 := by
  unfold lacksL
  by_cases h : lacksC (countsC (claimsC b)) (blocksC (claimsC b)) < 0
  · exact h
  · exfalso
    cases hc : (List.range 64).find? (lackAt (countsC (claimsC b)) (blocksC (claimsC b))) with
    | none =>
      have e : lacksC (countsC (claimsC b)) (blocksC (claimsC b)) = -1 := by unfold lacksC; rw [hc]
      omega
    | some c =>
      have h1 := List.find?_some hc
      have h2 := List.mem_range.1 (List.mem_of_find?_eq_some hc)
      unfold lackAt at h1
      rw [Bool.and_eq_true, decide_eq_true_eq, decide_eq_true_eq] at h1
      have h3 := hle c h2
      have h4 : (storedL b).getD c 0 = 0 := by
        unfold storedL storedC
        rw [if_pos hh, List.getD_eq_getElem?_getD, List.getElem?_map, List.getElem?_range h2]
        simp only [Option.map_some, Option.getD_some]
        rw [if_neg (by rw [h1.2]; simp)]
      have h5 := (counts_bound (claimsC b) (claims_length b) c).1
      omega
theorem write_same {b : List Int} (hh : hasHead b = true) (h8 : b.length % 8 = 0) (hs : storedL b = countsL b) : writeC b = b := by
  have ec : countsL b = countsC (claimsC b) := by unfold countsL; rw [if_pos hh]
  refine getD_ext (by rw [write_length]; unfold manyN; omega) (fun j => ?_)
  unfold writeC wtTo
  by_cases hex : ∃ c, c < 64 ∧ (blocksC (claimsC b)).getD (c / 8) 0 ≠ 0 ∧ posB (blocksC (claimsC b)) c = j
  · obtain ⟨c, hc, hb, rfl⟩ := hex
    rw [wt_at (countsC (claimsC b)) (blocksC (claimsC b)) (whole b) (fun s s' hs hs' h h' => block_inj hs hs' h h') (fun s => block_pos s) (fun s hs => by
        rcases blocks_there b s with h | h
        · exact absurd h hs
        · have := there_lt h
          rw [whole_length]
          omega) 64 (Nat.le_refl _) c hc hb, ← ec, ← hs]
    unfold storedL storedC
    rw [if_pos hh, List.getD_eq_getElem?_getD, List.getElem?_map, List.getElem?_range hc]
    simp only [Option.map_some, Option.getD_some]
    rw [if_pos hb, cl_word_get _ _ _ (by omega)]
    rfl
  · rw [wt_other _ _ _ _ _ (fun c hc hb e => hex ⟨c, hc, hb, e⟩), whole_get]
/-- A sound image stays as it is. -/
theorem sound_same {b : List Int} (S : SoundP b) : clrC b = b ∧ countedL b = b ∧ ownedC b = b := by
  have ec : countsL b = countsC (claimsC b) := by unfold countsL; rw [if_pos S.head]
  refine ⟨clr_same S.head S.eight S.good S.shots, ?_, ?_⟩
  · rw [(counted_writes S.head S.eight S.good (lacks_stored S.head (fun c _ => by rw [S.stored, ec]; exact Int.le_refl _))).1]
    exact write_same S.head S.eight S.stored
  · unfold ownedC
    rw [S.wrongs]
    exact whole_eight S.eight

theorem content_at {b : List Int} (hh : hasHead b = true) {which f : Int} (hw : inB which 0 ((shotsL b).length : Int) = true) (hf : firstOf b which = f) (hth : thereB b f = true) {g : Nat} (hg : (g : Int) < (headOf b).size) :
    contentL b which g = orZero (tableL b (targetOf ((tableL b (targetOf ((cl b f.toNat).getD (g / 8) 0))).getD (g % 8) 0))) := by
  have hsz := headB_all (hasHead_ok hh)
  have hgi : inB (g : Int) 0 ((headOf b).size - 1) = true := inB_true.2 (by omega)
  have e1 : firstEntry b which ((g : Int) / 8) = (cl b f.toNat).getD (g / 8) 0 := by
    have e : tableL b (firstOf b which) = cl b f.toNat := by rw [hf, tableL_in hh hth]
    unfold firstEntry
    rw [e, cl_length, if_pos (inB_true.2 (by omega)), show ((g : Int) / 8).toNat = g / 8 by omega]
  unfold contentL
  rw [if_pos ⟨hh, hw, hgi⟩, entryAt_in hh hgi, e1, show ((g : Int) % 8).toNat = g % 8 by omega]
/-- What x shows of what b claims. -/
structure Shows (b x : List Int) : Prop where
  head : hasHead x = true
  size : (headOf x).size = (headOf b).size
  more : manyN b ≤ manyN x
  tab : ∀ c ∈ claimsC b, c.kind = 7 ∨ c.kind = 8 → targetOf ((cl x c.frm.toNat).getD c.slot.toNat 0) = if c.good = true then c.target else 0
  nul : ∀ c ∈ claimsC b, c.good = true → c.kind = 2 ∨ c.kind = 6 ∨ c.kind = 7 → ∀ i, i < 8 → targetOf ((cl b c.target.toNat).getD i 0) = 0 → targetOf ((cl x c.target.toNat).getD i 0) = 0
  dat : ∀ c ∈ claimsC b, c.good = true → c.kind = 8 → cl x c.target.toNat = cl b c.target.toNat
theorem tableL_zero (b : List Int) : tableL b 0 = [] := tableL_out (there_zero b)
theorem zero_second {x : List Int} {t : Int} (h : t = 0) (i : Nat) : orZero (tableL x (targetOf ((tableL x t).getD i 0))) = List.replicate 8 0 := by
  have e : targetOf 0 = 0 := rfl
  rw [h, tableL_zero, getD_past [] i (by simp), e, tableL_zero]
  rfl
theorem zero_data {x : List Int} {t : Int} (h : t = 0) : orZero (tableL x t) = List.replicate 8 0 := by
  rw [h, tableL_zero]
  rfl
theorem content_shows {b x : List Int} (hh : hasHead b = true) (S : Shows b x) {d : Cm} (hd : d ∈ c4C b (headOf b)) (hgd : d.good = true) (hk : d.kind = 2 ∨ d.kind = 6) {wb wx : Int} (hwb : inB wb 0 ((shotsL b).length : Int) = true) (hwx : inB wx 0 ((shotsL x).length : Int) = true)
    (hfb : firstOf b wb = d.target) (hfx : firstOf x wx = d.target) {g : Nat} (hg : (g : Int) < (headOf b).size) :
    (contentL x wx g).length = 8 ∧ (contentL x wx g = contentL b wb g ∨ (contentL x wx g = List.replicate 8 0 ∧ ∃ c ∈ claimsC b, c.good = false)) := by
  have hdc := c4_sub b d hd
  have ht := good_there hdc hgd (by omega)
  have htl := there_lt ht
  have hthx := there_more S.more ht
  have hsz := headB_all (hasHead_ok hh)
  rw [content_at hh hwb hfb ht hg, content_at S.head hwx hfx hthx (by rw [S.size]; exact hg)]
  refine ⟨orZero_length _, ?_⟩
  have hff : d.target ∈ firstsC (c4C b (headOf b)) := by
    unfold firstsC
    rw [List.mem_map]
    exact ⟨d, List.mem_filter.2 ⟨hd, by rcases hk with h | h <;> simp [hgd, h]⟩, rfl⟩
  by_cases h1 : targetOf ((cl b d.target.toNat).getD (g / 8) 0) = 0
  · have h2 := S.nul d hdc hgd (by omega) (g / 8) (by omega) h1
    rw [zero_second h1, zero_second h2]
    exact .inl rfl
  · obtain ⟨c, hc, hk7, hcf, hcs, _, hct⟩ := second_claim hff (g / 8) (by omega) h1
    have hcc := c5_sub b c hc
    have h2 := S.tab c hcc (.inl hk7)
    rw [hcf, hcs, Int.toNat_natCast, Int.toNat_natCast] at h2
    cases hcg : c.good
    · rw [hcg, if_neg (by simp)] at h2
      rw [zero_second h2]
      exact .inr ⟨rfl, c, hcc, hcg⟩
    · rw [hcg, if_pos rfl] at h2
      rw [h2, ← hct]
      have htc := good_there hcc hcg (by omega)
      rw [tableL_in hh htc, tableL_in S.head (there_more S.more htc)]
      by_cases h3 : targetOf ((cl b c.target.toNat).getD (g % 8) 0) = 0
      · have h4 := S.nul c hcc hcg (by omega) (g % 8) (by omega) h3
        rw [zero_data h3, zero_data h4]
        exact .inl rfl
      · obtain ⟨e, he, hk8, hef, hes, het⟩ := data_claim hc hk7 hcg (g % 8) (by omega) h3
        have h4 := S.tab e he (.inr hk8)
        rw [hef, hes, Int.toNat_natCast, Int.toNat_natCast] at h4
        cases heg : e.good
        · rw [heg, if_neg (by simp)] at h4
          rw [zero_data h4]
          exact .inr ⟨rfl, e, he, heg⟩
        · rw [heg, if_pos rfl] at h4
          rw [h4, ← het]
          have hte := good_there he heg (by omega)
          rw [tableL_in hh hte, tableL_in S.head (there_more S.more hte), S.dat e he heg hk8]
          exact .inl rfl

/-- What was cleared shows it. -/
theorem shows_clr {b : List Int} (hh : hasHead b = true) : Shows b (clrC b) := by
  have C := clr_is hh
  refine ⟨(clr_head hh).1, C.size, by rw [C.many]; exact Nat.le_refl _, fun c hc hk => C.tab c hc (by omega), fun c hc hg hk => C.nul c hc hg (by omega), fun c hc hg hk => ?_⟩
  have ht := there_lt (good_there hc hg (by omega))
  have hcl : ∀ i, i < 8 → (cl (clrC b) c.target.toNat).getD i 0 = (cl b c.target.toNat).getD i 0 := by
    intro i hi
    rw [clr_w1 hh (by omega) hi (fun e he _ hke hfe _ => ?_), clr1_get hh, cl_word_get _ _ _ hi, if_neg]
    · rintro ⟨hs, h1, h2⟩
      have h5 := shots_ok.1 hs
      have ht5 := there_lt (good_there h5 rfl (by simp))
      have hm := (headB_all (hasHead_ok hh)).2.2.2.2
      simp only at ht5
      have := (good_one hc h5 hg rfl (by simp only; omega)).1
      simp only at this
      omega
    · obtain ⟨d, hd, h⟩ := claim_tab he hke
      have := (good_one hd.mem hc hd.good hg (by rw [← hd.frm]; omega)).1
      rcases h with h | h | h <;> omega
  unfold cl at hcl ⊢
  refine f8_congr (fun i hi => ?_)
  have := hcl i hi
  rw [f8_get _ _ hi, f8_get _ _ hi] at this
  exact this
/-- What is neither Refs nor a block of b is none of what was cleared. -/
theorem clr_plain {b : List Int} (hh : hasHead b = true) {t : Int} (h : ∀ d ∈ claimsC b, d.good = true → d.kind = 3 ∨ d.kind = 4 → d.target ≠ t) : plainT (clrC b) t := by
  intro c hc hg hk e
  have hm : normC c ∈ (gd (claimsC b)).map normC := (clr_sub (clr_is hh)).subset (List.mem_map.2 ⟨c, List.mem_filter.2 ⟨hc, hg⟩, rfl⟩)
  rw [List.mem_map] at hm
  obtain ⟨d, hd, he⟩ := hm
  unfold gd at hd
  rw [List.mem_filter] at hd
  obtain ⟨d1, d2, _, _⟩ := norm_kind d
  obtain ⟨c1, c2, _, _⟩ := norm_kind c
  rw [he] at d1 d2
  have k1 : d.kind = c.kind := d1.symm.trans c1
  have k2 : d.target = c.target := d2.symm.trans c2
  exact h d hd.1 hd.2 (by omega) (by omega)
theorem clr_tidy {b : List Int} (hh : hasHead b = true) : Tidy (clrC b) := ⟨(clr_head hh).1, clr_neat (clr_is hh)⟩
/-- What comes of it by counting anew shows it. -/
theorem shows_onto {b y z : List Int} (hy : Shows b y) (hp : ∀ t : Int, (∀ d ∈ claimsC b, d.good = true → d.kind = 3 ∨ d.kind = 4 → d.target ≠ t) → plainT y t) (O : Onto y z) : Shows b z := by
  have key : ∀ d ∈ claimsC b, d.good = true → d.kind ≠ 1 → d.kind ≠ 3 ∧ d.kind ≠ 4 → cl z d.target.toNat = cl y d.target.toNat := by
    intro d hd hg h1 hk
    have ht := there_lt (good_there hd hg h1)
    have := hy.more
    refine O.beside.same _ (by omega) (by omega) ?_
    rw [Int.toNat_of_nonneg (by omega)]
    refine hp _ (fun e he hge hke heq => ?_)
    have := (good_one he hd hge hg heq).1
    omega
  refine ⟨O.beside.head, O.beside.size.trans hy.size, Nat.le_trans hy.more O.beside.more, fun c hc hk => ?_, fun c hc hg hk i hi h0 => ?_, fun c hc hg hk => ?_⟩
  · obtain ⟨d, hd, h⟩ := claim_tab hc (by omega)
    have hf := hd.frm
    have := hy.tab c hc hk
    rw [hf] at this ⊢
    rw [key d hd.mem hd.good (by rcases h with h | h | h <;> omega) (by rcases h with h | h | h <;> omega)]
    exact this
  · rw [key c hc hg (by omega) (by omega)]
    exact hy.nul c hc hg hk i hi h0
  · rw [key c hc hg (by omega) (by omega)]
    exact hy.dat c hc hg hk
/-- What is flagged anew shows it. -/
theorem shows_owned {b z : List Int} (hz : Shows b z) (hd : ∀ c ∈ claimsC b, c.good = true → c.kind = 8 → ∃ d ∈ claimsC z, d.good = true ∧ d.kind = 8 ∧ d.target = c.target) : Shows b (ownedC z) := by
  have hh := hz.head
  obtain ⟨h1, h2⟩ := owned_head hh
  refine ⟨h1, by rw [h2]; exact hz.size, by rw [owned_many]; exact hz.more, fun c hc hk => ?_, fun c hc hg hk i hi h0 => ?_, fun c hc hg hk => ?_⟩
  · obtain ⟨d, hd, _⟩ := claim_tab hc (by omega)
    have h0 := hd.slot0
    have h1 := hd.slot1
    rw [owned_targets hh _ _ (by omega)]
    exact hz.tab c hc hk
  · rw [owned_targets hh _ _ hi]
    exact hz.nul c hc hg hk i hi h0
  · obtain ⟨d, hdm, hdg, hdk, hdt⟩ := hd c hc hg hk
    rw [owned_other, hz.dat c hc hg hk]
    intro u hu e
    obtain ⟨f, hf, rfl, hgf, hkf⟩ := tables_mem hu
    have ht := there_lt (good_there hc hg (by omega))
    have := (good_one hf hdm hgf hdg (by omega)).1
    omega

end Go.Proofs.YtiokfhdkbpoadabGreatDoor
