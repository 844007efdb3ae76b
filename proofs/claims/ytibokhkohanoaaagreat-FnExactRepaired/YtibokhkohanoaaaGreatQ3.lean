/- What is stored of a sound image is what is counted: plain mathematics. Sound images: what they are, that what is done anew is sound, and that they stay: plain mathematics. Contents and names (chapter 10): plain functions, and that the model's Go functions compute them. Contents: what is read of an image, and of what was cleared, counted and flagged anew: plain mathematics. Scans (chapter 13): plain functions, and that the model's Go functions compute them. -/
import Derived.Test.YtibokhkohanoaaaGreatQ2
import Derived.Test.YtibokhkohanoaaaGreatY2
import Derived.Test.YtibokhkohanoaaaGreatH3
import Derived.Test.YtibokhkohanoaaaGreatY5
import Derived.Test.YtibokhkohanoaaaGreatCmc
import Derived.Test.YtibokhkohanoaaaGreatG3
namespace Go.Proofs.YtibokhkohanoaaaGreat
open Go.RowKit

theorem cd_none (st ct : List Int) : ∀ k : Nat, (List.range k).foldl (cdStep st ct) [] = [] → ∀ c, c < k → st.getD c 0 = ct.getD c 0
  | 0, _, c, hc => by omega
  | k + 1, h, c, hc => by
    rw [List.range_succ, List.foldl_append, List.foldl_cons, List.foldl_nil] at h
    unfold cdStep at h
    split at h
    · simp at h
    · split at h
      · simp at h
      · by_cases hk : c = k
        · subst hk; omega
        · exact cd_none st ct k h c (by omega)
theorem list64 {a b : List Int} (ha : a.length = 64) (hb : b.length = 64) (h : ∀ c, c < 64 → a.getD c 0 = b.getD c 0) : a = b := by
  apply List.ext_getElem?
  intro j
  by_cases hj : j < 64
  · have := h j hj
    rw [List.getD_eq_getElem?_getD, List.getD_eq_getElem?_getD, List.getElem?_eq_getElem (by omega), List.getElem?_eq_getElem (by omega), Option.getD_some, Option.getD_some] at this
    rw [List.getElem?_eq_getElem (by omega), List.getElem?_eq_getElem (by omega), this]
  · rw [List.getElem?_eq_none (by omega), List.getElem?_eq_none (by omega)]
theorem sound_stored {xs : List Int} (h : soundB xs = true) : storedL xs = countsL xs := by
  have hh := sound_head h
  have h5 := sound_d5 h
  unfold d5L at h5
  rw [List.append_eq_nil_iff] at h5
  obtain ⟨h4, _⟩ := h5
  unfold d4L at h4
  rw [List.append_eq_nil_iff] at h4
  have e1 : countsL xs = countsC (claimsC xs) := by unfold countsL; rw [if_pos hh]
  have e2 : (storedL xs).length = 64 := by unfold storedL; rw [if_pos hh, storedC_length]
  rw [e1]
  exact list64 e2 (counts_length _) (cd_none _ _ 64 h4.2)

theorem cd_same (st : List Int) : ∀ k : Nat, (List.range k).foldl (cdStep st st) [] = []
  | 0 => rfl
  | k + 1 => by
    rw [range_fold, cd_same st k]
    unfold cdStep
    rw [if_neg (by omega), if_neg (by omega)]
/-- What a sound image is. -/
structure SoundP (b : List Int) : Prop where
  head : hasHead b = true
  eight : b.length % 8 = 0
  good : ∀ c ∈ claimsC b, c.good = true
  shots : (headOf b).many = 0 → (headOf b).shots = 0
  stored : storedL b = countsL b
  wrongs : wrongsC b = []
theorem sound_is {b : List Int} (h : soundB b = true) : SoundP b := by
  obtain ⟨h1, _, h3⟩ := sound_parts h
  refine ⟨sound_head h, h1, fun c hc => sound_good h hc, fun hm => ?_, sound_stored h, h3⟩
  have h5 := sound_d5 h
  unfold d5L d4L d3L at h5
  by_cases hs : (headOf b).shots = 0
  · exact hs
  · rw [if_pos ⟨hm, hs⟩] at h5
    simp at h5
theorem SoundP.sound {b : List Int} (S : SoundP b) : soundB b = true := by
  have hi := hasHead_img S.head
  have hl : looseL b = [] := by
    unfold looseL claimsL
    rw [if_pos S.head, List.filter_eq_nil_iff]
    intro c hc
    simp [S.good c hc]
  have ec : countsL b = countsC (claimsC b) := by unfold countsL; rw [if_pos S.head]
  have hd : defectsL b = [] := by
    unfold defectsL
    rw [hi, if_pos rfl, S.head, if_pos rfl]
    unfold d5L d4L d3L d2L d1L
    rw [S.wrongs, hl, S.stored, ec, if_neg (fun h => h.2 (S.shots h.1)), if_neg (by simpa using S.eight)]
    unfold cntDefs
    rw [cd_same]
    rfl
  unfold soundB
  rw [hi, hd]
  rfl
/-- What is counted and flagged anew is sound. -/
theorem done_sound {y : List Int} (h : countedL y ≠ []) (hs : (headOf y).many = 0 → (headOf y).shots = 0) : soundB (ownedC (countedL y)) = true := by
  obtain ⟨_, K⟩ := counted_ok h
  have hh := K.onto.beside.head
  obtain ⟨h1, h2⟩ := owned_head hh
  refine SoundP.sound ⟨h1, by rw [owned_length]; omega, fun c hc => ?_, fun hm => ?_, ?_, owned_wrongs hh⟩
  · rw [owned_claims hh] at hc
    exact K.good c hc
  · rw [h2] at hm ⊢
    rw [K.onto.beside.many] at hm
    rw [K.onto.beside.shots]
    exact hs hm
  · rw [owned_stored hh, K.stored]
    unfold countsL
    rw [hh, h1, owned_claims hh]

theorem getD_ext {a b : List Int} (hl : a.length = b.length) (h : ∀ j, a.getD j 0 = b.getD j 0) : a = b := by
  apply List.ext_getElem hl
  intro i h1 h2
  have := h i
  rw [List.getD_eq_getElem?_getD, List.getD_eq_getElem?_getD, List.getElem?_eq_getElem h1, List.getElem?_eq_getElem h2] at this
  exact this
theorem whole_eight {b : List Int} (h : b.length % 8 = 0) : whole b = b := getD_ext (by rw [whole_length]; unfold manyN; omega) (whole_get b)
theorem hasHead_words {b : List Int} (h : hasHead b = true) : b.getD 0 0 = 20559 ∧ b.getD 1 0 = 3 ∧ b.getD 7 0 = 0 := by
  unfold hasHead at h
  simp only [Bool.and_eq_true, decide_eq_true_eq] at h
  exact ⟨h.2.2.1, h.2.2.2.1, h.2.2.2.2.1⟩
/-- Where no claim is loose all shots stay. -/
theorem keep_full {b : List Int} (hh : hasHead b = true) (hg : ∀ c ∈ claimsC b, c.good = true) : (keepC b).length = (if (headOf b).many = 0 then 0 else (headOf b).many.toNat) ∧ ∀ i (hi : i < (keepC b).length), ((keepC b)[i]).slot = i := by
  obtain ⟨J3, J4, J5, J6, P⟩ := claims_parts b
  have e : keepC b = J4.filter (fun c => c.kind == 6 && c.good) := by
    unfold keepC
    rw [P.c4, List.filter_append]
    have : (c3C b (headOf b)).filter (fun c => c.kind == 6 && c.good) = [] := by
      rw [List.filter_eq_nil_iff]
      intro c hc
      have := c3_kind b _ c hc
      simp
      intro h
      omega
    rw [this, List.nil_append]
  have hall : ∀ c ∈ J4, c.good = true := fun c hc => hg c (P.mem.2 (.inr (.inr (.inl hc))))
  by_cases hm : (headOf b).many = 0
  · have h4 : J4 = [] := by
      have := P.c4
      unfold c4C shotsC at this
      rw [if_pos hm] at this
      have h2 := congrArg List.length this
      simp at h2
      exact h2
    rw [e, h4, if_pos hm]
    exact ⟨rfl, by simp⟩
  · have h5 : ∃ J, J4 = ⟨5, 0, 0, 0, (headOf b).shots, true⟩ :: J ∧ J.map erC = (shotT (headOf b) (shotsL b)).map erC := by
      rcases P.e4 with ⟨g, h1, h2⟩ | h1 | h1
      · have := hall ⟨5, 0, 0, 0, (headOf b).shots, g⟩ (by rw [h1]; simp)
        simp only at this
        rw [h2] at this
        cases this
      · exfalso
        have h2 := P.c4
        rw [h1, List.append_nil] at h2
        unfold c4C shotsC at h2
        rw [if_neg hm] at h2
        have hl := congrArg List.length h2
        split at hl
        · rw [shot_fold] at hl
          obtain ⟨J, hJ, _⟩ := fold_er b (headOf b).size (shotT (headOf b) (shotsL b)) (addC b (headOf b).size (c3C b (headOf b)) ⟨5, 0, 0, 0, (headOf b).shots, false⟩)
          rw [hJ, List.length_append, addC_length] at hl
          omega
        · rw [addC_length] at hl
          omega
      · exact h1
    obtain ⟨J, h6, h7⟩ := h5
    have hmem5 : (⟨5, 0, 0, 0, (headOf b).shots, true⟩ : Cm) ∈ claimsC b := P.mem.2 (.inr (.inr (.inl (by rw [h6]; simp))))
    have hk : ∀ c ∈ J, c.kind = 6 := by
      intro c hc
      obtain ⟨d, hd, he⟩ := er_mem h7 hc
      rw [(er_eq he).1]
      exact (shotT_kind hd).1
    have e2 : keepC b = J := by
      rw [e, h6, List.filter_cons_of_neg (by simp), List.filter_eq_self]
      intro c hc
      rw [hk c hc, hall c (by rw [h6]; simp [hc])]
      rfl
    have hlen : J.length = (shotsL b).length := by
      have := congrArg List.length h7
      rw [List.length_map, List.length_map] at this
      rw [this]
      unfold shotT
      simp
    have hsl : (shotsL b).length = (headOf b).many.toNat := by rw [shots_len hh hmem5]; simp
    rw [if_neg hm]
    refine ⟨by rw [e2]; omega, fun i hi => ?_⟩
    have hi2 : i < J.length := by rw [← e2]; exact hi
    have h8 : (J.map erC)[i]? = ((shotT (headOf b) (shotsL b)).map erC)[i]? := by rw [h7]
    rw [List.getElem?_map, List.getElem?_map, List.getElem?_eq_getElem hi2] at h8
    unfold shotT at h8
    rw [List.getElem?_map, List.getElem?_range (by omega)] at h8
    simp only [Option.map_some, Option.some.injEq] at h8
    have h9 := (er_eq h8.symm).2.2.1
    simp only at h9
    have e3 : (keepC b)[i] = J[i] := by simp only [e2]
    rw [e3]
    exact h9
/-- Where nothing is loose nothing is cleared. -/
theorem clr_same {b : List Int} (hh : hasHead b = true) (h8 : b.length % 8 = 0) (hg : ∀ c ∈ claimsC b, c.good = true) (hs : (headOf b).many = 0 → (headOf b).shots = 0) : clrC b = b := by
  obtain ⟨hk, hsl⟩ := keep_full hh hg
  have hkw := keepW_length b
  have hall := headB_all (hasHead_ok hh)
  have hhd : clrHead b = headOf b := by
    have n2 : (claimsC b).any (fun c => !c.good && c.kind == 2) = false := by
      rw [List.any_eq_false]; intro c hc; rw [hg c hc]; simp
    have n3 : (claimsC b).any (fun c => !c.good && c.kind == 3) = false := by
      rw [List.any_eq_false]; intro c hc; rw [hg c hc]; simp
    have hmany : (((keepW b).length / 2 : Nat) : Int) = (headOf b).many := by
      rw [hkw, hk]
      split <;> omega
    have hshots : (if ((keepW b).length / 2 : Nat) = 0 then 0 else (headOf b).shots) = (headOf b).shots := by
      split
      · rename_i h0
        rw [hs (by omega)]
      · rfl
    unfold clrHead
    rw [n2, n3, hmany, hshots]
    simp
  obtain ⟨_, _, hlen⟩ := clr_head hh
  obtain ⟨w0, w1, w7⟩ := hasHead_words hh
  refine getD_ext (by rw [hlen]; unfold manyN; omega) (fun j => ?_)
  unfold clrC
  rw [setCl_get (by omega) (hdW_length _), hhd]
  by_cases hj : j < 8
  · rw [if_pos (by omega)]
    have : j = 0 ∨ j = 1 ∨ j = 2 ∨ j = 3 ∨ j = 4 ∨ j = 5 ∨ j = 6 ∨ j = 7 := by omega
    rcases this with rfl | rfl | rfl | rfl | rfl | rfl | rfl | rfl
    · exact w0.symm
    · exact w1.symm
    · rfl
    · rfl
    · rfl
    · rfl
    · rfl
    · exact w7.symm
  · rw [if_neg (by omega)]
    unfold clr2
    rw [clr_get, if_neg, clr1_get hh]
    · split
      · rename_i h
        obtain ⟨hok, hj1, hj2⟩ := h
        have h5 := shots_ok.1 hok
        have hne : ¬ (headOf b).many = 0 := fun h0 => by omega
        have hk2 : (keepC b).length = (headOf b).many.toNat := by rw [hk, if_neg hne]
        have hmm := hall.2.2.2.2
        generalize hi : j - (headOf b).shots.toNat * 8 = i
        have hij : j = (headOf b).shots.toNat * 8 + i := by omega
        have hi2 : i / 2 < (keepC b).length := by omega
        have hg2 := pairs_get (pairW b) (fun _ => rfl) (keepC b) (i / 2) (i % 2) hi2 (by omega)
        rw [show 2 * (i / 2) + i % 2 = i by omega, ← keepW_flat] at hg2
        rw [hg2]
        unfold pairW
        rw [hsl _ hi2, Int.toNat_natCast, shots_len hh h5, List.getD_eq_getElem?_getD (i := i / 2), List.getElem?_map, List.getElem?_range (by omega)]
        simp only [Option.map_some, Option.getD_some]
        have hc : i % 2 = 0 ∨ i % 2 = 1 := by omega
        rcases hc with hc | hc
        · rw [hc]
          show (cl b (headOf b).shots.toNat).getD (2 * (i / 2)) 0 = _
          rw [cl_word_get _ _ _ (by omega), hij]
          congr 1
          omega
        · rw [hc]
          show (cl b (headOf b).shots.toNat).getD (2 * (i / 2) + 1) 0 = _
          rw [cl_word_get _ _ _ (by omega), hij]
          congr 1
          omega
      · rfl
    · rw [List.any_eq_true]
      rintro ⟨c, hc, h⟩
      unfold lzB at h
      rw [hg c hc] at h
      simp at h
/-- Where no block lacks nothing is made. -/
theorem counted_writes {b : List Int} (hh : hasHead b = true) (h8 : b.length % 8 = 0) (hg : ∀ c ∈ claimsC b, c.good = true) (hl : lacksL b < 0) : countedL b = writeC b ∧ (headOf b).refs ≠ 0 := by
  have hr : readyB b = true := by
    unfold readyB
    have : looseL b = [] := by
      unfold looseL claimsL
      rw [if_pos hh, List.filter_eq_nil_iff]
      intro c hc
      simp [hg c hc]
    rw [hh, this]
    rfl
  have h0 : (headOf b).refs ≠ 0 := by
    intro h0
    have hm := refs_claim b
    have := good_there hm (hg _ hm) (by simp)
    simp only at this
    rw [h0, there_zero] at this
    cases this
  refine ⟨?_, h0⟩
  unfold countedL countBase
  rw [hr, if_pos rfl, if_neg h0, whole_eight h8]
  show countEnd (blocksL b) = _
  unfold blocksL
  rw [fix_done hl]
  rfl
theorem lacks_stored {b : List Int} (hh : hasHead b = true) (hle : ∀ c, c < 64 → (countsC (claimsC b)).getD c 0 ≤ (storedL b).getD c 0) : lacksL b < 0 := by
  unfold lacksL
  by_cases h : lacksC (countsC (claimsC b)) (blocksC (claimsC b)) < 0
  · exact h
  · exfalso
    cases hc : (List.range 64).find? (lackAt (countsC (claimsC b)) (blocksC (claimsC b))) with
    | none =>
      have e : lacksC (countsC (claimsC b)) (blocksC (claimsC b)) = -1 := by unfold lacksC; rw [hc]
      omega
    | some c =>
      have h1 := List.find?_some hc
      have h2 := List.mem_range.1 (List.mem_of_find?_eq_some hc)
      unfold lackAt at h1
      rw [Bool.and_eq_true, decide_eq_true_eq, decide_eq_true_eq] at h1
      have h3 := hle c h2
      have h4 : (storedL b).getD c 0 = 0 := by
        unfold storedL storedC
        rw [if_pos hh, List.getD_eq_getElem?_getD, List.getElem?_map, List.getElem?_range h2]
        simp only [Option.map_some, Option.getD_some]
        rw [if_neg (by rw [h1.2]; simp)]
      have h5 := (counts_bound (claimsC b) (claims_length b) c).1
      omega
theorem write_same {b : List Int} (hh : hasHead b = true) (h8 : b.length % 8 = 0) (hs : storedL b = countsL b) : writeC b = b := by
  have ec : countsL b = countsC (claimsC b) := by unfold countsL; rw [if_pos hh]
  refine getD_ext (by rw [write_length]; unfold manyN; omega) (fun j => ?_)
  unfold writeC wtTo
  by_cases hex : ∃ c, c < 64 ∧ (blocksC (claimsC b)).getD (c / 8) 0 ≠ 0 ∧ posB (blocksC (claimsC b)) c = j
  · obtain ⟨c, hc, hb, rfl⟩ := hex
    rw [wt_at (countsC (claimsC b)) (blocksC (claimsC b)) (whole b) (fun s s' hs hs' h h' => block_inj hs hs' h h') (fun s => block_pos s) (fun s hs => by
        rcases blocks_there b s with h | h
        · exact absurd h hs
        · have := there_lt h
          rw [whole_length]
          omega) 64 (Nat.le_refl _) c hc hb, ← ec, ← hs]
    unfold storedL storedC
    rw [if_pos hh, List.getD_eq_getElem?_getD, List.getElem?_map, List.getElem?_range hc]
    simp only [Option.map_some, Option.getD_some]
    rw [if_pos hb, cl_word_get _ _ _ (by omega)]
    rfl
  · rw [wt_other _ _ _ _ _ (fun c hc hb e => hex ⟨c, hc, hb, e⟩), whole_get]
/-- A sound image stays as it is. -/
theorem sound_same {b : List Int} (S : SoundP b) : clrC b = b ∧ countedL b = b ∧ ownedC b = b := by
  have ec : countsL b = countsC (claimsC b) := by unfold countsL; rw [if_pos S.head]
  refine ⟨clr_same S.head S.eight S.good S.shots, ?_, ?_⟩
  · rw [(counted_writes S.head S.eight S.good (lacks_stored S.head (fun c _ => by rw [S.stored, ec]; exact Int.le_refl _))).1]
    exact write_same S.head S.eight S.stored
  · unfold ownedC
    rw [S.wrongs]
    exact whole_eight S.eight

/-- What is read. -/
def orZero (l : List Int) : List Int := if l = [] then List.replicate 8 0 else l
def contentL (b : List Int) (which g : Int) : List Int := if hasHead b = true ∧ inB which 0 ((shotsL b).length : Int) = true ∧ inB g 0 ((headOf b).size - 1) = true then orZero (tableL b (targetOf (entryAt b which g))) else []
def namesL (b : List Int) : List Int := (shotsL b).map (·.1)
theorem orZero_length {b : List Int} (t : Int) : (orZero (tableL b t)).length = 8 := by
  unfold orZero
  split
  · simp
  · rcases tableL_length b t with h | h
    · rename_i hn
      exact absurd (List.eq_nil_of_length_eq_zero h) hn
    · exact h
theorem names_length (b : List Int) : (namesL b).length ≤ 4 := by unfold namesL; rw [List.length_map]; exact shotsL_length b
theorem names_step (l : List (Int × Int)) (k : Nat) (hk : k < l.length) : (l.take (k + 1)).map (·.1) = (l.take k).map (·.1) ++ [(l.getD k (0, 0)).1] := by
  rw [List.take_succ_eq_append_getElem hk, List.map_append, List.getD_eq_getElem?_getD, List.getElem?_eq_getElem hk]
  rfl

theorem content_at {b : List Int} (hh : hasHead b = true) {which f : Int} (hw : inB which 0 ((shotsL b).length : Int) = true) (hf : firstOf b which = f) (hth : thereB b f = true) {g : Nat} (hg : (g : Int) < (headOf b).size) :
    contentL b which g = orZero (tableL b (targetOf ((tableL b (targetOf ((cl b f.toNat).getD (g / 8) 0))).getD (g % 8) 0))) := by
  have hsz := headB_all (hasHead_ok hh)
  have hgi : inB (g : Int) 0 ((headOf b).size - 1) = true := inB_true.2 (by omega)
  have e1 : firstEntry b which ((g : Int) / 8) = (cl b f.toNat).getD (g / 8) 0 := by
    have e : tableL b (firstOf b which) = cl b f.toNat := by rw [hf, tableL_in hh hth]
    unfold firstEntry
    rw [e, cl_length, if_pos (inB_true.2 (by omega)), show ((g : Int) / 8).toNat = g / 8 by omega]
  unfold contentL
  rw [if_pos ⟨hh, hw, hgi⟩, entryAt_in hh hgi, e1, show ((g : Int) % 8).toNat = g % 8 by omega]
/-- What x shows of what b claims. -/
structure Shows (b x : List Int) : Prop where
  head : hasHead x = true
  size : (headOf x).size = (headOf b).size
  more : manyN b ≤ manyN x
  tab : ∀ c ∈ claimsC b, c.kind = 7 ∨ c.kind = 8 → targetOf ((cl x c.frm.toNat).getD c.slot.toNat 0) = if c.good = true then c.target else 0
  nul : ∀ c ∈ claimsC b, c.good = true → c.kind = 2 ∨ c.kind = 6 ∨ c.kind = 7 → ∀ i, i < 8 → targetOf ((cl b c.target.toNat).getD i 0) = 0 → targetOf ((cl x c.target.toNat).getD i 0) = 0
  dat : ∀ c ∈ claimsC b, c.good = true → c.kind = 8 → cl x c.target.toNat = cl b c.target.toNat
theorem tableL_zero (b : List Int) : tableL b 0 = [] := tableL_out (there_zero b)
theorem zero_second {x : List Int} {t : Int} (h : t = 0) (i : Nat) : orZero (tableL x (targetOf ((tableL x t).getD i 0))) = List.replicate 8 0 := by
  have e : targetOf 0 = 0 := rfl
  rw [h, tableL_zero, getD_past [] i (by simp), e, tableL_zero]
  rfl
theorem zero_data {x : List Int} {t : Int} (h : t = 0) : orZero (tableL x t) = List.replicate 8 0 := by
  rw [h, tableL_zero]
  rfl
theorem content_shows {b x : List Int} (hh : hasHead b = true) (S : Shows b x) {d : Cm} (hd : d ∈ c4C b (headOf b)) (hgd : d.good = true) (hk : d.kind = 2 ∨ d.kind = 6) {wb wx : Int} (hwb : inB wb 0 ((shotsL b).length : Int) = true) (hwx : inB wx 0 ((shotsL x).length : Int) = true)
    (hfb : firstOf b wb = d.target) (hfx : firstOf x wx = d.target) {g : Nat} (hg : (g : Int) < (headOf b).size) :
    (contentL x wx g).length = 8 ∧ (contentL x wx g = contentL b wb g ∨ (contentL x wx g = List.replicate 8 0 ∧ ∃ c ∈ claimsC b, c.good = false)) := by
  have hdc := c4_sub b d hd
  have ht := good_there hdc hgd (by omega)
  have htl := there_lt ht
  have hthx := there_more S.more ht
  have hsz := headB_all (hasHead_ok hh)
  rw [content_at hh hwb hfb ht hg, content_at S.head hwx hfx hthx (by rw [S.size]; exact hg)]
  refine ⟨orZero_length _, ?_⟩
  have hff : d.target ∈ firstsC (c4C b (headOf b)) := by
    unfold firstsC
    rw [List.mem_map]
    exact ⟨d, List.mem_filter.2 ⟨hd, by rcases hk with h | h <;> simp [hgd, h]⟩, rfl⟩
  by_cases h1 : targetOf ((cl b d.target.toNat).getD (g / 8) 0) = 0
  · have h2 := S.nul d hdc hgd (by omega) (g / 8) (by omega) h1
    rw [zero_second h1, zero_second h2]
    exact .inl rfl
  · obtain ⟨c, hc, hk7, hcf, hcs, _, hct⟩ := second_claim hff (g / 8) (by omega) h1
    have hcc := c5_sub b c hc
    have h2 := S.tab c hcc (.inl hk7)
    rw [hcf, hcs, Int.toNat_natCast, Int.toNat_natCast] at h2
    cases hcg : c.good
    · rw [hcg, if_neg (by simp)] at h2
      rw [zero_second h2]
      exact .inr ⟨rfl, c, hcc, hcg⟩
    · rw [hcg, if_pos rfl] at h2
      rw [h2, ← hct]
      have htc := good_there hcc hcg (by omega)
      rw [tableL_in hh htc, tableL_in S.head (there_more S.more htc)]
      by_cases h3 : targetOf ((cl b c.target.toNat).getD (g % 8) 0) = 0
      · have h4 := S.nul c hcc hcg (by omega) (g % 8) (by omega) h3
        rw [zero_data h3, zero_data h4]
        exact .inl rfl
      · obtain ⟨e, he, hk8, hef, hes, het⟩ := data_claim hc hk7 hcg (g % 8) (by omega) h3
        have h4 := S.tab e he (.inr hk8)
        rw [hef, hes, Int.toNat_natCast, Int.toNat_natCast] at h4
        cases heg : e.good
        · rw [heg, if_neg (by simp)] at h4
          rw [zero_data h4]
          exact .inr ⟨rfl, e, he, heg⟩
        · rw [heg, if_pos rfl] at h4
          rw [h4, ← het]
          have hte := good_there he heg (by omega)
          rw [tableL_in hh hte, tableL_in S.head (there_more S.more hte), S.dat e he heg hk8]
          exact .inl rfl

/-- What was cleared shows it. -/
theorem shows_clr {b : List Int} (hh : hasHead b = true) : Shows b (clrC b) := by
  have C := clr_is hh
  refine ⟨(clr_head hh).1, C.size, by rw [C.many]; exact Nat.le_refl _, fun c hc hk => C.tab c hc (by omega), fun c hc hg hk => C.nul c hc hg (by omega), fun c hc hg hk => ?_⟩
  have ht := there_lt (good_there hc hg (by omega))
  have hcl : ∀ i, i < 8 → (cl (clrC b) c.target.toNat).getD i 0 = (cl b c.target.toNat).getD i 0 := by
    intro i hi
    rw [clr_w1 hh (by omega) hi (fun e he _ hke hfe _ => ?_), clr1_get hh, cl_word_get _ _ _ hi, if_neg]
    · rintro ⟨hs, h1, h2⟩
      have h5 := shots_ok.1 hs
      have ht5 := there_lt (good_there h5 rfl (by simp))
      have hm := (headB_all (hasHead_ok hh)).2.2.2.2
      simp only at ht5
      have := (good_one hc h5 hg rfl (by simp only; omega)).1
      simp only at this
      omega
    · obtain ⟨d, hd, h⟩ := claim_tab he hke
      have := (good_one hd.mem hc hd.good hg (by rw [← hd.frm]; omega)).1
      rcases h with h | h | h <;> omega
  unfold cl at hcl ⊢
  refine f8_congr (fun i hi => ?_)
  have := hcl i hi
  rw [f8_get _ _ hi, f8_get _ _ hi] at this
  exact this
/-- What is neither Refs nor a block of b is none of what was cleared. -/
theorem clr_plain {b : List Int} (hh : hasHead b = true) {t : Int} (h : ∀ d ∈ claimsC b, d.good = true → d.kind = 3 ∨ d.kind = 4 → d.target ≠ t) : plainT (clrC b) t := by
  intro c hc hg hk e
  have hm : normC c ∈ (gd (claimsC b)).map normC := (clr_sub (clr_is hh)).subset (List.mem_map.2 ⟨c, List.mem_filter.2 ⟨hc, hg⟩, rfl⟩)
  rw [List.mem_map] at hm
  obtain ⟨d, hd, he⟩ := hm
  unfold gd at hd
  rw [List.mem_filter] at hd
  obtain ⟨d1, d2, _, _⟩ := norm_kind d
  obtain ⟨c1, c2, _, _⟩ := norm_kind c
  rw [he] at d1 d2
  have k1 : d.kind = c.kind := d1.symm.trans c1
  have k2 : d.target = c.target := d2.symm.trans c2
  exact h d hd.1 hd.2 (by omega) (by omega)
theorem clr_tidy {b : List Int} (hh : hasHead b = true) : Tidy (clrC b) := ⟨(clr_head hh).1, clr_neat (clr_is hh)⟩
/-- What comes of it by counting anew shows it. -/
theorem shows_onto {b y z : List Int} (hy : Shows b y) (hp : ∀ t : Int, (∀ d ∈ claimsC b, d.good = true → d.kind = 3 ∨ d.kind = 4 → d.target ≠ t) → plainT y t) (O : Onto y z) : Shows b z := by
  have key : ∀ d ∈ claimsC b, d.good = true → d.kind ≠ 1 → d.kind ≠ 3 ∧ d.kind ≠ 4 → cl z d.target.toNat = cl y d.target.toNat := by
    intro d hd hg h1 hk
    have ht := there_lt (good_there hd hg h1)
    have := hy.more
    refine O.beside.same _ (by omega) (by omega) ?_
    rw [Int.toNat_of_nonneg (by omega)]
    refine hp _ (fun e he hge hke heq => ?_)
    have := (good_one he hd hge hg heq).1
    omega
  refine ⟨O.beside.head, O.beside.size.trans hy.size, Nat.le_trans hy.more O.beside.more, fun c hc hk => ?_, fun c hc hg hk i hi h0 => ?_, fun c hc hg hk => ?_⟩
  · obtain ⟨d, hd, h⟩ := claim_tab hc (by omega)
    have hf := hd.frm
    have := hy.tab c hc hk
    rw [hf] at this ⊢
    rw [key d hd.mem hd.good (by rcases h with h | h | h <;> omega) (by rcases h with h | h | h <;> omega)]
    exact this
  · rw [key c hc hg (by omega) (by omega)]
    exact hy.nul c hc hg hk i hi h0
  · rw [key c hc hg (by omega) (by omega)]
    exact hy.dat c hc hg hk
/-- What is flagged anew shows it. -/
theorem shows_owned {b z : List Int} (hz : Shows b z) (hd : ∀ c ∈ claimsC b, c.good = true → c.kind = 8 → ∃ d ∈ claimsC z, d.good = true ∧ d.kind = 8 ∧ d.target = c.target) : Shows b (ownedC z) := by
  have hh := hz.head
  obtain ⟨h1, h2⟩ := owned_head hh
  refine ⟨h1, by rw [h2]; exact hz.size, by rw [owned_many]; exact hz.more, fun c hc hk => ?_, fun c hc hg hk i hi h0 => ?_, fun c hc hg hk => ?_⟩
  · obtain ⟨d, hd, _⟩ := claim_tab hc (by omega)
    have h0 := hd.slot0
    have h1 := hd.slot1
    rw [owned_targets hh _ _ (by omega)]
    exact hz.tab c hc hk
  · rw [owned_targets hh _ _ hi]
    exact hz.nul c hc hg hk i hi h0
  · obtain ⟨d, hdm, hdg, hdk, hdt⟩ := hd c hc hg hk
    rw [owned_other, hz.dat c hc hg hk]
    intro u hu e
    obtain ⟨f, hf, rfl, hgf, hkf⟩ := tables_mem hu
    have ht := there_lt (good_there hc hg (by omega))
    have := (good_one hf hdm hgf hdg (by omega)).1
    omega

/-- SecondLike. -/
def secLikeB (b : List Int) (at_ : Int) : Bool := (inB at_ 1 (((rolesL b).length : Int) - 1) && ((rolesL b).getD at_.toNat 0 == 0)) && ((cl b at_.toNat).all (fun w => w == 0 || thereB b (targetOf w)) && (cl b at_.toNat).any ownIn)
def lostStep (b : List Int) (o : List Int) (a : Nat) : List Int := if secLikeB b ((a : Int) + 1) = true ∧ (o.length : Int) < ((headIn b).1.size + 7) / 8 then o ++ [(a : Int) + 1] else o
/-- LostIn. -/
def lostL (b : List Int) : List Int := (List.range ((rolesL b).length - 1)).foldl (lostStep b) []
def lostT (b : List Int) : List Int := (List.range 8).map (fun i => if i < (lostL b).length then entryOf ((lostL b).getD i 0) true else 0)
/-- Refound. -/
def refoundL (b : List Int) : List Int := if hasHead b = true ∧ manyN b < 64 then setCl (moreL b (lostT b)) 0 (hdW { headOf b with first := manyN b }) else []
def secW (b : List Int) (x : Int) : Bool := x == 0 || thereB b (targetOf x)
theorem sec_parts (b : List Int) (a : Int) : secLikeB b a = ((inB a 1 (((rolesL b).length : Int) - 1) && ((rolesL b).getD a.toNat 0 == 0)) && ((cl b a.toNat).all (secW b) && (cl b a.toNat).any ownIn)) := rfl
theorem roles_many {b : List Int} (h : 0 < (rolesL b).length) : hasHead b = true ∧ (rolesL b).length = manyN b := by
  unfold rolesL at h ⊢
  cases hh : hasHead b
  · rw [hh] at h; simp at h
  · rw [if_pos rfl, rolesC_length]; exact ⟨rfl, rfl⟩
theorem all_next (p : Int → Bool) (l : List Int) (k : Nat) (hk : k < l.length) (h : (l.take k).all p = true) : (l.take (k + 1)).all p = p (l.getD k 0) := by
  rw [List.take_succ_eq_append_getElem hk, List.all_append, h, List.getD_eq_getElem?_getD, List.getElem?_eq_getElem hk]; simp
theorem any_next (p : Int → Bool) (l : List Int) (k : Nat) (hk : k < l.length) : (l.take (k + 1)).any p = ((l.take k).any p || p (l.getD k 0)) := by
  rw [List.take_succ_eq_append_getElem hk, List.any_append, List.getD_eq_getElem?_getD, List.getElem?_eq_getElem hk]; simp
theorem all_fails (p : Int → Bool) (l : List Int) (k : Nat) (hk : k < l.length) (h : p (l.getD k 0) = false) : l.all p = false := by
  rw [List.all_eq_false]
  refine ⟨l.getD k 0, ?_, by rw [h]; simp⟩
  rw [List.getD_eq_getElem?_getD, List.getElem?_eq_getElem hk]
  exact List.getElem_mem hk

set_option maxRecDepth 100000 in
set_option maxHeartbeats 4000000 in
theorem specSecLike_any (A : Option Addr) (n c : Nat) (xs : List Int) (a : Int) (w : World) (h : Rd w w.heap.size A n xs) (hn : n ≤ 2097152) :
    Calls Tryz.prog 72 #[.slice A n c, .int .i64 a] w (RetB w (secLikeB xs a)) := by
  have HL := Lib.hid h.len
  go_enter Tryz.func72, Tryz.ntmps72
  go_wp2_with fail
  refine (specRolesIn_any A n c xs w h hn).mono ?_
  rintro e w1 ⟨G, ng, cg, rfl, oG, b1⟩
  have HS := Lib.hid (sec_parts xs a)
  have hlen := oG.len
  have h64 := rolesL_length (xs := xs)
  rw [hlen] at HS h64
  have HM := Lib.hid (fun h => roles_many (b := xs) h)
  rw [hlen] at HM
  have HG := Lib.hid oG
  clear oG hlen
  generalize rolesL xs = rl at *
  go_wp2_with fail
  refine (in_any _ _ _ _).mono ?_
  rintro e w' ⟨rfl, rfl⟩
  cases hi : inB a 1 ((ng : Int) - 1)
  · have HN : Hid (secLikeB xs a = false) := by rw [HS.out, hi]; exact rfl
    go_wp2_with fail
    go_ret
    exact RetB.mk HN.out.symm b1
  · obtain ⟨i1, i2⟩ := inB_true.1 hi
    obtain ⟨τ, rfl⟩ := Int.eq_ofNat_of_zero_le (show 0 ≤ a by omega)
    have hτ : τ < ng := by omega
    obtain ⟨hh, hmn⟩ := HM.out (by omega)
    rcases HG.out.form with ⟨_, h0, _⟩ | ⟨gr, rfl, g1, g2, g3, g4⟩
    · omega
    have hc := HG.out.cell hτ
    rw [Int.toNat_natCast] at HS
    generalize rl.getD τ 0 = rv at *
    by_cases hrv : rv = 0
    · subst hrv
      have d0 : ((0 : Int) != 0) = false := by simp
      have HE : Hid (secLikeB xs τ = ((cl xs τ).all (secW xs) && (cl xs τ).any ownIn)) := by rw [HS.out, hi]; exact rfl
      clear HS HM HG
      go_wp2_with fail
      refine (specCluster_any A n c τ xs w1 ((h.below b1).more b1.size) hn (by omega)).mono ?_
      rintro e w2 ⟨C, nc, cc, rfl, oC, b2⟩
      obtain rfl : 8 = nc := by have := oC.len; rw [cl_length] at this; exact this
      have b02 := below_more b1 b2 b1.size
      rcases oC.form with ⟨_, h0, _⟩ | ⟨gc, rfl, _, _, _, _⟩
      · omega
      have HC := Lib.hid (fun (j : Nat) (hj : j < 8) => oC.cell hj)
      have hl8 := cl_length xs τ
      clear oC b2
      generalize cl xs τ = ws at *
      go_wp2_with fail
      go_loop [7, 8] (fun v i => ∃ k : Nat, k ≤ 8 ∧ i = .int .i64 k ∧ v = .bool ((ws.take k).any ownIn) ∧ (ws.take k).all (secW xs) = true) (fun _ i => 8 - (intOf i).toNat)
      case atStart => exact ⟨0, by omega, rfl, rfl, rfl⟩
      case round =>
        obtain ⟨k, hk, rfl, rfl, ha⟩ := hrel
        by_cases hlt : k < 8
        · have hcell := HC.out k hlt
          have HA := Lib.hid (all_next (secW xs) ws k (by omega) ha)
          have HY := Lib.hid (any_next ownIn ws k (by omega))
          have HF := Lib.hid (all_fails (secW xs) ws k (by omega))
          clear ha
          generalize ws.getD k 0 = x at *
          generalize (ws.take k).any ownIn = bk at *
          by_cases hx : x = 0
          · subst hx
            have HA' : Hid ((ws.take (k + 1)).all (secW xs) = true) := by rw [HA.out]; exact rfl
            clear HA HF
            cases bk
            · go_wp2_with fail
              refine (specOwn_any _ _).mono ?_
              rintro e w' ⟨rfl, rfl⟩
              go_wp2_with fail
              go_round
              case rel => exact ⟨k + 1, by omega, by go_num, by rw [HY.out, Bool.false_or], HA'.out⟩
              case measure => simp [intOf]; omega
            · go_wp2_with fail
              go_round
              case rel => exact ⟨k + 1, by omega, by go_num, by rw [HY.out, Bool.true_or], HA'.out⟩
              case measure => simp [intOf]; omega
          · have dx : (x != 0) = true := by simpa using hx
            cases hth : thereB xs (targetOf x)
            · have HFF : Hid (ws.all (secW xs) = false) := HF.out (by unfold secW; rw [hth]; simp [hx])
              clear HA HF HY
              go_wp2_with fail
              refine (specTarget_any _ _).mono ?_
              rintro e w' ⟨rfl, rfl⟩
              go_wp2_with fail
              refine (specThere_any A n c xs _ _ HL.out hn).mono ?_
              rintro e w' ⟨rfl, rfl⟩
              rw [hth]
              go_wp2_with fail
              go_ret
              exact RetB.mk (by rw [HE.out, HFF.out, Bool.false_and]) b02
            · have HA' : Hid ((ws.take (k + 1)).all (secW xs) = true) := by rw [HA.out]; unfold secW; rw [hth]; exact Bool.or_true _
              clear HA HF
              cases bk
              · go_wp2_with fail
                refine (specTarget_any _ _).mono ?_
                rintro e w' ⟨rfl, rfl⟩
                go_wp2_with fail
                refine (specThere_any A n c xs _ _ HL.out hn).mono ?_
                rintro e w' ⟨rfl, rfl⟩
                rw [hth]
                go_wp2_with fail
                refine (specOwn_any _ _).mono ?_
                rintro e w' ⟨rfl, rfl⟩
                go_wp2_with fail
                go_round
                case rel => exact ⟨k + 1, by omega, by go_num, by rw [HY.out, Bool.false_or], HA'.out⟩
                case measure => simp [intOf]; omega
              · go_wp2_with fail
                refine (specTarget_any _ _).mono ?_
                rintro e w' ⟨rfl, rfl⟩
                go_wp2_with fail
                refine (specThere_any A n c xs _ _ HL.out hn).mono ?_
                rintro e w' ⟨rfl, rfl⟩
                rw [hth]
                go_wp2_with fail
                go_round
                case rel => exact ⟨k + 1, by omega, by go_num, by rw [HY.out, Bool.true_or], HA'.out⟩
                case measure => simp [intOf]; omega
        · obtain rfl : k = 8 := by omega
          have HA : Hid (ws.all (secW xs) = true) := by rw [List.take_of_length_le (by omega)] at ha; exact ha
          rw [List.take_of_length_le (by omega)]
          clear ha
          go_wp2_with fail
          go_ret
          exact RetB.mk (by rw [HE.out, HA.out, Bool.true_and]) b02
    · have d0 : (rv != 0) = true := by simpa using hrv
      have HN : Hid (secLikeB xs τ = false) := by rw [HS.out]; simp [hrv, Hid]
      clear HS HM HG
      go_wp2_with fail
      go_ret
      exact RetB.mk HN.out.symm b1

end Go.Proofs.YtibokhkohanoaaaGreat
