/- What is counted anew is stored as it is counted: plain mathematics. -/
import Derived.Test.YtfolbhjljpnjlaaH3
import Derived.Test.YtfolbhjljpnjlaaFla
namespace Go.Proofs.Ytfolbhjljpnjlaa
open Go.RowKit

def posB (bs : List Int) (c : Nat) : Nat := (bs.getD (c / 8) 0).toNat * 8 + c % 8
theorem wts_length (ct bs z : List Int) (k : Nat) : ((List.range k).foldl (wtStep ct bs) z).length = z.length := by
  induction k with
  | zero => rfl
  | succ k ih =>
    rw [range_fold_s]
    unfold wtStep at ih ⊢
    split
    · rw [List.length_set]; exact ih
    · exact ih
theorem wt_other (ct bs z : List Int) (j : Nat) : ∀ k, (∀ c, c < k → bs.getD (c / 8) 0 ≠ 0 → posB bs c ≠ j) → ((List.range k).foldl (wtStep ct bs) z).getD j 0 = z.getD j 0
  | 0, _ => rfl
  | k + 1, h => by
    have ih := wt_other ct bs z j k (fun c hc => h c (by omega))
    rw [range_fold_s]
    by_cases hb : bs.getD (k / 8) 0 ≠ 0
    · have e : ∀ o, wtStep ct bs o k = o.set (posB bs k) (ct.getD k 0) := fun o => if_pos hb
      rw [e, getD_set, if_neg (fun h2 => h k (by omega) hb h2.1), ih]
    · have e : ∀ o, wtStep ct bs o k = o := fun o => if_neg hb
      rw [e, ih]
theorem wt_at (ct bs z : List Int) (hinj : ∀ s s', s < 8 → s' < 8 → bs.getD s 0 ≠ 0 → bs.getD s 0 = bs.getD s' 0 → s = s') (hpos : ∀ s, 0 ≤ bs.getD s 0) (hlen : ∀ s, bs.getD s 0 ≠ 0 → (bs.getD s 0).toNat * 8 + 8 ≤ z.length) :
    ∀ k, k ≤ 64 → ∀ c, c < k → bs.getD (c / 8) 0 ≠ 0 → ((List.range k).foldl (wtStep ct bs) z).getD (posB bs c) 0 = ct.getD c 0
  | 0, _, c, hc, _ => by omega
  | k + 1, hk, c, hc, hb => by
    rw [range_fold_s]
    by_cases e : c = k
    · subst e
      have e2 : ∀ o, wtStep ct bs o c = o.set (posB bs c) (ct.getD c 0) := fun o => if_pos hb
      have hlt : posB bs c < z.length := by
        have := hlen _ hb
        unfold posB
        omega
      rw [e2, getD_set, wts_length, if_pos ⟨rfl, hlt⟩]
    · have ih := wt_at ct bs z hinj hpos hlen k (by omega) c (by omega) hb
      by_cases hb2 : bs.getD (k / 8) 0 ≠ 0
      · have e2 : ∀ o, wtStep ct bs o k = o.set (posB bs k) (ct.getD k 0) := fun o => if_pos hb2
        rw [e2, getD_set, if_neg, ih]
        rintro ⟨h1, _⟩
        unfold posB at h1
        have h3 := hpos (c / 8)
        have h4 := hpos (k / 8)
        have := hinj (c / 8) (k / 8) (by omega) (by omega) hb (by omega)
        omega
      · have e2 : ∀ o, wtStep ct bs o k = o := fun o => if_neg hb2
        rw [e2, ih]
theorem block_inj {b : List Int} {s s' : Nat} (hs : s < 8) (hs' : s' < 8) (h : (blocksC (claimsC b)).getD s 0 ≠ 0) (e : (blocksC (claimsC b)).getD s 0 = (blocksC (claimsC b)).getD s' 0) : s = s' := by
  rcases block_is (b := b) s hs with ⟨c, hc, hg, hk, hsl, ht⟩ | ⟨h0, _⟩
  · rcases block_is (b := b) s' hs' with ⟨d, hd, hg', hk', hsl', ht'⟩ | ⟨h0, _⟩
    · have := (good_one hc hd hg hg' (by omega)).2 (by omega)
      subst this
      omega
    · omega
  · exact absurd h0 h
theorem block_pos {b : List Int} (s : Nat) : 0 ≤ (blocksC (claimsC b)).getD s 0 := by
  rcases blocks_there b s with h | h
  · omega
  · have := there_lt h; omega
/-- Its counts are written: the claims stay, and what is stored is what is counted. -/
theorem onto_write {b : List Int} (T : Tidy b) (h0 : (headOf b).refs ≠ 0) (hl : lacksL b < 0) : Onto b (writeC b) ∧ rawC (writeC b) (headOf (writeC b)) = rawC b (headOf b) ∧ storedL (writeC b) = countsL (writeC b) ∧ headOf (writeC b) = headOf b := by
  obtain ⟨h1, h2⟩ := write_head T.head
  have hlen := write_length b
  have hmx : manyN (writeC b) = manyN b := by show ((writeC b).length + 7) / 8 = _; rw [hlen]; omega
  have hrm : (⟨3, 0, 0, 0, (headOf b).refs, true⟩ : Cm) ∈ rawC b (headOf b) := raw_r1 (by unfold r1C; simp [h0])
  have hblk : ∀ c, c < 64 → (blocksC (claimsC b)).getD (c / 8) 0 ≠ 0 → ∃ d ∈ rawC b (headOf b), d.good = true ∧ d.kind = 4 ∧ d.target = (blocksC (claimsC b)).getD (c / 8) 0 := by
    intro c hc hb
    rcases block_is (b := b) (c / 8) (by omega) with ⟨d, hd, hg, hk, _, ht⟩ | ⟨h3, _⟩
    · rw [T.claims] at hd
      exact ⟨d, hd, hg, hk, ht.symm⟩
    · exact absurd h3 hb
  have hoth : ∀ t : Nat, (∀ d ∈ rawC b (headOf b), d.good = true → d.kind = 4 → d.target ≠ t) → cl (writeC b) t = cl b t := by
    intro t ht
    unfold cl
    refine f8_congr (fun i hi => ?_)
    unfold writeC wtTo
    rw [wt_other _ _ _ _ _ (fun c hc hb e => ?_), whole_get]
    obtain ⟨d, hd, hg, hk, hdt⟩ := hblk c hc hb
    have := ht d hd hg hk
    have := block_pos (b := b) (c / 8)
    unfold posB at e
    omega
  have S : Beside b (writeC b) := ⟨h1, by rw [h2], by rw [h2], by rw [h2], by rw [h2], by omega, fun t _ _ hp => hoth t (fun d hd hg hk => hp d hd hg (.inr hk))⟩
  have hrt := T.there hrm rfl (by simp)
  simp only at hrt
  obtain ⟨T2, e⟩ := tidy_same T S (by rw [h2]) (fun _ i _ => by
    rw [hoth]
    intro d hd hg hk hdt
    have := (T.one hd hrm hg rfl (by simp only; omega)).1
    simp only at this
    omega)
  refine ⟨⟨S, T2, fun t _ _ h c hc => by rw [e] at hc; exact h c hc⟩, e, ?_, h2⟩
  have ec : claimsC (writeC b) = claimsC b := by rw [T2.claims, T.claims, e]
  have e1 : storedL (writeC b) = storedC (writeC b) (blocksC (claimsC b)) := by unfold storedL; rw [if_pos h1, ec]
  have e2 : countsL (writeC b) = countsC (claimsC b) := by unfold countsL; rw [if_pos h1, ec]
  rw [e1, e2]
  apply List.ext_getElem?
  intro c
  unfold storedC
  rw [List.getElem?_map]
  by_cases hc : c < 64
  · rw [List.getElem?_range hc, List.getElem?_eq_getElem (by rw [counts_length]; exact hc)]
    simp only [Option.map_some]
    congr 1
    have eg : (countsC (claimsC b))[c]'(by rw [counts_length]; exact hc) = (countsC (claimsC b)).getD c 0 := by
      rw [List.getD_eq_getElem?_getD, List.getElem?_eq_getElem (by rw [counts_length]; exact hc)]; rfl
    rw [eg]
    by_cases hb : (blocksC (claimsC b)).getD (c / 8) 0 ≠ 0
    · rw [if_pos hb, cl_word_get _ _ _ (by omega)]
      exact wt_at (countsC (claimsC b)) (blocksC (claimsC b)) (whole b) (fun s s' hs hs' h h' => block_inj hs hs' h h') (fun s => block_pos s) (fun s hs => by
        rcases blocks_there b s with h | h
        · exact absurd h hs
        · have := there_lt h
          rw [whole_length]
          omega) 64 (Nat.le_refl _) c hc hb
    · rw [if_neg hb]
      exact (lacks_none hl c hc (by simpa using hb)).symm
  · rw [List.getElem?_eq_none (by simpa using hc), List.getElem?_eq_none (by rw [counts_length]; omega)]
    rfl
theorem refs_ne {b : List Int} (T : Tidy b) (h : (headOf b).refs ≠ 0) : 1 ≤ (headOf b).refs ∧ (headOf b).refs < manyN b := by
  have hrm : (⟨3, 0, 0, 0, (headOf b).refs, true⟩ : Cm) ∈ rawC b (headOf b) := raw_r1 (by unfold r1C; simp [h])
  exact T.there hrm rfl (by simp)
/-- What is counted anew. -/
structure CountedOk (b y : List Int) : Prop where
  onto : Onto b y
  stored : storedL y = countsL y
  good : ∀ c ∈ claimsC y, c.good = true
  eight : y.length = manyN y * 8
  refs : (headOf y).refs ≠ 0
theorem counted_ok {b : List Int} (h : countedL b ≠ []) : readyB b = true ∧ CountedOk b (countedL b) := by
  unfold countedL at h ⊢
  cases hr : readyB b
  · rw [hr] at h; exact absurd rfl h
  · refine ⟨rfl, ?_⟩
    rw [hr, if_pos rfl] at h
    rw [if_pos rfl]
    obtain ⟨T, hf⟩ := ready_tidy hr
    have base : ∃ y, countBase b = some y ∧ Onto b y ∧ (headOf y).refs ≠ 0 := by
      unfold countBase at h ⊢
      by_cases h0 : (headOf b).refs = 0
      · rw [if_pos h0] at h ⊢
        by_cases hm : manyN (whole b) < 64
        · rw [if_pos hm]
          have hm' : manyN b < 64 := by rw [← many_whole]; exact hm
          obtain ⟨O, e, _⟩ := onto_refs T h0 hm'
          have := whole_pos T.head
          exact ⟨_, rfl, O, by rw [e]; omega⟩
        · rw [if_neg hm] at h; exact absurd rfl h
      · rw [if_neg h0]
        exact ⟨_, rfl, (onto_whole T).1, by rw [(head_whole T.head).2]; exact h0⟩
    obtain ⟨y, ey, O1, hy0⟩ := base
    rw [ey] at h ⊢
    change countEnd (blocksL y) ≠ [] at h
    change CountedOk b (countEnd (blocksL y))
    cases eb : blocksL y with
    | none => rw [eb] at h; exact absurd rfl h
    | some z =>
      unfold blocksL at eb
      obtain ⟨O2, e2, hl⟩ := onto_blocks 64 y z O1.tidy hy0 eb
      have hz0 : (headOf z).refs ≠ 0 := by rw [e2]; exact hy0
      obtain ⟨O3, e3, hs, h3⟩ := onto_write O2.tidy hz0 hl
      have O := (O1.trans O2).trans O3
      show CountedOk b (writeC z)
      refine ⟨O, hs, ?_, ?_, by rw [h3]; exact hz0⟩
      · intro c hc
        rcases neat_all O3.tidy.neat c hc with hg | ⟨hk, ht⟩
        · exact hg
        · exfalso
          rcases hk with hk | hk
          · rw [kind2_is hc hk, O.beside.first] at ht
            exact hf ht
          · rw [kind3_is hc hk, h3] at ht
            exact hz0 ht
      · rw [write_length]
        have : manyN (writeC z) = manyN z := by show ((writeC z).length + 7) / 8 = _; rw [write_length]; omega
        rw [this]
theorem counted_law {b : List Int} (h : countedL b ≠ []) : storedL (countedL b) = countsL (countedL b) ∧ looseL (countedL b) = [] ∧ b.length ≤ (countedL b).length := by
  obtain ⟨hr, K⟩ := counted_ok h
  refine ⟨K.stored, ?_, ?_⟩
  · unfold looseL claimsL
    rw [if_pos K.onto.beside.head, List.filter_eq_nil_iff]
    intro c hc
    simp [K.good c hc]
  · rw [K.eight]
    have := K.onto.beside.more
    unfold manyN at this
    have e : manyN (countedL b) = ((countedL b).length + 7) / 8 := rfl
    omega
end Go.Proofs.Ytfolbhjljpnjlaa
