/- What is counted anew has a head and is whole: plain mathematics. -/
import Derived.Test.YtibokhkohanoaaaGreatG3
namespace Go.Proofs.YtibokhkohanoaaaGreat
open Go.RowKit

theorem counts_bound (l : List Cm) (hl : l.length ≤ 1296) (j : Nat) : 0 ≤ (countsC l).getD j 0 ∧ (countsC l).getD j 0 ≤ 1296 := by
  obtain ⟨_, h⟩ := cnt_take l l.length
  have := h j
  rw [List.take_length] at this
  unfold countsC
  omega
theorem wt_head {xs : List Int} (h : hasHead xs = true) (k : Nat) : hasHead (wtTo xs (countsC (claimsC xs)) (blocksC (claimsC xs)) k) = true ∧ headOf (wtTo xs (countsC (claimsC xs)) (blocksC (claimsC xs)) k) = headOf xs := by
  induction k with
  | zero => exact head_whole h
  | succ k ih =>
    have e : wtTo xs (countsC (claimsC xs)) (blocksC (claimsC xs)) (k + 1) = wtStep (countsC (claimsC xs)) (blocksC (claimsC xs)) (wtTo xs (countsC (claimsC xs)) (blocksC (claimsC xs)) k) k := by unfold wtTo; rw [range_fold_s]
    rw [e]
    unfold wtStep
    split
    · rename_i hv
      rcases blocks_there xs (k / 8) with hb | hb
      · exact absurd hb hv
      · have := there_lt hb
        have hc := counts_bound (claimsC xs) (claims_length xs) k
        obtain ⟨h1, h2⟩ := set_head (j := ((blocksC (claimsC xs)).getD (k / 8) 0).toNat * 8 + k % 8) (x := (countsC (claimsC xs)).getD k 0) ih.1 (by omega) (inB_true.2 (by omega))
        exact ⟨h1, h2.trans ih.2⟩
    · exact ih
theorem write_head {xs : List Int} (h : hasHead xs = true) : hasHead (writeC xs) = true ∧ headOf (writeC xs) = headOf xs := wt_head h 64
theorem write_length (xs : List Int) : (writeC xs).length = manyN xs * 8 := wt_length _ _ _ _

theorem fix_head {refs : Nat} (hr : 1 ≤ refs) : ∀ (k : Nat) (xs ys : List Int), hasHead xs = true → fixBlocks refs k xs = some ys → hasHead ys = true ∧ headOf ys = headOf xs
  | 0, xs, ys, h, e => by
    unfold fixBlocks at e
    split at e
    · cases e; exact ⟨h, rfl⟩
    · cases e
  | k + 1, xs, ys, h, e => by
    unfold fixBlocks at e
    split at e
    · cases e; exact ⟨h, rfl⟩
    · split at e
      · cases e
      · rename_i _ hm
        obtain ⟨h1, h2⟩ := block_head (refs := refs) h (by omega) hr
        obtain ⟨h3, h4⟩ := fix_head hr k _ ys h1 e
        exact ⟨h3, h4.trans h2⟩
/-- What is counted anew is nothing, or has a head, and is whole. -/
theorem counted_head (xs : List Int) : countedL xs = [] ∨ (hasHead (countedL xs) = true ∧ (countedL xs).length % 8 = 0) := by
  unfold countedL
  split
  · rename_i hq
    have hh := ready_head hq
    have key : ∀ ys, hasHead ys = true → thereB ys (headOf ys).refs = true → countEnd (blocksL ys) = [] ∨ (hasHead (countEnd (blocksL ys)) = true ∧ (countEnd (blocksL ys)).length % 8 = 0) := by
      intro ys hy ht
      have := there_lt ht
      cases hb : blocksL ys with
      | none => exact .inl rfl
      | some zs =>
        obtain ⟨h1, h2⟩ := fix_head (refs := (headOf ys).refs.toNat) (by omega) 64 ys zs hy hb
        exact .inr ⟨(write_head h1).1, by show (writeC zs).length % 8 = 0; rw [write_length]; omega⟩
    unfold countBase
    split
    · split
      · rename_i _ hm
        obtain ⟨h1, h2, h3⟩ := refsL_head hh hm
        refine key _ h1 ?_
        rw [h2, thereB, inB_true]
        have hm1 : manyN (refsL xs) = manyN xs + 1 := by show ((refsL xs).length + 7) / 8 = _; rw [h3]; omega
        rw [hm1]
        have := many_whole xs
        have := whole_pos hh
        simp only
        omega
      · exact .inl rfl
    · rename_i hr0
      refine key _ (head_whole hh).1 ?_
      rw [there_many (many_whole xs), (head_whole hh).2]
      exact ready_refs hq hr0
  · exact .inl rfl

end Go.Proofs.YtibokhkohanoaaaGreat
