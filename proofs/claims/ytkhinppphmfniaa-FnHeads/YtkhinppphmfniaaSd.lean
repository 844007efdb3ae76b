/- What is known of a sound image: plain mathematics. -/
import Derived.Test.YtkhinppphmfniaaFl
namespace Go.Proofs.Ytkhinppphmfniaa
open Go.RowKit

theorem sound_img {xs : List Int} (h : soundB xs = true) : imgB xs = true := by unfold soundB at h; rw [Bool.and_eq_true] at h; exact h.1
theorem sound_none {xs : List Int} (h : soundB xs = true) : defectsL xs = [] := by
  unfold soundB at h
  rw [Bool.and_eq_true, decide_eq_true_eq] at h
  exact List.eq_nil_of_length_eq_zero h.2
theorem sound_head {xs : List Int} (h : soundB xs = true) : hasHead xs = true := by
  have hn := sound_none h
  unfold defectsL at hn
  rw [sound_img h, if_pos rfl] at hn
  split at hn
  · assumption
  · cases hn
theorem sound_d5 {xs : List Int} (h : soundB xs = true) : d5L xs = [] := by
  have hn := sound_none h
  unfold defectsL at hn
  rw [sound_img h, if_pos rfl, sound_head h, if_pos rfl] at hn
  exact hn
theorem sound_parts {xs : List Int} (h : soundB xs = true) : xs.length % 8 = 0 ∧ looseL xs = [] ∧ wrongsC xs = [] := by
  have h5 := sound_d5 h
  unfold d5L at h5
  rw [List.append_eq_nil_iff] at h5
  obtain ⟨h4, hw⟩ := h5
  unfold d4L at h4
  rw [List.append_eq_nil_iff] at h4
  obtain ⟨h3, _⟩ := h4
  have h2 : d2L xs = [] := by
    unfold d3L at h3
    split at h3
    · rw [List.append_eq_nil_iff] at h3; exact h3.1
    · exact h3
  unfold d2L at h2
  rw [List.append_eq_nil_iff] at h2
  obtain ⟨h1, hl⟩ := h2
  refine ⟨?_, by simpa using hl, by simpa using hw⟩
  unfold d1L at h1
  split at h1
  · cases h1
  · omega
theorem sound_good {xs : List Int} (h : soundB xs = true) {c : Cm} (hc : c ∈ claimsC xs) : c.good = true := by
  have hl := (sound_parts h).2.1
  unfold looseL claimsL at hl
  rw [sound_head h, if_pos rfl] at hl
  cases hg : c.good
  · have : c ∈ (claimsC xs).filter (fun c => !c.good) := by rw [List.mem_filter]; exact ⟨hc, by simp [hg]⟩
    rw [hl] at this
    cases this
  · rfl

theorem tabStep_mem (xs : List Int) (size kind : Int) (frm : Nat) (place step : Int) (l : List Cm) (i : Nat) (ht : targetOf ((cl xs frm).getD i 0) ≠ 0) : ∃ b, (⟨kind, frm, i, place + step * i, targetOf ((cl xs frm).getD i 0), b⟩ : Cm) ∈ tabStep xs size kind frm place step l i := by
  unfold tabStep
  rw [if_pos ht]
  exact ⟨_, by unfold addC; simp; exact .inr rfl⟩
theorem tab_mem (xs : List Int) (size kind : Int) (frm : Nat) (place step : Int) (l : List Cm) (i : Nat) (hi : i < 8) (ht : targetOf ((cl xs frm).getD i 0) ≠ 0) : ∃ b, (⟨kind, frm, i, place + step * i, targetOf ((cl xs frm).getD i 0), b⟩ : Cm) ∈ tabC xs size l kind frm place step := by
  have key : ∀ k, i < k → ∃ b, (⟨kind, frm, i, place + step * i, targetOf ((cl xs frm).getD i 0), b⟩ : Cm) ∈ (List.range k).foldl (tabStep xs size kind frm place step) l := by
    intro k
    induction k with
    | zero => intro h; omega
    | succ k ih =>
      intro h
      rw [range_fold]
      by_cases hk : i = k
      · subst hk; exact tabStep_mem xs size kind frm place step _ _ ht
      · obtain ⟨b, hb⟩ := ih (by omega)
        exact ⟨b, (tabStep_prefix _ _ _ _ _ _ _ _).subset hb⟩
  exact key 8 hi
/-- Of the accumulated lists one has it, and it stays. -/
theorem foldl_some {α β : Type} (f : List β → α → List β) (hf : ∀ l a, l <+: f l a) (P : β → Prop) (a : α) (h2 : ∀ l, ∃ x, P x ∧ x ∈ f l a) : ∀ (ys : List α) (l : List β), a ∈ ys → ∃ x, P x ∧ x ∈ ys.foldl f l
  | [], l, h => by cases h
  | y :: ys, l, h => by
    rw [List.foldl_cons]
    rw [List.mem_cons] at h
    rcases h with h | h
    · subst h
      obtain ⟨x, hx, hm⟩ := h2 l
      exact ⟨x, hx, (foldl_prefix f hf ys _).subset hm⟩
    · exact foldl_some f hf P a h2 ys _ h

theorem c1_prefix (xs : List Int) (h : Hd) : c1C xs h <+: c4C xs h := by
  have h2 : c1C xs h <+: c2C xs h := addC_prefix _ _ _ _
  have h3 : c2C xs h <+: c3C xs h := by
    unfold c3C; split
    · exact tabFold_prefix _ _ _ _ _ _ _ _
    · exact List.prefix_refl _
  have h4 : c3C xs h <+: c4C xs h := by
    unfold c4C shotsC
    split
    · exact List.prefix_refl _
    · split
      · exact (addC_prefix _ _ _ _).trans (shotFold_prefix _ _ _ _)
      · exact addC_prefix _ _ _ _
  exact h2.trans (h3.trans h4)
theorem c5_prefix (xs : List Int) (h : Hd) : c4C xs h <+: c5C xs h := foldl_prefix _ (fun _ _ => tabFold_prefix _ _ _ _ _ _ _ _) _ _
theorem c6_prefix (xs : List Int) (h : Hd) : c5C xs h <+: c6C xs h := foldl_prefix _ (fun l a => datStep_prefix l a) _ _
/-- The claim of First. -/
theorem first_claim (xs : List Int) : (⟨2, 0, 0, 0, (headOf xs).first, goodB xs (headOf xs).size [⟨1, 0, 0, 0, 0, true⟩] ⟨2, 0, 0, 0, (headOf xs).first, false⟩⟩ : Cm) ∈ c4C xs (headOf xs) := by
  refine (c1_prefix xs (headOf xs)).subset ?_
  unfold c1C addC
  simp
theorem sound_first {xs : List Int} (h : soundB xs = true) : thereB xs (headOf xs).first = true ∧ (headOf xs).first ∈ firstsC (c4C xs (headOf xs)) := by
  have hm := first_claim xs
  have hg := sound_good h ((c6_prefix xs _).subset ((c5_prefix xs _).subset hm))
  simp only at hg
  refine ⟨goodB_there hg, ?_⟩
  unfold firstsC
  rw [List.mem_map]
  refine ⟨_, List.mem_filter.2 ⟨hm, ?_⟩, rfl⟩
  simp [hg]
/-- A second table that the first one leads to. -/
theorem second_claim {xs : List Int} {f : Int} (hf : f ∈ firstsC (c4C xs (headOf xs))) (i : Nat) (hi : i < 8) (ht : targetOf ((cl xs f.toNat).getD i 0) ≠ 0) :
    ∃ c ∈ c5C xs (headOf xs), c.kind = 7 ∧ c.frm = f.toNat ∧ c.slot = i ∧ c.place = 8 * i ∧ c.target = targetOf ((cl xs f.toNat).getD i 0) := by
  obtain ⟨x, hx, hm⟩ := foldl_some (secStep xs (headOf xs)) (fun _ _ => tabFold_prefix _ _ _ _ _ _ _ _)
    (fun c => c.kind = 7 ∧ c.frm = f.toNat ∧ c.slot = i ∧ c.place = 8 * i ∧ c.target = targetOf ((cl xs f.toNat).getD i 0)) f (fun l => by
      obtain ⟨b, hb⟩ := tab_mem xs (headOf xs).size 7 f.toNat 0 8 l i hi ht
      exact ⟨_, ⟨rfl, rfl, rfl, by simp, rfl⟩, hb⟩) _ (c4C xs (headOf xs)) hf
  exact ⟨x, hm, hx⟩
theorem data_claim {xs : List Int} {c : Cm} (hc : c ∈ c5C xs (headOf xs)) (hk : c.kind = 7) (hg : c.good = true) (j : Nat) (hj : j < 8) (ht : targetOf ((cl xs c.target.toNat).getD j 0) ≠ 0) :
    ∃ d ∈ claimsC xs, d.kind = 8 ∧ d.frm = c.target.toNat ∧ d.slot = j ∧ d.target = targetOf ((cl xs c.target.toNat).getD j 0) := by
  obtain ⟨x, hx, hm⟩ := foldl_some (datStep xs (headOf xs)) (fun l a => datStep_prefix l a)
    (fun d => d.kind = 8 ∧ d.frm = c.target.toNat ∧ d.slot = j ∧ d.target = targetOf ((cl xs c.target.toNat).getD j 0)) c (fun l => by
      obtain ⟨b, hb⟩ := tab_mem xs (headOf xs).size 8 c.target.toNat c.place 1 l j hj ht
      refine ⟨⟨8, c.target.toNat, j, c.place + 1 * j, targetOf ((cl xs c.target.toNat).getD j 0), b⟩, ⟨rfl, rfl, rfl, rfl⟩, ?_⟩
      unfold datStep
      rw [if_pos ⟨hk, hg⟩]
      exact hb) _ (c5C xs (headOf xs)) hc
  exact ⟨x, hm, hx⟩

theorem firstEntry_sound {xs : List Int} (h : soundB xs = true) (s : Nat) (hs : s < 8) : firstEntry xs 0 s = (cl xs (headOf xs).first.toNat).getD s 0 := by
  have hh := sound_head h
  have hf := (sound_first h).1
  have e : tableL xs (firstOf xs 0) = cl xs (headOf xs).first.toNat := by rw [firstOf_zero hh, tableL_in hh hf]
  unfold firstEntry
  rw [e, cl_length, if_pos (inB_true.2 (by omega))]
  simp
theorem entryAt_sound {xs : List Int} (h : soundB xs = true) (g : Nat) (hg : (g : Int) < (headOf xs).size) : entryAt xs 0 g = (tableL xs (targetOf (firstEntry xs 0 ((g / 8 : Nat) : Int)))).getD (g % 8) 0 := by
  rw [entryAt_in (sound_head h) (inB_true.2 (by omega)), show ((g : Int) / 8) = ((g / 8 : Nat) : Int) by omega, show ((g : Int) % 8).toNat = g % 8 by omega]
/-- An entry of the disk leads to a cluster that is there. -/
theorem sound_entry {xs : List Int} (h : soundB xs = true) (g : Nat) (hg : (g : Int) < (headOf xs).size) (ht : targetOf (entryAt xs 0 g) ≠ 0) : thereB xs (targetOf (entryAt xs 0 g)) = true := by
  have hh := sound_head h
  have hsz := headB_all (hasHead_ok hh)
  have hg8 : g / 8 < 8 := by omega
  rw [entryAt_sound h g hg] at ht ⊢
  have hfe := firstEntry_sound h (g / 8) hg8
  generalize firstEntry xs 0 ((g / 8 : Nat) : Int) = e1 at *
  cases hth : thereB xs (targetOf e1)
  · rw [tableL_out hth] at ht
    exact absurd rfl ht
  · rw [tableL_in hh hth] at ht ⊢
    have htl := there_lt hth
    obtain ⟨c, hc, hk, _, _, _, htc⟩ := second_claim (sound_first h).2 (g / 8) hg8 (by rw [← hfe]; omega)
    rw [← hfe] at htc
    have hcg := sound_good h ((c6_prefix xs _).subset hc)
    rw [← htc] at ht ⊢
    obtain ⟨d, hd, hdk, _, _, hdt⟩ := data_claim hc hk hcg (g % 8) (by omega) ht
    have hdg := sound_good h hd
    rcases (claims_ok xs d hd).lead hdg with h1 | h1
    · omega
    · rw [hdt] at h1; exact h1

end Go.Proofs.Ytkhinppphmfniaa
