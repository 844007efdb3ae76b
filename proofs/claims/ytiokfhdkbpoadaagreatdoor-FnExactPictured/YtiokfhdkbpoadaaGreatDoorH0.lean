/- What holds of any two claims of an image: plain mathematics. What the claims have of each word: plain mathematics. -/
import Derived.Test.YtiokfhdkbpoadaaGreatDoorG7
namespace Go.Proofs.YtiokfhdkbpoadaaGreatDoor
open Go.RowKit

/-- Two good claims of one target are of one kind, and of a second table or of data. -/
def apart (x c : Cm) : Prop := x.good = true → c.good = true → c.target = x.target → c.kind = x.kind ∧ 7 ≤ c.kind
theorem good_apart {xs : List Int} {size : Int} {l : List Cm} {c x : Cm} (h : goodB xs size l c = true) (hx : x ∈ l) (hg : x.good = true) (ht : c.target = x.target) : c.kind = x.kind ∧ 7 ≤ c.kind := by
  have hb : barsB x c = false := by
    cases hb : barsB x c
    · rfl
    · have ha : (l.any fun x => barsB x c) = true := List.any_eq_true.2 ⟨x, hx, hb⟩
      rw [goodB, ha] at h
      simp at h
  unfold barsB at hb
  rw [if_pos ⟨hg, ht.symm⟩] at hb
  by_cases h7 : c.kind = 7 ∧ x.kind = 7
  · omega
  · rw [if_neg h7] at hb
    by_cases h8 : c.kind = 8 ∧ x.kind = 8
    · omega
    · rw [if_neg h8] at hb
      cases hb
theorem addC_apart {xs : List Int} {size : Int} {l : List Cm} {c : Cm} (hl : l.Pairwise apart) : (addC xs size l c).Pairwise apart := by
  unfold addC
  rw [List.pairwise_append]
  refine ⟨hl, by simp, fun x hx y hy => ?_⟩
  rw [List.mem_singleton] at hy
  subst hy
  intro h1 h2 h3
  exact good_apart (c := c) h2 hx h1 h3
theorem foldl_pres {α β : Type} (P : β → Prop) (f : β → α → β) (hf : ∀ b a, P b → P (f b a)) : ∀ (ys : List α) (b : β), P b → P (ys.foldl f b)
  | [], _, h => h
  | a :: ys, b, h => foldl_pres P f hf ys (f b a) (hf b a h)
/-- What each step of the claims keeps. -/
structure Steady (P : List Cm → Prop) : Prop where
  add : ∀ (xs : List Int) (size : Int) (l : List Cm) (c : Cm), P l → P (addC xs size l c)
theorem Steady.tab {P : List Cm → Prop} (hP : Steady P) {xs : List Int} {size : Int} {l : List Cm} {kind : Int} {frm : Nat} {place step : Int} (h : P l) : P (tabC xs size l kind frm place step) := by
  unfold tabC
  refine foldl_pres P _ (fun b a hb => ?_) _ _ h
  unfold tabStep
  split
  · exact hP.add _ _ _ _ hb
  · exact hb
theorem Steady.all {P : List Cm → Prop} (hP : Steady P) (h0 : P [⟨1, 0, 0, 0, 0, true⟩]) (xs : List Int) : P (claimsC xs) := by
  have h2 : ∀ h : Hd, P (c2C xs h) := fun h => hP.add _ _ _ _ (hP.add _ _ _ _ h0)
  have h3 : ∀ h : Hd, P (c3C xs h) := by
    intro h; unfold c3C; split
    · exact hP.tab (h2 h)
    · exact h2 h
  have h4 : ∀ h : Hd, P (c4C xs h) := by
    intro h; unfold c4C shotsC; split
    · exact h3 h
    · split
      · exact foldl_pres P _ (fun b a hb => hP.add _ _ _ _ hb) _ _ (hP.add _ _ _ _ (h3 h))
      · exact hP.add _ _ _ _ (h3 h)
  have h5 : ∀ h : Hd, P (c5C xs h) := fun h => foldl_pres P _ (fun b a hb => hP.tab hb) _ _ (h4 h)
  unfold claimsC c6C
  refine foldl_pres P _ (fun b a hb => ?_) _ _ (h5 _)
  unfold datStep
  split
  · exact hP.tab hb
  · exact hb
theorem claims_pair (xs : List Int) : (claimsC xs).Pairwise apart := Steady.all ⟨fun _ _ _ _ h => addC_apart h⟩ (by simp) xs
theorem claims_pos (xs : List Int) : 0 < (claimsC xs).length := Steady.all (P := fun l => 0 < l.length) ⟨fun _ _ _ _ _ => by rw [addC_length]; omega⟩ (by simp) xs
theorem claimsL_apart {xs : List Int} {i k : Nat} (hi : i < (claimsL xs).length) (hk : k < i) : apart ((claimsL xs).getD k cm0) ((claimsL xs).getD i cm0) := by
  have hp : (claimsL xs).Pairwise apart := by
    unfold claimsL; split
    · exact claims_pair xs
    · simp
  have := List.pairwise_iff_getElem.1 hp k i (by omega) hi hk
  rw [List.getD_eq_getElem?_getD, List.getD_eq_getElem?_getD, List.getElem?_eq_getElem hi, List.getElem?_eq_getElem (by omega)]
  exact this
theorem claimsL_lead {xs : List Int} {i : Nat} (hi : i < (claimsL xs).length) (hg : ((claimsL xs).getD i cm0).good = true) :
    0 ≤ ((claimsL xs).getD i cm0).target ∧ ((claimsL xs).getD i cm0).target < manyI xs ∧ (((claimsL xs).getD i cm0).target = 0 → ((claimsL xs).getD i cm0).kind = 1) := by
  have hm : (claimsL xs).getD i cm0 ∈ claimsL xs := by
    rw [List.getD_eq_getElem?_getD, List.getElem?_eq_getElem hi]
    exact List.getElem_mem hi
  generalize (claimsL xs).getD i cm0 = x at *
  cases hh : hasHead xs
  · unfold claimsL at hm; rw [hh] at hm; simp at hm
  · unfold claimsL at hm
    rw [if_pos hh] at hm
    obtain ⟨t0, t1⟩ := good_target hh hm hg
    have hM : manyI xs = manyN xs := by unfold manyI; rw [if_pos (hasHead_img hh)]
    refine ⟨t0, by omega, fun h0 => ?_⟩
    rcases (claims_ok xs x hm).lead hg with h | h
    · exact h.1
    · have := there_lt h; omega
theorem claimsL_head (xs : List Int) : decide (0 < (claimsL xs).length) = hasHead xs := by
  unfold claimsL
  cases hh : hasHead xs
  · simp
  · simp [claims_pos xs]

theorem range_fold_s {β : Type} (f : β → Nat → β) (z : β) (k : Nat) : (List.range (k + 1)).foldl f z = f ((List.range k).foldl f z) k := by
  rw [List.range_succ, List.foldl_append]; rfl
theorem addC_prefix (xs : List Int) (size : Int) (l : List Cm) (c : Cm) : l <+: addC xs size l c := List.prefix_append _ _
theorem c2_prefix (xs : List Int) (h : Hd) : c2C xs h <+: c6C xs h := by
  have h3 : c2C xs h <+: c3C xs h := by
    unfold c3C; split
    · exact tabFold_prefix _ _ _ _ _ _ _ _
    · exact List.prefix_refl _
  have h4 : c3C xs h <+: c4C xs h := by
    unfold c4C shotsC
    split
    · exact List.prefix_refl _
    · split
      · exact (addC_prefix _ _ _ _).trans (shotFold_prefix _ _ _ _)
      · exact addC_prefix _ _ _ _
  have h5 : c4C xs h <+: c5C xs h := foldl_prefix _ (fun l a => tabFold_prefix _ _ _ _ _ _ _ _) _ _
  have h6 : c5C xs h <+: c6C xs h := foldl_prefix _ (fun l a => datStep_prefix l a) _ _
  exact h3.trans (h4.trans (h5.trans h6))
/-- The claim of Refs is one of all. -/
theorem refs_claim (xs : List Int) : (⟨3, 0, 0, 0, (headOf xs).refs, goodB xs (headOf xs).size (c1C xs (headOf xs)) ⟨3, 0, 0, 0, (headOf xs).refs, false⟩⟩ : Cm) ∈ claimsC xs := by
  refine (c2_prefix xs (headOf xs)).subset ?_
  unfold c2C addC
  simp
theorem there_many {xs ys : List Int} (h : manyN ys = manyN xs) (t : Int) : thereB ys t = thereB xs t := by unfold thereB; rw [h]
theorem tabStep_mem (xs : List Int) (size kind : Int) (frm : Nat) (place step : Int) (l : List Cm) (i : Nat) (ht : targetOf ((cl xs frm).getD i 0) ≠ 0) : ∃ b, (⟨kind, frm, i, place + step * i, targetOf ((cl xs frm).getD i 0), b⟩ : Cm) ∈ tabStep xs size kind frm place step l i := by
  unfold tabStep
  rw [if_pos ht]
  exact ⟨_, by unfold addC; simp; exact .inr rfl⟩
theorem tab_mem (xs : List Int) (size kind : Int) (frm : Nat) (place step : Int) (l : List Cm) (i : Nat) (hi : i < 8) (ht : targetOf ((cl xs frm).getD i 0) ≠ 0) : ∃ b, (⟨kind, frm, i, place + step * i, targetOf ((cl xs frm).getD i 0), b⟩ : Cm) ∈ tabC xs size l kind frm place step := by
  have key : ∀ k, i < k → ∃ b, (⟨kind, frm, i, place + step * i, targetOf ((cl xs frm).getD i 0), b⟩ : Cm) ∈ (List.range k).foldl (tabStep xs size kind frm place step) l := by
    intro k
    induction k with
    | zero => intro h; omega
    | succ k ih =>
      intro h
      rw [range_fold_s]
      by_cases hk : i = k
      · subst hk; exact tabStep_mem xs size kind frm place step _ _ ht
      · obtain ⟨b, hb⟩ := ih (by omega)
        exact ⟨b, (tabStep_prefix _ _ _ _ _ _ _ _).subset hb⟩
  exact key 8 hi
/-- Of the accumulated lists one has it, and it stays. -/
theorem foldl_some {α β : Type} (f : List β → α → List β) (hf : ∀ l a, l <+: f l a) (P : β → Prop) (a : α) (h2 : ∀ l, ∃ x, P x ∧ x ∈ f l a) : ∀ (ys : List α) (l : List β), a ∈ ys → ∃ x, P x ∧ x ∈ ys.foldl f l
  | [], l, h => by cases h
  | y :: ys, l, h => by
    rw [List.foldl_cons]
    rw [List.mem_cons] at h
    rcases h with h | h
    · subst h
      obtain ⟨x, hx, hm⟩ := h2 l
      exact ⟨x, hx, (foldl_prefix f hf ys _).subset hm⟩
    · exact foldl_some f hf P a h2 ys _ h

theorem c1_prefix (xs : List Int) (h : Hd) : c1C xs h <+: c4C xs h := by
  have h2 : c1C xs h <+: c2C xs h := addC_prefix _ _ _ _
  have h3 : c2C xs h <+: c3C xs h := by
    unfold c3C; split
    · exact tabFold_prefix _ _ _ _ _ _ _ _
    · exact List.prefix_refl _
  have h4 : c3C xs h <+: c4C xs h := by
    unfold c4C shotsC
    split
    · exact List.prefix_refl _
    · split
      · exact (addC_prefix _ _ _ _).trans (shotFold_prefix _ _ _ _)
      · exact addC_prefix _ _ _ _
  exact h2.trans (h3.trans h4)
theorem c5_prefix (xs : List Int) (h : Hd) : c4C xs h <+: c5C xs h := foldl_prefix _ (fun _ _ => tabFold_prefix _ _ _ _ _ _ _ _) _ _
theorem c6_prefix (xs : List Int) (h : Hd) : c5C xs h <+: c6C xs h := foldl_prefix _ (fun l a => datStep_prefix l a) _ _
/-- The claim of First. -/
theorem first_claim (xs : List Int) : (⟨2, 0, 0, 0, (headOf xs).first, goodB xs (headOf xs).size [⟨1, 0, 0, 0, 0, true⟩] ⟨2, 0, 0, 0, (headOf xs).first, false⟩⟩ : Cm) ∈ c4C xs (headOf xs) := by
  refine (c1_prefix xs (headOf xs)).subset ?_
  unfold c1C addC
  simp
/-- A second table that the first one leads to. -/
theorem second_claim {xs : List Int} {f : Int} (hf : f ∈ firstsC (c4C xs (headOf xs))) (i : Nat) (hi : i < 8) (ht : targetOf ((cl xs f.toNat).getD i 0) ≠ 0) :
    ∃ c ∈ c5C xs (headOf xs), c.kind = 7 ∧ c.frm = f.toNat ∧ c.slot = i ∧ c.place = 8 * i ∧ c.target = targetOf ((cl xs f.toNat).getD i 0) := by
  obtain ⟨x, hx, hm⟩ := foldl_some (secStep xs (headOf xs)) (fun _ _ => tabFold_prefix _ _ _ _ _ _ _ _)
    (fun c => c.kind = 7 ∧ c.frm = f.toNat ∧ c.slot = i ∧ c.place = 8 * i ∧ c.target = targetOf ((cl xs f.toNat).getD i 0)) f (fun l => by
      obtain ⟨b, hb⟩ := tab_mem xs (headOf xs).size 7 f.toNat 0 8 l i hi ht
      exact ⟨_, ⟨rfl, rfl, rfl, by simp, rfl⟩, hb⟩) _ (c4C xs (headOf xs)) hf
  exact ⟨x, hm, hx⟩
theorem data_claim {xs : List Int} {c : Cm} (hc : c ∈ c5C xs (headOf xs)) (hk : c.kind = 7) (hg : c.good = true) (j : Nat) (hj : j < 8) (ht : targetOf ((cl xs c.target.toNat).getD j 0) ≠ 0) :
    ∃ d ∈ claimsC xs, d.kind = 8 ∧ d.frm = c.target.toNat ∧ d.slot = j ∧ d.target = targetOf ((cl xs c.target.toNat).getD j 0) := by
  obtain ⟨x, hx, hm⟩ := foldl_some (datStep xs (headOf xs)) (fun l a => datStep_prefix l a)
    (fun d => d.kind = 8 ∧ d.frm = c.target.toNat ∧ d.slot = j ∧ d.target = targetOf ((cl xs c.target.toNat).getD j 0)) c (fun l => by
      obtain ⟨b, hb⟩ := tab_mem xs (headOf xs).size 8 c.target.toNat c.place 1 l j hj ht
      refine ⟨⟨8, c.target.toNat, j, c.place + 1 * j, targetOf ((cl xs c.target.toNat).getD j 0), b⟩, ⟨rfl, rfl, rfl, rfl⟩, ?_⟩
      unfold datStep
      rw [if_pos ⟨hk, hg⟩]
      exact hb) _ (c5C xs (headOf xs)) hc
  exact ⟨x, hm, hx⟩

end Go.Proofs.YtiokfhdkbpoadaaGreatDoor
