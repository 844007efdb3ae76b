/- What holds of any two claims of an image: plain mathematics. -/
import Derived.Test.YtimbfilbojejiaaCt
namespace Go.Proofs.Ytimbfilbojejiaa
open Go.RowKit

/-- Two good claims of one target are of one kind, and of a second table or of data. -/
def apart (x c : Cm) : Prop := x.good = true → c.good = true → c.target = x.target → c.kind = x.kind ∧ 7 ≤ c.kind
theorem good_apart {xs : List Int} {size : Int} {l : List Cm} {c x : Cm} (h : goodB xs size l c = true) (hx : x ∈ l) (hg : x.good = true) (ht : c.target = x.target) : c.kind = x.kind ∧ 7 ≤ c.kind := by
  have hb : barsB x c = false := by
    cases hb : barsB x c
    · rfl
    · have ha : (l.any fun x => barsB x c) = true := List.any_eq_true.2 ⟨x, hx, hb⟩
      rw [goodB, ha] at h
      simp at h
  unfold barsB at hb
  rw [if_pos ⟨hg, ht.symm⟩] at hb
  by_cases h7 : c.kind = 7 ∧ x.kind = 7
  · omega
  · rw [if_neg h7] at hb
    by_cases h8 : c.kind = 8 ∧ x.kind = 8
    · omega
    · rw [if_neg h8] at hb
      cases hb
theorem addC_apart {xs : List Int} {size : Int} {l : List Cm} {c : Cm} (hl : l.Pairwise apart) : (addC xs size l c).Pairwise apart := by
  unfold addC
  rw [List.pairwise_append]
  refine ⟨hl, by simp, fun x hx y hy => ?_⟩
  rw [List.mem_singleton] at hy
  subst hy
  intro h1 h2 h3
  exact good_apart (c := c) h2 hx h1 h3
theorem foldl_pres {α β : Type} (P : β → Prop) (f : β → α → β) (hf : ∀ b a, P b → P (f b a)) : ∀ (ys : List α) (b : β), P b → P (ys.foldl f b)
  | [], _, h => h
  | a :: ys, b, h => foldl_pres P f hf ys (f b a) (hf b a h)
/-- What each step of the claims keeps. -/
structure Steady (P : List Cm → Prop) : Prop where
  add : ∀ (xs : List Int) (size : Int) (l : List Cm) (c : Cm), P l → P (addC xs size l c)
theorem Steady.tab {P : List Cm → Prop} (hP : Steady P) {xs : List Int} {size : Int} {l : List Cm} {kind : Int} {frm : Nat} {place step : Int} (h : P l) : P (tabC xs size l kind frm place step) := by
  unfold tabC
  refine foldl_pres P _ (fun b a hb => ?_) _ _ h
  unfold tabStep
  split
  · exact hP.add _ _ _ _ hb
  · exact hb
theorem Steady.all {P : List Cm → Prop} (hP : Steady P) (h0 : P [⟨1, 0, 0, 0, 0, true⟩]) (xs : List Int) : P (claimsC xs) := by
  have h2 : ∀ h : Hd, P (c2C xs h) := fun h => hP.add _ _ _ _ (hP.add _ _ _ _ h0)
  have h3 : ∀ h : Hd, P (c3C xs h) := by
    intro h; unfold c3C; split
    · exact hP.tab (h2 h)
    · exact h2 h
  have h4 : ∀ h : Hd, P (c4C xs h) := by
    intro h; unfold c4C shotsC; split
    · exact h3 h
    · split
      · exact foldl_pres P _ (fun b a hb => hP.add _ _ _ _ hb) _ _ (hP.add _ _ _ _ (h3 h))
      · exact hP.add _ _ _ _ (h3 h)
  have h5 : ∀ h : Hd, P (c5C xs h) := fun h => foldl_pres P _ (fun b a hb => hP.tab hb) _ _ (h4 h)
  unfold claimsC c6C
  refine foldl_pres P _ (fun b a hb => ?_) _ _ (h5 _)
  unfold datStep
  split
  · exact hP.tab hb
  · exact hb
theorem claims_pair (xs : List Int) : (claimsC xs).Pairwise apart := Steady.all ⟨fun _ _ _ _ h => addC_apart h⟩ (by simp) xs
theorem claims_pos (xs : List Int) : 0 < (claimsC xs).length := Steady.all (P := fun l => 0 < l.length) ⟨fun _ _ _ _ _ => by rw [addC_length]; omega⟩ (by simp) xs
theorem claimsL_apart {xs : List Int} {i k : Nat} (hi : i < (claimsL xs).length) (hk : k < i) : apart ((claimsL xs).getD k cm0) ((claimsL xs).getD i cm0) := by
  have hp : (claimsL xs).Pairwise apart := by
    unfold claimsL; split
    · exact claims_pair xs
    · simp
  have := List.pairwise_iff_getElem.1 hp k i (by omega) hi hk
  rw [List.getD_eq_getElem?_getD, List.getD_eq_getElem?_getD, List.getElem?_eq_getElem hi, List.getElem?_eq_getElem (by omega)]
  exact this
theorem claimsL_lead {xs : List Int} {i : Nat} (hi : i < (claimsL xs).length) (hg : ((claimsL xs).getD i cm0).good = true) :
    0 ≤ ((claimsL xs).getD i cm0).target ∧ ((claimsL xs).getD i cm0).target < manyI xs ∧ (((claimsL xs).getD i cm0).target = 0 → ((claimsL xs).getD i cm0).kind = 1) := by
  have hm : (claimsL xs).getD i cm0 ∈ claimsL xs := by
    rw [List.getD_eq_getElem?_getD, List.getElem?_eq_getElem hi]
    exact List.getElem_mem hi
  generalize (claimsL xs).getD i cm0 = x at *
  cases hh : hasHead xs
  · unfold claimsL at hm; rw [hh] at hm; simp at hm
  · unfold claimsL at hm
    rw [if_pos hh] at hm
    obtain ⟨t0, t1⟩ := good_target hh hm hg
    have hM : manyI xs = manyN xs := by unfold manyI; rw [if_pos (hasHead_img hh)]
    refine ⟨t0, by omega, fun h0 => ?_⟩
    rcases (claims_ok xs x hm).lead hg with h | h
    · exact h.1
    · have := there_lt h; omega
theorem claimsL_head (xs : List Int) : decide (0 < (claimsL xs).length) = hasHead xs := by
  unfold claimsL
  cases hh : hasHead xs
  · simp
  · simp [claims_pos xs]

end Go.Proofs.Ytimbfilbojejiaa
