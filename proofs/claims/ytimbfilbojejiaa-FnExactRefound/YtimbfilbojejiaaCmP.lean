/- What holds of all claims of an image with a head: plain mathematics. -/
import Derived.Test.YtimbfilbojejiaaCm
namespace Go.Proofs.Ytimbfilbojejiaa
open Go.RowKit

/-- What each claim keeps to. -/
structure Ok6 (xs : List Int) (c : Cm) : Prop where
  lead : c.good = true → (c.kind = 1 ∧ c.target = 0) ∨ thereB xs c.target = true
  place0 : 0 ≤ c.place
  place1 : c.place ≤ 63
  slot0 : 0 ≤ c.slot
  slot1 : c.slot ≤ 7
  kind0 : 1 ≤ c.kind
  kind1 : c.kind ≤ 8
  second : c.kind = 7 → c.place ≤ 56
  from_ : c.kind = 4 ∨ c.kind = 7 ∨ c.kind = 8 → thereB xs c.frm = true
  shot : c.kind = 6 → c.slot < (shotsL xs).length

theorem goodB_there {xs : List Int} {size : Int} {l : List Cm} {c : Cm} (h : goodB xs size l c = true) : thereB xs c.target = true := by
  simp [goodB] at h
  exact h.1.1
theorem addC_all {xs : List Int} {size : Int} {l : List Cm} {c : Cm} (P : Cm → Prop) (hl : ∀ x ∈ l, P x) (hc : P { c with good := goodB xs size l c }) : ∀ x ∈ addC xs size l c, P x := by
  intro x hx
  rw [addC, List.mem_append] at hx
  rcases hx with hx | hx
  · exact hl x hx
  · rw [List.mem_singleton] at hx; subst hx; exact hc
/-- A claim that has just been judged. -/
theorem ok_judged {xs : List Int} {size : Int} {l : List Cm} {c : Cm} (p0 : 0 ≤ c.place) (p1 : c.place ≤ 63) (s0 : 0 ≤ c.slot) (s1 : c.slot ≤ 7) (k0 : 1 ≤ c.kind) (k1 : c.kind ≤ 8) (h7 : c.kind = 7 → c.place ≤ 56)
    (hf : c.kind = 4 ∨ c.kind = 7 ∨ c.kind = 8 → thereB xs c.frm = true) (h6 : c.kind = 6 → c.slot < (shotsL xs).length) : Ok6 xs { c with good := goodB xs size l c } :=
  ⟨fun hg => .inr (goodB_there hg), p0, p1, s0, s1, k0, k1, h7, hf, h6⟩

theorem foldl_all {α β : Type} (P : β → Prop) (Q : α → Prop) (f : List β → α → List β) (hf : ∀ l a, (∀ x ∈ l, P x) → Q a → ∀ x ∈ f l a, P x) : ∀ (ys : List α) (l : List β), (∀ x ∈ l, P x) → (∀ a ∈ ys, Q a) → ∀ x ∈ ys.foldl f l, P x
  | [], _, hl, _ => hl
  | a :: ys, l, hl, hq => foldl_all P Q f hf ys (f l a) (hf l a hl (hq a (by simp))) (fun b hb => hq b (by simp [hb]))
theorem foldl_length {α β : Type} (f : List β → α → List β) (k : Nat) (hf : ∀ l a, (f l a).length ≤ l.length + k) : ∀ (ys : List α) (l : List β), (ys.foldl f l).length ≤ l.length + k * ys.length
  | [], l => by simp
  | a :: ys, l => by
    have h1 := foldl_length f k hf ys (f l a)
    have h2 := hf l a
    rw [List.foldl_cons, List.length_cons, Nat.mul_succ]
    omega
theorem foldl_prefix {α β : Type} (f : List β → α → List β) (hf : ∀ l a, l <+: f l a) : ∀ (ys : List α) (l : List β), l <+: ys.foldl f l
  | [], l => List.prefix_refl l
  | a :: ys, l => (hf l a).trans (foldl_prefix f hf ys (f l a))

theorem ok_tab {xs : List Int} {size : Int} {l : List Cm} {kind : Int} {frm : Nat} {place step : Int} (hl : ∀ x ∈ l, Ok6 xs x) (hf : thereB xs frm = true) (h0 : 0 ≤ place) (hs : 0 ≤ step) (h63 : place + step * 7 ≤ 63) (hk : kind = 4 ∨ kind = 7 ∨ kind = 8) (h7 : kind = 7 → place + step * 7 ≤ 56) :
    ∀ x ∈ tabC xs size l kind frm place step, Ok6 xs x := by
  unfold tabC
  refine foldl_all (Ok6 xs) (fun i => i < 8) _ ?_ (List.range 8) l hl (fun i hi => by simpa using hi)
  intro l i hl hi
  unfold tabStep
  split
  · have hm : step * (i : Int) ≤ step * 7 := Int.mul_le_mul_of_nonneg_left (by omega) hs
    have hm0 : 0 ≤ step * (i : Int) := Int.mul_nonneg hs (by omega)
    refine addC_all _ hl (ok_judged ?_ ?_ ?_ ?_ ?_ ?_ ?_ ?_ ?_) <;> simp only
    · omega
    · omega
    · omega
    · omega
    · omega
    · omega
    · intro h; have := h7 h; omega
    · intro _; exact hf
    · intro h; omega
  · exact hl

section
variable {xs : List Int} {h : Hd}
theorem ok_c0 : ∀ x ∈ ([⟨1, 0, 0, 0, 0, true⟩] : List Cm), Ok6 xs x := by
  intro x hx
  rw [List.mem_singleton] at hx
  subst hx
  exact ⟨fun _ => .inl ⟨rfl, rfl⟩, by simp, by simp, by simp, by simp, by simp, by simp, by simp, by simp, by simp⟩
theorem ok_c1 : ∀ x ∈ c1C xs h, Ok6 xs x := addC_all _ ok_c0 (ok_judged (by simp) (by simp) (by simp) (by simp) (by simp) (by simp) (by simp) (by simp) (by simp))
theorem ok_c2 : ∀ x ∈ c2C xs h, Ok6 xs x := addC_all _ ok_c1 (ok_judged (by simp) (by simp) (by simp) (by simp) (by simp) (by simp) (by simp) (by simp) (by simp))
theorem ok_c3 : ∀ x ∈ c3C xs h, Ok6 xs x := by
  unfold c3C
  split
  · rename_i hg
    have ht := goodB_there hg
    have := there_lt ht
    simp only at ht this
    exact ok_tab ok_c2 (by rw [Int.toNat_of_nonneg (by omega)]; exact ht) (by omega) (by omega) (by omega) (by omega) (by omega)
  · exact ok_c2
theorem ok_c4 : ∀ x ∈ c4C xs h, Ok6 xs x := by
  unfold c4C shotsC
  split
  · exact ok_c3
  · have h5 : ∀ x ∈ addC xs h.size (c3C xs h) ⟨5, 0, 0, 0, h.shots, false⟩, Ok6 xs x := addC_all _ ok_c3 (ok_judged (by simp) (by simp) (by simp) (by simp) (by simp) (by simp) (by simp) (by simp) (by simp))
    split
    · refine foldl_all (Ok6 xs) (fun i => i < (shotsL xs).length) _ ?_ _ _ h5 (fun i hi => by simpa using hi)
      intro l i hl hi
      have := shotsL_length xs
      refine addC_all _ hl (ok_judged ?_ ?_ ?_ ?_ ?_ ?_ ?_ ?_ ?_) <;> simp <;> omega
    · exact h5
/-- The first tables are there. -/
theorem firsts_there {l : List Cm} (hl : ∀ x ∈ l, Ok6 xs x) : ∀ f ∈ firstsC l, thereB xs f = true := by
  intro f hf
  unfold firstsC at hf
  rw [List.mem_map] at hf
  obtain ⟨c, hc, rfl⟩ := hf
  rw [List.mem_filter] at hc
  obtain ⟨hm, hg⟩ := hc
  simp at hg
  rcases (hl c hm).lead hg.1 with h1 | h1
  · omega
  · exact h1
theorem ok_c5 : ∀ x ∈ c5C xs h, Ok6 xs x := by
  unfold c5C
  refine foldl_all (Ok6 xs) (fun f => thereB xs f = true) _ ?_ _ _ ok_c4 (firsts_there ok_c4)
  intro l f hl hf
  have := there_lt hf
  exact ok_tab hl (by rw [Int.toNat_of_nonneg (by omega)]; exact hf) (by omega) (by omega) (by omega) (by omega) (by omega)
theorem ok_c6 : ∀ x ∈ c6C xs h, Ok6 xs x := by
  unfold c6C
  refine foldl_all (Ok6 xs) (Ok6 xs) _ ?_ _ _ ok_c5 ok_c5
  intro l c hl hc
  unfold datStep
  split
  · rename_i hk
    rcases hc.lead hk.2 with h1 | h1
    · omega
    · have := there_lt h1
      have h7 := hc.second hk.1
      have h0 := hc.place0
      exact ok_tab hl (by rw [Int.toNat_of_nonneg (by omega)]; exact h1) h0 (by omega) (by omega) (by omega) (by omega)
  · exact hl
theorem c3_length : (c3C xs h).length ≤ 11 := by
  unfold c3C
  have h2 : (c2C xs h).length = 3 := by simp [c2C, c1C, addC]
  split
  · have := tabC_length xs h.size (c2C xs h) 4 h.refs.toNat 0 0; omega
  · omega
theorem c4_length : (c4C xs h).length ≤ 16 := by
  unfold c4C shotsC
  have h3 := c3_length (xs := xs) (h := h)
  split
  · omega
  · have h5 := addC_length xs h.size (c3C xs h) ⟨5, 0, 0, 0, h.shots, false⟩
    split
    · have := foldl_length (shotStep xs h) 1 (fun l a => by rw [shotStep, addC_length]; omega) (List.range (shotsL xs).length) (addC xs h.size (c3C xs h) ⟨5, 0, 0, 0, h.shots, false⟩)
      have := shotsL_length xs
      simp at *
      omega
    · omega
theorem c5_length : (c5C xs h).length ≤ 144 := by
  unfold c5C
  have h4 := c4_length (xs := xs) (h := h)
  have := foldl_length (secStep xs h) 8 (fun l a => tabC_length _ _ _ _ _ _ _) (firstsC (c4C xs h)) (c4C xs h)
  have hf : (firstsC (c4C xs h)).length ≤ (c4C xs h).length := by unfold firstsC; rw [List.length_map]; exact List.length_filter_le _ _
  omega
theorem datStep_length (l : List Cm) (c : Cm) : (datStep xs h l c).length ≤ l.length + 8 := by
  unfold datStep; split
  · exact tabC_length _ _ _ _ _ _ _
  · omega
theorem c6_length : (c6C xs h).length ≤ 1296 := by
  unfold c6C
  have h5 := c5_length (xs := xs) (h := h)
  have := foldl_length (datStep xs h) 8 datStep_length (c5C xs h) (c5C xs h)
  omega
end
theorem claims_ok (xs : List Int) : ∀ x ∈ claimsC xs, Ok6 xs x := ok_c6
theorem claims_length (xs : List Int) : (claimsC xs).length ≤ 1296 := c6_length

end Go.Proofs.Ytimbfilbojejiaa
