/- Cleared (chapter 12): plain functions, and that the model's Go functions compute them. Cleared, as a plain function: its words. Plain mathematics. Cleared, as a plain function; it is neat, and has the good claims: plain mathematics. -/
import Derived.Test.YtiokfhdkbpoadabGreatDoorG7
import Derived.Test.YtiokfhdkbpoadabGreatDoorG1
import Derived.StillTailTactics
import Derived.Deep.RegionLaw
import Derived.Test.YtiokfhdkbpoadabGreatDoorH1
import Derived.Test.YtiokfhdkbpoadabGreatDoorG3
namespace Go.Proofs.YtiokfhdkbpoadabGreatDoor
open Go.RowKit

theorem range_next {β : Type} (f : β → Nat → β) (z : β) (k : Nat) : (List.range (k + 1)).foldl f z = f ((List.range k).foldl f z) k := by
  rw [List.range_succ, List.foldl_append]; rfl
/-- The pairs that stay. -/
def pairW (b : List Int) (c : Cm) : List Int := [((shotsL b).getD c.slot.toNat (0, 0)).1, ((shotsL b).getD c.slot.toNat (0, 0)).2]
def keepW (b : List Int) : List Int := ((claimsC b).filter (fun c => c.kind == 6 && c.good)).flatMap (pairW b)
def keepStep (h : Hd) (kw : List Int) (o : List Int) (i : Nat) : List Int := o.set (h.shots.toNat * 8 + i) (kw.getD i 0)
def keepL (h : Hd) (kw z : List Int) : List Int := (List.range (2 * h.many).toNat).foldl (keepStep h kw) z
def shotsOk (l : List Cm) : Bool := l.any (fun c => c.good && c.kind == 5)
def lzB (c : Cm) : Bool := !c.good && (c.kind == 4 || decide (7 ≤ c.kind))
def clrStep (o : List Int) (c : Cm) : List Int := if lzB c = true then o.set (c.frm.toNat * 8 + c.slot.toNat) 0 else o
def clr1 (b : List Int) : List Int := if shotsOk (claimsC b) = true then keepL (headOf b) (keepW b) (whole b) else whole b
def clr2 (b : List Int) : List Int := (claimsC b).foldl clrStep (clr1 b)
def clrHead (b : List Int) : Hd := ⟨(headOf b).size, if (claimsC b).any (fun c => !c.good && c.kind == 2) = true then 0 else (headOf b).first, if (claimsC b).any (fun c => !c.good && c.kind == 3) = true then 0 else (headOf b).refs,
  if ((keepW b).length / 2 : Nat) = 0 then 0 else (headOf b).shots, ((keepW b).length / 2 : Nat)⟩
/-- Of an image with a head. -/
def clrC (b : List Int) : List Int := setCl (clr2 b) 0 (hdW (clrHead b))
def clearedL (b : List Int) : List Int := if hasHead b = true then clrC b else []
theorem keep_get (h : Hd) (kw : List Int) : ∀ (k : Nat) (z : List Int) (j : Nat), h.shots.toNat * 8 + k ≤ z.length →
    ((List.range k).foldl (keepStep h kw) z).getD j 0 = (if h.shots.toNat * 8 ≤ j ∧ j < h.shots.toNat * 8 + k then kw.getD (j - h.shots.toNat * 8) 0 else z.getD j 0) ∧ ((List.range k).foldl (keepStep h kw) z).length = z.length
  | 0, z, j, _ => by
    refine ⟨?_, rfl⟩
    rw [if_neg (by omega)]
    rfl
  | k + 1, z, j, hk => by
    obtain ⟨h1, h2⟩ := keep_get h kw k z j (by omega)
    rw [range_next]
    refine ⟨?_, (List.length_set ..).trans h2⟩
    refine (getD_set _ _ _ _).trans ?_
    rw [h2, h1]
    by_cases e : h.shots.toNat * 8 + k = j
    · subst e
      rw [if_pos ⟨rfl, by omega⟩, if_pos (by omega)]
      congr 1
      omega
    · rw [if_neg (by omega)]
      by_cases h3 : h.shots.toNat * 8 ≤ j ∧ j < h.shots.toNat * 8 + k
      · rw [if_pos h3, if_pos (by omega)]
      · rw [if_neg h3, if_neg (by omega)]
theorem clr_len (l : List Cm) : ∀ z : List Int, (l.foldl clrStep z).length = z.length := by
  induction l with
  | nil => intro z; rfl
  | cons c l ih => intro z; rw [List.foldl_cons, ih]; unfold clrStep; split <;> simp
def isKept (c : Cm) : Bool := c.kind == 6 && c.good
def keepOf (b : List Int) (l : List Cm) : List Int := (l.filter isKept).flatMap (pairW b)
theorem keepOf_all (b : List Int) : keepOf b (claimsC b) = keepW b := rfl
theorem keepOf_step (b : List Int) (l : List Cm) (k : Nat) (hk : k < l.length) : keepOf b (l.take (k + 1)) = if isKept (l.getD k cm0) = true then keepOf b (l.take k) ++ pairW b (l.getD k cm0) else keepOf b (l.take k) := by
  unfold keepOf
  rw [List.take_succ_eq_append_getElem hk, List.filter_append, List.flatMap_append, List.getD_eq_getElem?_getD, List.getElem?_eq_getElem hk]
  simp only [Option.getD_some]
  cases h : isKept l[k]
  · rw [List.filter_cons_of_neg (by simp [h])]; simp
  · rw [List.filter_cons_of_pos h]; simp
theorem keepOf_length (b : List Int) (l : List Cm) : (keepOf b l).length ≤ 2 * l.length := by
  unfold keepOf
  have h1 := List.length_filter_le isKept l
  have h2 : ∀ l : List Cm, (l.flatMap (pairW b)).length = 2 * l.length := by
    intro l
    induction l with
    | nil => rfl
    | cons c l ih => rw [List.flatMap_cons, List.length_append, ih, List.length_cons]; show 2 + _ = _; omega
  rw [h2]
  omega
theorem iv_two (ys : List Int) (a b : Int) : iv (ys ++ [a, b]) = iv ys ++ [.int .i64 a, .int .i64 b] := by rw [iv_append]; rfl

theorem keep_all (b : List Int) : (claimsC b).filter (fun c => c.kind == 6 && c.good) = keepC b := by
  obtain ⟨J3, J4, J5, J6, P⟩ := claims_parts b
  unfold keepC
  rw [P.c6, P.c5, List.filter_append, List.filter_append]
  have e5 : J5.filter (fun c => c.kind == 6 && c.good) = [] := by
    rw [List.filter_eq_nil_iff]
    intro c hc
    obtain ⟨d, _, h, _⟩ := P.of5 hc
    simp [h]
  have e6 : J6.filter (fun c => c.kind == 6 && c.good) = [] := by
    rw [List.filter_eq_nil_iff]
    intro c hc
    obtain ⟨d, _, h, _⟩ := P.of6 hc
    simp [h]
  rw [e5, e6]
  simp
theorem keepW_flat (b : List Int) : keepW b = (keepC b).flatMap (pairW b) := by unfold keepW; rw [keep_all]
theorem pairs_length {α : Type} (f : α → List Int) (hf : ∀ x, (f x).length = 2) : ∀ l : List α, (l.flatMap f).length = 2 * l.length
  | [] => rfl
  | x :: l => by rw [List.flatMap_cons, List.length_append, hf, pairs_length f hf l, List.length_cons]; omega
theorem keepW_length (b : List Int) : (keepW b).length = 2 * (keepC b).length := by rw [keepW_flat]; exact pairs_length _ (fun _ => rfl) _
theorem pairs_get {α : Type} (f : α → List Int) (hf : ∀ x, (f x).length = 2) : ∀ (l : List α) (i : Nat) (j : Nat) (hi : i < l.length), j < 2 → (l.flatMap f).getD (2 * i + j) 0 = (f l[i]).getD j 0
  | [], i, _, hi, _ => by simp at hi
  | x :: l, 0, j, _, hj => by
    rw [List.flatMap_cons, List.getD_eq_getElem?_getD, List.getElem?_append_left (by rw [hf]; omega), List.getD_eq_getElem?_getD]
    simp
  | x :: l, i + 1, j, hi, hj => by
    have := pairs_get f hf l i j (by simpa using hi) hj
    rw [List.flatMap_cons, List.getD_eq_getElem?_getD, List.getElem?_append_right (by rw [hf]; omega), hf, show 2 * (i + 1) + j - 2 = 2 * i + j by omega, ← List.getD_eq_getElem?_getD, this]
    rfl
theorem keepC_mem {b : List Int} {c : Cm} (hc : c ∈ keepC b) : c ∈ claimsC b ∧ c.kind = 6 ∧ c.good = true := by
  rw [← keep_all, List.mem_filter] at hc
  simp at hc
  exact hc
theorem keepC_shot {b : List Int} {c : Cm} (hc : c ∈ keepC b) : c.target = ((shotsL b).getD c.slot.toNat (0, 0)).2 ∧ (⟨5, 0, 0, 0, (headOf b).shots, true⟩ : Cm) ∈ claimsC b := by
  obtain ⟨h1, h2, _⟩ := keepC_mem hc
  obtain ⟨J3, J4, J5, J6, P⟩ := claims_parts b
  rcases P.of4 (P.kind6 h1 (.inr h2)) with h | h
  · omega
  · exact ⟨h.2.2.2.2.1, h.2.2.2.2.2⟩
theorem keepC_le (b : List Int) : (keepC b).length ≤ (shotsL b).length := by
  obtain ⟨J3, J4, J5, J6, P⟩ := claims_parts b
  have e : keepC b = J4.filter (fun c => c.kind == 6 && c.good) := by
    unfold keepC
    rw [P.c4, List.filter_append]
    have : (c3C b (headOf b)).filter (fun c => c.kind == 6 && c.good) = [] := by
      rw [List.filter_eq_nil_iff]
      intro c hc
      have := c3_kind b _ c hc
      simp
      intro h
      omega
    rw [this, List.nil_append]
  rw [e]
  rcases P.e4 with ⟨g, h1, _⟩ | h1 | ⟨J, h1, h2⟩
  · rw [h1]; simp
  · rw [h1]; simp
  · rw [h1, List.filter_cons_of_neg (by simp)]
    have h3 := congrArg List.length h2
    rw [List.length_map, List.length_map] at h3
    have h4 : (shotT (headOf b) (shotsL b)).length = (shotsL b).length := by unfold shotT; simp
    have := List.length_filter_le (fun c : Cm => c.kind == 6 && c.good) J
    omega

theorem clr_get (l : List Cm) : ∀ (z : List Int) (j : Nat), (l.foldl clrStep z).getD j 0 = if l.any (fun c => lzB c && decide (c.frm.toNat * 8 + c.slot.toNat = j)) = true then 0 else z.getD j 0 := by
  induction l with
  | nil => intro z j; simp
  | cons c l ih =>
    intro z j
    rw [List.foldl_cons, ih, List.any_cons]
    by_cases h2 : l.any (fun c => lzB c && decide (c.frm.toNat * 8 + c.slot.toNat = j)) = true
    · rw [if_pos h2, if_pos (by rw [h2]; simp)]
    · rw [if_neg h2]
      rw [Bool.not_eq_true] at h2
      rw [h2, Bool.or_false]
      unfold clrStep
      cases hz : lzB c
      · rw [if_neg (by simp), if_neg (by simp)]
      · rw [if_pos rfl, getD_set]
        by_cases e : c.frm.toNat * 8 + c.slot.toNat = j
        · have hr : (if (true && decide (c.frm.toNat * 8 + c.slot.toNat = j)) = true then (0 : Int) else z.getD j 0) = 0 := if_pos (by simp [e])
          rw [hr]
          by_cases hl : c.frm.toNat * 8 + c.slot.toNat < z.length
          · rw [if_pos ⟨e, hl⟩]
          · rw [if_neg (fun h => hl h.2), getD_past z j (by omega)]
        · have hr : (if (true && decide (c.frm.toNat * 8 + c.slot.toNat = j)) = true then (0 : Int) else z.getD j 0) = z.getD j 0 := if_neg (by simp [e])
          rw [hr, if_neg (fun h => e h.1)]
theorem shots_ok {b : List Int} : shotsOk (claimsC b) = true ↔ (⟨5, 0, 0, 0, (headOf b).shots, true⟩ : Cm) ∈ claimsC b := by
  unfold shotsOk
  rw [List.any_eq_true]
  refine ⟨fun ⟨c, hc, h⟩ => ?_, fun h => ⟨_, h, rfl⟩⟩
  simp at h
  obtain ⟨J3, J4, J5, J6, P⟩ := claims_parts b
  have hm := P.kind6 hc (.inl h.2)
  rcases P.e4 with ⟨g, h1, h2⟩ | h1 | ⟨J, h1, h2⟩
  · rw [h1, List.mem_singleton] at hm; subst hm; rw [h2] at h; cases h.1
  · rw [h1] at hm; cases hm
  · exact P.mem.2 (.inr (.inr (.inl (by rw [h1]; simp))))
theorem shots_len {b : List Int} (hh : hasHead b = true) (h : (⟨5, 0, 0, 0, (headOf b).shots, true⟩ : Cm) ∈ claimsC b) : shotsL b = (List.range (headOf b).many.toNat).map (fun i => ((cl b (headOf b).shots.toNat).getD (2 * i) 0, (cl b (headOf b).shots.toNat).getD (2 * i + 1) 0)) :=
  shotsL_some (headIn_yes hh) (good_there h rfl (by simp))
theorem clr1_length {b : List Int} (hh : hasHead b = true) : (clr1 b).length = manyN b * 8 := by
  unfold clr1
  split
  · rename_i h
    have h5 := shots_ok.1 h
    have ht := there_lt (good_there h5 rfl (by simp))
    have hm := (headB_all (hasHead_ok hh)).2.2.2.2
    simp only at ht
    unfold keepL
    rw [(keep_get (headOf b) (keepW b) _ (whole b) 0 (by rw [whole_length]; omega)).2, whole_length]
  · exact whole_length b
theorem clr2_length {b : List Int} (hh : hasHead b = true) : (clr2 b).length = manyN b * 8 := by unfold clr2; rw [clr_len, clr1_length hh]
theorem clr1_get {b : List Int} (hh : hasHead b = true) (j : Nat) : (clr1 b).getD j 0 = if shotsOk (claimsC b) = true ∧ (headOf b).shots.toNat * 8 ≤ j ∧ j < (headOf b).shots.toNat * 8 + (2 * (headOf b).many).toNat then (keepW b).getD (j - (headOf b).shots.toNat * 8) 0 else b.getD j 0 := by
  unfold clr1
  by_cases h : shotsOk (claimsC b) = true
  · rw [if_pos h]
    have h5 := shots_ok.1 h
    have ht := there_lt (good_there h5 rfl (by simp))
    have hm := (headB_all (hasHead_ok hh)).2.2.2.2
    simp only at ht
    unfold keepL
    rw [(keep_get (headOf b) (keepW b) _ (whole b) j (by rw [whole_length]; omega)).1, whole_get]
    by_cases h2 : (headOf b).shots.toNat * 8 ≤ j ∧ j < (headOf b).shots.toNat * 8 + (2 * (headOf b).many).toNat
    · rw [if_pos h2, if_pos ⟨h, h2⟩]
    · rw [if_neg h2, if_neg (fun h3 => h2 h3.2)]
  · rw [if_neg h, if_neg (fun h3 => h h3.1), whole_get]
/-- A table that is gone into is not that of the shots. -/
theorem tab_shots {b : List Int} {d : Cm} (hd : d ∈ claimsC b) (hg : d.good = true) (hk : d.kind = 2 ∨ d.kind = 3 ∨ d.kind = 6 ∨ d.kind = 7) (hs : shotsOk (claimsC b) = true) : d.target ≠ (headOf b).shots := by
  intro e
  have := (good_one hd (shots_ok.1 hs) hg rfl e).1
  simp only at this
  omega
theorem clrHead_ok {b : List Int} (hh : hasHead b = true) : headB (clrHead b) = true := by
  have h := headB_all (hasHead_ok hh)
  have h4 := keepW_length b
  have h5 := keepC_le b
  have h6 := shotsL_length b
  simp only [headB, wordB, Bool.and_eq_true, inB_true, clrHead]
  refine ⟨⟨⟨⟨h.1, ?_⟩, ?_⟩, ?_⟩, by omega, by omega⟩
  · split <;> omega
  · split <;> omega
  · split <;> omega

theorem keepW_word {b : List Int} (hh : hasHead b = true) (i : Nat) : wordB ((keepW b).getD i 0) = true := by
  by_cases hi : i < (keepW b).length
  · rw [List.getD_eq_getElem?_getD, List.getElem?_eq_getElem hi]
    simp only [Option.getD_some]
    have hm := List.getElem_mem hi
    generalize (keepW b)[i] = v at hm
    rw [keepW_flat, List.mem_flatMap] at hm
    obtain ⟨c, hc, hm⟩ := hm
    obtain ⟨_, h5⟩ := keepC_shot hc
    have hw : ∀ k : Nat, wordB ((shotsL b).getD k (0, 0)).1 = true ∧ wordB ((shotsL b).getD k (0, 0)).2 = true := by
      intro k
      rw [shots_len hh h5, List.getD_eq_getElem?_getD, List.getElem?_map]
      by_cases hk : k < (headOf b).many.toNat
      · rw [List.getElem?_range hk]
        have hmm := (headB_all (hasHead_ok hh)).2.2.2.2
        simp only [Option.map_some, Option.getD_some]
        rw [cl_word_get b _ _ (by omega), cl_word_get b _ _ (by omega)]
        have h1 := word_get (hasHead_img hh) ((headOf b).shots.toNat * 8 + 2 * k)
        have h2 := word_get (hasHead_img hh) ((headOf b).shots.toNat * 8 + (2 * k + 1))
        exact ⟨inB_true.2 h1, inB_true.2 h2⟩
      · rw [List.getElem?_eq_none (by simpa using hk)]
        exact ⟨rfl, rfl⟩
    unfold pairW at hm
    rw [List.mem_cons, List.mem_singleton] at hm
    rcases hm with h | h <;> rw [h]
    · exact (hw _).1
    · exact (hw _).2
  · rw [getD_past _ _ (by omega)]; rfl
theorem imgB_gets {zs : List Int} (hl : zs.length ≤ 512) (h : ∀ j, wordB (zs.getD j 0) = true) : imgB zs = true := by
  rw [imgB_iff]
  refine ⟨fun x hx => ?_, hl⟩
  obtain ⟨i, hi, rfl⟩ := List.mem_iff_getElem.1 hx
  have := h i
  rw [List.getD_eq_getElem?_getD, List.getElem?_eq_getElem hi] at this
  exact this
theorem clr2_img {b : List Int} (hh : hasHead b = true) : imgB (clr2 b) = true := by
  have hm := manyN_le (hasHead_img hh)
  refine imgB_gets (by rw [clr2_length hh]; omega) (fun j => ?_)
  unfold clr2
  rw [clr_get]
  split
  · rfl
  · rw [clr1_get hh]
    split
    · exact keepW_word hh _
    · exact inB_true.2 (word_get (hasHead_img hh) j)
theorem clr_head {b : List Int} (hh : hasHead b = true) : hasHead (clrC b) = true ∧ headOf (clrC b) = clrHead b ∧ (clrC b).length = manyN b * 8 := by
  have hp := whole_pos hh
  have hl := clr2_length hh
  obtain ⟨h1, h2, h3⟩ := hd_set (h := clrHead b) (clr2_img hh) (by rw [hl]; omega) (by rw [hl]; omega) (clrHead_ok hh)
  exact ⟨h1, h2, h3.trans hl⟩
theorem clr_word {b : List Int} (hh : hasHead b = true) {t i : Nat} (ht : 1 ≤ t) (hi : i < 8) : (cl (clrC b) t).getD i 0 = (clr2 b).getD (t * 8 + i) 0 := by
  have hp := whole_pos hh
  rw [cl_word_get _ _ _ hi]
  unfold clrC
  rw [setCl_get (by omega) (hdW_length _), if_neg (by omega)]
/-- A loose claim's word is 0. -/
theorem clr_w0 {b : List Int} (hh : hasHead b = true) {c : Cm} (hc : c ∈ claimsC b) (hg : c.good = false) (hk : c.kind = 4 ∨ c.kind = 7 ∨ c.kind = 8) : (cl (clrC b) c.frm.toNat).getD c.slot.toNat 0 = 0 := by
  obtain ⟨d, hd, _⟩ := claim_tab hc hk
  have ht := there_lt hd.there
  have h0 := hd.slot0
  have h1 := hd.slot1
  have hf := hd.frm
  rw [clr_word hh (by omega) (by omega)]
  unfold clr2
  rw [clr_get, if_pos]
  rw [List.any_eq_true]
  refine ⟨c, hc, ?_⟩
  unfold lzB
  rw [hg]
  simp
  omega
theorem clr_w1 {b : List Int} (hh : hasHead b = true) {t i : Nat} (ht : 1 ≤ t) (hi : i < 8) (h : ∀ c ∈ claimsC b, c.good = false → c.kind = 4 ∨ c.kind = 7 ∨ c.kind = 8 → c.frm = t → c.slot = i → False) : (cl (clrC b) t).getD i 0 = (clr1 b).getD (t * 8 + i) 0 := by
  rw [clr_word hh ht hi]
  unfold clr2
  rw [clr_get, if_neg]
  rw [List.any_eq_true]
  rintro ⟨c, hc, h2⟩
  unfold lzB at h2
  simp at h2
  have hk8 := (claims_ok b c hc).kind1
  have hk : c.kind = 4 ∨ c.kind = 7 ∨ c.kind = 8 := by omega
  obtain ⟨d, hd, _⟩ := claim_tab hc hk
  have htl := there_lt hd.there
  have h0 := hd.slot0
  have h1 := hd.slot1
  have hf := hd.frm
  exact h c hc h2.1.1 hk (by omega) (by omega)
theorem clr1_tab {b : List Int} (hh : hasHead b = true) {d : Cm} (hd : d ∈ claimsC b) (hg : d.good = true) (hk : d.kind = 2 ∨ d.kind = 3 ∨ d.kind = 6 ∨ d.kind = 7) {i : Nat} (hi : i < 8) : (clr1 b).getD (d.target.toNat * 8 + i) 0 = (cl b d.target.toNat).getD i 0 := by
  rw [clr1_get hh, cl_word_get _ _ _ hi, if_neg]
  rintro ⟨hs, h1, h2⟩
  have hne := tab_shots hd hg hk hs
  have ht := there_lt (good_there hd hg (by omega))
  have ht5 := there_lt (good_there (shots_ok.1 hs) rfl (by simp))
  have hm := (headB_all (hasHead_ok hh)).2.2.2.2
  simp only at ht5
  omega
theorem first_any {b : List Int} : ((claimsC b).any (fun c => !c.good && c.kind == 2)) = !(goodB b (headOf b).size [⟨1, 0, 0, 0, 0, true⟩] ⟨2, 0, 0, 0, (headOf b).first, false⟩) := by
  have hm : ∀ c ∈ claimsC b, c.kind = 2 → c = ⟨2, 0, 0, 0, (headOf b).first, goodB b (headOf b).size [⟨1, 0, 0, 0, 0, true⟩] ⟨2, 0, 0, 0, (headOf b).first, false⟩⟩ := by
    intro c hc hk
    obtain ⟨J3, J4, J5, J6, P⟩ := claims_parts b
    rcases P.mem.1 hc with h | h | h | h | h
    · unfold c2C c1C addC at h
      simp at h
      rcases h with rfl | rfl | rfl
      · cases hk
      · rfl
      · cases hk
    · obtain ⟨d, _, h, _⟩ := P.of3 h; omega
    · rcases P.of4 h with h | h <;> omega
    · obtain ⟨d, _, h, _⟩ := P.of5 h; omega
    · obtain ⟨d, _, h, _⟩ := P.of6 h; omega
  have hf := c4_sub b _ (first_claim b)
  generalize goodB b (headOf b).size [⟨1, 0, 0, 0, 0, true⟩] ⟨2, 0, 0, 0, (headOf b).first, false⟩ = g at *
  cases g
  · rw [Bool.not_false, List.any_eq_true]
    exact ⟨_, hf, rfl⟩
  · rw [Bool.not_true, List.any_eq_false]
    intro c hc h
    simp at h
    rw [hm c hc h.2] at h
    cases h.1
theorem refs_any {b : List Int} : ((claimsC b).any (fun c => !c.good && c.kind == 3)) = !(goodB b (headOf b).size (c1C b (headOf b)) ⟨3, 0, 0, 0, (headOf b).refs, false⟩) := by
  have hm : ∀ c ∈ claimsC b, c.kind = 3 → c = ⟨3, 0, 0, 0, (headOf b).refs, goodB b (headOf b).size (c1C b (headOf b)) ⟨3, 0, 0, 0, (headOf b).refs, false⟩⟩ := by
    intro c hc hk
    obtain ⟨J3, J4, J5, J6, P⟩ := claims_parts b
    rcases P.mem.1 hc with h | h | h | h | h
    · unfold c2C at h
      have : addC b (headOf b).size (c1C b (headOf b)) ⟨3, 0, 0, 0, (headOf b).refs, false⟩ = c1C b (headOf b) ++ [⟨3, 0, 0, 0, (headOf b).refs, goodB b (headOf b).size (c1C b (headOf b)) ⟨3, 0, 0, 0, (headOf b).refs, false⟩⟩] := rfl
      rw [this, List.mem_append, List.mem_singleton] at h
      rcases h with h | h
      · unfold c1C addC at h
        simp at h
        rcases h with rfl | rfl <;> cases hk
      · exact h
    · obtain ⟨d, _, h, _⟩ := P.of3 h; omega
    · rcases P.of4 h with h | h <;> omega
    · obtain ⟨d, _, h, _⟩ := P.of5 h; omega
    · obtain ⟨d, _, h, _⟩ := P.of6 h; omega
  have hf := refs_claim b
  generalize goodB b (headOf b).size (c1C b (headOf b)) ⟨3, 0, 0, 0, (headOf b).refs, false⟩ = g at *
  cases g
  · rw [Bool.not_false, List.any_eq_true]
    exact ⟨_, hf, rfl⟩
  · rw [Bool.not_true, List.any_eq_false]
    intro c hc h
    simp at h
    rw [hm c hc h.2] at h
    cases h.1
theorem clr_shots {b : List Int} (hh : hasHead b = true) (hn : keepC b ≠ []) : (headOf (clrC b)).shots = (headOf b).shots ∧ (shotsL (clrC b)).map (·.2) = (keepC b).map (·.target) ∧ (shotsL (clrC b)).map (·.1) = (keepC b).map (fun c => ((shotsL b).getD c.slot.toNat (0, 0)).1) := by
  obtain ⟨h1, h2, h3⟩ := clr_head hh
  have hl := keepW_length b
  have hp := List.length_pos_iff.2 hn
  obtain ⟨c0, hc0⟩ := List.exists_mem_of_ne_nil _ hn
  have h5 := (keepC_shot hc0).2
  have hok := shots_ok.2 h5
  have ht := good_there h5 rfl (by simp)
  have htl := there_lt ht
  simp only at ht htl
  have hle := keepC_le b
  have hsl : (shotsL b).length = (headOf b).many.toNat := by rw [shots_len hh h5]; simp
  have hs : (headOf (clrC b)).shots = (headOf b).shots := by
    rw [h2]
    show (if ((keepW b).length / 2 : Nat) = 0 then 0 else (headOf b).shots) = _
    rw [if_neg (by omega)]
  have hm : (headOf (clrC b)).many = ((keepC b).length : Nat) := by
    rw [h2]
    show (((keepW b).length / 2 : Nat) : Int) = _
    rw [hl]
    congr 1
    omega
  have hmm := (headB_all (hasHead_ok hh)).2.2.2.2
  have hth : thereB (clrC b) (headOf (clrC b)).shots = true := by
    rw [hs, there_many (xs := b) (by show ((clrC b).length + 7) / 8 = _; rw [h3]; omega)]
    exact ht
  have hw : ∀ j, j < 2 * (keepC b).length → (cl (clrC b) (headOf b).shots.toNat).getD j 0 = (keepW b).getD j 0 := by
    intro j hj
    rw [clr_w1 hh (by omega) (by omega), clr1_get hh, if_pos ⟨hok, by omega, by omega⟩]
    · congr 1
      omega
    · intro c hc hg hk hf hsl
      obtain ⟨d, hd, h⟩ := claim_tab hc hk
      have := tab_shots hd.mem hd.good (by rcases h with h | h | h <;> omega) hok
      have := hd.frm
      omega
  have e : shotsL (clrC b) = (List.range (keepC b).length).map (fun i => ((keepW b).getD (2 * i) 0, (keepW b).getD (2 * i + 1) 0)) := by
    rw [shotsL_some (headIn_yes h1) hth, hm, hs, Int.toNat_natCast]
    refine List.map_congr_left (fun i hi => ?_)
    rw [List.mem_range] at hi
    rw [hw _ (by omega), hw _ (by omega)]
  have g : ∀ (i : Nat) (hi : i < (keepC b).length), (keepW b).getD (2 * i) 0 = ((shotsL b).getD ((keepC b)[i]).slot.toNat (0, 0)).1 ∧ (keepW b).getD (2 * i + 1) 0 = ((shotsL b).getD ((keepC b)[i]).slot.toNat (0, 0)).2 := by
    intro i hi
    rw [keepW_flat]
    exact ⟨pairs_get (pairW b) (fun _ => rfl) (keepC b) i 0 hi (by omega), pairs_get (pairW b) (fun _ => rfl) (keepC b) i 1 hi (by omega)⟩
  refine ⟨hs, ?_, ?_⟩
  · rw [e, List.map_map]
    apply List.ext_getElem?
    intro i
    rw [List.getElem?_map, List.getElem?_map]
    by_cases hi : i < (keepC b).length
    · rw [List.getElem?_range hi, List.getElem?_eq_getElem hi]
      simp only [Option.map_some, Function.comp]
      rw [(g i hi).2, (keepC_shot (List.getElem_mem hi)).1]
    · rw [List.getElem?_eq_none (by simpa using hi), List.getElem?_eq_none (by simpa using hi)]
      rfl
  · rw [e, List.map_map]
    apply List.ext_getElem?
    intro i
    rw [List.getElem?_map, List.getElem?_map]
    by_cases hi : i < (keepC b).length
    · rw [List.getElem?_range hi, List.getElem?_eq_getElem hi]
      simp only [Option.map_some, Function.comp]
      rw [(g i hi).1]
    · rw [List.getElem?_eq_none (by simpa using hi), List.getElem?_eq_none (by simpa using hi)]
      rfl
/-- What is cleared is so. -/
theorem clr_is {b : List Int} (hh : hasHead b = true) : Clr b (clrC b) := by
  obtain ⟨h1, h2, h3⟩ := clr_head hh
  have hl := keepW_length b
  refine ⟨?_, ?_, ?_, ?_, ?_, ?_, ?_, ?_⟩
  · show ((clrC b).length + 7) / 8 = _; rw [h3]; omega
  · rw [h2]; rfl
  · rw [h2]
    show (if (claimsC b).any (fun c => !c.good && c.kind == 2) = true then 0 else (headOf b).first) = _
    rw [first_any]
    cases goodB b (headOf b).size [⟨1, 0, 0, 0, 0, true⟩] ⟨2, 0, 0, 0, (headOf b).first, false⟩ <;> rfl
  · rw [h2]
    show (if (claimsC b).any (fun c => !c.good && c.kind == 3) = true then 0 else (headOf b).refs) = _
    rw [refs_any]
    cases goodB b (headOf b).size (c1C b (headOf b)) ⟨3, 0, 0, 0, (headOf b).refs, false⟩ <;> rfl
  · intro c hc hk
    cases hg : c.good
    · rw [clr_w0 hh hc hg hk, if_neg (by simp)]; rfl
    · rw [if_pos rfl]
      obtain ⟨d, hd, h⟩ := claim_tab hc hk
      have ht := there_lt hd.there
      have hf := hd.frm
      have s0 := hd.slot0
      have s1 := hd.slot1
      rw [clr_w1 hh (by omega) (by omega) (fun e he hge hke hfe hse => by
        have := word_one hc he hk hke (by omega) (by omega)
        rw [hg, hge] at this
        cases this), hf, clr1_tab hh hd.mem hd.good (by rcases h with h | h | h <;> omega) (by omega), hd.word]
  · intro d hd hg hk i hi h0
    have ht := there_lt (good_there hd hg (by omega))
    by_cases hex : ∃ c ∈ claimsC b, c.good = false ∧ (c.kind = 4 ∨ c.kind = 7 ∨ c.kind = 8) ∧ c.frm = d.target ∧ c.slot = i
    · obtain ⟨c, hc, hgc, hkc, hfc, hsc⟩ := hex
      have := clr_w0 hh hc hgc hkc
      rw [hfc, hsc, Int.toNat_natCast] at this
      rw [this]
      rfl
    · rw [clr_w1 hh (by omega) hi (fun c hc hgc hkc hfc hsc => hex ⟨c, hc, hgc, hkc, by omega, hsc⟩), clr1_tab hh hd hg hk hi, h0]
  · rw [h2]
    show (((keepW b).length / 2 : Nat) : Int) = _
    rw [hl]
    congr 1
    omega
  · intro hn
    have := clr_shots hh hn
    exact ⟨this.1, this.2.1⟩
/-- What is cleared has no loose claim but those of First and Refs where these are 0, and has as many that are good as ever. -/
theorem cleared_loose {b : List Int} (hh : hasHead b = true) {c : Cm} (hc : c ∈ looseL (clrC b)) : (c.kind = 2 ∨ c.kind = 3) ∧ c.target = 0 := by
  unfold looseL claimsL at hc
  rw [(clr_head hh).1, if_pos rfl, List.mem_filter] at hc
  have hg : c.good = false := by simpa using hc.2
  rcases neat_all (clr_neat (clr_is hh)) c hc.1 with h | h
  · rw [hg] at h; cases h
  · exact h
theorem cleared_count {b : List Int} (hh : hasHead b = true) : (gd (claimsL (clrC b))).length = (gd (claimsL b)).length ∨ ((shotsL (clrC b)).length = 0 ∧ (gd (claimsL (clrC b))).length + 1 = (gd (claimsL b)).length) := by
  have e1 : claimsL (clrC b) = claimsC (clrC b) := by unfold claimsL; rw [(clr_head hh).1]; rfl
  have e2 : claimsL b = claimsC b := by unfold claimsL; rw [hh]; rfl
  rw [e1, e2]
  rcases clr_count (clr_is hh) with h | ⟨h1, h2⟩
  · exact .inl h
  · refine .inr ⟨?_, h2⟩
    have hm : (headOf (clrC b)).many = 0 := by rw [(clr_is hh).kept, h1]; rfl
    unfold shotsL
    rw [headIn_yes (clr_head hh).1]
    simp only
    rw [hm]
    split <;> rfl

end Go.Proofs.YtiokfhdkbpoadabGreatDoor
