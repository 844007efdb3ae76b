/- Neat images: those of which no claim is loose but that of First or Refs where it is 0. Their claims are what their words say: plain mathematics. Clearing: an image in which just the loose claims' words are 0 is neat, and has the good claims of the other: plain mathematics. Where each claim comes from, and that a word's claims are all good or all loose: plain mathematics. -/
import Derived.Test.YtiokfhdkbpoadaaGreatDoorH0
namespace Go.Proofs.YtiokfhdkbpoadaaGreatDoor
open Go.RowKit

/-- What each step of the claims of one image keeps. -/
theorem claims_all {P : List Cm → Prop} (xs : List Int) (hadd : ∀ (l : List Cm) (c : Cm), P l → P (addC xs (headOf xs).size l c)) (h0 : P [⟨1, 0, 0, 0, 0, true⟩]) : P (claimsC xs) := by
  have ht : ∀ (l : List Cm) (kind : Int) (frm : Nat) (place step : Int), P l → P (tabC xs (headOf xs).size l kind frm place step) := by
    intro l kind frm place step h
    unfold tabC
    refine foldl_pres P _ (fun b a hb => ?_) _ _ h
    unfold tabStep
    split
    · exact hadd _ _ hb
    · exact hb
  have h2 : P (c2C xs (headOf xs)) := hadd _ _ (hadd _ _ h0)
  have h3 : P (c3C xs (headOf xs)) := by
    unfold c3C; split
    · exact ht _ _ _ _ _ h2
    · exact h2
  have h4 : P (c4C xs (headOf xs)) := by
    unfold c4C shotsC; split
    · exact h3
    · split
      · exact foldl_pres P _ (fun b a hb => hadd _ _ hb) _ _ (hadd _ _ h3)
      · exact hadd _ _ h3
  have h5 : P (c5C xs (headOf xs)) := foldl_pres P _ (fun b a hb => ht _ _ _ _ _ hb) _ _ h4
  unfold claimsC c6C
  refine foldl_pres P _ (fun b a hb => ?_) _ _ h5
  unfold datStep
  split
  · exact ht _ _ _ _ _ hb
  · exact hb

/-- x does not stand in the way of c, or c is not good. -/
def freeC (x c : Cm) : Prop := barsB x c = false ∨ c.good = false
theorem bars_congr {x c c' : Cm} (h1 : c.target = c'.target) (h2 : c.kind = c'.kind) (h3 : c.frm = c'.frm) (h4 : c.slot = c'.slot) : barsB x c = barsB x c' := by unfold barsB; rw [h1, h2, h3, h4]
theorem bars_judged (x c : Cm) (b : Bool) : barsB x { c with good := b } = barsB x c := rfl
theorem good_free {xs : List Int} {size : Int} {l : List Cm} {c x : Cm} (h : goodB xs size l c = true) (hx : x ∈ l) : barsB x c = false := by
  cases hb : barsB x c
  · rfl
  · have ha : (l.any fun x => barsB x c) = true := List.any_eq_true.2 ⟨x, hx, hb⟩
    rw [goodB, ha] at h
    simp at h
theorem good_place {xs : List Int} {size : Int} {l : List Cm} {c : Cm} (h : goodB xs size l c = true) : c.place < size := by
  unfold goodB at h
  rw [Bool.and_eq_true, Bool.and_eq_true, decide_eq_true_eq] at h
  exact h.1.2
theorem good_iff {xs : List Int} {size : Int} {l : List Cm} {c : Cm} : goodB xs size l c = true ↔ thereB xs c.target = true ∧ c.place < size ∧ ∀ x ∈ l, barsB x c = false := by
  refine ⟨fun h => ⟨goodB_there h, good_place h, fun x hx => good_free h hx⟩, fun ⟨h1, h2, h3⟩ => ?_⟩
  unfold goodB
  rw [h1, decide_eq_true h2, Bool.and_self, Bool.true_and, Bool.not_eq_true', Bool.eq_false_iff]
  intro ha
  rw [List.any_eq_true] at ha
  obtain ⟨x, hx, hb⟩ := ha
  rw [h3 x hx] at hb
  cases hb
theorem addC_free {xs : List Int} {size : Int} {l : List Cm} {c : Cm} (hl : l.Pairwise freeC) : (addC xs size l c).Pairwise freeC := by
  unfold addC
  rw [List.pairwise_append]
  refine ⟨hl, by simp, fun x hx y hy => ?_⟩
  rw [List.mem_singleton] at hy
  subst hy
  unfold freeC
  cases hg : goodB xs size l c
  · exact .inr rfl
  · exact .inl (good_free hg hx)
theorem claims_free (xs : List Int) : (claimsC xs).Pairwise freeC := Steady.all ⟨fun _ _ _ _ h => addC_free h⟩ (by simp) xs
theorem claims_place (xs : List Int) : ∀ c ∈ claimsC xs, c.good = true → c.kind ≠ 1 → c.place < (headOf xs).size := by
  refine claims_all (P := fun l => ∀ c ∈ l, c.good = true → c.kind ≠ 1 → c.place < (headOf xs).size) xs (fun l c hl => ?_) ?_
  · refine addC_all _ hl (fun hg _ => good_place hg)
  · intro c hc _ hk
    rw [List.mem_singleton] at hc
    subst hc
    exact absurd rfl hk

/-- The claims of a table's words, held to be good. -/
def tabF (xs : List Int) (kind : Int) (frm : Nat) (place step : Int) (i : Nat) : Option Cm := if targetOf ((cl xs frm).getD i 0) ≠ 0 then some ⟨kind, frm, i, place + step * i, targetOf ((cl xs frm).getD i 0), true⟩ else none
def tabT (xs : List Int) (kind : Int) (frm : Nat) (place step : Int) : List Cm := (List.range 8).filterMap (tabF xs kind frm place step)
theorem addC_judged (xs : List Int) (size : Int) (l : List Cm) (c : Cm) (b : Bool) : addC xs size l { c with good := b } = addC xs size l c := rfl
theorem tabC_fold (xs : List Int) (size : Int) (l : List Cm) (kind : Int) (frm : Nat) (place step : Int) : tabC xs size l kind frm place step = (tabT xs kind frm place step).foldl (addC xs size) l := by
  unfold tabC tabT
  generalize List.range 8 = ys
  induction ys generalizing l with
  | nil => rfl
  | cons i ys ih =>
    rw [List.foldl_cons, ih]
    unfold tabStep
    by_cases h : targetOf ((cl xs frm).getD i 0) ≠ 0
    · rw [if_pos h, List.filterMap_cons_some (b := ⟨kind, frm, i, place + step * i, targetOf ((cl xs frm).getD i 0), true⟩) (by unfold tabF; rw [if_pos h])]
      rfl
    · rw [if_neg h, List.filterMap_cons_none (by unfold tabF; rw [if_neg h])]
theorem tabT_mem {xs : List Int} {kind : Int} {frm : Nat} {place step : Int} {c : Cm} : c ∈ tabT xs kind frm place step ↔ ∃ i, i < 8 ∧ targetOf ((cl xs frm).getD i 0) ≠ 0 ∧ c = ⟨kind, frm, i, place + step * i, targetOf ((cl xs frm).getD i 0), true⟩ := by
  unfold tabT
  rw [List.mem_filterMap]
  refine ⟨fun ⟨i, hi, h⟩ => ?_, fun ⟨i, hi, ht, h⟩ => ⟨i, List.mem_range.2 hi, ?_⟩⟩
  · unfold tabF at h
    split at h
    · rename_i ht
      injection h with h
      exact ⟨i, List.mem_range.1 hi, ht, h.symm⟩
    · cases h
  · unfold tabF
    rw [if_pos ht, h]

/-- Where nothing bars anything, all is as it is held to be. -/
theorem fold_flag {xs : List Int} {size : Int} : ∀ (cs l : List Cm), (∀ c ∈ cs, (c.good = true ∧ thereB xs c.target = true ∧ c.place < size) ∨ (c.good = false ∧ thereB xs c.target = false)) → (l ++ cs).Pairwise freeC → cs.foldl (addC xs size) l = l ++ cs
  | [], l, _, _ => by simp
  | c :: cs, l, h, hp => by
    have e : addC xs size l c = l ++ [c] := by
      have hg : goodB xs size l c = c.good := by
        rcases h c (by simp) with ⟨h1, h2, h3⟩ | ⟨h1, h2⟩
        · rw [h1]
          refine good_iff.2 ⟨h2, h3, fun x hx => ?_⟩
          have := (List.pairwise_append.1 hp).2.2 x hx c (by simp)
          rcases this with h4 | h4
          · exact h4
          · rw [h1] at h4; cases h4
        · rw [h1]; unfold goodB; rw [h2]; rfl
      unfold addC
      rw [hg]
    rw [List.foldl_cons, e, fold_flag cs (l ++ [c]) (fun x hx => h x (by simp [hx])) (by simpa using hp)]
    simp

/-- What is claimed, told by the words alone. -/
def r1C (h : Hd) : List Cm := [⟨1, 0, 0, 0, 0, true⟩, ⟨2, 0, 0, 0, h.first, decide (h.first ≠ 0)⟩, ⟨3, 0, 0, 0, h.refs, decide (h.refs ≠ 0)⟩]
def rBlk (xs : List Int) (h : Hd) : List Cm := if h.refs ≠ 0 then tabT xs 4 h.refs.toNat 0 0 else []
def shotT (h : Hd) (sh : List (Int × Int)) : List Cm := (List.range sh.length).map (fun (i : Nat) => ⟨6, h.shots, i, 0, (sh.getD i (0, 0)).2, true⟩)
def rSh (xs : List Int) (h : Hd) : List Cm := if h.many = 0 then [] else ⟨5, 0, 0, 0, h.shots, true⟩ :: shotT h (shotsL xs)
def r4C (xs : List Int) (h : Hd) : List Cm := (r1C h ++ rBlk xs h) ++ rSh xs h
def rFst (xs : List Int) (h : Hd) : List Int := (if h.first ≠ 0 then [h.first] else []) ++ (if h.many = 0 then [] else (shotsL xs).map (·.2))
def rSec (xs : List Int) (h : Hd) : List Cm := (rFst xs h).flatMap (fun f => tabT xs 7 f.toNat 0 8)
def rDat (xs : List Int) (h : Hd) : List Cm := (rSec xs h).flatMap (fun c => tabT xs 8 c.target.toNat c.place 1)
def rawC (xs : List Int) (h : Hd) : List Cm := (r4C xs h ++ rSec xs h) ++ rDat xs h

theorem shotT_map (h : Hd) (sh : List (Int × Int)) : (shotT h sh).map (·.target) = sh.map (·.2) := by
  unfold shotT
  rw [List.map_map]
  apply List.ext_getElem?
  intro j
  rw [List.getElem?_map, List.getElem?_map]
  by_cases hj : j < sh.length
  · rw [List.getElem?_range hj, List.getElem?_eq_getElem hj]
    simp [List.getD_eq_getElem?_getD, hj]
  · rw [List.getElem?_eq_none (by simpa using hj), List.getElem?_eq_none (by simpa using hj)]
    rfl
theorem shotT_kind {h : Hd} {sh : List (Int × Int)} {c : Cm} (hc : c ∈ shotT h sh) : c.kind = 6 ∧ c.good = true ∧ c.place = 0 ∧ c.frm = h.shots := by
  unfold shotT at hc
  rw [List.mem_map] at hc
  obtain ⟨i, _, rfl⟩ := hc
  exact ⟨rfl, rfl, rfl, rfl⟩
theorem tabT_kind {xs : List Int} {kind : Int} {frm : Nat} {place step : Int} {c : Cm} (h : c ∈ tabT xs kind frm place step) : c.kind = kind ∧ c.good = true ∧ c.frm = frm ∧ c.target ≠ 0 := by
  obtain ⟨i, _, ht, rfl⟩ := tabT_mem.1 h
  exact ⟨rfl, rfl, rfl, ht⟩
theorem rBlk_kind {xs : List Int} {h : Hd} {c : Cm} (hc : c ∈ rBlk xs h) : c.kind = 4 ∧ c.good = true ∧ c.frm = h.refs.toNat := by
  unfold rBlk at hc
  split at hc
  · have := tabT_kind hc; exact ⟨this.1, this.2.1, this.2.2.1⟩
  · cases hc
theorem rSec_kind {xs : List Int} {h : Hd} {c : Cm} (hc : c ∈ rSec xs h) : c.kind = 7 ∧ c.good = true := by
  unfold rSec at hc
  rw [List.mem_flatMap] at hc
  obtain ⟨f, _, hc⟩ := hc
  have := tabT_kind hc
  exact ⟨this.1, this.2.1⟩
theorem rDat_kind {xs : List Int} {h : Hd} {c : Cm} (hc : c ∈ rDat xs h) : c.kind = 8 ∧ c.good = true := by
  unfold rDat at hc
  rw [List.mem_flatMap] at hc
  obtain ⟨f, _, hc⟩ := hc
  have := tabT_kind hc
  exact ⟨this.1, this.2.1⟩
theorem rSh_kind {xs : List Int} {h : Hd} {c : Cm} (hc : c ∈ rSh xs h) : (c.kind = 5 ∨ c.kind = 6) ∧ c.good = true ∧ c.place = 0 := by
  unfold rSh at hc
  split at hc
  · cases hc
  · rw [List.mem_cons] at hc
    rcases hc with rfl | hc
    · exact ⟨.inl rfl, rfl, rfl⟩
    · have := shotT_kind hc; exact ⟨.inr this.1, this.2.1, this.2.2.1⟩
theorem r4_firsts (xs : List Int) (h : Hd) : firstsC (r4C xs h) = rFst xs h := by
  unfold firstsC r4C rFst
  rw [List.filter_append, List.filter_append]
  have e1 : (rBlk xs h).filter (fun c => c.good && (c.kind == 2 || c.kind == 6)) = [] := by
    rw [List.filter_eq_nil_iff]
    intro c hc
    rw [(rBlk_kind hc).1]
    simp
  have e2 : ((rSh xs h).filter (fun c => c.good && (c.kind == 2 || c.kind == 6))).map (·.target) = if h.many = 0 then [] else (shotsL xs).map (·.2) := by
    unfold rSh
    split
    · rfl
    · rw [List.filter_cons_of_neg (by simp), List.filter_eq_self.2 (fun c hc => by have := shotT_kind hc; simp [this.1, this.2.1]), shotT_map]
  rw [e1, List.append_nil, List.map_append, e2]
  congr 1
  unfold r1C
  by_cases hf : h.first = 0
  · simp [hf]
  · simp [hf]

/-- An image is neat. -/
structure Neat (xs : List Int) (h : Hd) : Prop where
  ok : ∀ c ∈ rawC xs h, c.good = true → c.kind ≠ 1 → thereB xs c.target = true ∧ c.place < h.size
  free : (rawC xs h).Pairwise freeC

theorem there_zero (xs : List Int) : thereB xs 0 = false := by rw [thereB, inB_false]; omega

theorem fold_flatMap {α : Type} (f : List Cm → Cm → List Cm) (g : α → List Cm) : ∀ (ys : List α) (l : List Cm), ys.foldl (fun l a => (g a).foldl f l) l = (ys.flatMap g).foldl f l
  | [], _ => rfl
  | a :: ys, l => by rw [List.foldl_cons, fold_flatMap f g ys, List.flatMap_cons, List.foldl_append]
theorem fold_map {α : Type} (f : List Cm → Cm → List Cm) (g : α → Cm) : ∀ (ys : List α) (l : List Cm), ys.foldl (fun l a => f l (g a)) l = (ys.map g).foldl f l
  | [], _ => rfl
  | a :: ys, l => by rw [List.foldl_cons, fold_map f g ys, List.map_cons, List.foldl_cons]
theorem sec_fold (xs : List Int) (h : Hd) (fs : List Int) (l : List Cm) : fs.foldl (secStep xs h) l = (fs.flatMap (fun f => tabT xs 7 f.toNat 0 8)).foldl (addC xs h.size) l := by
  rw [← fold_flatMap]
  congr 1
  funext l f
  exact tabC_fold _ _ _ _ _ _ _
theorem dat_fold (xs : List Int) (h : Hd) : ∀ (cs l : List Cm), cs.foldl (datStep xs h) l = ((cs.filter (fun c => c.kind == 7 && c.good)).flatMap (fun c => tabT xs 8 c.target.toNat c.place 1)).foldl (addC xs h.size) l
  | [], _ => rfl
  | c :: cs, l => by
    rw [List.foldl_cons, dat_fold xs h cs]
    unfold datStep
    by_cases hc : c.kind = 7 ∧ c.good = true
    · rw [if_pos hc, List.filter_cons_of_pos (by simp [hc.1, hc.2]), List.flatMap_cons, List.foldl_append, tabC_fold]
    · rw [if_neg hc, List.filter_cons_of_neg (by simpa using hc)]
theorem shot_fold (xs : List Int) (h : Hd) (l : List Cm) : (List.range (shotsL xs).length).foldl (shotStep xs h) l = (shotT h (shotsL xs)).foldl (addC xs h.size) l := by
  unfold shotT
  rw [← fold_map]
  rfl
theorem r5_seconds (xs : List Int) (h : Hd) : (r4C xs h ++ rSec xs h).filter (fun c => c.kind == 7 && c.good) = rSec xs h := by
  rw [List.filter_append]
  have e1 : (r4C xs h).filter (fun c => c.kind == 7 && c.good) = [] := by
    rw [List.filter_eq_nil_iff]
    intro c hc
    unfold r4C at hc
    rw [List.mem_append, List.mem_append] at hc
    rcases hc with (hc | hc) | hc
    · unfold r1C at hc
      simp at hc
      rcases hc with rfl | rfl | rfl <;> simp
    · rw [(rBlk_kind hc).1]; simp
    · rcases (rSh_kind hc).1 with e | e <;> rw [e] <;> simp
  rw [e1, List.nil_append, List.filter_eq_self]
  intro c hc
  have := rSec_kind hc
  simp [this.1, this.2]

/-- The claims of a neat image. -/
theorem neat_claims {xs : List Int} {h : Hd} (N : Neat xs h) : c6C xs h = rawC xs h := by
  have hr : ∀ {a b : List Cm}, rawC xs h = a ++ b → a.Pairwise freeC := fun e => by have := N.free; rw [e] at this; exact (List.pairwise_append.1 this).1
  have hok : ∀ c ∈ rawC xs h, c.kind ≠ 1 → (c.good = true ∧ thereB xs c.target = true ∧ c.place < h.size) ∨ (c.good = false ∧ thereB xs c.target = false) := by
    intro c hc hk
    cases hg : c.good
    · refine .inr ⟨rfl, ?_⟩
      have h0 : c.target = 0 := by
        unfold rawC r4C at hc
        rw [List.mem_append, List.mem_append, List.mem_append, List.mem_append] at hc
        rcases hc with (((hc | hc) | hc) | hc) | hc
        · unfold r1C at hc
          simp at hc
          rcases hc with rfl | rfl | rfl
          · cases hg
          · simpa using hg
          · simpa using hg
        · rw [(rBlk_kind hc).2.1] at hg; cases hg
        · rw [(rSh_kind hc).2.1] at hg; cases hg
        · rw [(rSec_kind hc).2] at hg; cases hg
        · rw [(rDat_kind hc).2] at hg; cases hg
      rw [h0]
      exact there_zero xs
    · exact .inl ⟨rfl, N.ok c hc hg hk⟩
  have m1 : ∀ c ∈ r1C h, c ∈ rawC xs h := fun c hc => by unfold rawC r4C; simp [hc]
  have e1 : c1C xs h = [⟨1, 0, 0, 0, 0, true⟩, ⟨2, 0, 0, 0, h.first, decide (h.first ≠ 0)⟩] := by
    have := fold_flag (xs := xs) (size := h.size) [⟨2, 0, 0, 0, h.first, decide (h.first ≠ 0)⟩] [⟨1, 0, 0, 0, 0, true⟩] (fun c hc => by
      rw [List.mem_singleton] at hc; subst hc
      exact hok _ (m1 _ (by simp [r1C])) (by simp)) (hr (b := ⟨3, 0, 0, 0, h.refs, decide (h.refs ≠ 0)⟩ :: (rBlk xs h ++ rSh xs h ++ rSec xs h ++ rDat xs h)) (by simp [rawC, r4C, r1C]))
    exact this
  have e2 : c2C xs h = r1C h := by
    have := fold_flag (xs := xs) (size := h.size) [⟨3, 0, 0, 0, h.refs, decide (h.refs ≠ 0)⟩] [⟨1, 0, 0, 0, 0, true⟩, ⟨2, 0, 0, 0, h.first, decide (h.first ≠ 0)⟩] (fun c hc => by
      rw [List.mem_singleton] at hc; subst hc
      exact hok _ (m1 _ (by simp [r1C])) (by simp)) (hr (b := rBlk xs h ++ rSh xs h ++ rSec xs h ++ rDat xs h) (by simp [rawC, r4C, r1C]))
    unfold c2C
    rw [e1]
    exact this
  have hgr : goodB xs h.size (c1C xs h) ⟨3, 0, 0, 0, h.refs, false⟩ = decide (h.refs ≠ 0) := by
    have := e2
    unfold c2C addC at this
    rw [e1] at this ⊢
    unfold r1C at this
    simpa using this
  have e3 : c3C xs h = r1C h ++ rBlk xs h := by
    unfold c3C
    rw [hgr, e2]
    unfold rBlk
    by_cases h0 : h.refs = 0
    · simp [h0]
    · have hm : ∀ c ∈ tabT xs 4 h.refs.toNat 0 0, c ∈ rBlk xs h := fun c hc => by unfold rBlk; rw [if_pos h0]; exact hc
      rw [if_pos (by simpa using h0), if_pos h0, tabC_fold]
      refine fold_flag _ _ (fun c hc => hok c ?_ ?_) (hr (b := rSh xs h ++ rSec xs h ++ rDat xs h) ?_)
      · unfold rawC r4C; simp [hm c hc]
      · have := rBlk_kind (hm c hc); omega
      · unfold rawC r4C rBlk; rw [if_pos h0]; simp
  have e4 : c4C xs h = r4C xs h := by
    unfold c4C shotsC r4C
    rw [e3]
    by_cases hm : h.many = 0
    · rw [if_pos hm]; unfold rSh; rw [if_pos hm]; simp
    · rw [if_neg hm]
      have hs : rSh xs h = ⟨5, 0, 0, 0, h.shots, true⟩ :: shotT h (shotsL xs) := by unfold rSh; rw [if_neg hm]
      have hin : ∀ c ∈ rSh xs h, c ∈ rawC xs h := fun c hc => by unfold rawC r4C; simp [hc]
      have e5 : addC xs h.size (r1C h ++ rBlk xs h) ⟨5, 0, 0, 0, h.shots, false⟩ = (r1C h ++ rBlk xs h) ++ [⟨5, 0, 0, 0, h.shots, true⟩] := by
        have := fold_flag (xs := xs) (size := h.size) [⟨5, 0, 0, 0, h.shots, true⟩] (r1C h ++ rBlk xs h) (fun c hc => by
          rw [List.mem_singleton] at hc; subst hc
          exact hok _ (hin _ (by rw [hs]; simp)) (by simp)) (hr (b := shotT h (shotsL xs) ++ rSec xs h ++ rDat xs h) (by unfold rawC r4C; rw [hs]; simp))
        exact this
      have hg5 : goodB xs h.size (r1C h ++ rBlk xs h) ⟨5, 0, 0, 0, h.shots, false⟩ = true := by
        have := e5
        unfold addC at this
        have := List.append_cancel_left this
        simpa using this
      rw [hg5, if_pos rfl, e5, shot_fold, hs]
      have := fold_flag (xs := xs) (size := h.size) (shotT h (shotsL xs)) ((r1C h ++ rBlk xs h) ++ [⟨5, 0, 0, 0, h.shots, true⟩]) (fun c hc => by
        refine hok _ (hin _ (by rw [hs]; simp [hc])) ?_
        have := shotT_kind hc; omega) (hr (b := rSec xs h ++ rDat xs h) (by unfold rawC r4C; rw [hs]; simp))
      rw [this]
      simp
  have e5 : c5C xs h = r4C xs h ++ rSec xs h := by
    unfold c5C
    rw [e4, sec_fold, r4_firsts]
    refine fold_flag _ _ (fun c hc => hok c ?_ ?_) (hr (b := rDat xs h) rfl)
    · have : c ∈ rSec xs h := hc
      unfold rawC; simp [this]
    · have := rSec_kind (xs := xs) (h := h) hc; omega
  unfold c6C
  rw [dat_fold, e5, r5_seconds]
  refine fold_flag _ _ (fun c hc => hok c ?_ ?_) N.free
  · have : c ∈ rDat xs h := hc
    unfold rawC; simp [this]
  · have := rDat_kind (xs := xs) (h := h) hc; omega
theorem addC_pre (xs : List Int) (size : Int) (cs l : List Cm) : l <+: cs.foldl (addC xs size) l := foldl_prefix _ (fun _ _ => List.prefix_append _ _) _ _
theorem c23_prefix (xs : List Int) (h : Hd) : c2C xs h <+: c3C xs h := by
  unfold c3C; split
  · rw [tabC_fold]; exact addC_pre _ _ _ _
  · exact List.prefix_refl _
theorem c34_prefix (xs : List Int) (h : Hd) : c3C xs h <+: c4C xs h := by
  unfold c4C shotsC
  split
  · exact List.prefix_refl _
  · split
    · rw [shot_fold]; exact (List.prefix_append _ _).trans (addC_pre _ _ _ _)
    · exact List.prefix_append _ _

/-- Where all come out good, all are as they are held to be. -/
theorem fold_all {xs : List Int} {size : Int} (Z : Cm → Prop) : ∀ (cs l : List Cm), (∀ c ∈ cs.foldl (addC xs size) l, c.good = true ∨ Z c) → (∀ c ∈ cs, c.good = true ∧ ∀ b, ¬ Z { c with good := b }) → cs.foldl (addC xs size) l = l ++ cs
  | [], l, _, _ => by simp
  | c :: cs, l, h, hz => by
    have e : addC xs size l c = l ++ [c] := by
      have hm : { c with good := goodB xs size l c } ∈ (c :: cs).foldl (addC xs size) l := by
        rw [List.foldl_cons]
        refine (addC_pre xs size cs _).subset ?_
        unfold addC
        simp
      have hc := hz c (by simp)
      rcases h _ hm with h1 | h1
      · simp only at h1
        unfold addC
        rw [h1]
        have := hc.1
        cases c
        simp only at this
        subst this
        rfl
      · exact absurd h1 (hc.2 _)
    rw [List.foldl_cons] at h ⊢
    rw [e] at h ⊢
    rw [fold_all Z cs (l ++ [c]) h (fun x hx => hz x (by simp [hx]))]
    simp

/-- A claim of First or Refs that leads nowhere. -/
def nowhere (c : Cm) : Prop := (c.kind = 2 ∨ c.kind = 3) ∧ c.target = 0
/-- No claim is loose but that of First or Refs where it is 0: so the claims are what the words say. -/
theorem claims_raw {xs : List Int} {h : Hd} (hA : ∀ c ∈ c6C xs h, c.good = true ∨ nowhere c) : c6C xs h = rawC xs h := by
  have m5 : ∀ c ∈ c5C xs h, c.good = true ∨ nowhere c := fun c hc => hA c ((c6_prefix xs h).subset hc)
  have m4 : ∀ c ∈ c4C xs h, c.good = true ∨ nowhere c := fun c hc => m5 c ((c5_prefix xs h).subset hc)
  have m3 : ∀ c ∈ c3C xs h, c.good = true ∨ nowhere c := fun c hc => m4 c ((c34_prefix xs h).subset hc)
  have m2 : ∀ c ∈ c2C xs h, c.good = true ∨ nowhere c := fun c hc => m3 c ((c23_prefix xs h).subset hc)
  have flag : ∀ (l : List Cm) (k t : Int), (goodB xs h.size l ⟨k, 0, 0, 0, t, false⟩ = true ∨ t = 0) → goodB xs h.size l ⟨k, 0, 0, 0, t, false⟩ = decide (t ≠ 0) := by
    intro l k t hg
    by_cases h0 : t = 0
    · subst h0
      unfold goodB
      rw [there_zero]
      rfl
    · rcases hg with hg | hg
      · rw [hg]; simp [h0]
      · exact absurd hg h0
  have g1 : goodB xs h.size [⟨1, 0, 0, 0, 0, true⟩] ⟨2, 0, 0, 0, h.first, false⟩ = decide (h.first ≠ 0) := by
    refine flag _ _ _ ?_
    have hm : (⟨2, 0, 0, 0, h.first, goodB xs h.size [⟨1, 0, 0, 0, 0, true⟩] ⟨2, 0, 0, 0, h.first, false⟩⟩ : Cm) ∈ c2C xs h := by unfold c2C c1C addC; simp
    rcases m2 _ hm with h1 | h1
    · exact .inl h1
    · exact .inr h1.2
  have e1 : c1C xs h = [⟨1, 0, 0, 0, 0, true⟩, ⟨2, 0, 0, 0, h.first, decide (h.first ≠ 0)⟩] := by unfold c1C addC; rw [g1]; rfl
  have g2 : goodB xs h.size (c1C xs h) ⟨3, 0, 0, 0, h.refs, false⟩ = decide (h.refs ≠ 0) := by
    refine flag _ _ _ ?_
    have hm : (⟨3, 0, 0, 0, h.refs, goodB xs h.size (c1C xs h) ⟨3, 0, 0, 0, h.refs, false⟩⟩ : Cm) ∈ c2C xs h := by unfold c2C addC; simp
    rcases m2 _ hm with h1 | h1
    · exact .inl h1
    · exact .inr h1.2
  have e2 : c2C xs h = r1C h := by unfold c2C addC; rw [g2, e1]; rfl
  have nz : ∀ (c : Cm), c.kind ≠ 2 ∧ c.kind ≠ 3 → ∀ b, ¬ nowhere { c with good := b } := fun c hc b hn => by rcases hn.1 with h1 | h1 <;> simp only at h1 <;> omega
  have e3 : c3C xs h = r1C h ++ rBlk xs h := by
    unfold c3C at m3 ⊢
    rw [g2, e2] at m3 ⊢
    unfold rBlk
    by_cases h0 : h.refs = 0
    · simp [h0]
    · rw [if_pos (by simpa using h0), tabC_fold] at m3
      rw [if_pos (by simpa using h0), if_pos h0, tabC_fold]
      refine fold_all nowhere _ _ m3 (fun c hc => ?_)
      have := tabT_kind hc
      exact ⟨this.2.1, nz c (by omega)⟩
  have e4 : c4C xs h = r4C xs h := by
    unfold c4C shotsC at m4 ⊢
    unfold r4C
    rw [e3] at m4 ⊢
    by_cases hm : h.many = 0
    · rw [if_pos hm]; unfold rSh; rw [if_pos hm]; simp
    · rw [if_neg hm] at m4 ⊢
      have hg5 : goodB xs h.size (r1C h ++ rBlk xs h) ⟨5, 0, 0, 0, h.shots, false⟩ = true := by
        cases hg : goodB xs h.size (r1C h ++ rBlk xs h) ⟨5, 0, 0, 0, h.shots, false⟩
        · rw [hg, if_neg (by simp)] at m4
          have := m4 ⟨5, 0, 0, 0, h.shots, goodB xs h.size (r1C h ++ rBlk xs h) ⟨5, 0, 0, 0, h.shots, false⟩⟩ (by unfold addC; simp)
          rw [hg] at this
          rcases this with h1 | h1
          · cases h1
          · rcases h1.1 with h2 | h2 <;> simp only at h2 <;> omega
        · rfl
      rw [hg5, if_pos rfl, shot_fold] at m4
      rw [if_pos hg5, shot_fold]
      rw [fold_all nowhere _ _ m4 (fun c hc => by have := shotT_kind hc; exact ⟨this.2.1, nz c (by omega)⟩)]
      unfold rSh addC
      rw [if_neg hm, hg5]
      simp
  have e5 : c5C xs h = r4C xs h ++ rSec xs h := by
    unfold c5C at m5 ⊢
    rw [e4, sec_fold, r4_firsts] at m5 ⊢
    refine fold_all nowhere _ _ m5 (fun c hc => ?_)
    have := rSec_kind (xs := xs) (h := h) hc
    exact ⟨this.2, nz c (by omega)⟩
  unfold c6C at hA ⊢
  rw [dat_fold, e5, r5_seconds] at hA ⊢
  refine fold_all nowhere _ _ hA (fun c hc => ?_)
  have := rDat_kind (xs := xs) (h := h) hc
  exact ⟨this.2, nz c (by omega)⟩
theorem neat_of {xs : List Int} (hA : ∀ c ∈ claimsC xs, c.good = true ∨ nowhere c) : Neat xs (headOf xs) := by
  have e : claimsC xs = rawC xs (headOf xs) := claims_raw hA
  refine ⟨fun c hc hg hk => ?_, e ▸ claims_free xs⟩
  rw [← e] at hc
  refine ⟨?_, claims_place xs c hc hg hk⟩
  rcases (claims_ok xs c hc).lead hg with h1 | h1
  · exact absurd h1.1 hk
  · exact h1
theorem neat_all {xs : List Int} {h : Hd} (N : Neat xs h) : ∀ c ∈ c6C xs h, c.good = true ∨ nowhere c := by
  rw [neat_claims N]
  intro c hc
  unfold rawC r4C at hc
  rw [List.mem_append, List.mem_append, List.mem_append, List.mem_append] at hc
  rcases hc with (((hc | hc) | hc) | hc) | hc
  · unfold r1C at hc
    simp at hc
    rcases hc with rfl | rfl | rfl
    · exact .inl rfl
    · by_cases h0 : h.first = 0
      · exact .inr ⟨.inl rfl, h0⟩
      · exact .inl (by simp [h0])
    · by_cases h0 : h.refs = 0
      · exact .inr ⟨.inr rfl, h0⟩
      · exact .inl (by simp [h0])
  · exact .inl (rBlk_kind hc).2.1
  · exact .inl (rSh_kind hc).2.1
  · exact .inl (rSec_kind hc).2
  · exact .inl (rDat_kind hc).2

/-- Who is not good bars nobody: only the good ones count. -/
theorem bars_loose {x c : Cm} (h : x.good = false) : barsB x c = false := by unfold barsB; rw [if_neg (by rw [h]; simp)]
def gd (l : List Cm) : List Cm := l.filter (fun c => c.good)
theorem gd_append (l l' : List Cm) : gd (l ++ l') = gd l ++ gd l' := List.filter_append _ _
theorem gd_free {l : List Cm} (h : (gd l).Pairwise (fun x c => barsB x c = false)) : l.Pairwise freeC := by
  unfold gd at h
  rw [List.pairwise_filter] at h
  refine h.imp (fun {x c} hxc => ?_)
  cases hx : x.good
  · exact .inl (bars_loose hx)
  · cases hc : c.good
    · exact .inr hc
    · exact .inl (hxc hx hc)
theorem free_gd {l : List Cm} (h : l.Pairwise freeC) : (gd l).Pairwise (fun x c => barsB x c = false) := by
  unfold gd
  rw [List.pairwise_filter]
  refine h.imp (fun {x c} hxc hx hc => ?_)
  rcases hxc with h1 | h1
  · exact h1
  · rw [h1] at hc; cases hc
theorem gd_all {l : List Cm} (h : ∀ c ∈ l, c.good = true) : gd l = l := List.filter_eq_self.2 h

/-- What a table's words claim there, and what is good of it here. -/
theorem gd_steps {b x : List Int} {size kind : Int} {frm : Nat} {place step : Int} (hnul : ∀ i, i < 8 → targetOf ((cl b frm).getD i 0) = 0 → targetOf ((cl x frm).getD i 0) = 0) :
    ∀ (ys : List Nat) (l : List Cm), (∀ i ∈ ys, i < 8) → (∀ c ∈ ys.foldl (tabStep b size kind frm place step) l, c.kind = kind → c.frm = (frm : Int) → targetOf ((cl x frm).getD c.slot.toNat 0) = if c.good = true then c.target else 0) →
      gd (ys.foldl (tabStep b size kind frm place step) l) = gd l ++ ys.filterMap (tabF x kind frm place step)
  | [], l, _, _ => by simp
  | i :: ys, l, hi, hs => by
    rw [List.foldl_cons] at hs ⊢
    rw [gd_steps hnul ys _ (fun j hj => hi j (by simp [hj])) hs]
    by_cases ht : targetOf ((cl b frm).getD i 0) ≠ 0
    · have e : tabStep b size kind frm place step l i = addC b size l ⟨kind, frm, i, place + step * i, targetOf ((cl b frm).getD i 0), false⟩ := if_pos ht
      rw [e] at hs ⊢
      have hm : (⟨kind, frm, i, place + step * i, targetOf ((cl b frm).getD i 0), goodB b size l ⟨kind, frm, i, place + step * i, targetOf ((cl b frm).getD i 0), false⟩⟩ : Cm) ∈ ys.foldl (tabStep b size kind frm place step) (addC b size l ⟨kind, frm, i, place + step * i, targetOf ((cl b frm).getD i 0), false⟩) := by
        refine (foldl_prefix _ (fun l a => tabStep_prefix _ _ _ _ _ _ l a) ys _).subset ?_
        unfold addC
        simp
      have h2 := hs _ hm rfl rfl
      simp only [Int.toNat_natCast] at h2
      unfold addC
      rw [gd_append, List.append_assoc]
      congr 1
      generalize goodB b size l ⟨kind, frm, i, place + step * i, targetOf ((cl b frm).getD i 0), false⟩ = g at *
      cases g
      · rw [if_neg (by simp)] at h2
        rw [List.filterMap_cons_none (by unfold tabF; rw [if_neg (fun hne => hne h2)])]
        rfl
      · rw [if_pos rfl] at h2
        rw [List.filterMap_cons_some (b := ⟨kind, frm, i, place + step * i, targetOf ((cl b frm).getD i 0), true⟩) (by unfold tabF; rw [h2, if_pos ht])]
        rfl
    · have e : tabStep b size kind frm place step l i = l := if_neg ht
      rw [e]
      rw [List.filterMap_cons_none (by unfold tabF; rw [if_neg (by simp only [ne_eq, Decidable.not_not] at ht ⊢; exact hnul i (hi i (by simp)) ht)])]
theorem gd_tab {b x : List Int} {size kind : Int} {frm : Nat} {place step : Int} {l : List Cm} (hnul : ∀ i, i < 8 → targetOf ((cl b frm).getD i 0) = 0 → targetOf ((cl x frm).getD i 0) = 0)
    (hs : ∀ c ∈ tabC b size l kind frm place step, c.kind = kind → c.frm = (frm : Int) → targetOf ((cl x frm).getD c.slot.toNat 0) = if c.good = true then c.target else 0) :
    gd (tabC b size l kind frm place step) = gd l ++ tabT x kind frm place step := gd_steps hnul (List.range 8) l (fun i hi => by simpa using hi) hs

/-- The shots that stay. -/
def keepC (b : List Int) : List Cm := (c4C b (headOf b)).filter (fun c => c.kind == 6 && c.good)
/-- x is b, but that the words of loose claims are 0. -/
structure Clr (b x : List Int) : Prop where
  many : manyN x = manyN b
  size : (headOf x).size = (headOf b).size
  first : (headOf x).first = if goodB b (headOf b).size [⟨1, 0, 0, 0, 0, true⟩] ⟨2, 0, 0, 0, (headOf b).first, false⟩ = true then (headOf b).first else 0
  refs : (headOf x).refs = if goodB b (headOf b).size (c1C b (headOf b)) ⟨3, 0, 0, 0, (headOf b).refs, false⟩ = true then (headOf b).refs else 0
  tab : ∀ c ∈ claimsC b, c.kind = 4 ∨ c.kind = 7 ∨ c.kind = 8 → targetOf ((cl x c.frm.toNat).getD c.slot.toNat 0) = if c.good = true then c.target else 0
  nul : ∀ c ∈ claimsC b, c.good = true → c.kind = 2 ∨ c.kind = 3 ∨ c.kind = 6 ∨ c.kind = 7 → ∀ i, i < 8 → targetOf ((cl b c.target.toNat).getD i 0) = 0 → targetOf ((cl x c.target.toNat).getD i 0) = 0
  kept : (headOf x).many = (keepC b).length
  shots : keepC b ≠ [] → (headOf x).shots = (headOf b).shots ∧ (shotsL x).map (·.2) = (keepC b).map (·.target)

theorem c3_kind (xs : List Int) (h : Hd) : ∀ c ∈ c3C xs h, 1 ≤ c.kind ∧ c.kind ≤ 4 := by
  have h2 : ∀ c ∈ c2C xs h, 1 ≤ c.kind ∧ c.kind ≤ 4 := by
    intro c hc
    unfold c2C c1C addC at hc
    simp at hc
    rcases hc with rfl | rfl | rfl <;> simp
  unfold c3C
  split
  · unfold tabC
    refine foldl_all (fun c : Cm => 1 ≤ c.kind ∧ c.kind ≤ 4) (fun _ => True) _ (fun l i hl _ => ?_) _ _ h2 (fun _ _ => trivial)
    unfold tabStep
    split
    · exact addC_all _ hl (by simp)
    · exact hl
  · exact h2
theorem fold_tail (xs : List Int) (size : Int) : ∀ (cs l : List Cm), ∃ J, cs.foldl (addC xs size) l = l ++ J ∧ ∀ c ∈ J, ∃ d ∈ cs, ∃ b, c = { d with good := b }
  | [], l => ⟨[], by simp, by simp⟩
  | d :: cs, l => by
    obtain ⟨J, h1, h2⟩ := fold_tail xs size cs (addC xs size l d)
    refine ⟨{ d with good := goodB xs size l d } :: J, ?_, ?_⟩
    · rw [List.foldl_cons, h1]; unfold addC; simp
    · intro c hc
      rw [List.mem_cons] at hc
      rcases hc with rfl | hc
      · exact ⟨d, by simp, _, rfl⟩
      · obtain ⟨e, he, g, h⟩ := h2 c hc
        exact ⟨e, by simp [he], g, h⟩
/-- The shots' claims stand behind the others. -/
theorem c4_parts (b : List Int) : ∃ J, c4C b (headOf b) = c3C b (headOf b) ++ J ∧ ((gd J = [] ∧ keepC b = []) ∨ (gd J = ⟨5, 0, 0, 0, (headOf b).shots, true⟩ :: keepC b ∧ (headOf b).many ≠ 0)) ∧ ∀ c ∈ J, (c.kind = 5 ∨ c.kind = 6) ∧ c.place = 0 := by
  have hk3 : (c3C b (headOf b)).filter (fun c => c.kind == 6 && c.good) = [] := by
    rw [List.filter_eq_nil_iff]
    intro c hc
    have := c3_kind b _ c hc
    simp
    intro h
    omega
  unfold keepC
  unfold c4C shotsC
  split
  · exact ⟨[], by simp, .inl ⟨rfl, hk3⟩, by simp⟩
  · rename_i hm
    split
    · rename_i hg
      rw [shot_fold]
      obtain ⟨J, hJ, hJ2⟩ := fold_tail b (headOf b).size (shotT (headOf b) (shotsL b)) (addC b (headOf b).size (c3C b (headOf b)) ⟨5, 0, 0, 0, (headOf b).shots, false⟩)
      have hk : ∀ c ∈ J, c.kind = 6 ∧ c.place = 0 := by
        intro c hc
        obtain ⟨d, hd, g, rfl⟩ := hJ2 c hc
        have := shotT_kind hd
        exact ⟨this.1, this.2.2.1⟩
      rw [hJ]
      unfold addC
      rw [hg]
      have hf : J.filter (fun c => c.kind == 6 && c.good) = gd J := List.filter_congr (fun c hc => by rw [(hk c hc).1]; simp)
      refine ⟨⟨5, 0, 0, 0, (headOf b).shots, true⟩ :: J, by simp, .inr ⟨?_, hm⟩, ?_⟩
      · rw [List.filter_append, List.filter_append, hk3, hf]
        rfl
      · intro c hc
        rw [List.mem_cons] at hc
        rcases hc with rfl | hc
        · simp
        · have := hk c hc; exact ⟨.inr this.1, this.2⟩
    · rename_i hg
      refine ⟨[⟨5, 0, 0, 0, (headOf b).shots, goodB b (headOf b).size (c3C b (headOf b)) ⟨5, 0, 0, 0, (headOf b).shots, false⟩⟩], rfl, .inl ⟨?_, ?_⟩, ?_⟩
      · rw [Bool.not_eq_true] at hg; rw [hg]; rfl
      · unfold addC; rw [List.filter_append, hk3]; simp
      · simp

/-- A claim, but for what nobody asks of it. -/
def normC (c : Cm) : Cm := if c.kind = 7 then c else { c with frm := 0, slot := 0 }
theorem norm_kind (c : Cm) : (normC c).kind = c.kind ∧ (normC c).target = c.target ∧ (normC c).good = c.good ∧ (normC c).place = c.place := by
  unfold normC; split <;> exact ⟨rfl, rfl, rfl, rfl⟩
theorem norm_bars (x c : Cm) : barsB (normC x) (normC c) = barsB x c := by
  obtain ⟨x1, x2, x3, _⟩ := norm_kind x
  obtain ⟨c1, c2, c3, _⟩ := norm_kind c
  unfold barsB
  rw [x1, x2, x3, c1, c2]
  by_cases h7 : c.kind = 7 ∧ x.kind = 7
  · have e1 : normC x = x := if_pos h7.2
    have e2 : normC c = c := if_pos h7.1
    rw [e1, e2]
  · rw [if_neg h7, if_neg h7]
theorem gd_r1 {b x : List Int} (C : Clr b x) : gd (c2C b (headOf b)) = gd (r1C (headOf x)) := by
  have hf := C.first
  have hr := C.refs
  unfold c2C c1C addC r1C gd
  unfold c1C addC at hr
  generalize hg1 : goodB b (headOf b).size [⟨1, 0, 0, 0, 0, true⟩] ⟨2, 0, 0, 0, (headOf b).first, false⟩ = g1 at *
  generalize hg2 : goodB b (headOf b).size ([⟨1, 0, 0, 0, 0, true⟩] ++ [⟨2, 0, 0, 0, (headOf b).first, g1⟩]) ⟨3, 0, 0, 0, (headOf b).refs, false⟩ = g2 at *
  have n1 : g1 = true → (headOf b).first ≠ 0 := fun h e => by
    rw [h] at hg1
    have := goodB_there hg1
    simp only at this
    rw [e, there_zero] at this
    cases this
  have n2 : g2 = true → (headOf b).refs ≠ 0 := fun h e => by
    rw [h] at hg2
    have := goodB_there hg2
    simp only at this
    rw [e, there_zero] at this
    cases this
  rw [hf, hr]
  cases g1 <;> cases g2 <;> simp_all
theorem clr_there {b x : List Int} (C : Clr b x) (t : Int) : thereB x t = thereB b t := there_many C.many t
theorem c2_sub (b : List Int) : ∀ c ∈ c2C b (headOf b), c ∈ claimsC b := fun _ hc => (c6_prefix b _).subset ((c5_prefix b _).subset ((c34_prefix b _).subset ((c23_prefix b _).subset hc)))
theorem c3_sub (b : List Int) : ∀ c ∈ c3C b (headOf b), c ∈ claimsC b := fun _ hc => (c6_prefix b _).subset ((c5_prefix b _).subset ((c34_prefix b _).subset hc))
theorem c4_sub (b : List Int) : ∀ c ∈ c4C b (headOf b), c ∈ claimsC b := fun _ hc => (c6_prefix b _).subset ((c5_prefix b _).subset hc)
theorem c5_sub (b : List Int) : ∀ c ∈ c5C b (headOf b), c ∈ claimsC b := fun _ hc => (c6_prefix b _).subset hc
theorem gd_c3 {b x : List Int} (C : Clr b x) : gd (c3C b (headOf b)) = gd (r1C (headOf x) ++ rBlk x (headOf x)) := by
  have h3 := c3_sub b
  have h2 := c2_sub b
  rw [gd_append, ← gd_r1 C]
  have hr := C.refs
  unfold c3C at h3 ⊢
  unfold rBlk
  generalize hg : goodB b (headOf b).size (c1C b (headOf b)) ⟨3, 0, 0, 0, (headOf b).refs, false⟩ = g at *
  cases g
  · rw [if_neg (by simp)] at hr ⊢
    rw [if_neg (by simp [hr])]
    simp [gd]
  · have ht := goodB_there hg
    simp only at ht
    have hlt := there_lt ht
    rw [if_pos rfl] at hr h3 ⊢
    rw [if_pos (by rw [hr]; omega), gd_all (l := tabT x 4 _ 0 0) (fun c hc => (tabT_kind hc).2.1), hr]
    refine gd_tab (fun i hi h0 => ?_) (fun c hc hk hf => ?_)
    · have hm : (⟨3, 0, 0, 0, (headOf b).refs, true⟩ : Cm) ∈ claimsC b := h2 _ (by unfold c2C addC; rw [hg]; simp)
      exact C.nul _ hm rfl (by simp) i hi h0
    · have := C.tab c (h3 c hc) (by omega)
      rw [hf, Int.toNat_natCast] at this
      exact this

theorem firsts_gd (l : List Cm) : firstsC l = ((gd l).filter (fun c => c.kind == 2 || c.kind == 6)).map (·.target) := by
  unfold firstsC gd
  rw [List.filter_filter]
  congr 1
  refine List.filter_congr (fun c _ => ?_)
  rw [Bool.and_comm]
theorem clr_firsts {b x : List Int} (C : Clr b x) : firstsC (c4C b (headOf b)) = rFst x (headOf x) := by
  obtain ⟨J, e, hJ, _⟩ := c4_parts b
  rw [firsts_gd, e, gd_append, gd_c3 C, List.filter_append, List.map_append, ← firsts_gd]
  have e1 : firstsC (r1C (headOf x) ++ rBlk x (headOf x)) = if (headOf x).first ≠ 0 then [(headOf x).first] else [] := by
    unfold firstsC
    rw [List.filter_append]
    have e2 : (rBlk x (headOf x)).filter (fun c => c.good && (c.kind == 2 || c.kind == 6)) = [] := by
      rw [List.filter_eq_nil_iff]
      intro c hc
      rw [(rBlk_kind hc).1]
      simp
    rw [e2, List.append_nil]
    unfold r1C
    by_cases hf : (headOf x).first = 0 <;> simp [hf]
  rw [e1]
  unfold rFst
  congr 1
  have hk := C.kept
  rcases hJ with ⟨h1, h2⟩ | ⟨h1, h2⟩
  · rw [h1, if_pos (by rw [hk, h2]; rfl)]
    rfl
  · rw [h1, List.filter_cons_of_neg (by simp), List.filter_eq_self.2 (fun c hc => by
      unfold keepC at hc
      rw [List.mem_filter] at hc
      simp at hc
      simp [hc.2.1])]
    by_cases hn : keepC b = []
    · rw [if_pos (by rw [hk, hn]; rfl), hn]; rfl
    · rw [if_neg (by rw [hk]; have := List.length_pos_iff.2 hn; omega), (C.shots hn).2]
theorem gd_secs {b x : List Int} (C : Clr b x) : ∀ (fs : List Int) (l : List Cm), (∀ f ∈ fs, f ∈ firstsC (c4C b (headOf b))) → (∀ c ∈ fs.foldl (secStep b (headOf b)) l, c ∈ claimsC b) →
    gd (fs.foldl (secStep b (headOf b)) l) = gd l ++ fs.flatMap (fun f => tabT x 7 f.toNat 0 8)
  | [], l, _, _ => by simp
  | f :: fs, l, hf, hs => by
    rw [List.foldl_cons] at hs ⊢
    rw [gd_secs C fs _ (fun g hg => hf g (by simp [hg])) hs, List.flatMap_cons, ← List.append_assoc]
    congr 1
    have hm := hf f (by simp)
    unfold firstsC at hm
    rw [List.mem_map] at hm
    obtain ⟨d, hd, rfl⟩ := hm
    rw [List.mem_filter] at hd
    simp at hd
    refine gd_tab (fun i hi h0 => C.nul d (c4_sub b d hd.1) hd.2.1 (by rcases hd.2.2 with h | h <;> simp [h]) i hi h0) (fun c hc hk hfr => ?_)
    have := C.tab c (hs c ((foldl_prefix _ (fun l a => by unfold secStep; rw [tabC_fold]; exact addC_pre _ _ _ _) fs _).subset hc)) (by omega)
    rw [hfr, Int.toNat_natCast] at this
    exact this
theorem gd_c5 {b x : List Int} (C : Clr b x) : gd (c5C b (headOf b)) = gd (c4C b (headOf b)) ++ rSec x (headOf x) := by
  unfold rSec
  rw [← clr_firsts C]
  exact gd_secs C _ _ (fun _ h => h) (fun c hc => c5_sub b c hc)
theorem gd_dats {b x : List Int} (C : Clr b x) : ∀ (cs l : List Cm), (∀ c ∈ cs, c ∈ claimsC b) → (∀ c ∈ cs.foldl (datStep b (headOf b)) l, c ∈ claimsC b) →
    gd (cs.foldl (datStep b (headOf b)) l) = gd l ++ (cs.filter (fun c => c.kind == 7 && c.good)).flatMap (fun c => tabT x 8 c.target.toNat c.place 1)
  | [], l, _, _ => by simp
  | d :: cs, l, hd, hs => by
    rw [List.foldl_cons] at hs ⊢
    rw [gd_dats C cs _ (fun g hg => hd g (by simp [hg])) hs]
    by_cases hk : d.kind = 7 ∧ d.good = true
    · have e : datStep b (headOf b) l d = tabC b (headOf b).size l 8 d.target.toNat d.place 1 := if_pos hk
      rw [e] at hs ⊢
      rw [List.filter_cons_of_pos (by simp [hk.1, hk.2]), List.flatMap_cons, ← List.append_assoc]
      congr 1
      refine gd_tab (fun i hi h0 => C.nul d (hd d (by simp)) hk.2 (by simp [hk.1]) i hi h0) (fun c hc hk8 hfr => ?_)
      have := C.tab c (hs c ((foldl_prefix _ (fun l a => datStep_prefix l a) cs _).subset hc)) (by omega)
      rw [hfr, Int.toNat_natCast] at this
      exact this
    · have e : datStep b (headOf b) l d = l := if_neg hk
      rw [e, List.filter_cons_of_neg (by simpa using hk)]
theorem c4_kind (b : List Int) : ∀ c ∈ c4C b (headOf b), c.kind ≠ 7 ∧ c.kind ≠ 8 := by
  obtain ⟨J, e, _, hJ⟩ := c4_parts b
  intro c hc
  rw [e, List.mem_append] at hc
  rcases hc with hc | hc
  · have := c3_kind b _ c hc; omega
  · have := (hJ c hc).1; omega
theorem gd_c6 {b x : List Int} (C : Clr b x) : gd (claimsC b) = (gd (c4C b (headOf b)) ++ rSec x (headOf x)) ++ rDat x (headOf x) := by
  have h5 := gd_c5 C
  have e : gd (claimsC b) = gd (c5C b (headOf b)) ++ ((c5C b (headOf b)).filter (fun c => c.kind == 7 && c.good)).flatMap (fun c => tabT x 8 c.target.toNat c.place 1) :=
    gd_dats C (c5C b (headOf b)) (c5C b (headOf b)) (c5_sub b) (fun _ h => h)
  have e2 : (c5C b (headOf b)).filter (fun c => c.kind == 7 && c.good) = rSec x (headOf x) := by
    have e3 : (c5C b (headOf b)).filter (fun c => c.kind == 7 && c.good) = (gd (c5C b (headOf b))).filter (fun c => c.kind == 7) := by
      unfold gd
      rw [List.filter_filter]
    rw [e3, h5, List.filter_append]
    have e4 : (gd (c4C b (headOf b))).filter (fun c => c.kind == 7) = [] := by
      rw [List.filter_eq_nil_iff]
      intro c hc
      unfold gd at hc
      rw [List.mem_filter] at hc
      have := c4_kind b c hc.1
      simp
      omega
    rw [e4, List.nil_append, List.filter_eq_self]
    intro c hc
    simp [(rSec_kind hc).1]
  rw [e, e2, h5]
  rfl

/-- Of the good claims of b just these are those of x. -/
theorem clr_good {b x : List Int} (C : Clr b x) : ∃ A S S' B, gd (claimsC b) = A ++ S ++ B ∧ gd (rawC x (headOf x)) = A ++ S' ++ B ∧ ((S' = [] ∧ keepC b = [] ∧ S.length ≤ 1) ∨ (keepC b ≠ [] ∧ S.map normC = S'.map normC)) := by
  obtain ⟨J, e, hJ, _⟩ := c4_parts b
  have h6 := gd_c6 C
  rw [e, gd_append, gd_c3 C] at h6
  refine ⟨gd (r1C (headOf x) ++ rBlk x (headOf x)), gd J, gd (rSh x (headOf x)), rSec x (headOf x) ++ rDat x (headOf x), by rw [h6]; simp, ?_, ?_⟩
  · unfold rawC r4C
    rw [gd_append, gd_append, gd_append, gd_all (l := rSec x (headOf x)) (fun c hc => (rSec_kind hc).2), gd_all (l := rDat x (headOf x)) (fun c hc => (rDat_kind hc).2)]
    simp
  · by_cases hn : keepC b = []
    · refine .inl ⟨?_, hn, ?_⟩
      · unfold rSh
        rw [if_pos (by rw [C.kept, hn]; rfl)]
        rfl
      · rcases hJ with ⟨h1, _⟩ | ⟨h1, _⟩
        · rw [h1]; simp
        · rw [h1, hn]; simp
    · refine .inr ⟨hn, ?_⟩
      obtain ⟨hs1, hs2⟩ := C.shots hn
      rcases hJ with ⟨_, h2⟩ | ⟨h1, _⟩
      · exact absurd h2 hn
      · have hm : ¬ (headOf x).many = 0 := by rw [C.kept]; have := List.length_pos_iff.2 hn; omega
        rw [h1]
        unfold rSh
        rw [if_neg hm, gd_all (fun c hc => by
          rw [List.mem_cons] at hc
          rcases hc with rfl | hc
          · rfl
          · exact (shotT_kind hc).2.1), List.map_cons, List.map_cons, hs1]
        congr 1
        have k1 : ∀ c ∈ keepC b, normC c = ⟨6, 0, 0, 0, c.target, true⟩ := by
          intro c hc
          have hJc : c ∈ J := by
            have : c ∈ gd J := by rw [h1]; simp [hc]
            unfold gd at this
            exact (List.mem_filter.1 this).1
          obtain ⟨J', e', _, hp⟩ := c4_parts b
          have hJJ : J' = J := List.append_cancel_left (e'.symm.trans e)
          subst hJJ
          have hpl := (hp c hJc).2
          unfold keepC at hc
          rw [List.mem_filter] at hc
          simp at hc
          unfold normC
          rw [if_neg (by omega)]
          cases c
          simp only at hpl hc ⊢
          rw [hpl, hc.2.1, hc.2.2]
        have k2 : ∀ c ∈ shotT (headOf x) (shotsL x), normC c = ⟨6, 0, 0, 0, c.target, true⟩ := by
          intro c hc
          obtain ⟨q1, q2, q3, _⟩ := shotT_kind hc
          unfold normC
          rw [if_neg (by omega)]
          cases c
          simp only at q1 q2 q3 ⊢
          rw [q1, q2, q3]
        rw [List.map_congr_left k1, List.map_congr_left k2]
        have m1 : (keepC b).map (fun c => (⟨6, 0, 0, 0, c.target, true⟩ : Cm)) = ((keepC b).map (·.target)).map (fun t => (⟨6, 0, 0, 0, t, true⟩ : Cm)) := by rw [List.map_map]; rfl
        have m2 : (shotT (headOf x) (shotsL x)).map (fun c => (⟨6, 0, 0, 0, c.target, true⟩ : Cm)) = ((shotT (headOf x) (shotsL x)).map (·.target)).map (fun t => (⟨6, 0, 0, 0, t, true⟩ : Cm)) := by rw [List.map_map]; rfl
        rw [m1, m2, shotT_map, hs2]
theorem clr_sub {b x : List Int} (C : Clr b x) : ((gd (rawC x (headOf x))).map normC).Sublist ((gd (claimsC b)).map normC) := by
  obtain ⟨A, S, S', B, h1, h2, h3⟩ := clr_good C
  rw [h1, h2, List.map_append, List.map_append, List.map_append, List.map_append]
  refine List.Sublist.append (List.Sublist.append (List.Sublist.refl _) ?_) (List.Sublist.refl _)
  rcases h3 with ⟨h, _, _⟩ | ⟨_, h⟩
  · rw [h]; exact List.nil_sublist _
  · rw [h]; exact List.Sublist.refl _
theorem clr_neat {b x : List Int} (C : Clr b x) : Neat x (headOf x) := by
  have hsub := clr_sub C
  refine ⟨fun c hc hg hk => ?_, gd_free ?_⟩
  · have hm : normC c ∈ (gd (claimsC b)).map normC := hsub.subset (List.mem_map.2 ⟨c, List.mem_filter.2 ⟨hc, hg⟩, rfl⟩)
    rw [List.mem_map] at hm
    obtain ⟨d, hd, he⟩ := hm
    unfold gd at hd
    rw [List.mem_filter] at hd
    obtain ⟨d1, d2, d3, d4⟩ := norm_kind d
    obtain ⟨c1, c2, c3, c4⟩ := norm_kind c
    rw [he] at d1 d2 d3 d4
    have k1 : d.kind = c.kind := d1.symm.trans c1
    have k2 : d.target = c.target := d2.symm.trans c2
    have k4 : d.place = c.place := d4.symm.trans c4
    refine ⟨?_, ?_⟩
    · rw [clr_there C, ← k2]
      rcases (claims_ok b d hd.1).lead hd.2 with h1 | h1
      · rw [k1] at h1; exact absurd h1.1 hk
      · exact h1
    · rw [C.size, ← k4]
      exact claims_place b d hd.1 hd.2 (by rw [k1]; exact hk)
  · have h1 := free_gd (claims_free b)
    have h2 : ((gd (claimsC b)).map normC).Pairwise (fun x c => barsB x c = false) := by
      rw [List.pairwise_map]
      exact h1.imp (fun {x c} h => by rw [norm_bars]; exact h)
    have h3 := List.Pairwise.sublist hsub h2
    rw [List.pairwise_map] at h3
    exact h3.imp (fun {x c} h => by rw [norm_bars] at h; exact h)
/-- How many claims are good then. -/
theorem clr_count {b x : List Int} (C : Clr b x) : (gd (claimsC x)).length = (gd (claimsC b)).length ∨ (keepC b = [] ∧ (gd (claimsC x)).length + 1 = (gd (claimsC b)).length) := by
  have e : claimsC x = rawC x (headOf x) := neat_claims (clr_neat C)
  obtain ⟨A, S, S', B, h1, h2, h3⟩ := clr_good C
  rw [e, h1, h2]
  rcases h3 with ⟨h, hk, hl⟩ | ⟨_, h⟩
  · rw [h]
    simp only [List.length_append, List.length_nil]
    by_cases h0 : S.length = 0
    · exact .inl (by omega)
    · exact .inr ⟨hk, by omega⟩
  · have := congrArg List.length h
    rw [List.length_map, List.length_map] at this
    simp only [List.length_append]
    exact .inl (by omega)

/-- A claim without its judgement. -/
def erC (c : Cm) : Cm := { c with good := false }
theorem fold_er (xs : List Int) (size : Int) : ∀ (cs l : List Cm), ∃ J, cs.foldl (addC xs size) l = l ++ J ∧ J.map erC = cs.map erC
  | [], l => ⟨[], by simp, rfl⟩
  | d :: cs, l => by
    obtain ⟨J, h1, h2⟩ := fold_er xs size cs (addC xs size l d)
    refine ⟨{ d with good := goodB xs size l d } :: J, ?_, ?_⟩
    · rw [List.foldl_cons, h1]; unfold addC; simp
    · rw [List.map_cons, List.map_cons, h2]; rfl
theorem er_mem {J cs : List Cm} (h : J.map erC = cs.map erC) {c : Cm} (hc : c ∈ J) : ∃ d ∈ cs, erC d = erC c := by
  have : erC c ∈ cs.map erC := by rw [← h]; exact List.mem_map.2 ⟨c, hc, rfl⟩
  rw [List.mem_map] at this
  exact this
theorem er_eq {c d : Cm} (h : erC d = erC c) : c.kind = d.kind ∧ c.frm = d.frm ∧ c.slot = d.slot ∧ c.place = d.place ∧ c.target = d.target := by
  unfold erC at h
  injection h with h1 h2 h3 h4 h5
  exact ⟨h1.symm, h2.symm, h3.symm, h4.symm, h5.symm⟩

/-- The claims, part by part. -/
structure Parts (b : List Int) (J3 J4 J5 J6 : List Cm) : Prop where
  c3 : c3C b (headOf b) = c2C b (headOf b) ++ J3
  c4 : c4C b (headOf b) = c3C b (headOf b) ++ J4
  c5 : c5C b (headOf b) = c4C b (headOf b) ++ J5
  c6 : claimsC b = c5C b (headOf b) ++ J6
  e3 : J3.map erC = (if goodB b (headOf b).size (c1C b (headOf b)) ⟨3, 0, 0, 0, (headOf b).refs, false⟩ = true then tabT b 4 (headOf b).refs.toNat 0 0 else []).map erC
  e4 : (∃ g, J4 = [⟨5, 0, 0, 0, (headOf b).shots, g⟩] ∧ g = false) ∨ J4 = [] ∨ ∃ J, J4 = ⟨5, 0, 0, 0, (headOf b).shots, true⟩ :: J ∧ J.map erC = (shotT (headOf b) (shotsL b)).map erC
  e5 : J5.map erC = ((firstsC (c4C b (headOf b))).flatMap (fun f => tabT b 7 f.toNat 0 8)).map erC
  e6 : J6.map erC = (((c5C b (headOf b)).filter (fun c => c.kind == 7 && c.good)).flatMap (fun c => tabT b 8 c.target.toNat c.place 1)).map erC
theorem claims_parts (b : List Int) : ∃ J3 J4 J5 J6, Parts b J3 J4 J5 J6 := by
  have h3 : ∃ J3, c3C b (headOf b) = c2C b (headOf b) ++ J3 ∧ J3.map erC = (if goodB b (headOf b).size (c1C b (headOf b)) ⟨3, 0, 0, 0, (headOf b).refs, false⟩ = true then tabT b 4 (headOf b).refs.toNat 0 0 else []).map erC := by
    unfold c3C
    split
    · rw [tabC_fold]; exact fold_er _ _ _ _
    · exact ⟨[], by simp, rfl⟩
  have h4 : ∃ J4, c4C b (headOf b) = c3C b (headOf b) ++ J4 ∧ ((∃ g, J4 = [⟨5, 0, 0, 0, (headOf b).shots, g⟩] ∧ g = false) ∨ J4 = [] ∨ ∃ J, J4 = ⟨5, 0, 0, 0, (headOf b).shots, true⟩ :: J ∧ J.map erC = (shotT (headOf b) (shotsL b)).map erC) := by
    unfold c4C shotsC
    split
    · exact ⟨[], by simp, .inr (.inl rfl)⟩
    · split
      · rename_i hg
        rw [shot_fold]
        obtain ⟨J, hJ, hJ2⟩ := fold_er b (headOf b).size (shotT (headOf b) (shotsL b)) (addC b (headOf b).size (c3C b (headOf b)) ⟨5, 0, 0, 0, (headOf b).shots, false⟩)
        refine ⟨⟨5, 0, 0, 0, (headOf b).shots, true⟩ :: J, ?_, .inr (.inr ⟨J, rfl, hJ2⟩)⟩
        rw [hJ]
        unfold addC
        rw [hg]
        simp
      · rename_i hg
        rw [Bool.not_eq_true] at hg
        refine ⟨[⟨5, 0, 0, 0, (headOf b).shots, goodB b (headOf b).size (c3C b (headOf b)) ⟨5, 0, 0, 0, (headOf b).shots, false⟩⟩], rfl, .inl ⟨_, rfl, hg⟩⟩
  have h5 : ∃ J5, c5C b (headOf b) = c4C b (headOf b) ++ J5 ∧ J5.map erC = ((firstsC (c4C b (headOf b))).flatMap (fun f => tabT b 7 f.toNat 0 8)).map erC := by
    unfold c5C
    rw [sec_fold]
    exact fold_er _ _ _ _
  have h6 : ∃ J6, claimsC b = c5C b (headOf b) ++ J6 ∧ J6.map erC = (((c5C b (headOf b)).filter (fun c => c.kind == 7 && c.good)).flatMap (fun c => tabT b 8 c.target.toNat c.place 1)).map erC := by
    unfold claimsC c6C
    rw [dat_fold]
    exact fold_er _ _ _ _
  obtain ⟨J3, a3, b3⟩ := h3
  obtain ⟨J4, a4, b4⟩ := h4
  obtain ⟨J5, a5, b5⟩ := h5
  obtain ⟨J6, a6, b6⟩ := h6
  exact ⟨J3, J4, J5, J6, a3, a4, a5, a6, b3, b4, b5, b6⟩

/-- A claim of a table's word. -/
structure OfTab (b : List Int) (c d : Cm) : Prop where
  mem : d ∈ claimsC b
  good : d.good = true
  frm : c.frm = d.target
  slot0 : 0 ≤ c.slot
  slot1 : c.slot < 8
  word : c.target = targetOf ((cl b d.target.toNat).getD c.slot.toNat 0)
  some : c.target ≠ 0
  there : thereB b d.target = true
theorem good_there {b : List Int} {d : Cm} (hd : d ∈ claimsC b) (hg : d.good = true) (hk : d.kind ≠ 1) : thereB b d.target = true := by
  rcases (claims_ok b d hd).lead hg with h | h
  · exact absurd h.1 hk
  · exact h
theorem of_tab {b : List Int} {c d e : Cm} {kind place step : Int} (hd : d ∈ claimsC b) (hg : d.good = true) (hk : d.kind ≠ 1) (he : e ∈ tabT b kind d.target.toNat place step) (h : erC e = erC c) : OfTab b c d ∧ c.kind = kind ∧ c.place = place + step * c.slot := by
  have ht := good_there hd hg hk
  have hlt := there_lt ht
  obtain ⟨h1, h2, h3, h4, h5⟩ := er_eq h
  obtain ⟨i, hi, hne, rfl⟩ := tabT_mem.1 he
  simp only at h1 h2 h3 h4 h5
  refine ⟨⟨hd, hg, by rw [h2]; omega, by omega, by omega, ?_, by rw [h5]; exact hne, ht⟩, h1, by rw [h4, h3]⟩
  rw [h5, h3, Int.toNat_natCast]
theorem refs_good {b : List Int} (hg : goodB b (headOf b).size (c1C b (headOf b)) ⟨3, 0, 0, 0, (headOf b).refs, false⟩ = true) : (⟨3, 0, 0, 0, (headOf b).refs, true⟩ : Cm) ∈ claimsC b := by
  have := refs_claim b
  rw [hg] at this
  exact this
section
variable {b : List Int} {J3 J4 J5 J6 : List Cm}
theorem Parts.of3 (P : Parts b J3 J4 J5 J6) {c : Cm} (hc : c ∈ J3) : ∃ d, OfTab b c d ∧ c.kind = 4 ∧ d.kind = 3 ∧ d.target = (headOf b).refs := by
  obtain ⟨e, he, h⟩ := er_mem P.e3 hc
  split at he
  · rename_i hg
    obtain ⟨h1, h2, _⟩ := of_tab (d := ⟨3, 0, 0, 0, (headOf b).refs, true⟩) (refs_good hg) rfl (by simp) he h
    exact ⟨_, h1, h2, rfl, rfl⟩
  · cases he
theorem Parts.of4 (P : Parts b J3 J4 J5 J6) {c : Cm} (hc : c ∈ J4) : (c.kind = 5 ∧ c.target = (headOf b).shots) ∨ (c.kind = 6 ∧ c.place = 0 ∧ 0 ≤ c.slot ∧ c.slot < (shotsL b).length ∧ c.target = ((shotsL b).getD c.slot.toNat (0, 0)).2 ∧ (⟨5, 0, 0, 0, (headOf b).shots, true⟩ : Cm) ∈ claimsC b) := by
  have hsub : ∀ x ∈ J4, x ∈ claimsC b := fun x hx => by
    rw [P.c6, P.c5, P.c4]; simp [hx]
  rcases P.e4 with ⟨g, h1, _⟩ | h1 | ⟨J, h1, h2⟩
  · rw [h1, List.mem_singleton] at hc; subst hc; exact .inl ⟨rfl, rfl⟩
  · rw [h1] at hc; cases hc
  · have h5 := hsub ⟨5, 0, 0, 0, (headOf b).shots, true⟩ (by rw [h1]; simp)
    rw [h1, List.mem_cons] at hc
    rcases hc with rfl | hc
    · exact .inl ⟨rfl, rfl⟩
    · obtain ⟨d, hd, he⟩ := er_mem h2 hc
      obtain ⟨k1, k2, k3, k4, k5⟩ := er_eq he
      unfold shotT at hd
      rw [List.mem_map] at hd
      obtain ⟨i, hi, rfl⟩ := hd
      rw [List.mem_range] at hi
      simp only at k1 k2 k3 k4 k5
      exact .inr ⟨k1, k4, by omega, by omega, by rw [k5, k3, Int.toNat_natCast], h5⟩
theorem Parts.of5 (P : Parts b J3 J4 J5 J6) {c : Cm} (hc : c ∈ J5) : ∃ d, OfTab b c d ∧ c.kind = 7 ∧ (d.kind = 2 ∨ d.kind = 6) ∧ c.place = 8 * c.slot := by
  obtain ⟨e, he, h⟩ := er_mem P.e5 hc
  rw [List.mem_flatMap] at he
  obtain ⟨f, hf, he⟩ := he
  unfold firstsC at hf
  rw [List.mem_map] at hf
  obtain ⟨d, hd, rfl⟩ := hf
  rw [List.mem_filter] at hd
  simp at hd
  obtain ⟨h1, h2, h3⟩ := of_tab (c4_sub b d hd.1) hd.2.1 (by rcases hd.2.2 with h | h <;> omega) he h
  exact ⟨d, h1, h2, hd.2.2, by omega⟩
theorem Parts.of6 (P : Parts b J3 J4 J5 J6) {c : Cm} (hc : c ∈ J6) : ∃ d, OfTab b c d ∧ c.kind = 8 ∧ d.kind = 7 ∧ d ∈ c5C b (headOf b) ∧ c.place = d.place + c.slot := by
  obtain ⟨e, he, h⟩ := er_mem P.e6 hc
  rw [List.mem_flatMap] at he
  obtain ⟨d, hd, he⟩ := he
  rw [List.mem_filter] at hd
  simp at hd
  obtain ⟨h1, h2, h3⟩ := of_tab (c5_sub b d hd.1) hd.2.2 (by omega) he h
  exact ⟨d, h1, h2, hd.2.1, hd.1, by omega⟩
theorem c2_kind (b : List Int) : ∀ c ∈ c2C b (headOf b), c.kind = 1 ∨ c.kind = 2 ∨ c.kind = 3 := by
  intro c hc
  unfold c2C c1C addC at hc
  simp at hc
  rcases hc with rfl | rfl | rfl <;> simp
theorem Parts.mem (P : Parts b J3 J4 J5 J6) {c : Cm} : c ∈ claimsC b ↔ c ∈ c2C b (headOf b) ∨ c ∈ J3 ∨ c ∈ J4 ∨ c ∈ J5 ∨ c ∈ J6 := by
  rw [P.c6, P.c5, P.c4, P.c3]
  simp only [List.mem_append]
  constructor
  · rintro ((((h | h) | h) | h) | h) <;> simp [h]
  · rintro (h | h | h | h | h) <;> simp [h]
/-- Which part a claim is of. -/
theorem Parts.kind4 (P : Parts b J3 J4 J5 J6) {c : Cm} (hc : c ∈ claimsC b) (hk : c.kind = 4) : c ∈ J3 := by
  rcases P.mem.1 hc with h | h | h | h | h
  · have := c2_kind b c h; omega
  · exact h
  · rcases P.of4 h with h | h <;> omega
  · obtain ⟨d, _, h, _⟩ := P.of5 h; omega
  · obtain ⟨d, _, h, _⟩ := P.of6 h; omega
theorem Parts.kind6 (P : Parts b J3 J4 J5 J6) {c : Cm} (hc : c ∈ claimsC b) (hk : c.kind = 5 ∨ c.kind = 6) : c ∈ J4 := by
  rcases P.mem.1 hc with h | h | h | h | h
  · have := c2_kind b c h; omega
  · obtain ⟨d, _, h, _⟩ := P.of3 h; omega
  · exact h
  · obtain ⟨d, _, h, _⟩ := P.of5 h; omega
  · obtain ⟨d, _, h, _⟩ := P.of6 h; omega
theorem Parts.kind7 (P : Parts b J3 J4 J5 J6) {c : Cm} (hc : c ∈ claimsC b) (hk : c.kind = 7) : c ∈ J5 := by
  rcases P.mem.1 hc with h | h | h | h | h
  · have := c2_kind b c h; omega
  · obtain ⟨d, _, h, _⟩ := P.of3 h; omega
  · rcases P.of4 h with h | h <;> omega
  · exact h
  · obtain ⟨d, _, h, _⟩ := P.of6 h; omega
theorem Parts.kind8 (P : Parts b J3 J4 J5 J6) {c : Cm} (hc : c ∈ claimsC b) (hk : c.kind = 8) : c ∈ J6 := by
  rcases P.mem.1 hc with h | h | h | h | h
  · have := c2_kind b c h; omega
  · obtain ⟨d, _, h, _⟩ := P.of3 h; omega
  · rcases P.of4 h with h | h <;> omega
  · obtain ⟨d, _, h, _⟩ := P.of5 h; omega
  · exact h
end
/-- Of a claim of a table's word: the table's own claim. -/
theorem claim_tab {b : List Int} {c : Cm} (hc : c ∈ claimsC b) (hk : c.kind = 4 ∨ c.kind = 7 ∨ c.kind = 8) : ∃ d, OfTab b c d ∧ ((c.kind = 4 ∧ d.kind = 3) ∨ (c.kind = 7 ∧ (d.kind = 2 ∨ d.kind = 6) ∧ c.place = 8 * c.slot) ∨ (c.kind = 8 ∧ d.kind = 7 ∧ c.place = d.place + c.slot)) := by
  obtain ⟨J3, J4, J5, J6, P⟩ := claims_parts b
  rcases hk with hk | hk | hk
  · obtain ⟨d, h1, _, h2, _⟩ := P.of3 (P.kind4 hc hk); exact ⟨d, h1, .inl ⟨hk, h2⟩⟩
  · obtain ⟨d, h1, _, h2, h3⟩ := P.of5 (P.kind7 hc hk); exact ⟨d, h1, .inr (.inl ⟨hk, h2, h3⟩)⟩
  · obtain ⟨d, h1, _, h2, _, h3⟩ := P.of6 (P.kind8 hc hk); exact ⟨d, h1, .inr (.inr ⟨hk, h2, h3⟩)⟩

/-- Two that lie in a list of which no two are alike are one. -/
theorem pair_one {l : List Cm} {R : Cm → Cm → Prop} (h : l.Pairwise R) {x y : Cm} (hx : x ∈ l) (hy : y ∈ l) (h1 : ¬ R x y) (h2 : ¬ R y x) : x = y := by
  obtain ⟨i, hi, rfl⟩ := List.mem_iff_getElem.1 hx
  obtain ⟨j, hj, rfl⟩ := List.mem_iff_getElem.1 hy
  rw [List.pairwise_iff_getElem] at h
  by_cases e : i = j
  · subst e; rfl
  · rcases Nat.lt_or_gt_of_ne e with hlt | hlt
    · exact absurd (h i j hi hj hlt) h1
    · exact absurd (h j i hj hi hlt) h2
def otherWord (x c : Cm) : Prop := x.frm = c.frm → x.slot ≠ c.slot
theorem tabT_other (xs : List Int) (kind : Int) (frm : Nat) (place step : Int) : (tabT xs kind frm place step).Pairwise otherWord := by
  unfold tabT
  rw [List.pairwise_filterMap]
  refine List.pairwise_lt_range.imp (fun {i j} hij x hx y hy => ?_)
  unfold tabF at hx hy
  split at hx
  · split at hy
    · injection hx with hx
      injection hy with hy
      subst hx hy
      intro _ he
      simp only at he
      omega
    · cases hy
  · cases hx
theorem er_other {J cs : List Cm} (h : J.map erC = cs.map erC) (hp : cs.Pairwise otherWord) : J.Pairwise otherWord := by
  have h1 : (cs.map erC).Pairwise otherWord := by rw [List.pairwise_map]; exact hp
  rw [← h, List.pairwise_map] at h1
  exact h1
theorem good_one {b : List Int} {x y : Cm} (hx : x ∈ claimsC b) (hy : y ∈ claimsC b) (gx : x.good = true) (gy : y.good = true) (ht : x.target = y.target) : x.kind = y.kind ∧ (x.kind < 7 → x = y) := by
  by_cases e : x = y
  · exact ⟨by rw [e], fun _ => e⟩
  · by_cases hxy : apart x y
    · have := hxy gx gy ht.symm
      exact ⟨this.1.symm, fun _ => by omega⟩
    · by_cases hyx : apart y x
      · have := hyx gy gx ht
        exact ⟨this.1, fun _ => by omega⟩
      · exact absurd (pair_one (claims_pair b) hx hy hxy hyx) e
theorem firsts_nodup (b : List Int) : (firstsC (c4C b (headOf b))).Nodup := by
  unfold firstsC
  have hp : (c4C b (headOf b)).Pairwise apart := by
    have h6 := claims_pair b
    have hs : (c4C b (headOf b)).Sublist (claimsC b) := ((c5_prefix b (headOf b)).trans (c6_prefix b (headOf b))).sublist
    exact h6.sublist hs
  rw [List.nodup_iff_pairwise_ne, List.pairwise_map, List.pairwise_filter]
  refine hp.imp (fun {x c} hxc hx hc he => ?_)
  simp at hx hc
  have := hxc hx.1 hc.1 he.symm
  rcases hc.2 with h | h <;> omega
theorem flat_other {b : List Int} {fs : List Int} (hn : fs.Nodup) (hp : ∀ f ∈ fs, 0 ≤ f) : (fs.flatMap (fun f => tabT b 7 f.toNat 0 8)).Pairwise otherWord := by
  rw [List.pairwise_flatMap]
  refine ⟨fun f _ => tabT_other _ _ _ _ _, ?_⟩
  rw [List.nodup_iff_pairwise_ne] at hn
  have h2 : fs.Pairwise (fun f g => f.toNat ≠ g.toNat) := by
    have h3 : fs.Pairwise (fun f g => f ∈ fs ∧ g ∈ fs ∧ f ≠ g) := by
      rw [List.pairwise_iff_getElem] at hn ⊢
      exact fun i j hi hj hij => ⟨List.getElem_mem hi, List.getElem_mem hj, hn i j hi hj hij⟩
    refine h3.imp (fun {f g} h e => ?_)
    have := hp f h.1
    have := hp g h.2.1
    have := h.2.2
    omega
  refine h2.imp (fun {f g} hfg x hx y hy => ?_)
  intro he
  rw [(tabT_kind hx).2.2.1, (tabT_kind hy).2.2.1] at he
  omega
/-- The judgement of a data claim hangs on the other claims alone. -/
theorem fold_data {xs : List Int} {size : Int} {base : List Cm} : ∀ (cs J : List Cm), (∀ c ∈ cs, c.kind = 8) → (∀ c ∈ J, c.kind = 8 ∧ c.good = goodB xs size base c) → ∃ J', cs.foldl (addC xs size) (base ++ J) = base ++ J' ∧ ∀ c ∈ J', c.kind = 8 ∧ c.good = goodB xs size base c
  | [], J, _, hJ => ⟨J, rfl, hJ⟩
  | d :: cs, J, hc, hJ => by
    have hd := hc d (by simp)
    have hg : goodB xs size (base ++ J) d = goodB xs size base d := by
      unfold goodB
      rw [List.any_append]
      have : (J.any fun x => barsB x d) = false := by
        rw [List.any_eq_false]
        intro x hx
        have hk := (hJ x hx).1
        unfold barsB
        split
        · rw [if_neg (by omega), if_pos ⟨hd, hk⟩]; simp
        · simp
      rw [this, Bool.or_false]
    have e : addC xs size (base ++ J) d = base ++ (J ++ [{ d with good := goodB xs size base d }]) := by unfold addC; rw [hg]; simp
    rw [List.foldl_cons, e]
    refine fold_data cs _ (fun c h => hc c (by simp [h])) (fun c h => ?_)
    rw [List.mem_append, List.mem_singleton] at h
    rcases h with h | h
    · exact hJ c h
    · subst h; exact ⟨hd, rfl⟩
theorem data_good {b : List Int} {c : Cm} (hc : c ∈ claimsC b) (hk : c.kind = 8) : c.good = goodB b (headOf b).size (c5C b (headOf b)) c := by
  obtain ⟨J, h1, h2⟩ := fold_data (xs := b) (size := (headOf b).size) (base := c5C b (headOf b)) (((c5C b (headOf b)).filter (fun c => c.kind == 7 && c.good)).flatMap (fun c => tabT b 8 c.target.toNat c.place 1)) [] (fun c hc => by
    rw [List.mem_flatMap] at hc
    obtain ⟨d, _, hc⟩ := hc
    exact (tabT_kind hc).1) (by simp)
  have e : claimsC b = c5C b (headOf b) ++ J := by
    unfold claimsC
    unfold c6C
    rw [dat_fold]
    simpa using h1
  rw [e, List.mem_append] at hc
  rcases hc with hc | hc
  · obtain ⟨J3, J4, J5, J6, P⟩ := claims_parts b
    rw [P.c5, P.c4, P.c3] at hc
    simp only [List.mem_append] at hc
    rcases hc with ((hc | hc) | hc) | hc
    · have := c2_kind b c hc; omega
    · obtain ⟨d, _, h, _⟩ := P.of3 hc; omega
    · rcases P.of4 hc with h | h <;> omega
    · obtain ⟨d, _, h, _⟩ := P.of5 hc; omega
  · exact (h2 c hc).2
/-- A second table's good claims have one slot. -/
theorem second_slot {b : List Int} {x y : Cm} (hx : x ∈ claimsC b) (hy : y ∈ claimsC b) (gx : x.good = true) (gy : y.good = true) (kx : x.kind = 7) (ky : y.kind = 7) (ht : x.target = y.target) : x.slot = y.slot ∧ x.place = y.place := by
  have hs : x.slot = y.slot := by
    by_cases e : x = y
    · rw [e]
    · have key : ∀ {p q : Cm}, p.good = true → q.good = true → p.kind = 7 → q.kind = 7 → p.target = q.target → p.slot ≠ q.slot → ¬ freeC p q := by
        intro p q gp gq kp kq hpq hne hf
        rcases hf with h | h
        · unfold barsB at h
          rw [if_pos ⟨gp, hpq⟩, if_pos ⟨kq, kp⟩] at h
          simp at h
          exact hne h.2
        · rw [gq] at h; cases h
      by_cases hsl : x.slot = y.slot
      · exact hsl
      · exact absurd (pair_one (claims_free b) hx hy (key gx gy kx ky ht hsl) (key gy gx ky kx ht.symm (Ne.symm hsl))) e
  refine ⟨hs, ?_⟩
  obtain ⟨d, _, h1⟩ := claim_tab hx (.inr (.inl kx))
  obtain ⟨e, _, h2⟩ := claim_tab hy (.inr (.inl ky))
  have p1 : x.place = 8 * x.slot := by rcases h1 with h | h | h <;> omega
  have p2 : y.place = 8 * y.slot := by rcases h2 with h | h | h <;> omega
  omega
/-- The claims of one word are all good, or all loose. -/
theorem word_one {b : List Int} {x y : Cm} (hx : x ∈ claimsC b) (hy : y ∈ claimsC b) (kx : x.kind = 4 ∨ x.kind = 7 ∨ x.kind = 8) (ky : y.kind = 4 ∨ y.kind = 7 ∨ y.kind = 8) (hf : x.frm = y.frm) (hs : x.slot = y.slot) : x.good = y.good := by
  obtain ⟨d, hd, h1⟩ := claim_tab hx kx
  obtain ⟨e, he, h2⟩ := claim_tab hy ky
  have hde := good_one hd.mem he.mem hd.good he.good (by rw [← hd.frm, ← he.frm, hf])
  obtain ⟨J3, J4, J5, J6, P⟩ := claims_parts b
  have hkk : x.kind = y.kind := by rcases h1 with h1 | h1 | h1 <;> rcases h2 with h2 | h2 | h2 <;> omega
  rcases kx with kx | kx | kx
  · have p3 : J3.Pairwise otherWord := by
      refine er_other P.e3 ?_
      split
      · exact tabT_other _ _ _ _ _
      · simp
    rw [pair_one p3 (P.kind4 hx kx) (P.kind4 hy (by omega)) (fun h => h hf hs) (fun h => h hf.symm hs.symm)]
  · have p5 : J5.Pairwise otherWord := er_other P.e5 (flat_other (firsts_nodup b) (fun f hf => by
      unfold firstsC at hf
      rw [List.mem_map] at hf
      obtain ⟨d, hd, rfl⟩ := hf
      rw [List.mem_filter] at hd
      simp at hd
      have := there_lt (good_there (c4_sub b d hd.1) hd.2.1 (by rcases hd.2.2 with h | h <;> omega))
      omega))
    rw [pair_one p5 (P.kind7 hx kx) (P.kind7 hy (by omega)) (fun h => h hf hs) (fun h => h hf.symm hs.symm)]
  · rw [data_good hx kx, data_good hy (by omega)]
    have ht : x.target = y.target := by
      rw [hd.word, he.word, ← hd.frm, ← he.frm, hf, hs]
    have hp : x.place = y.place := by
      have kd : d.kind = 7 := by rcases h1 with h | h | h <;> omega
      have ke : e.kind = 7 := by rcases h2 with h | h | h <;> omega
      have := (second_slot hd.mem he.mem hd.good he.good kd ke (by rw [← hd.frm, ← he.frm, hf])).2
      rcases h1 with h | h | h <;> rcases h2 with h' | h' | h' <;> omega
    unfold goodB
    rw [ht, hp]
    congr 2
    congr 1
    funext z
    exact bars_congr ht hkk hf hs

end Go.Proofs.YtiokfhdkbpoadaaGreatDoor
