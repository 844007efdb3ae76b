/- Defects: counts that are wrong (l11Counts), the model's side. All defects (DefectsIn), Sound, the model's side. Sound; counting anew (chapter 14): a new cluster (l14More), whether it is ready (l14Ready), which block lacks (l14Lacks): the model's side. What is done behind a change (l17Done): the model's side. What is known of a sound image: plain mathematics. -/
import Derived.Test.YtibokhkohanoaaaGreatQ1
import Derived.Deep.Cut
import Derived.Test.YtibokhkohanoaaaGreatG3
import Derived.Test.YtibokhkohanoaaaGreatFla
import Derived.Test.YtibokhkohanoaaaGreatX3
import Derived.Test.YtibokhkohanoaaaGreatH0
namespace Go.Proofs.YtibokhkohanoaaaGreat
open Go.RowKit

structure Dc where
  kind : Int
  a : Int
  b : Int
deriving DecidableEq
def dcV (x : Dc) : List Value := [.int .i64 x.kind, .int .i64 x.a, .int .i64 x.b]
theorem dcV_length (x : Dc) : (dcV x).length = 3 := rfl
def dc0 : Dc := ⟨0, 0, 0⟩
def cdStep (st ct : List Int) (o : List Dc) (c : Nat) : List Dc :=
  if st.getD c 0 < ct.getD c 0 then o ++ [⟨5, c, st.getD c 0⟩] else (if ct.getD c 0 < st.getD c 0 then o ++ [⟨6, c, st.getD c 0⟩] else o)
def cntDefs (st ct : List Int) : List Dc := (List.range 64).foldl (cdStep st ct) []
theorem cdStep_length (st ct : List Int) (o : List Dc) (c : Nat) : (cdStep st ct o c).length ≤ o.length + 1 := by
  unfold cdStep; split
  · simp
  · split <;> simp
theorem storedC_length (xs bs : List Int) : (storedC xs bs).length = 64 := by simp [storedC]

def looseD (c : Cm) : Dc := ⟨3, c.kind, c.target⟩
def ownD (x : Wr) : Dc := ⟨7, x.frm, x.slot⟩
def d1L (xs : List Int) : List Dc := if xs.length % 8 ≠ 0 then [⟨2, xs.length, 0⟩] else []
def d2L (xs : List Int) : List Dc := d1L xs ++ (looseL xs).map looseD
def d3L (xs : List Int) : List Dc := if (headOf xs).many = 0 ∧ (headOf xs).shots ≠ 0 then d2L xs ++ [⟨4, (headOf xs).shots, 0⟩] else d2L xs
def d4L (xs : List Int) : List Dc := d3L xs ++ cntDefs (storedL xs) (countsC (claimsC xs))
def d5L (xs : List Int) : List Dc := d4L xs ++ (wrongsC xs).map ownD
def defectsL (xs : List Int) : List Dc := if imgB xs = true then (if hasHead xs = true then d5L xs else [⟨1, 0, 0⟩]) else []
def soundB (xs : List Int) : Bool := imgB xs && decide ((defectsL xs).length = 0)

theorem cntDefs_length (st ct : List Int) : (cntDefs st ct).length ≤ 64 := by
  unfold cntDefs
  have h1 := foldl_length (cdStep st ct) 1 (cdStep_length st ct) (List.range 64) []
  simp at h1
  omega
theorem map_step {α : Type} (f : α → Dc) (l : List α) (k : Nat) (hk : k < l.length) (o : List Dc) : o ++ (l.take (k + 1)).map f = (o ++ (l.take k).map f) ++ [f l[k]] := by
  rw [List.take_succ_eq_append_getElem hk, List.map_append, List.append_assoc]; rfl
theorem dc_one (x : Dc) : ∀ u ∈ dcV x, u.oneCell' = true := by simp [dcV, Value.oneCell']
theorem dcs_one (l : List Dc) : ∀ u ∈ l.flatMap dcV, u.oneCell' = true := by
  intro u hu
  rw [List.mem_flatMap] at hu
  obtain ⟨x, _, hx⟩ := hu
  exact dc_one x u hx

def doneL (xs : List Int) : List Int := if (countedL xs).length = 0 then [] else ownedC (countedL xs)

theorem sound_img {xs : List Int} (h : soundB xs = true) : imgB xs = true := by unfold soundB at h; rw [Bool.and_eq_true] at h; exact h.1
theorem sound_none {xs : List Int} (h : soundB xs = true) : defectsL xs = [] := by
  unfold soundB at h
  rw [Bool.and_eq_true, decide_eq_true_eq] at h
  exact List.eq_nil_of_length_eq_zero h.2
theorem sound_head {xs : List Int} (h : soundB xs = true) : hasHead xs = true := by
  have hn := sound_none h
  unfold defectsL at hn
  rw [sound_img h, if_pos rfl] at hn
  split at hn
  · assumption
  · cases hn
theorem sound_d5 {xs : List Int} (h : soundB xs = true) : d5L xs = [] := by
  have hn := sound_none h
  unfold defectsL at hn
  rw [sound_img h, if_pos rfl, sound_head h, if_pos rfl] at hn
  exact hn
theorem sound_parts {xs : List Int} (h : soundB xs = true) : xs.length % 8 = 0 ∧ looseL xs = [] ∧ wrongsC xs = [] := by
  have h5 := sound_d5 h
  unfold d5L at h5
  rw [List.append_eq_nil_iff] at h5
  obtain ⟨h4, hw⟩ := h5
  unfold d4L at h4
  rw [List.append_eq_nil_iff] at h4
  obtain ⟨h3, _⟩ := h4
  have h2 : d2L xs = [] := by
    unfold d3L at h3
    split at h3
    · rw [List.append_eq_nil_iff] at h3; exact h3.1
    · exact h3
  unfold d2L at h2
  rw [List.append_eq_nil_iff] at h2
  obtain ⟨h1, hl⟩ := h2
  refine ⟨?_, by simpa using hl, by simpa using hw⟩
  unfold d1L at h1
  split at h1
  · cases h1
  · omega
theorem sound_good {xs : List Int} (h : soundB xs = true) {c : Cm} (hc : c ∈ claimsC xs) : c.good = true := by
  have hl := (sound_parts h).2.1
  unfold looseL claimsL at hl
  rw [sound_head h, if_pos rfl] at hl
  cases hg : c.good
  · have : c ∈ (claimsC xs).filter (fun c => !c.good) := by rw [List.mem_filter]; exact ⟨hc, by simp [hg]⟩
    rw [hl] at this
    cases this
  · rfl

theorem sound_first {xs : List Int} (h : soundB xs = true) : thereB xs (headOf xs).first = true ∧ (headOf xs).first ∈ firstsC (c4C xs (headOf xs)) := by
  have hm := first_claim xs
  have hg := sound_good h ((c6_prefix xs _).subset ((c5_prefix xs _).subset hm))
  simp only at hg
  refine ⟨goodB_there hg, ?_⟩
  unfold firstsC
  rw [List.mem_map]
  refine ⟨_, List.mem_filter.2 ⟨hm, ?_⟩, rfl⟩
  simp [hg]
theorem firstEntry_sound {xs : List Int} (h : soundB xs = true) (s : Nat) (hs : s < 8) : firstEntry xs 0 s = (cl xs (headOf xs).first.toNat).getD s 0 := by
  have hh := sound_head h
  have hf := (sound_first h).1
  have e : tableL xs (firstOf xs 0) = cl xs (headOf xs).first.toNat := by rw [firstOf_zero hh, tableL_in hh hf]
  unfold firstEntry
  rw [e, cl_length, if_pos (inB_true.2 (by omega))]
  simp
theorem entryAt_sound {xs : List Int} (h : soundB xs = true) (g : Nat) (hg : (g : Int) < (headOf xs).size) : entryAt xs 0 g = (tableL xs (targetOf (firstEntry xs 0 ((g / 8 : Nat) : Int)))).getD (g % 8) 0 := by
  rw [entryAt_in (sound_head h) (inB_true.2 (by omega)), show ((g : Int) / 8) = ((g / 8 : Nat) : Int) by omega, show ((g : Int) % 8).toNat = g % 8 by omega]
/-- An entry of the disk leads to a cluster that is there. -/
theorem sound_entry {xs : List Int} (h : soundB xs = true) (g : Nat) (hg : (g : Int) < (headOf xs).size) (ht : targetOf (entryAt xs 0 g) ≠ 0) : thereB xs (targetOf (entryAt xs 0 g)) = true := by
  have hh := sound_head h
  have hsz := headB_all (hasHead_ok hh)
  have hg8 : g / 8 < 8 := by omega
  rw [entryAt_sound h g hg] at ht ⊢
  have hfe := firstEntry_sound h (g / 8) hg8
  generalize firstEntry xs 0 ((g / 8 : Nat) : Int) = e1 at *
  cases hth : thereB xs (targetOf e1)
  · rw [tableL_out hth] at ht
    exact absurd rfl ht
  · rw [tableL_in hh hth] at ht ⊢
    have htl := there_lt hth
    obtain ⟨c, hc, hk, _, _, _, htc⟩ := second_claim (sound_first h).2 (g / 8) hg8 (by rw [← hfe]; omega)
    rw [← hfe] at htc
    have hcg := sound_good h ((c6_prefix xs _).subset hc)
    rw [← htc] at ht ⊢
    obtain ⟨d, hd, hdk, _, _, hdt⟩ := data_claim hc hk hcg (g % 8) (by omega) ht
    have hdg := sound_good h hd
    rcases (claims_ok xs d hd).lead hdg with h1 | h1
    · omega
    · rw [hdt] at h1; exact h1

end Go.Proofs.YtibokhkohanoaaaGreat
