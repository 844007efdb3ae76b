/- The order of defects, and what is scanned: plain mathematics. -/
import Derived.Test.YtieknpkbmccimabGreatDoorH7
import Derived.Test.YtieknpkbmccimabGreatDoorH3
namespace Go.Proofs.YtieknpkbmccimabGreatDoor
open Go.RowKit

def dfOrder (a c : Dc) : Prop := a.kind ≤ c.kind ∨ (c.kind = 5 ∧ a.kind = 6)
theorem pairwise_parts {l l' : List Dc} (h1 : l.Pairwise dfOrder) (h2 : l'.Pairwise dfOrder) (k : Int) (h3 : ∀ a ∈ l, a.kind ≤ k) (h4 : ∀ c ∈ l', k ≤ c.kind) : (l ++ l').Pairwise dfOrder := by
  rw [List.pairwise_append]
  exact ⟨h1, h2, fun a ha c hc => .inl (by have := h3 a ha; have := h4 c hc; omega)⟩
theorem pairwise_kind {l : List Dc} (k : Int) (h : ∀ a ∈ l, a.kind = k) : l.Pairwise dfOrder := by
  rw [List.pairwise_iff_getElem]
  intro i j hi hj _
  exact .inl (by rw [h _ (List.getElem_mem hi), h _ (List.getElem_mem hj)]; exact Int.le_refl _)
theorem pairwise_two {l : List Dc} (h : ∀ a ∈ l, a.kind = 5 ∨ a.kind = 6) : l.Pairwise dfOrder := by
  rw [List.pairwise_iff_getElem]
  intro i j hi hj _
  have h1 := h _ (List.getElem_mem hi)
  have h2 := h _ (List.getElem_mem hj)
  unfold dfOrder
  omega
/-- Each defect's kind is not below the one ahead, but that too few may follow too many. -/
theorem defects_order (b : List Int) : (defectsL b).Pairwise dfOrder := by
  unfold defectsL
  split
  · split
    · have k1 : ∀ d ∈ d1L b, d.kind = 2 := by
        intro d hd
        unfold d1L at hd
        split at hd
        · rw [List.mem_singleton] at hd; subst hd; rfl
        · cases hd
      have kl : ∀ d ∈ (looseL b).map looseD, d.kind = 3 := by
        intro d hd
        rw [List.mem_map] at hd
        obtain ⟨c, _, rfl⟩ := hd
        rfl
      have p2 : (d2L b).Pairwise dfOrder := pairwise_parts (pairwise_kind 2 k1) (pairwise_kind 3 kl) 2 (fun a ha => by rw [k1 a ha]; omega) (fun c hc => by rw [kl c hc]; omega)
      have k2 : ∀ d ∈ d2L b, d.kind ≤ 3 := by
        intro d hd
        unfold d2L at hd
        rw [List.mem_append] at hd
        rcases hd with hd | hd
        · rw [k1 d hd]; omega
        · rw [kl d hd]; omega
      have p3 : (d3L b).Pairwise dfOrder ∧ ∀ d ∈ d3L b, d.kind ≤ 4 := by
        unfold d3L
        split
        · refine ⟨pairwise_parts p2 (by simp) 3 k2 (by simp), fun d hd => ?_⟩
          rw [List.mem_append, List.mem_singleton] at hd
          rcases hd with hd | rfl
          · have := k2 d hd; omega
          · simp
        · exact ⟨p2, fun d hd => by have := k2 d hd; omega⟩
      have kc := cd_kinds (storedL b) (countsC (claimsC b)) 64
      have p4 : (d4L b).Pairwise dfOrder := pairwise_parts p3.1 (pairwise_two kc) 4 p3.2 (fun c hc => by have := kc c hc; omega)
      have k4 : ∀ d ∈ d4L b, d.kind ≤ 6 := by
        intro d hd
        unfold d4L at hd
        rw [List.mem_append] at hd
        rcases hd with hd | hd
        · have := p3.2 d hd; omega
        · have := kc d hd; omega
      have ko : ∀ d ∈ (wrongsC b).map ownD, d.kind = 7 := by
        intro d hd
        rw [List.mem_map] at hd
        obtain ⟨c, _, rfl⟩ := hd
        rfl
      exact pairwise_parts p4 (pairwise_kind 7 ko) 6 k4 (fun c hc => by rw [ko c hc]; omega)
    · simp
  · simp
theorem sound_mild {b : List Int} (h : soundB b = true) : mildB b = true := by
  unfold mildB
  rw [sound_head h, sound_none h]
  rfl
/-- What is found again has a first table of its own. -/
theorem refound_law {b : List Int} (h : refoundL b ≠ []) : hasHead b = true ∧ manyN b < 64 ∧ hasHead (refoundL b) = true ∧ (headOf (refoundL b)).first = manyI b ∧ (tableL (refoundL b) (headOf (refoundL b)).first).length = 8 := by
  have hc : hasHead b = true ∧ manyN b < 64 := by
    by_cases hc : hasHead b = true ∧ manyN b < 64
    · exact hc
    · exact absurd (by unfold refoundL; rw [if_neg hc]) h
  obtain ⟨hh, hm⟩ := hc
  obtain ⟨h1, h2, h3⟩ := refound_head hh hm
  have hp := whole_pos hh
  have hmx : manyN (refoundL b) = manyN b + 1 := by unfold manyN at *; omega
  have hf : (headOf (refoundL b)).first = (manyN b : Int) := by rw [h2]
  refine ⟨hh, hm, h1, ?_, ?_⟩
  · rw [hf]; unfold manyI; rw [if_pos (hasHead_img hh)]
  · rw [tableL_in h1 (by rw [hf]; exact inB_true.2 (by omega))]
    exact cl_length _ _
theorem lost_law {b : List Int} {i : Nat} (hi : i < (lostL b).length) : 1 ≤ (lostL b)[i] ∧ (lostL b)[i] < (rolesL b).length ∧ (rolesL b).getD ((lostL b)[i]).toNat 0 = 0 ∧ secLikeB b (lostL b)[i] = true ∧ ∀ j, j < i → (hj : j < (lostL b).length) → (lostL b)[j] < (lostL b)[i] := by
  have hs := lost_in (List.getElem_mem hi)
  have h1 := sec_in hs
  refine ⟨h1.1, h1.2.1, h1.2.2, hs, fun j hji hj => ?_⟩
  have := lost_up b ((rolesL b).length - 1)
  rw [List.pairwise_iff_getElem] at this
  exact this j i hj hi hji
end Go.Proofs.YtieknpkbmccimabGreatDoor
