/- The law FnWords, walked. -/
import Derived.Test.YtiokfhdkbpoadabGreatDoorG6
import Derived.Test.YtiokfhdkbpoadabGreatDoorQ7
namespace Go.Proofs.YtiokfhdkbpoadabGreatDoor
open Go.RowKit

/-- What a written image is, in one place. -/
structure WithFacts (xs : List Int) (at_ : Int) (ws ys : List Int) (m : Nat) : Prop where
  many : manyI xs = m
  lo : 0 ≤ at_
  hi : at_ ≤ m
  eight : ys.length % 8 = 0
  cnt : manyI ys = if at_ = m then (m : Int) + 1 else m
  same : clusterL ys at_ = ws
  other : ∀ k : Nat, k < m → (k : Int) ≠ at_ → clusterL ys k = clusterL xs k

theorem cl_set_same {zs ws : List Int} {a : Nat} (ha : a * 8 ≤ zs.length) (hw : ws.length = 8) : cl (setCl zs a ws) a = ws := by
  refine List.ext_getElem? fun j => ?_
  by_cases hj : j < 8
  · have h1 := cl_word_get (setCl zs a ws) a j hj
    rw [setCl_get ha hw, if_pos (by omega), show a * 8 + j - a * 8 = j by omega] at h1
    have e1 : (cl (setCl zs a ws) a)[j]? = some ((cl (setCl zs a ws) a).getD j 0) := by
      rw [List.getD_eq_getElem?_getD, List.getElem?_eq_getElem (by rw [cl_length]; exact hj)]; rfl
    have e2 : ws[j]? = some (ws.getD j 0) := by
      rw [List.getD_eq_getElem?_getD, List.getElem?_eq_getElem (by omega)]; rfl
    rw [e1, e2, h1]
  · rw [List.getElem?_eq_none (by rw [cl_length]; omega), List.getElem?_eq_none (by omega)]
theorem cl_set_other {zs ws : List Int} {a k : Nat} (ha : a * 8 ≤ zs.length) (hw : ws.length = 8) (hk : k ≠ a) : cl (setCl zs a ws) k = cl zs k := by
  unfold cl f8
  refine List.map_congr_left fun j hj => ?_
  have hj' := List.mem_range.1 hj
  rw [setCl_get ha hw, if_neg (by omega)]

theorem with_facts {xs : List Int} {at_ : Int} {ws : List Int} (h : (withL xs at_ ws).length ≠ 0) : WithFacts xs at_ ws (withL xs at_ ws) (manyN xs) := by
  unfold withL at *
  split at h
  · rename_i hb
    rw [if_pos hb]
    simp [withB] at hb
    obtain ⟨h1, h2, h3, h4⟩ := hb
    obtain ⟨h5, h6⟩ := inB_true.1 h3
    obtain ⟨a, rfl⟩ := Int.eq_ofNat_of_zero_le h5
    rw [Int.toNat_natCast]
    have h8 := eightB_len h2
    have hwl := whole_length xs
    have hM := manyN_le h1
    have hlen := setCl_long (whole xs) (manyN xs) a ws hwl h8 (by omega)
    have hw : ∀ x ∈ ws, wordB x = true := by
      intro x hx
      have := h2
      unfold eightB at this
      rw [Bool.and_eq_true] at this
      exact List.all_eq_true.1 this.2 x hx
    have hl512 : (setCl (whole xs) a ws).length ≤ 512 := by rw [hlen]; split <;> omega
    have himg := setCl_img (a := a) (img_whole h1) hw hl512
    have hmany : manyN (setCl (whole xs) a ws) = if a = manyN xs then manyN xs + 1 else manyN xs := by
      show ((setCl (whole xs) a ws).length + 7) / 8 = _
      rw [hlen]; split <;> omega
    refine ⟨by unfold manyI; rw [if_pos h1], h5, h6, by rw [hlen]; omega, ?_, ?_, ?_⟩
    · unfold manyI
      rw [if_pos himg, hmany]
      split <;> rename_i e
      · rw [if_pos (by omega)]; omega
      · rw [if_neg (by omega)]
    · unfold clusterL
      rw [if_pos ⟨himg, inB_true.2 ⟨h5, by rw [hmany]; split <;> omega⟩⟩, Int.toNat_natCast]
      exact cl_set_same (by omega) h8
    · intro k hk hne
      unfold clusterL
      rw [if_pos ⟨himg, inB_true.2 ⟨by omega, by rw [hmany]; split <;> omega⟩⟩, if_pos ⟨h1, inB_true.2 ⟨by omega, by omega⟩⟩, Int.toNat_natCast, cl_set_other (by omega) h8 (by omega), cl_whole]
  · exact absurd rfl h

theorem withL_short (xs : List Int) (at_ : Int) (ws : List Int) : (withL xs at_ ws).length ≤ 600 := by
  unfold withL
  split
  · rename_i hb
    simp [withB] at hb
    obtain ⟨h1, h2, h3, h4⟩ := hb
    obtain ⟨h5, h6⟩ := inB_true.1 h3
    have hM := manyN_le h1
    rw [setCl_long (whole xs) (manyN xs) at_.toNat ws (whole_length xs) (eightB_len h2) (by omega)]
    split <;> omega
  · simp
theorem clusterL_short (xs : List Int) (k : Int) : (clusterL xs k).length ≤ 8 := by
  unfold clusterL
  split
  · rw [cl_length]; omega
  · simp

end Go.Proofs.YtiokfhdkbpoadabGreatDoor
