/- Counting anew: which block lacks (l14Lacks), all that are needed (l14Blocks): the model's side. -/
import Derived.Test.YtkhinppphmfniaaRf
namespace Go.Proofs.Ytkhinppphmfniaa
open Go.RowKit

def lackAt (ct bs : List Int) (c : Nat) : Bool := decide (ct.getD c 0 ≠ 0) && decide (bs.getD (c / 8) 0 = 0)
def lacksC (ct bs : List Int) : Int := match (List.range 64).find? (lackAt ct bs) with
  | some c => ((c / 8 : Nat) : Int)
  | none => -1
def lacksL (xs : List Int) : Int := lacksC (countsC (claimsC xs)) (blocksC (claimsC xs))

theorem find_range {p : Nat → Bool} {n k : Nat} (hk : k < n) (h : (List.range k).find? p = none) (hp : p k = true) : (List.range n).find? p = some k := by
  have e : List.range n = List.range k ++ (List.range (n - k)).map (k + ·) := by
    rw [← List.range_add]; congr 1; omega
  rw [e, List.find?_append, h]
  have : List.range (n - k) = 0 :: (List.range (n - k - 1)).map (· + 1) := by
    rw [show n - k = (n - k - 1) + 1 by omega, List.range_succ_eq_map]; rfl
  rw [this]
  simp [hp]
theorem find_range_no {p : Nat → Bool} {k : Nat} (h : (List.range k).find? p = none) (hp : p k = false) : (List.range (k + 1)).find? p = none := by
  rw [List.range_succ, List.find?_append, h]; simp [hp]
theorem lacks_bound (ct bs : List Int) : lacksC ct bs < 0 ∨ (0 ≤ lacksC ct bs ∧ lacksC ct bs ≤ 7) := by
  unfold lacksC
  split
  · rename_i c hc
    have := List.mem_of_find?_eq_some hc
    rw [List.mem_range] at this
    right; omega
  · left; omega

set_option maxRecDepth 100000 in
set_option maxHeartbeats 4000000 in
theorem specLacks_any (A : Option Addr) (n cb : Nat) (xs : List Int) (w : World) (hr : Rd w w.heap.size A n xs) (hn : n ≤ 2097152) (hh : hasHead xs = true) :
    Calls Try.prog 83 #[.slice A n cb] w (RetI w (lacksL xs)) := by
  have HH := Lib.hid hh
  clear hh
  have HLK : Hid (lacksL xs = lacksC (countsC (claimsC xs)) (blocksC (claimsC xs))) := rfl
  go_enter Try.func83, Try.ntmps83
  go_wp2_with fail
  refine (specCounts_any A n cb xs w hr hn HH.out).mono ?_
  rintro e w1 ⟨gc, nc, c1, rfl, _, oc, b1⟩
  obtain rfl : 64 = nc := by have := oc.len; rw [counts_length] at this; exact this
  go_wp2_with fail
  refine (specBlocks_any A n cb xs w1 ((hr.below b1).more b1.size) hn HH.out).mono ?_
  rintro e w2 ⟨gb, nb, c2, rfl, _, ob, b2⟩
  obtain rfl : 8 = nb := by have := ob.len; rw [blocks_length] at this; exact this
  have oc2 := oc.below b2 (Nat.le_refl _)
  have b02 := below_more b1 b2 b1.size
  have HCC := Lib.hid (fun (j : Nat) (hj : j < 64) => oc2.cell hj)
  have HCB := Lib.hid (fun (j : Nat) (hj : j < 8) => ob.cell hj)
  clear oc oc2 ob b1 b2
  generalize countsC (claimsC xs) = ct at *
  generalize blocksC (claimsC xs) = bs at *
  go_wp2_with fail
  go_loop [5] (fun i => ∃ k : Nat, k ≤ 64 ∧ i = .int .i64 k ∧ (List.range k).find? (lackAt ct bs) = none) (fun i => 64 - (intOf i).toNat)
  case atStart => exact ⟨0, by omega, rfl, rfl⟩
  case round =>
    obtain ⟨k, hk, rfl, hf⟩ := hrel
    have HF := Lib.hid hf
    clear hf
    by_cases hlt : k < 64
    · have hcc := HCC.out k hlt
      have hcb := HCB.out (k / 8) (by omega)
      have HYes := Lib.hid (find_range hlt HF.out)
      have HNo := Lib.hid (find_range_no HF.out)
      have HP : Hid (lackAt ct bs k = (decide (ct.getD k 0 ≠ 0) && decide (bs.getD (k / 8) 0 = 0))) := rfl
      generalize ct.getD k 0 = x at *
      generalize bs.getD (k / 8) 0 = y at *
      by_cases h0 : x = 0
      · have d1 : (x != 0) = false := by simp [h0]
        have HE := Lib.hid (HNo.out (by rw [HP.out]; simp [h0]))
        clear HYes HNo HP h0
        go_wp2_with fail
        go_round
        case rel => exact ⟨k + 1, by omega, by go_num, HE.out⟩
        case measure => simp [intOf]; omega
      · have d1 : (x != 0) = true := by simpa using h0
        by_cases h1 : y = 0
        · have d2 : (y == 0) = true := by simpa using h1
          have HE : Hid (lacksL xs = ((k / 8 : Nat) : Int)) := by
            rw [HLK.out]; unfold lacksC; rw [HYes.out (by rw [HP.out]; simp [h0, h1])]; exact rfl
          clear HYes HNo HP h0 h1
          go_wp2_with fail
          go_ret
          exact RetI.mk (by rw [HE.out]; omega) b02
        · have d2 : (y == 0) = false := by simpa using h1
          have HE := Lib.hid (HNo.out (by rw [HP.out]; simp [h1]))
          clear HYes HNo HP h0 h1
          go_wp2_with fail
          go_round
          case rel => exact ⟨k + 1, by omega, by go_num, HE.out⟩
          case measure => simp [intOf]; omega
    · obtain rfl : k = 64 := by omega
      have HE : Hid (lacksL xs = -1) := by rw [HLK.out]; unfold lacksC; rw [HF.out]; exact rfl
      go_wp2_with fail
      go_ret
      exact RetI.mk HE.out.symm b02

/-- One block more. -/
def blockStep (refs : Nat) (xs : List Int) : List Int := (moreL xs (List.replicate 8 0)).set (refs * 8 + (lacksL xs).toNat) (manyN xs)
/-- All blocks that are needed; none for want of room. -/
def fixBlocks (refs : Nat) : Nat → List Int → Option (List Int)
  | 0, xs => if lacksL xs < 0 then some xs else none
  | k + 1, xs => if lacksL xs < 0 then some xs else (if 64 ≤ manyN xs then none else fixBlocks refs k (blockStep refs xs))
def blocksL (xs : List Int) : Option (List Int) := fixBlocks (headOf xs).refs.toNat 64 xs
theorem fix_done {refs : Nat} {xs : List Int} (h : lacksL xs < 0) : ∀ k, fixBlocks refs k xs = some xs
  | 0 => by simp [fixBlocks, h]
  | k + 1 => by simp [fixBlocks, h]
theorem fix_none {refs : Nat} {xs : List Int} (h : ¬ lacksL xs < 0) (h2 : 64 ≤ manyN xs) : ∀ k, fixBlocks refs k xs = none
  | 0 => by simp [fixBlocks, h]
  | k + 1 => by simp [fixBlocks, h, h2]
theorem fix_step {refs : Nat} {xs : List Int} (h : ¬ lacksL xs < 0) (h2 : manyN xs < 64) (k : Nat) : fixBlocks refs (k + 1) xs = fixBlocks refs k (blockStep refs xs) := by
  simp [fixBlocks, h]; omega
theorem block_head {refs : Nat} {xs : List Int} (h : hasHead xs = true) (hm : manyN xs < 64) (hr : 1 ≤ refs) : hasHead (blockStep refs xs) = true ∧ headOf (blockStep refs xs) = headOf xs := by
  obtain ⟨h1, h2⟩ := more_head h zeros8 hm
  obtain ⟨h3, h4⟩ := set_head (j := refs * 8 + (lacksL xs).toNat) (x := (manyN xs : Int)) h1 (by omega) (inB_true.2 (by omega))
  exact ⟨h3, h4.trans h2⟩
theorem block_many {refs : Nat} {xs : List Int} : manyN (blockStep refs xs) = manyN xs + 1 := by
  unfold blockStep; rw [set_many, more_many _ _ (by simp)]

end Go.Proofs.Ytkhinppphmfniaa
