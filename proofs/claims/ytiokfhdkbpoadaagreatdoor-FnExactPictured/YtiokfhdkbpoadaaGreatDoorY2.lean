/- RolesIn and CountsIn, the model's side. The exact laws of chapter 7, walked, given what the program's own functions answer. The exact law of chapter 8, walked, given what the program's own function answers. The exact law of chapter 9, walked, given what the program's own function answers. Roles and counts: what holds of them, plain mathematics. -/
import Derived.Test.YtiokfhdkbpoadaaGreatDoorG7
import Derived.Test.YtiokfhdkbpoadaaGreatDoorY5
import Derived.Test.YtiokfhdkbpoadaaGreatDoorH0
namespace Go.Proofs.YtiokfhdkbpoadaaGreatDoor
open Go.RowKit

def roleStep (o : List Int) (c : Cm) : List Int := if c.good = true then o.set c.target.toNat c.kind else o
def rolesC (xs : List Int) : List Int := (claimsC xs).foldl roleStep (List.replicate (manyN xs) 0)
/-- RolesIn. -/
def rolesL (xs : List Int) : List Int := if hasHead xs = true then rolesC xs else []
/-- CountsIn. -/
def countsL (xs : List Int) : List Int := if hasHead xs = true then countsC (claimsC xs) else []
theorem role_len (l : List Cm) : ∀ o : List Int, (l.foldl roleStep o).length = o.length := by
  induction l with
  | nil => intro o; rfl
  | cons c l ih => intro o; rw [List.foldl_cons, ih]; unfold roleStep; split <;> simp
theorem rolesC_length (xs : List Int) : (rolesC xs).length = manyN xs := by unfold rolesC; rw [role_len]; simp
theorem rolesL_length {xs : List Int} : (rolesL xs).length ≤ 64 := by
  unfold rolesL; split
  · rename_i h
    rw [rolesC_length]
    exact manyN_le (hasHead_img h)
  · simp
theorem countsL_length {xs : List Int} : (countsL xs).length ≤ 64 := by
  unfold countsL; split
  · rw [counts_length]; omega
  · simp

theorem looseL_length (xs : List Int) : (looseL xs).length ≤ 1296 := by
  unfold looseL
  have h1 := List.length_filter_le (fun c : Cm => !c.good) (claimsL xs)
  have h2 := claimsL_length xs
  omega

theorem specLooseR_any (A : Option Addr) (n c : Nat) (xs : List Int) (w : World) (h : Rd w w.heap.size A n xs) (hn : n ≤ 2097152) :
    Calls Tryz.prog 78 #[.slice A n c] w (RetCms w (looseL xs)) := (specLoose_any A n c xs w h hn).mono fun _ _ h => h.toR

def LooseC : Prop := ∀ (A : Option Addr) (n c : Nat) (xs : List Int) (w : World), Rd w w.heap.size A n xs → n ≤ 2097152 → n ≤ c → Calls Tryz.prog 115 #[.slice A n c] w (RetCms w (looseL xs))

def CountsC : Prop := ∀ (A : Option Addr) (n c : Nat) (xs : List Int) (w : World), Rd w w.heap.size A n xs → n ≤ 2097152 → n ≤ c → Calls Tryz.prog 117 #[.slice A n c] w (Ret w (countsL xs))

theorem storedL_length (xs : List Int) : (storedL xs).length ≤ 64 := by
  unfold storedL
  split
  · simp [storedC]
  · simp

def StoredC : Prop := ∀ (A : Option Addr) (n c : Nat) (xs : List Int) (w : World), Rd w w.heap.size A n xs → n ≤ 2097152 → n ≤ c → Calls Tryz.prog 116 #[.slice A n c] w (Ret w (storedL xs))

theorem role_inv (M : Nat) : ∀ (l done : List Cm) (o : List Int), o.length = M → (done ++ l).Pairwise apart → (∀ x ∈ done ++ l, x.good = true → 0 ≤ x.target ∧ x.target < M) →
    (∀ x ∈ done, x.good = true → o.getD x.target.toNat 0 = x.kind) → ∀ x ∈ done ++ l, x.good = true → (l.foldl roleStep o).getD x.target.toNat 0 = x.kind
  | [], done, o, _, _, _, hd => by simpa using hd
  | c :: l, done, o, ho, hp, hb, hd => by
    have e : done ++ c :: l = (done ++ [c]) ++ l := by simp
    rw [e] at hp hb ⊢
    refine role_inv M l (done ++ [c]) (roleStep o c) ?_ hp hb ?_
    · unfold roleStep; split <;> simp [ho]
    · intro x hx hg
      have hpc := (List.pairwise_append.1 (List.pairwise_append.1 hp).1).2.2
      rw [List.mem_append, List.mem_singleton] at hx
      unfold roleStep
      by_cases hc : c.good = true
      · rw [if_pos hc, getD_set]
        have hcb := hb c (by simp) hc
        rcases hx with hx | rfl
        · have hxb := hb x (by simp [hx]) hg
          by_cases ht : c.target.toNat = x.target.toNat
          · rw [if_pos ⟨ht, by omega⟩]
            exact (hpc x hx c (by simp) hg hc (by omega)).1
          · rw [if_neg (fun h => ht h.1)]
            exact hd x hx hg
        · rw [if_pos ⟨rfl, by omega⟩]
      · rw [if_neg hc]
        rcases hx with hx | rfl
        · exact hd x hx hg
        · exact absurd hg hc
theorem role_none (j : Nat) : ∀ (l : List Cm) (o : List Int), (∀ x ∈ l, x.good = true → x.target.toNat ≠ j) → (l.foldl roleStep o).getD j 0 = o.getD j 0
  | [], _, _ => rfl
  | c :: l, o, h => by
    rw [List.foldl_cons, role_none j l (roleStep o c) (fun x hx => h x (by simp [hx]))]
    unfold roleStep
    split
    · rename_i hc
      rw [getD_set, if_neg (fun e => h c (by simp) hc e.1)]
    · rfl
theorem cnt_sum (j : Nat) : ∀ (l : List Cm) (o : List Int), j < o.length → (l.foldl cntStep o).getD j 0 = o.getD j 0 + ((l.filter (fun x => x.good && decide (x.target.toNat = j))).length : Int)
  | [], _, _ => by simp
  | c :: l, o, h => by
    rw [List.foldl_cons, cnt_sum j l (cntStep o c) (by unfold cntStep; split <;> simpa using h)]
    unfold cntStep
    by_cases hc : c.good = true
    · rw [if_pos hc, getD_set]
      by_cases ht : c.target.toNat = j
      · rw [if_pos ⟨ht, by omega⟩, List.filter_cons_of_pos (by simp [hc, ht]), List.length_cons, ht]
        omega
      · rw [if_neg (fun e => ht e.1), List.filter_cons_of_neg (by simp [ht])]
    · rw [if_neg hc, List.filter_cons_of_neg (by simp [hc])]

/-- A good claim's role stands at its target. -/
theorem role_at {xs : List Int} {x : Cm} (hx : x ∈ claimsL xs) (hg : x.good = true) : 0 ≤ x.target ∧ x.target < (rolesL xs).length ∧ (rolesL xs).getD x.target.toNat 0 = x.kind := by
  cases hh : hasHead xs
  · unfold claimsL at hx; rw [hh] at hx; simp at hx
  · unfold claimsL at hx
    rw [if_pos hh] at hx
    have hb := good_target hh hx hg
    have e : rolesL xs = rolesC xs := by unfold rolesL; rw [if_pos hh]
    rw [e, rolesC_length]
    refine ⟨hb.1, by omega, ?_⟩
    exact role_inv (manyN xs) (claimsC xs) [] (List.replicate (manyN xs) 0) (by simp) (by simpa using claims_pair xs) (fun y hy hg => good_target hh (by simpa using hy) hg) (by simp) x (by simpa using hx) hg
/-- What has a count has a role. -/
theorem count_role {xs : List Int} {j : Nat} (hj : j < (countsL xs).length) : decide (0 < (countsL xs).getD j 0) = (decide (j < (rolesL xs).length) && ((rolesL xs).getD j 0 != 0)) := by
  cases hh : hasHead xs
  · unfold countsL at hj; rw [hh] at hj; simp at hj
  · have e1 : countsL xs = countsC (claimsC xs) := by unfold countsL; rw [if_pos hh]
    have e2 : rolesL xs = rolesC xs := by unfold rolesL; rw [if_pos hh]
    rw [e1, counts_length] at hj
    have hs : (countsL xs).getD j 0 = ((claimsC xs).filter (fun x => x.good && decide (x.target.toNat = j))).length := by
      rw [e1]
      unfold countsC
      rw [cnt_sum j _ _ (by simpa using hj), zeros_get]
      omega
    rw [hs]
    by_cases hex : ∃ x ∈ claimsC xs, x.good = true ∧ x.target.toNat = j
    · obtain ⟨x, hx, hg, ht⟩ := hex
      have hm : x ∈ claimsL xs := by unfold claimsL; rw [if_pos hh]; exact hx
      obtain ⟨r0, r1, r2⟩ := role_at hm hg
      have hk := (claims_ok xs x hx).kind0
      have hpos : 0 < ((claimsC xs).filter (fun x => x.good && decide (x.target.toNat = j))).length := List.length_pos_of_mem (List.mem_filter.2 ⟨hx, by simp [hg, ht]⟩)
      have h1 : decide ((0 : Int) < (((claimsC xs).filter (fun x => x.good && decide (x.target.toNat = j))).length : Nat)) = true := by simpa using hpos
      have h2 : ((rolesL xs).getD j 0 != 0) = true := by rw [← ht, r2]; simp; omega
      have h3 : decide (j < (rolesL xs).length) = true := by simp; omega
      rw [h1, h2, h3]
      rfl
    · have hf : (claimsC xs).filter (fun x => x.good && decide (x.target.toNat = j)) = [] := by
        rw [List.filter_eq_nil_iff]
        intro x hx h
        simp at h
        exact hex ⟨x, hx, h.1, h.2⟩
      have hr : (rolesL xs).getD j 0 = 0 := by
        rw [e2]
        unfold rolesC
        rw [role_none j _ _ (fun x hx hg ht => hex ⟨x, hx, hg, ht⟩), zeros_get]
      rw [hf, hr]
      simp
theorem good_loose (l : List Cm) : (l.filter (fun c => c.good)).length + (l.filter (fun c => !c.good)).length = l.length := by
  induction l with
  | nil => rfl
  | cons c l ih =>
    cases hc : c.good
    · rw [List.filter_cons_of_neg (by simp [hc]), List.filter_cons_of_pos (by simp [hc]), List.length_cons, List.length_cons]; omega
    · rw [List.filter_cons_of_pos (by simp [hc]), List.filter_cons_of_neg (by simp [hc]), List.length_cons, List.length_cons]; omega

end Go.Proofs.YtiokfhdkbpoadaaGreatDoor
