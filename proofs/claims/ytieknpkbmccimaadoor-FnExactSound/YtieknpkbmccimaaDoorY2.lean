/- RolesIn and CountsIn, the model's side. The exact laws of chapter 7, walked, given what the program's own functions answer. The exact law of chapter 8, walked, given what the program's own function answers. The exact law of chapter 9, walked, given what the program's own function answers. -/
import Derived.Test.YtieknpkbmccimaaDoorG7
import Derived.Test.YtieknpkbmccimaaDoorY5
namespace Go.Proofs.YtieknpkbmccimaaDoor
open Go.RowKit

def roleStep (o : List Int) (c : Cm) : List Int := if c.good = true then o.set c.target.toNat c.kind else o
def rolesC (xs : List Int) : List Int := (claimsC xs).foldl roleStep (List.replicate (manyN xs) 0)
/-- RolesIn. -/
def rolesL (xs : List Int) : List Int := if hasHead xs = true then rolesC xs else []
/-- CountsIn. -/
def countsL (xs : List Int) : List Int := if hasHead xs = true then countsC (claimsC xs) else []
theorem role_len (l : List Cm) : ∀ o : List Int, (l.foldl roleStep o).length = o.length := by
  induction l with
  | nil => intro o; rfl
  | cons c l ih => intro o; rw [List.foldl_cons, ih]; unfold roleStep; split <;> simp
theorem rolesC_length (xs : List Int) : (rolesC xs).length = manyN xs := by unfold rolesC; rw [role_len]; simp
theorem rolesL_length {xs : List Int} : (rolesL xs).length ≤ 64 := by
  unfold rolesL; split
  · rename_i h
    rw [rolesC_length]
    exact manyN_le (hasHead_img h)
  · simp
theorem countsL_length {xs : List Int} : (countsL xs).length ≤ 64 := by
  unfold countsL; split
  · rw [counts_length]; omega
  · simp

theorem looseL_length (xs : List Int) : (looseL xs).length ≤ 1296 := by
  unfold looseL
  have h1 := List.length_filter_le (fun c : Cm => !c.good) (claimsL xs)
  have h2 := claimsL_length xs
  omega

theorem specLooseR_any (A : Option Addr) (n c : Nat) (xs : List Int) (w : World) (h : Rd w w.heap.size A n xs) (hn : n ≤ 2097152) :
    Calls Tryd.prog 13 #[.slice A n c] w (RetCms w (looseL xs)) := (specLoose_any A n c xs w h hn).mono fun _ _ h => h.toR

def LooseC : Prop := ∀ (A : Option Addr) (n c : Nat) (xs : List Int) (w : World), Rd w w.heap.size A n xs → n ≤ 2097152 → n ≤ c → Calls Tryd.prog 40 #[.slice A n c] w (RetCms w (looseL xs))

def CountsC : Prop := ∀ (A : Option Addr) (n c : Nat) (xs : List Int) (w : World), Rd w w.heap.size A n xs → n ≤ 2097152 → n ≤ c → Calls Tryd.prog 42 #[.slice A n c] w (Ret w (countsL xs))

theorem storedL_length (xs : List Int) : (storedL xs).length ≤ 64 := by
  unfold storedL
  split
  · simp [storedC]
  · simp

def StoredC : Prop := ∀ (A : Option Addr) (n c : Nat) (xs : List Int) (w : World), Rd w w.heap.size A n xs → n ≤ 2097152 → n ≤ c → Calls Tryd.prog 41 #[.slice A n c] w (Ret w (storedL xs))

end Go.Proofs.YtieknpkbmccimaaDoor
