/- RolesIn and CountsIn, the model's side. -/
import Derived.Test.YtpnnbenehajipaaCnt
namespace Go.Proofs.Ytpnnbenehajipaa
open Go.RowKit

def roleStep (o : List Int) (c : Cm) : List Int := if c.good = true then o.set c.target.toNat c.kind else o
def rolesC (xs : List Int) : List Int := (claimsC xs).foldl roleStep (List.replicate (manyN xs) 0)
/-- RolesIn. -/
def rolesL (xs : List Int) : List Int := if hasHead xs = true then rolesC xs else []
/-- CountsIn. -/
def countsL (xs : List Int) : List Int := if hasHead xs = true then countsC (claimsC xs) else []
theorem role_len (l : List Cm) : ∀ o : List Int, (l.foldl roleStep o).length = o.length := by
  induction l with
  | nil => intro o; rfl
  | cons c l ih => intro o; rw [List.foldl_cons, ih]; unfold roleStep; split <;> simp
theorem rolesC_length (xs : List Int) : (rolesC xs).length = manyN xs := by unfold rolesC; rw [role_len]; simp
theorem rolesL_length {xs : List Int} : (rolesL xs).length ≤ 64 := by
  unfold rolesL; split
  · rename_i h
    rw [rolesC_length]
    exact manyN_le (hasHead_img h)
  · simp
theorem countsL_length {xs : List Int} : (countsL xs).length ≤ 64 := by
  unfold countsL; split
  · rw [counts_length]; omega
  · simp

end Go.Proofs.Ytpnnbenehajipaa