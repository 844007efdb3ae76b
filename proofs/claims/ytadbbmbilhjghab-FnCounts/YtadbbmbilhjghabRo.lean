/- RolesIn and CountsIn, the model's side. -/
import Derived.Test.YtadbbmbilhjghabCnt
namespace Go.Proofs.Ytadbbmbilhjghab
open Go.RowKit

def roleStep (o : List Int) (c : Cm) : List Int := if c.good = true then o.set c.target.toNat c.kind else o
def rolesC (xs : List Int) : List Int := (claimsC xs).foldl roleStep (List.replicate (manyN xs) 0)
/-- RolesIn. -/
def rolesL (xs : List Int) : List Int := if hasHead xs = true then rolesC xs else []
/-- CountsIn. -/
def countsL (xs : List Int) : List Int := if hasHead xs = true then countsC (claimsC xs) else []
theorem role_len (l : List Cm) : ∀ o : List Int, (l.foldl roleStep o).length = o.length := by
  induction l with
  | nil => intro o; rfl
  | cons c l ih => intro o; rw [List.foldl_cons, ih]; unfold roleStep; split <;> simp
theorem rolesC_length (xs : List Int) : (rolesC xs).length = manyN xs := by unfold rolesC; rw [role_len]; simp
theorem rolesL_length {xs : List Int} : (rolesL xs).length ≤ 64 := by
  unfold rolesL; split
  · rename_i h
    rw [rolesC_length]
    exact manyN_le (hasHead_img h)
  · simp
theorem countsL_length {xs : List Int} : (countsL xs).length ≤ 64 := by
  unfold countsL; split
  · rw [counts_length]; omega
  · simp

set_option maxHeartbeats 1000000 in
theorem specCountsIn_any (A : Option Addr) (n c : Nat) (xs : List Int) (w : World) (h : Rd w w.heap.size A n xs) (hn : n ≤ 2097152) :
    Calls Try.prog 8 #[.slice A n c] w (Ret w (countsL xs)) := by
  go_enter Try.func8, Try.ntmps8
  go_wp2_with fail
  refine (specHeadIn_any _ _ _ xs _ h hn).mono ?_
  rintro e w1 ⟨rfl, b1⟩
  generalize hr : headIn xs = r
  obtain ⟨⟨s, f, r, u, m⟩, is⟩ := r
  have HR := Lib.hid hr
  clear hr
  unfold hdV
  have b2 := b1.alloc b1.size (.cells #[.int .i64 s, .int .i64 f, .int .i64 r, .int .i64 u, .int .i64 m] 32)
  cases is
  · have HN : Hid (countsL xs = []) := by unfold countsL; rw [(headIn_false HR.out).1]; exact rfl
    go_wp2_with fail
    go_ret
    rw [HN.out]
    exact Ret.emptyAt _ (by simp) b2
  · have HN : Hid (countsL xs = countsC (claimsC xs)) := by unfold countsL; rw [(headIn_true HR.out).1]; exact rfl
    go_wp2_with fail
    refine (specCounts_any A n c xs _ ((h.below b2).more b2.size) hn (headIn_true HR.out).1).mono ?_
    rintro e w3 ⟨g, ng, cg, rfl, _, oG, b3⟩
    go_wp2_with fail
    go_ret
    rw [HN.out]
    exact ⟨_, ng, cg, rfl, oG.more b2.size (Nat.le_refl _), below_more b2 b3 b2.size⟩

end Go.Proofs.Ytadbbmbilhjghab