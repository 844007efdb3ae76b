/- The words of a table as they must be, as the program tells them. Plain mathematics. -/
import Derived.Test.YtieknpkbmccimaaDfq
namespace Go.Proofs.Ytieknpkbmccimaa
open Go.RowKit

/-- The word of a slot of a table, as it must be. -/
def rtW (xs : List Int) (loose : List Cm) (counts : List Int) (to : Cm) (i : Nat) : Int :=
  if standB loose to.target i = true then (cl xs to.target.toNat).getD i 0 else wordMust ((cl xs to.target.toNat).getD i 0) to.kind counts
/-- All of them. -/
def rtL (xs : List Int) (loose : List Cm) (counts : List Int) (to : Cm) : List Int := f8 (rtW xs loose counts to)
/-- The first k are as they must be. -/
def rtTo (xs : List Int) (loose : List Cm) (counts : List Int) (to : Cm) (k : Nat) : List Int := f8 fun i => if i < k then rtW xs loose counts to i else (cl xs to.target.toNat).getD i 0

section
variable (xs : List Int) (loose : List Cm) (counts : List Int) (to : Cm)
theorem rtL_length : (rtL xs loose counts to).length = 8 := f8_length _
theorem rtL_get (i : Nat) (h : i < 8) : (rtL xs loose counts to).getD i 0 = rtW xs loose counts to i := f8_get _ i h
theorem rtTo_zero : rtTo xs loose counts to 0 = cl xs to.target.toNat := by
  unfold rtTo
  conv => rhs; unfold cl
  exact f8_congr fun j hj => by rw [if_neg (by omega), cl_word_get _ _ _ hj]
theorem rtTo_eight : rtTo xs loose counts to 8 = rtL xs loose counts to := f8_congr fun j hj => by rw [if_pos hj]
theorem rtTo_get (k i : Nat) (h : i < 8) (hk : k ≤ i) : (rtTo xs loose counts to k).getD i 0 = (cl xs to.target.toNat).getD i 0 := by
  unfold rtTo
  rw [f8_get _ i h, if_neg (by omega)]
theorem rtTo_step (k : Nat) : (rtTo xs loose counts to k).set k (rtW xs loose counts to k) = rtTo xs loose counts to (k + 1) := by
  apply List.ext_getElem
  · simp [rtTo, f8]
  · intro i h1 h2
    have h8 : i < 8 := by simpa [rtTo, f8] using h2
    simp only [List.getElem_set, rtTo, f8, List.getElem_map, List.getElem_range]
    by_cases e : k = i
    · subst e; simp
    · rw [if_neg e]
      by_cases h3 : i < k
      · rw [if_pos h3, if_pos (by omega)]
      · rw [if_neg h3, if_neg (by omega)]
theorem rtTo_skip (k : Nat) (hs : standB loose to.target k = true) : rtTo xs loose counts to (k + 1) = rtTo xs loose counts to k := f8_congr fun i _ => by
  by_cases e : i = k
  · subst e
    rw [if_pos (by omega), if_neg (by omega)]
    unfold rtW
    rw [if_pos hs]
  · by_cases h3 : i < k
    · rw [if_pos (by omega), if_pos h3]
    · rw [if_neg (by omega), if_neg h3]
end

end Go.Proofs.Ytieknpkbmccimaa
