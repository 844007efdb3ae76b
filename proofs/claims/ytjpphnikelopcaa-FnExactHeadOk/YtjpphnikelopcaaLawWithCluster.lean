/- The law FnExactWithCluster, walked. -/
import Derived.Test.YtjpphnikelopcaaWci
import Derived.Test.YtjpphnikelopcaaLawClusterAt
namespace Go.Proofs.Ytjpphnikelopcaa
open Go.RowKit

theorem withL_len (xs : List Int) (at_ : Int) (ws : List Int) : (withL xs at_ ws).length ≤ 2097152 := by
  unfold withL
  split
  · rename_i h
    simp [withB] at h
    obtain ⟨h1, h2, h3, h4⟩ := h
    have hl := imgB_len h1
    obtain ⟨h5, h6⟩ := inB_true.1 h3
    obtain ⟨a, rfl⟩ := Int.eq_ofNat_of_zero_le h5
    rw [Int.toNat_natCast, setCl_long (whole xs) (manyN xs) a ws (whole_length xs) (eightB_len h2) (by omega)]
    have : manyN xs ≤ 64 := by unfold manyN; omega
    split <;> omega
  · simp

end Go.Proofs.Ytjpphnikelopcaa