/- The exact law of chapter 12, walked, given what the program's own function answers. -/
import Derived.Test.YtpnnbenehajipabGreatH2
import Derived.Test.YtpnnbenehajipabGreatY5
namespace Go.Proofs.YtpnnbenehajipabGreat
open Go.RowKit

theorem setCl0_le (zs ws : List Int) (hw : ws.length ≤ 8) : (setCl zs 0 ws).length ≤ zs.length + 8 := by
  unfold setCl
  simp
  omega
theorem keep_len (h : Hd) (kw : List Int) : ∀ (k : Nat) (z : List Int), ((List.range k).foldl (keepStep h kw) z).length = z.length
  | 0, _ => rfl
  | k + 1, z => by rw [range_next]; unfold keepStep; rw [List.length_set]; exact keep_len h kw k z
theorem clearedL_length (xs : List Int) : (clearedL xs).length ≤ 520 := by
  unfold clearedL
  split
  · rename_i hh
    have hm := manyN_le (hasHead_img hh)
    have h1 := setCl0_le (clr2 xs) (hdW (clrHead xs)) (by simp [hdW])
    have h2 : (clr2 xs).length = (whole xs).length := by
      unfold clr2
      rw [clr_len]
      unfold clr1 keepL
      split
      · exact keep_len _ _ _ _
      · rfl
    rw [whole_length] at h2
    unfold clrC
    omega
  · simp

def ClearedC : Prop := ∀ (A : Option Addr) (n c : Nat) (xs : List Int) (w : World), Rd w w.heap.size A n xs → n ≤ 2097152 → n ≤ c → Calls Tryz.prog 6 #[.slice A n c] w (Ret w (clearedL xs))

end Go.Proofs.YtpnnbenehajipabGreat
