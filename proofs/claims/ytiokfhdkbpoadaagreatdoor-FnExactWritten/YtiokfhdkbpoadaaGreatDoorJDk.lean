/- Written and Pictured (chapter 17): what the program's own functions answer, given what the row's list says. -/
import Derived.Test.YtiokfhdkbpoadaaGreatDoorDkw
import Derived.Test.YtiokfhdkbpoadaaGreatDoorDkp
import Derived.Test.YtiokfhdkbpoadaaGreatDoorW1
import Derived.Test.YtiokfhdkbpoadaaGreatDoorQH
import Derived.Test.YtiokfhdkbpoadaaGreatDoorX2
import Derived.Test.YtiokfhdkbpoadaaGreatDoorQS
import Derived.Test.YtiokfhdkbpoadaaGreatDoorQP
namespace Go.Proofs.YtiokfhdkbpoadaaGreatDoor
open Go.RowKit

/-- Function 7. -/
theorem implWritten_all {W : World} {aN aM aG : Addr} (hG : GlE W aN aM aG) : WrittenC W :=
  implWritten_any implTable_any implFirstEntry_any implEntryAt_any implFirst_any (implSound_any implClaims_any implLoose_all implCounts_all implStored_all implTable_any hG) (implCounted_all W) (implOwned_all W)
/-- Function 12. -/
theorem implPictured_all {W : World} {aN aM aG : Addr} (hG : GlE W aN aM aG) : PicturedC W :=
  implPictured_any implTable_any (implSound_any implClaims_any implLoose_all implCounts_all implStored_all implTable_any hG) (implCounted_all W) (implOwned_all W)

/-- Law 3. -/
theorem law_Written_all {W : World} (hL : laidMetH Tryz.prog errsLaid W) (A : Option Addr) (n c : Nat) (xs : List Int) (a : Int) (V : Option Addr) (m cv : Nat) (ws : List Int) (h : Rd W W.heap.size A n xs) (hv : Rd W W.heap.size V m ws) :
    Calls Tryz.prog 3 #[.slice A n c, .int .i64 a, .slice V m cv] W fun e W' => e = .returned (.bool true) ∧ Below W.heap.size W W' := by
  have h' : laidMet Tryz.prog errsLaid W := hL
  obtain ⟨aN, aM, aG, hG, _⟩ := errs_of_laid h'
  exact law_Written W (implWritten_all hG) A n c xs a V m cv ws h hv
/-- Law 4. -/
theorem law_Pictured_all {W : World} (hL : laidMetH Tryz.prog errsLaid W) (A : Option Addr) (n c : Nat) (xs : List Int) (a : Int) (h : Rd W W.heap.size A n xs) :
    Calls Tryz.prog 4 #[.slice A n c, .int .i64 a] W fun e W' => e = .returned (.bool true) ∧ Below W.heap.size W W' := by
  have h' : laidMet Tryz.prog errsLaid W := hL
  obtain ⟨aN, aM, aG, hG, _⟩ := errs_of_laid h'
  exact law_Pictured W (implPictured_all hG) A n c xs a h
end Go.Proofs.YtiokfhdkbpoadaaGreatDoor
