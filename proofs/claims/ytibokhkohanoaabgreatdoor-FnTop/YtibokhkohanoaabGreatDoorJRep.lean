/- Repaired (chapter 16): what the program's own function answers. -/
import Derived.Test.YtibokhkohanoaabGreatDoorRpq
import Derived.Test.YtibokhkohanoaabGreatDoorRpc
import Derived.Test.YtibokhkohanoaabGreatDoorQ6
import Derived.Test.YtibokhkohanoaabGreatDoorQC
import Derived.Test.YtibokhkohanoaabGreatDoorQE
import Derived.Test.YtibokhkohanoaabGreatDoorQH
import Derived.Test.YtibokhkohanoaabGreatDoorW1
import Derived.Test.YtibokhkohanoaabGreatDoorQ7
namespace Go.Proofs.YtibokhkohanoaabGreatDoor
open Go.RowKit
theorem blkL_is (a:Int):blkL a=blankL a:=by
  unfold blkL blankL
  split
  . rw[List.append_assoc,List.append_assoc];rfl
  . rfl
theorem rpdB_is (b:List Int):rpdB (fun b=>stepsL b 4) b=repairedB b:=by
  unfold rpdB repairedB
  cases imgB b
  . rfl
  . rw[if_pos rfl,if_pos rfl]
    cases hh:hasHead b
    . unfold repairedL
      rw[hh,if_neg (by simp),if_neg (by simp),blkL_is]
    . rw[repaired_steps hh,if_pos rfl,blkL_is]
theorem implRepaired_all (W:World):RepairedC W:=by
  intro A n c xs w _ h hn hnc
  have H:=repaired_any (fun b=>stepsL b 4) (fun A n c xs w h hn hnc =>
    afterSteps_any clearedL refoundL countedL ownedL (fun A n c xs w h hn hnc=>implCleared_all A n c xs w h hn hnc) (fun A n c xs w h hn hnc=>implRefound_all A n c xs w h hn hnc)
      (fun A n c xs w h hn hnc=>implCounted_all w A n c xs w (Below.refl _ _) h hn hnc) (fun A n c xs w h hn hnc=>implOwned_all w A n c xs w (Below.refl _ _) h hn hnc) implFirst_any
      clearedL_len refoundL_len countedL_len ownedL_len A n c xs w h hn hnc) A n c xs w h hn hnc
  rw[rpdB_is] at H
  exact H
end Go.Proofs.YtibokhkohanoaabGreatDoor
