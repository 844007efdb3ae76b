/- Repairing (chapter 16), step by step: plain mathematics. -/
import Derived.Test.YtibokhkohanoaabGreatDoorH7
import Derived.Test.YtibokhkohanoaabGreatDoorZ1
import Derived.Test.YtibokhkohanoaabGreatDoorRpb
namespace Go.Proofs.YtibokhkohanoaabGreatDoor
open Go.RowKit
def stepsL (b:List Int)(k:Nat):List Int:=stps clearedL refoundL countedL ownedL b k
theorem clearedL_len (b:List Int):(clearedL b).length≤512:=by
  unfold clearedL
  split
  . rename_i h;exact(hasHead_len (clr_head h).1).2
  . simp
theorem refoundL_len (b:List Int):(refoundL b).length≤512:=by
  by_cases h:hasHead b=true∧manyN b < 64
  . exact(hasHead_len (refound_head h.1 h.2).1).2
  . unfold refoundL;rw[if_neg h];simp
theorem countedL_len (b:List Int):(countedL b).length≤512:=by
  rcases counted_head b with h | h
  . rw[h];simp
  . exact(hasHead_len h.1).2
theorem ownedL_len (b:List Int):(ownedL b).length≤512:=by
  unfold ownedL
  split
  . rename_i h;exact(hasHead_len (owned_head h).1).2
  . simp
theorem cleared_nil:clearedL []=[]:=by
  have h:hasHead []=false:=by simp[hasHead]
  unfold clearedL
  rw[if_neg (by rw[h];simp)]
theorem steps_first {b:List Int}(hh:hasHead b=true):stepsL b 2=first16 b:=by
  have e1:stepsL b 1=clrC b:=by
    show clearedL b=clrC b
    unfold clearedL
    rw[if_pos hh]
  show stp clearedL refoundL countedL ownedL 1 (stepsL b 1)=first16 b
  rw[e1]
  unfold stp first16
  rw[if_neg (by omega),if_pos rfl,firstOf_zero (clr_head hh).1]
  by_cases h0:(headOf (clrC b)).first=0
  . rw[if_pos h0,if_neg (by simp[h0])]
    by_cases hn:refoundL (clrC b)=[]
    . rw[if_pos hn,hn,cleared_nil]
    · have hm : manyN (clrC b) < 64 := by
        by_cases h:hasHead (clrC b)=true∧manyN (clrC b) < 64
        . exact h.2
        . exact absurd (by unfold refoundL;rw[if_neg h]) hn
      rw[if_neg hn]
      unfold clearedL
      rw[if_pos (refound_head (clr_head hh).1 hm).1]
  . rw[if_neg h0,if_pos h0]
theorem steps_all {b:List Int}(hh:hasHead b=true):stepsL b 4=ownedL (countedL (first16 b)):=by
  rw[← steps_first hh]
  rfl
theorem repaired_steps {b:List Int}(hh:hasHead b=true):repairedL b=if (stepsL b 4).length=0 then blankL (headOf b).size else stepsL b 4:=by
  unfold repairedL
  rw[if_pos hh,steps_all hh]
  rcases counted_head (first16 b) with h | h
  . rw[h,if_pos rfl]
    have h2:hasHead []=false:=by simp[hasHead]
    have h3:ownedL []=[]:=by unfold ownedL;rw[if_neg (by rw[h2];simp)]
    rw[h3]
    exact(if_pos rfl).symm
  . have hl:=(hasHead_len h.1).1
    have hne:countedL (first16 b)≠[]:=fun e=>by rw[e] at hl;simp at hl
    have ho:ownedL (countedL (first16 b))=ownedC (countedL (first16 b)):=by unfold ownedL;rw[if_pos h.1]
    have hp:=(hasHead_len (owned_head h.1).1).1
    rw[if_neg hne,ho,if_neg (by omega)]
end Go.Proofs.YtibokhkohanoaabGreatDoor
