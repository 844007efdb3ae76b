/- Entries: a target and a flag in a word: plain functions, and that the Go functions of both sides compute them. -/
import Derived.Test.YtibokhkohanoaaaWord
namespace Go.Proofs.Ytibokhkohanoaaa
open Go.RowKit

def targetOf (e : Int) : Int := if wordB e then e % 32768 else -1
def ownIn (e : Int) : Bool := wordB e && decide (32768 ≤ e)
def entryOf (t : Int) (own : Bool) : Int := if inB t 0 32767 then (if own then t + 32768 else t) else -1

theorem targetOf_yes {e : Int} (h : wordB e = true) : targetOf e = e % 32768 := by simp [targetOf, h]
theorem targetOf_no {e : Int} (h : wordB e = false) : targetOf e = -1 := by simp [targetOf, h]
theorem word_bounds {e : Int} (h : wordB e = true) : 0 ≤ e ∧ e ≤ 65535 := inB_true.1 h

end Go.Proofs.Ytibokhkohanoaaa