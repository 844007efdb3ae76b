/- Claims, the model's side: one more (l6Add), those of a table (l6Table). -/
import Derived.Test.YtaalkjefpodceaaCms
namespace Go.Proofs.Ytaalkjefpodceaa
open Go.RowKit

/-- Does one of the first k bar c? -/
def noBar (l : List Cm) (c : Cm) (k : Nat) : Bool := !((l.take k).any fun x => barsB x c)
theorem noBar_zero (l : List Cm) (c : Cm) : noBar l c 0 = true := by simp [noBar]
theorem noBar_step (l : List Cm) (c : Cm) (k : Nat) (hk : k < l.length) : noBar l c (k + 1) = (noBar l c k && !(barsB (l.getD k cm0) c)) := by
  unfold noBar
  rw [List.take_succ_eq_append_getElem hk, List.any_append, List.getD_eq_getElem?_getD, List.getElem?_eq_getElem hk]
  simp
theorem noBar_all (l : List Cm) (c : Cm) (k : Nat) (hk : l.length ≤ k) : noBar l c k = !(l.any fun x => barsB x c) := by
  unfold noBar; rw [List.take_of_length_le hk]
/-- The same claim, whether good or not, is barred by the same. -/
theorem bars_good (x c : Cm) (b : Bool) : barsB x { c with good := b } = barsB x c := rfl

theorem grown_below {w w1 w2 : World} {g : Nat} (h : Below w.heap.size w w1) (hg : w1.grownBy w2 (some g)) : w.grownBy w2 (some g) := by
  exact ⟨hg.os.trans h.os, hg.tape.trans h.tape, hg.output.trans h.output, Nat.le_trans h.size hg.size, fun k hk hne => (hg.block k (Nat.lt_of_lt_of_le hk h.size) hne).trans (h.block k hk)⟩

end Go.Proofs.Ytaalkjefpodceaa
