/- The law FnExactClusterAt, walked. -/
import Derived.Test.YtibokhkohanoaaaClat
namespace Go.Proofs.Ytibokhkohanoaaa
open Go.RowKit

theorem row_of {A : Option Addr} {n c lo hi : Nat} {w : World} {xs : List Int} (h : Ow w lo hi A n c xs) : ∀ g, Value.ownBlock (.slice A n c) = some g → lo ≤ g ∧ g < hi ∧ g < w.heap.size :=
  fun g hg => ⟨(h.own.lt g hg).1, h.top g hg, (h.own.lt g hg).2⟩

end Go.Proofs.Ytibokhkohanoaaa