/- How many clusters: both sides. -/
import Derived.Test.YtibokhkohanoaaaCl
namespace Go.Proofs.Ytibokhkohanoaaa
open Go.RowKit

def manyN (xs : List Int) : Nat := (xs.length + 7) / 8
def manyI (xs : List Int) : Int := if imgB xs = true then (manyN xs : Int) else -1

end Go.Proofs.Ytibokhkohanoaaa