/- The law FnWords, walked. -/
import Derived.Test.YtibokhkohanoaabGreatDoorG6
import Derived.Test.YtibokhkohanoaabGreatDoorQ7
namespace Go.Proofs.YtibokhkohanoaabGreatDoor
open Go.RowKit
end Go.Proofs.YtibokhkohanoaabGreatDoor
