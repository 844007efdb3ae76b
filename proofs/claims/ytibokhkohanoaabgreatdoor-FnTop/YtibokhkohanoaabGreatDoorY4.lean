/- What the laws' helpers do with rows of defects. The exact laws of chapter 11, walked, given what the program's own functions answer. -/
import Derived.Test.YtibokhkohanoaabGreatDoorY5
import Derived.Test.YtibokhkohanoaabGreatDoorQ2
import Derived.Test.YtibokhkohanoaabGreatDoorH6
import Derived.Test.YtibokhkohanoaabGreatDoorG3
namespace Go.Proofs.YtibokhkohanoaabGreatDoor
open Go.RowKit
def SoundC (W:World):Prop:=∀ (A:Option Addr) (n c:Nat) (xs:List Int) (w:World),Below W.heap.size W w→Rd w w.heap.size A n xs→n≤2097152→n≤c→Calls Tryz.prog 10 #[.slice A n c] w (RetB w (soundB xs))
end Go.Proofs.YtibokhkohanoaabGreatDoor
