/- Owned (chapter 15): the model's Go function computes it. The exact law of chapter 15, walked, given what the program's own function answers. -/
import Derived.Test.YtibokhkohanoaabGreatDoorG4
import Derived.Test.YtibokhkohanoaabGreatDoorY5
namespace Go.Proofs.YtibokhkohanoaabGreatDoor
open Go.RowKit
def ownedL (b:List Int):List Int:=if hasHead b=true then ownedC b else []
def OwnedC (W:World):Prop:=∀ (A:Option Addr) (n c:Nat) (xs:List Int) (w:World),Below W.heap.size W w→Rd w w.heap.size A n xs→n≤2097152→n≤c→Calls Tryz.prog 106 #[.slice A n c] w (Ret w (ownedL xs))
end Go.Proofs.YtibokhkohanoaabGreatDoor
