/- FnTables, with what the program's own functions answer. -/
import Derived.Test.YtdmmdibcgffenabTbi
import Derived.Test.YtdmmdibcgffenabLawTables
namespace Go.Proofs.Ytdmmdibcgffenab
open Go.RowKit

theorem law_Tables_all (A : Option Addr) (n c : Nat) (xs : List Int) (w : World) (hr : Rd8 w w.heap.size A n xs) :
    Calls Try.prog 3 #[.slice A n c] w fun e w' => e = .returned (.bool true) ∧ Below w.heap.size w w' :=
  law_Tables implTable_any implShots_any implFirst_any A n c xs w hr
end Go.Proofs.Ytdmmdibcgffenab
