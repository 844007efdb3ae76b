/- FnContents, with what the program's own functions answer. -/
import Derived.Test.YtaalkjefpodceabConi
import Derived.Test.YtaalkjefpodceabLawContents
namespace Go.Proofs.Ytaalkjefpodceab
open Go.RowKit

theorem law_Contents_all (A : Option Addr) (n c : Nat) (xs : List Int) (w : World) (hr : Rd8 w w.heap.size A n xs) :
    Calls Try.prog 3 #[.slice A n c] w fun e w' => e = .returned (.bool true) ∧ Below w.heap.size w w' :=
  law_Contents implContent_any implNames_any implShots_any implEntryAt_any implTable_any A n c xs w hr
end Go.Proofs.Ytaalkjefpodceab
