/- The exact laws of chapter 5, walked, given what the program's own functions answer. -/
import Derived.Test.YtaalkjefpodceabPl
import Derived.Test.YtaalkjefpodceabUtil
namespace Go.Proofs.Ytaalkjefpodceab
open Go.RowKit

/-- What is asked of the program's EntryAt, FirstEntry. -/
def EntryC : Prop := ∀ (A : Option Addr) (n c : Nat) (xs : List Int) (q g : Int) (w : World), Rd w w.heap.size A n xs → n ≤ 2097152 → n ≤ c → Calls Try.prog 14 #[.slice A n c, .int .i64 q, .int .i64 g] w (RetI w (entryAt xs q g))

end Go.Proofs.Ytaalkjefpodceab