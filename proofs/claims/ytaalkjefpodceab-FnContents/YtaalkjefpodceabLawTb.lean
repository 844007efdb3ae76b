/- The exact laws of chapter 4, walked, given what the program's own functions answer. -/
import Derived.Test.YtaalkjefpodceabOrw
import Derived.Test.YtaalkjefpodceabLawClusterAt
namespace Go.Proofs.Ytaalkjefpodceab
open Go.RowKit

/-- What is asked of the program's TableAt, ShotsIn, FirstOf. -/
def TableC : Prop := ∀ (A : Option Addr) (n c : Nat) (xs : List Int) (t : Int) (w : World), Rd w w.heap.size A n xs → n ≤ 2097152 → n ≤ c → Calls Try.prog 15 #[.slice A n c, .int .i64 t] w (Ret w (tableL xs t))

def ShotsC : Prop := ∀ (A : Option Addr) (n c : Nat) (xs : List Int) (w : World), Rd w w.heap.size A n xs → n ≤ 2097152 → n ≤ c → Calls Try.prog 12 #[.slice A n c] w (RetShs w (shotsL xs))

def FirstC : Prop := ∀ (A : Option Addr) (n c : Nat) (xs : List Int) (q : Int) (w : World), Rd w w.heap.size A n xs → n ≤ 2097152 → n ≤ c → Calls Try.prog 22 #[.slice A n c, .int .i64 q] w (RetI w (firstOf xs q))

end Go.Proofs.Ytaalkjefpodceab