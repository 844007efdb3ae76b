/- The exact laws of chapter 4, walked, given what the program's own functions answer. -/
import Derived.Test.YtimbfilbojejiaaOrw
import Derived.Test.YtimbfilbojejiaaLawClusterAt
namespace Go.Proofs.Ytimbfilbojejiaa
open Go.RowKit

/-- What is asked of the program's TableAt, ShotsIn, FirstOf. -/
def TableC : Prop := ∀ (A : Option Addr) (n c : Nat) (xs : List Int) (t : Int) (w : World), Rd w w.heap.size A n xs → n ≤ 2097152 → n ≤ c → Calls Try.prog 43 #[.slice A n c, .int .i64 t] w (Ret w (tableL xs t))

def ShotsC : Prop := ∀ (A : Option Addr) (n c : Nat) (xs : List Int) (w : World), Rd w w.heap.size A n xs → n ≤ 2097152 → n ≤ c → Calls Try.prog 75 #[.slice A n c] w (RetShs w (shotsL xs))

end Go.Proofs.Ytimbfilbojejiaa