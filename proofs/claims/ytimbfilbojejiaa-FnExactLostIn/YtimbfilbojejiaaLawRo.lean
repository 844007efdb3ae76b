/- The exact laws of chapter 7, walked, given what the program's own functions answer. -/
import Derived.Test.YtimbfilbojejiaaLawCm
import Derived.Test.YtimbfilbojejiaaRo
namespace Go.Proofs.Ytimbfilbojejiaa
open Go.RowKit

theorem looseL_length (xs : List Int) : (looseL xs).length ≤ 1296 := by
  unfold looseL
  have h1 := List.length_filter_le (fun c : Cm => !c.good) (claimsL xs)
  have h2 := claimsL_length xs
  omega

def RolesC : Prop := ∀ (A : Option Addr) (n c : Nat) (xs : List Int) (w : World), Rd w w.heap.size A n xs → n ≤ 2097152 → n ≤ c → Calls Try.prog 23 #[.slice A n c] w (Ret w (rolesL xs))

end Go.Proofs.Ytimbfilbojejiaa
