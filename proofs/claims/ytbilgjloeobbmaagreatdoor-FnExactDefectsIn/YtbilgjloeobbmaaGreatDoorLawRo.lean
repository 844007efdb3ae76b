/- The exact laws of chapter 7, walked, given what the program's own functions answer. -/
import Derived.Test.YtbilgjloeobbmaaGreatDoorLawCm
import Derived.Test.YtbilgjloeobbmaaGreatDoorRo
namespace Go.Proofs.YtbilgjloeobbmaaGreatDoor
open Go.RowKit

theorem looseL_length (xs : List Int) : (looseL xs).length ≤ 1296 := by
  unfold looseL
  have h1 := List.length_filter_le (fun c : Cm => !c.good) (claimsL xs)
  have h2 := claimsL_length xs
  omega

theorem specLooseR_any (A : Option Addr) (n c : Nat) (xs : List Int) (w : World) (h : Rd w w.heap.size A n xs) (hn : n ≤ 2097152) :
    Calls Tryz.prog 17 #[.slice A n c] w (RetCms w (looseL xs)) := (specLoose_any A n c xs w h hn).mono fun _ _ h => h.toR

def LooseC : Prop := ∀ (A : Option Addr) (n c : Nat) (xs : List Int) (w : World), Rd w w.heap.size A n xs → n ≤ 2097152 → n ≤ c → Calls Tryz.prog 63 #[.slice A n c] w (RetCms w (looseL xs))

end Go.Proofs.YtbilgjloeobbmaaGreatDoor
