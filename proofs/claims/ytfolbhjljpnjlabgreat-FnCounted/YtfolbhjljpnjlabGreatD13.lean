/- The Draw functions of chapter 13. -/
import Derived.Test.YtfolbhjljpnjlabGreatG6
import Derived.Test.YtfolbhjljpnjlabGreatY3
namespace Go.Proofs.YtfolbhjljpnjlabGreat
open Go.RowKit

theorem Mi.row {w0 w : World} {g B h n c : Nat} {zs : List Int} (hi : Mi w0 g B h n c zs w) (hn : n ≤ 600) (hc : n ≤ c) : DrawRow g B w0 (fun _ => True) (.returned (.slice (some ⟨h, 0, none⟩) n c)) w :=
  ⟨h, n, c, zs, trivial, hn, hc, rfl, hi.1, hi.2.1, hi.2.2⟩

/-- Zeros behind the row, until it is long. -/
def Grow0 (w0 : World) (g B : Nat) (v : Value) (w : World) : Prop := ∃ (h n c : Nat) (ys : List Int), n ≤ 600 ∧ n ≤ c ∧ v = .slice (some ⟨h, 0, none⟩) n c ∧ Mi w0 g B h n c ys w

end Go.Proofs.YtfolbhjljpnjlabGreat