/- Cleared: the table of shots. -/
import Derived.Test.YtimbfilbojejiaaCld
namespace Go.Proofs.Ytimbfilbojejiaa
open Go.RowKit

theorem set_twice (z : List Int) (p : Nat) (a b : Int) : (z.set p a).set p b = z.set p b := List.set_set a
/-- In an image of one's own: the table of shots has just these of its first pairs. -/
def KeepRel (w1 : World) (lo hi g n c : Nat) (h : Hd) (kw zs : List Int) (M : Nat) (i : Value) (wr : World) : Prop :=
  ∃ k : Nat, k ≤ M ∧ i = .int .i64 k ∧ Ow wr lo hi (some ⟨g, 0, none⟩) n c ((List.range k).foldl (keepStep h kw) zs) ∧ w1.grownBy wr (some g)

end Go.Proofs.Ytimbfilbojejiaa