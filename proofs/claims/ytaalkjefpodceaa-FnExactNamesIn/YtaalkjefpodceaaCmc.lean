/- All claims, the model's side (l6Claims, ClaimsIn). -/
import Derived.Test.YtaalkjefpodceaaCmh
import Derived.Test.YtaalkjefpodceaaCmP
namespace Go.Proofs.Ytaalkjefpodceaa
open Go.RowKit

theorem below_of_grown {w w3 w4 : World} {g0 : Nat} (hb : Below w.heap.size w w3) (hg : w3.grownBy w4 (some g0)) (h0 : w.heap.size ≤ g0) : Below w.heap.size w w4 := hb.grown hg hb.size (fun k e => by cases e; exact h0)

theorem take_fold {α β : Type} (f : β → α → β) (l : List α) (z : β) (k : Nat) (hk : k < l.length) : (l.take (k + 1)).foldl f z = f ((l.take k).foldl f z) l[k] := by
  rw [List.take_succ_eq_append_getElem hk, List.foldl_append]; rfl

theorem datStep_prefix {xs : List Int} {h : Hd} (l : List Cm) (c : Cm) : l <+: datStep xs h l c := by
  unfold datStep; split
  · exact tabFold_prefix _ _ _ _ _ _ _ _
  · exact List.prefix_refl _

end Go.Proofs.Ytaalkjefpodceaa
