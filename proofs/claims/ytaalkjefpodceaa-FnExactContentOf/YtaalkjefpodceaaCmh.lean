/- Claims, the model's side: those of the shots (l6Shots). -/
import Derived.Test.YtaalkjefpodceaaCmt
namespace Go.Proofs.Ytaalkjefpodceaa
open Go.RowKit

theorem Rd.grown {w w' : World} {B n g : Nat} {A : Option Addr} {xs : List Int} (h : Rd w B A n xs) (hg : w.grownBy w' (some g)) (hB : B ≤ g) (hw : B ≤ w.heap.size) : Rd w' B A n xs :=
  h.keep fun p hp => World.cell?_of_block (w := w) (hg.block p.block (by omega) (fun e => by injection e with e; omega))

theorem shotFold_length (xs : List Int) (h : Hd) (l : List Cm) (k : Nat) : ((List.range k).foldl (shotStep xs h) l).length = l.length + k := by
  induction k with
  | zero => simp
  | succ k ih =>
    rw [List.range_succ, List.foldl_append]
    simp only [List.foldl_cons, List.foldl_nil, shotStep, addC_length, ih]
    omega
theorem shotFold_prefix (xs : List Int) (h : Hd) (l : List Cm) (k : Nat) : l <+: (List.range k).foldl (shotStep xs h) l := by
  induction k with
  | zero => exact List.prefix_refl _
  | succ k ih =>
    rw [List.range_succ, List.foldl_append]
    exact ih.trans (List.prefix_append _ _)
theorem shotFold_succ (xs : List Int) (h : Hd) (l : List Cm) (k : Nat) : (List.range (k + 1)).foldl (shotStep xs h) l = shotStep xs h ((List.range k).foldl (shotStep xs h) l) k := by
  rw [List.range_succ, List.foldl_append]; rfl

end Go.Proofs.Ytaalkjefpodceaa
