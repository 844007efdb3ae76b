/- What the laws' own helpers do: toInt64S copies, eqInt64S compares, markInt64S numbers the cells of a slice, heldInt64S looks whether they are so numbered. -/
import Derived.Test.YtimbfilbojejiabGreatProg
import Derived.Test.YtimbfilbojejiabGreatMem
import Derived.WalkLawsBesides
import Derived.Lib.Hide
import Derived.BigQuiet
import Derived.Deep.QuietTactic
namespace Go.Proofs.YtimbfilbojejiabGreat
open Go.RowKit

theorem info2 : (Tryz.prog.info? 2).map (fun i => (i.zero, i.size, i.bytes)) = some (some (.int .i64 0), 1, 8) := by kernel_rfl

theorem made_iv (n : Nat) : (madeCells (Value.int .i64 0).cells (n * 1)).toList = iv (List.replicate n 0) := by
  rw [Nat.mul_one]; show (madeCells #[Value.int .i64 0] n).toList = _
  rw [toList_madeCells_one]; simp [iv]

theorem take_step (xs : List Int) (k n : Nat) (hn : xs.length = n) (hk : k < n) :
    (xs.take k ++ List.replicate (n - k) 0).set k (xs.getD k 0) = xs.take (k + 1) ++ List.replicate (n - (k + 1)) 0 := by
  subst hn
  have hl : (xs.take k).length = k := by simp; omega
  rw [List.set_append, if_neg (by omega), hl, Nat.sub_self, List.take_succ_eq_append_getElem hk,
    show xs.length - k = (xs.length - (k + 1)) + 1 from by omega, List.replicate_succ, List.set_cons_zero, List.append_assoc]
  simp [List.getD_eq_getElem?_getD, hk]

theorem eq_step (xs ys : List Int) (k n : Nat) (hx : xs.length = n) (hy : ys.length = n) (hk : k < n) (h : xs.take k = ys.take k) (e : xs.getD k 0 = ys.getD k 0) : xs.take (k + 1) = ys.take (k + 1) := by
  have h1 : k < xs.length := by omega
  have h2 : k < ys.length := by omega
  rw [List.take_succ_eq_append_getElem h1, List.take_succ_eq_append_getElem h2, h]
  simp only [List.getD_eq_getElem?_getD, List.getElem?_eq_getElem h1, List.getElem?_eq_getElem h2, Option.getD_some] at e
  rw [e]
theorem eq_not (xs ys : List Int) (k : Nat) (e : xs.getD k 0 ≠ ys.getD k 0) : (xs == ys) = false := by
  rw [beq_eq_false_iff_ne]; rintro rfl; exact e rfl

/-- k, k + 1, .. : n numbers. -/
def upTo (k : Int) : Nat → List Int
  | 0 => []
  | n + 1 => k :: upTo (k + 1) n
theorem upTo_length (k : Int) (n : Nat) : (upTo k n).length = n := by
  induction n generalizing k with
  | zero => rfl
  | succ n ih => simp [upTo, ih]
theorem upTo_get (k : Int) (n j : Nat) (h : j < n) : (upTo k n).getD j 0 = k + j := by
  induction n generalizing k j with
  | zero => omega
  | succ n ih =>
    cases j with
    | zero => simp [upTo]
    | succ j =>
      have := ih (k + 1) j (by omega)
      simp only [upTo, List.getD_cons_succ, this]
      omega
theorem upTo_snoc (k : Int) (n : Nat) : upTo k (n + 1) = upTo k n ++ [k + n] := by
  induction n generalizing k with
  | zero => simp [upTo]
  | succ n ih =>
    have h := ih (k + 1)
    rw [upTo, h]
    simp only [upTo, List.cons_append]
    rw [show k + 1 + (n : Int) = k + ((n + 1 : Nat) : Int) from by omega]
theorem mark_step (xs : List Int) (q : Int) (k n : Nat) (hn : xs.length = n) (hk : k < n) : (upTo q k ++ xs.drop k).set k (q + k) = upTo q (k + 1) ++ xs.drop (k + 1) := by
  subst hn
  rw [List.set_append, if_neg (by rw [upTo_length]; omega), upTo_length, Nat.sub_self, upTo_snoc, List.drop_eq_getElem_cons hk, List.set_cons_zero, List.append_assoc]
  rfl

end Go.Proofs.YtimbfilbojejiabGreat