/- Claims: plain functions on lists; no program is named here but for the words of other texts. -/
import Derived.Test.YtimbfilbojejiaaPl
namespace Go.Proofs.Ytimbfilbojejiaa
open Go.RowKit

structure Cm where
  kind : Int
  frm : Int
  slot : Int
  place : Int
  target : Int
  good : Bool
deriving DecidableEq

def cmV (c : Cm) : List Value := [.int .i64 c.kind, .int .i64 c.frm, .int .i64 c.slot, .int .i64 c.place, .int .i64 c.target, .bool c.good]
def cmA (c : Cm) : Value := .agg #[.int .i64 c.kind, .int .i64 c.frm, .int .i64 c.slot, .int .i64 c.place, .int .i64 c.target, .bool c.good]
theorem cmV_length (c : Cm) : (cmV c).length = 6 := rfl
def cm0 : Cm := ⟨0, 0, 0, 0, 0, false⟩

/-- Does a good claim x stand in the way of c, of the same target? -/
def barsB (x c : Cm) : Bool :=
  if x.good = true ∧ x.target = c.target then
    (if c.kind = 7 ∧ x.kind = 7 then (x.frm == c.frm || x.slot != c.slot) else (if c.kind = 8 ∧ x.kind = 8 then false else true))
  else false
def goodB (xs : List Int) (size : Int) (l : List Cm) (c : Cm) : Bool := (thereB xs c.target && decide (c.place < size)) && !(l.any fun x => barsB x c)
def addC (xs : List Int) (size : Int) (l : List Cm) (c : Cm) : List Cm := l ++ [{ c with good := goodB xs size l c }]
/-- What the words of a table claim. -/
def tabStep (xs : List Int) (size kind : Int) (frm : Nat) (place step : Int) (l : List Cm) (i : Nat) : List Cm :=
  if targetOf ((cl xs frm).getD i 0) ≠ 0 then addC xs size l ⟨kind, frm, i, place + step * i, targetOf ((cl xs frm).getD i 0), false⟩ else l
def tabC (xs : List Int) (size : Int) (l : List Cm) (kind : Int) (frm : Nat) (place step : Int) : List Cm := (List.range 8).foldl (tabStep xs size kind frm place step) l
def firstsC (l : List Cm) : List Int := (l.filter fun c => c.good && (c.kind == 2 || c.kind == 6)).map (·.target)
def shotStep (xs : List Int) (h : Hd) (l : List Cm) (i : Nat) : List Cm := addC xs h.size l ⟨6, h.shots, i, 0, ((shotsL xs).getD i (0, 0)).2, false⟩
def shotsC (xs : List Int) (h : Hd) (l : List Cm) : List Cm :=
  if h.many = 0 then l
  else (if goodB xs h.size l ⟨5, 0, 0, 0, h.shots, false⟩ = true then (List.range (shotsL xs).length).foldl (shotStep xs h) (addC xs h.size l ⟨5, 0, 0, 0, h.shots, false⟩) else addC xs h.size l ⟨5, 0, 0, 0, h.shots, false⟩)
def c1C (xs : List Int) (h : Hd) : List Cm := addC xs h.size [⟨1, 0, 0, 0, 0, true⟩] ⟨2, 0, 0, 0, h.first, false⟩
def c2C (xs : List Int) (h : Hd) : List Cm := addC xs h.size (c1C xs h) ⟨3, 0, 0, 0, h.refs, false⟩
def c3C (xs : List Int) (h : Hd) : List Cm := if goodB xs h.size (c1C xs h) ⟨3, 0, 0, 0, h.refs, false⟩ = true then tabC xs h.size (c2C xs h) 4 h.refs.toNat 0 0 else c2C xs h
def c4C (xs : List Int) (h : Hd) : List Cm := shotsC xs h (c3C xs h)
def secStep (xs : List Int) (h : Hd) (l : List Cm) (f : Int) : List Cm := tabC xs h.size l 7 f.toNat 0 8
def c5C (xs : List Int) (h : Hd) : List Cm := (firstsC (c4C xs h)).foldl (secStep xs h) (c4C xs h)
def datStep (xs : List Int) (h : Hd) (l : List Cm) (c : Cm) : List Cm := if c.kind = 7 ∧ c.good = true then tabC xs h.size l 8 c.target.toNat c.place 1 else l
def c6C (xs : List Int) (h : Hd) : List Cm := (c5C xs h).foldl (datStep xs h) (c5C xs h)
/-- All claims of an image with a head. -/
def claimsC (xs : List Int) : List Cm := c6C xs (headOf xs)

theorem cm_cell {l : List Cm} {k j : Nat} (hk : k < l.length) (hj : j < 6) : (l.flatMap cmV)[k * 6 + j]? = (cmV (l.getD k cm0))[j]? := by
  rw [flat_get cmV 6 cmV_length l k j hk hj, List.getD_eq_getElem?_getD, List.getElem?_eq_getElem hk]; rfl
theorem addC_length (xs : List Int) (size : Int) (l : List Cm) (c : Cm) : (addC xs size l c).length = l.length + 1 := by simp [addC]
theorem tabStep_length (xs : List Int) (size kind : Int) (frm : Nat) (place step : Int) (l : List Cm) (i : Nat) : (tabStep xs size kind frm place step l i).length ≤ l.length + 1 := by
  unfold tabStep; split
  · rw [addC_length]; omega
  · omega
theorem tabFold_length (xs : List Int) (size kind : Int) (frm : Nat) (place step : Int) (l : List Cm) (k : Nat) : ((List.range k).foldl (tabStep xs size kind frm place step) l).length ≤ l.length + k := by
  induction k with
  | zero => simp
  | succ k ih =>
    rw [List.range_succ, List.foldl_append]
    have := tabStep_length xs size kind frm place step ((List.range k).foldl (tabStep xs size kind frm place step) l) k
    simp only [List.foldl_cons, List.foldl_nil]
    omega
theorem tabC_length (xs : List Int) (size : Int) (l : List Cm) (kind : Int) (frm : Nat) (place step : Int) : (tabC xs size l kind frm place step).length ≤ l.length + 8 := tabFold_length _ _ _ _ _ _ _ _

end Go.Proofs.Ytimbfilbojejiaa
