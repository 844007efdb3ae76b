/- A disk as the program has it: plain functions (a table changed from a slot on, a second table that may be written into, what is written and pictured). -/
import Derived.Test.YtiokfhdkbpoadabGreatDoorQ7
import Derived.Test.YtiokfhdkbpoadabGreatDoorG8
namespace Go.Proofs.YtiokfhdkbpoadabGreatDoor
open Go.RowKit

/-- A table's words; zeros where it is not there. -/
def tab8 (xs : List Int) (t : Int) : List Int := if hasHead xs = true ∧ thereB xs t = true then cl xs t.toNat else List.replicate 8 0
/-- A table's words are others from a slot on. -/
def intoL (xs : List Int) (t : Int) (s : Nat) (vs : List Int) : List Int := withL xs t (Go.splice (tab8 xs t) s vs)
theorem tab8_length (xs : List Int) (t : Int) : (tab8 xs t).length = 8 := by
  unfold tab8; split
  · exact cl_length _ _
  · rfl
theorem tab8_table (xs : List Int) (t : Int) : tab8 xs t = Go.splice (List.replicate 8 0) 0 (tableL xs t) := by
  unfold tab8 tableL
  by_cases h : hasHead xs = true ∧ thereB xs t = true
  · rw [if_pos h, if_pos h]
    have := cl_length xs t.toNat
    unfold Go.splice
    rw [List.drop_of_length_le (by rw [this]; simp)]
    simp
  · rw [if_neg h, if_neg h]; rfl
/-- The image and the next number, and the second table that may be written into. -/
def secP (xs : List Int) (k : Int) (slot : Nat) : List Int × Int × Int :=
  if 32768 ≤ firstEntry xs 0 slot then (xs, k, firstEntry xs 0 slot % 32768)
  else (intoL (withL xs k (tab8 xs (firstEntry xs 0 slot % 32768))) (firstOf xs 0) slot [k], k + 1, k)
def writeP (xs : List Int) (g : Nat) (ws : List Int) : List Int :=
  intoL (withL (secP xs (manyN xs) (g / 8)).1 (secP xs (manyN xs) (g / 8)).2.1 ws) (secP xs (manyN xs) (g / 8)).2.2 (g % 8) [(secP xs (manyN xs) (g / 8)).2.1]
/-- A head is written, but into nothing. -/
def headP (y : List Int) (h : Hd) : List Int := if y.length = 0 then y else withHead y h
/-- Where the table of Shots is: the image, the next number, the table. -/
def shotP (xs : List Int) : List Int × Int × Int := if (headOf xs).many = 0 then (withL xs (manyN xs) (List.replicate 8 0), (manyN xs : Int) + 1, (manyN xs : Int)) else (xs, (manyN xs : Int), (headOf xs).shots)
/-- Pictured, as the program does it. -/
def pictP (xs : List Int) (name : Int) : List Int :=
  headP (intoL (withL (shotP xs).1 (shotP xs).2.1 (tableL xs (headOf xs).first)) (shotP xs).2.2 (2 * (headOf xs).many.toNat) [name, (shotP xs).2.1])
    { headOf xs with shots := (shotP xs).2.2, many := (headOf xs).many + 1 }
end Go.Proofs.YtiokfhdkbpoadabGreatDoor
