/- FirstOf, and places (chapter 5), the model's side. -/
import Derived.Test.YtibokhkohanoaaaTb
namespace Go.Proofs.Ytibokhkohanoaaa
open Go.RowKit

/-- It answers a number; nothing that was there has turned. -/
def RetI (w : World) (x : Int) (e : Ending) (w' : World) : Prop := e = .returned (.int .i64 x) ∧ Below w.heap.size w w'
theorem RetI.mk {w w' : World} {x y : Int} (h : y = x) (hb : Below w.heap.size w w') : RetI w x (.returned (.int .i64 y)) w' := by subst h; exact ⟨rfl, hb⟩

theorem firstOf_no {xs : List Int} {q : Int} (h : hasHead xs = false) : firstOf xs q = 0 := by simp [firstOf, h]
theorem firstOf_zero {xs : List Int} (h : hasHead xs = true) : firstOf xs 0 = (headOf xs).first := by simp [firstOf, h]
theorem firstOf_out {xs : List Int} {q : Int} (h : hasHead xs = true) (h0 : q ≠ 0) (hi : inB q 1 ((shotsL xs).length : Int) = false) : firstOf xs q = 0 := by simp [firstOf, h, h0, hi]
theorem firstOf_in {xs : List Int} {q : Int} (h : hasHead xs = true) (h0 : q ≠ 0) (hi : inB q 1 ((shotsL xs).length : Int) = true) : firstOf xs q = ((shotsL xs).getD (q - 1).toNat (0, 0)).2 := by simp [firstOf, h, h0, hi]
theorem shotsL_length (xs : List Int) : (shotsL xs).length ≤ 4 := by
  unfold shotsL
  split
  · rename_i ht
    simp only [List.length_map, List.length_range]
    cases hb : hasHead xs
    · rw [headIn_no hb]; simp [hd0]
    · rw [headIn_yes hb]
      have := headB_all (hasHead_ok hb)
      show (headOf xs).many.toNat ≤ 4
      omega
  · simp
theorem sh_cell {l : List (Int × Int)} {k j : Nat} (hk : k < l.length) (hj : j < 2) : (l.flatMap shV)[k * 2 + j]? = (shV (l.getD k (0, 0)))[j]? := by
  rw [flat_get shV 2 shV_length l k j hk hj, List.getD_eq_getElem?_getD, List.getElem?_eq_getElem hk]; rfl

theorem firstEntry_in {xs : List Int} {q t : Int} (h : inB t 0 (((tableL xs (firstOf xs q)).length : Int) - 1) = true) : firstEntry xs q t = (tableL xs (firstOf xs q)).getD t.toNat 0 := by simp [firstEntry, h]
theorem firstEntry_out {xs : List Int} {q t : Int} (h : inB t 0 (((tableL xs (firstOf xs q)).length : Int) - 1) = false) : firstEntry xs q t = 0 := by simp [firstEntry, h]

theorem entryAt_no {xs : List Int} {q g : Int} (h : hasHead xs = false) : entryAt xs q g = 0 := by simp [entryAt, h]
theorem entryAt_out {xs : List Int} {q g : Int} (h : inB g 0 ((headOf xs).size - 1) = false) : entryAt xs q g = 0 := by simp [entryAt, h]
theorem entryAt_in {xs : List Int} {q g : Int} (h : hasHead xs = true) (h2 : inB g 0 ((headOf xs).size - 1) = true) : entryAt xs q g = (tableL xs (targetOf (firstEntry xs q (g / 8)))).getD (g % 8).toNat 0 := by simp [entryAt, h, h2]

end Go.Proofs.Ytibokhkohanoaaa
