/- Tables and places (chapters 4 and 5), the model's side: plain functions, and that the Go functions compute them. -/
import Derived.Test.YtibokhkohanoaaaHd
import Derived.Test.YtibokhkohanoaaaRow
import Derived.Test.YtibokhkohanoaaaEnt
import Derived.IntWalk
namespace Go.Proofs.Ytibokhkohanoaaa
open Go.RowKit

def thereB (xs : List Int) (t : Int) : Bool := inB t 1 ((manyN xs : Int) - 1)
def tableL (xs : List Int) (t : Int) : List Int := if hasHead xs = true ∧ thereB xs t = true then cl xs t.toNat else []
/-- The shots of an image with a head (none where there is no head). -/
def shotsL (xs : List Int) : List (Int × Int) :=
  if thereB xs (headIn xs).1.shots = true then (List.range (headIn xs).1.many.toNat).map (fun i => ((cl xs (headIn xs).1.shots.toNat).getD (2 * i) 0, (cl xs (headIn xs).1.shots.toNat).getD (2 * i + 1) 0)) else []
def firstOf (xs : List Int) (which : Int) : Int :=
  if hasHead xs = true then (if which = 0 then (headOf xs).first else (if inB which 1 ((shotsL xs).length : Int) = true then ((shotsL xs).getD (which - 1).toNat (0, 0)).2 else 0)) else 0
def firstEntry (xs : List Int) (which slot : Int) : Int :=
  if inB slot 0 (((tableL xs (firstOf xs which)).length : Int) - 1) = true then (tableL xs (firstOf xs which)).getD slot.toNat 0 else 0
def entryAt (xs : List Int) (which g : Int) : Int :=
  if hasHead xs = true ∧ inB g 0 ((headOf xs).size - 1) = true then (tableL xs (targetOf (firstEntry xs which (g / 8)))).getD (g % 8).toNat 0 else 0

def shV (p : Int × Int) : List Value := [.int .i64 p.1, .int .i64 p.2]
theorem shV_length (p : Int × Int) : (shV p).length = 2 := rfl

theorem headIn_true {xs : List Int} {h : Hd} (e : headIn xs = (h, true)) : hasHead xs = true ∧ headOf xs = h := by
  cases hb : hasHead xs
  · rw [headIn_no hb] at e; cases e
  · rw [headIn_yes hb] at e; cases e; exact ⟨rfl, rfl⟩
theorem headIn_false {xs : List Int} {h : Hd} (e : headIn xs = (h, false)) : hasHead xs = false ∧ h = hd0 := by
  cases hb : hasHead xs
  · rw [headIn_no hb] at e; cases e; exact ⟨rfl, rfl⟩
  · rw [headIn_yes hb] at e; cases e
theorem cl_length (xs : List Int) (a : Nat) : (cl xs a).length = 8 := f8_length _
theorem manyN_le {xs : List Int} (h : imgB xs = true) : manyN xs ≤ 64 := by have := imgB_len h; unfold manyN; omega
theorem there_lt {xs : List Int} {t : Int} (h : thereB xs t = true) : 1 ≤ t ∧ t < manyN xs := by have := inB_true.1 h; omega

theorem tableL_no {xs : List Int} {t : Int} (h : hasHead xs = false) : tableL xs t = [] := by simp [tableL, h]
theorem tableL_out {xs : List Int} {t : Int} (h : thereB xs t = false) : tableL xs t = [] := by simp [tableL, h]
theorem tableL_in {xs : List Int} {t : Int} (h : hasHead xs = true) (h2 : thereB xs t = true) : tableL xs t = cl xs t.toNat := by simp [tableL, h, h2]
theorem tableL_length (xs : List Int) (t : Int) : (tableL xs t).length = 0 ∨ (tableL xs t).length = 8 := by
  unfold tableL; split
  · exact .inr (cl_length _ _)
  · exact .inl rfl

theorem Ret.after {w w1 : World} {ys : List Int} {e : Ending} {w' : World} (h : Ret w1 ys e w') (hb : Below w.heap.size w w1) : Ret w ys e w' := by
  obtain ⟨A, n, c, he, ho, hb2⟩ := h
  exact ⟨A, n, c, he, ho.more hb.size (Nat.le_refl _), below_more hb hb2 hb.size⟩

theorem Ret.emptyAt {w w1 : World} (g : Nat) (hg : w1.heap.size = g) (hb : Below w.heap.size w w1) : Ret w [] (.returned (.slice (some ⟨g, 0, none⟩) 0 0)) (w1.alloc (.cells #[] 2)) := by
  subst hg
  exact (Ret.empty _ _ rfl).after hb

theorem shotsL_none {xs : List Int} {h : Hd} {is : Bool} (e : headIn xs = (h, is)) (ht : thereB xs h.shots = false) : shotsL xs = [] := by
  unfold shotsL; rw [e]; simp [ht]
theorem shotsL_some {xs : List Int} {h : Hd} {is : Bool} (e : headIn xs = (h, is)) (ht : thereB xs h.shots = true) : shotsL xs = (List.range h.many.toNat).map (fun i => ((cl xs h.shots.toNat).getD (2 * i) 0, (cl xs h.shots.toNat).getD (2 * i + 1) 0)) := by
  unfold shotsL; rw [e]; simp [ht]
theorem there_hd0 (xs : List Int) : thereB xs hd0.shots = false := by rw [thereB, inB_false]; simp [hd0]

end Go.Proofs.Ytibokhkohanoaaa
