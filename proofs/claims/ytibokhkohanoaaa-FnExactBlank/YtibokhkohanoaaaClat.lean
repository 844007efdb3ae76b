/- One cluster: both sides. -/
import Derived.Test.YtibokhkohanoaaaClin
namespace Go.Proofs.Ytibokhkohanoaaa
open Go.RowKit

/-- It answers a new slice whose numbers are ys; nothing that was there has turned. -/
def Ret (w : World) (ys : List Int) (e : Ending) (w' : World) : Prop :=
  ∃ (A : Option Addr) (n c : Nat), e = .returned (.slice A n c) ∧ Ow w' w.heap.size w'.heap.size A n c ys ∧ Below w.heap.size w w'

theorem Ret.of {w w1 w' : World} {v : Value} {n : Nat} {ys : List Int} (hb : Below w.heap.size w w1) (ho : w'.ownsRow w1.heap.size 2 1 v n (iv ys)) (hb2 : Below w1.heap.size w1 w') : Ret w ys (.returned v) w' := by
  obtain ⟨A, c, rfl, h⟩ := Ow.of ho
  exact ⟨A, n, c, rfl, h.more hb.size (Nat.le_refl _), below_more hb hb2 hb.size⟩
theorem Ret.nil (w : World) (w' : World) (hb : Below w.heap.size w w') : Ret w [] (.returned (.slice none 0 0)) w' :=
  ⟨none, 0, 0, rfl, ⟨World.ownsRow_nil _ _ _ _, fun g hg => by cases hg⟩, hb⟩
theorem Ret.empty (w : World) (t : TypeId) (ht : t = 2) : Ret w [] (.returned (.slice (some ⟨w.heap.size, 0, none⟩) 0 0)) (w.alloc (.cells #[] t)) := by
  subst ht
  have h : (w.alloc (.cells #[] 2)).ownsRow w.heap.size 2 1 (.slice (some ⟨w.heap.size, 0, none⟩) 0 0) 0 (iv []) := World.ownsRow_made w #[] 0 (Nat.le_refl _) (by simp [maxLen]) rfl
  exact ⟨_, 0, 0, rfl, ⟨h, fun g hg => (h.lt g hg).2⟩, (Below.refl _ _).alloc (Nat.le_refl _) _⟩

def f8 (f : Nat → Int) : List Int := (List.range 8).map f
theorem f8_length (f : Nat → Int) : (f8 f).length = 8 := by simp [f8]
theorem f8_get (f : Nat → Int) (j : Nat) (h : j < 8) : (f8 f).getD j 0 = f j := by
  simp [f8, List.getD_eq_getElem?_getD, h]
theorem f8_congr {f g : Nat → Int} (h : ∀ j, j < 8 → f j = g j) : f8 f = f8 g := by
  unfold f8
  exact List.map_congr_left (fun j hj => h j (by simpa using hj))
theorem f8_eq (f : Nat → Int) (ys : List Int) (hl : ys.length = 8) (h : ∀ j, j < 8 → ys.getD j 0 = f j) : ys = f8 f := by
  apply List.ext_getElem?
  intro j
  by_cases hj : j < 8
  · have := h j hj
    rw [List.getD_eq_getElem?_getD, List.getElem?_eq_getElem (by omega), Option.getD_some] at this
    rw [List.getElem?_eq_getElem (by omega), this]
    simp [f8, hj]
  · rw [List.getElem?_eq_none (by omega), List.getElem?_eq_none (by rw [f8_length]; omega)]
theorem f8_set (f : Nat → Int) (k : Nat) (x : Int) (hk : k < 8) : (f8 f).set k x = f8 (fun j => if j = k then x else f j) := by
  apply f8_eq
  · simp [f8_length]
  · intro j hj
    rw [List.getD_eq_getElem?_getD, List.getElem?_set, f8_length]
    by_cases h : k = j
    · subst h; simp [hk]
    · have := f8_get f j hj
      rw [List.getD_eq_getElem?_getD] at this
      simp only [h, if_false, this]
      rw [if_neg (fun e => h e.symm)]

theorem f8_zero (f : Nat → Int) : List.replicate 8 0 = f8 (fun j => if j < 0 then f j else 0) := by
  apply f8_eq
  · simp
  · intro j hj
    rw [List.getD_eq_getElem?_getD, List.getElem?_replicate, if_pos hj, if_neg (by omega)]; rfl

/-- The eight words of cluster a. -/
def cl (xs : List Int) (a : Nat) : List Int := f8 (fun j => xs.getD (a * 8 + j) 0)
/-- ClusterAt. -/
def clusterL (xs : List Int) (at_ : Int) : List Int := if imgB xs = true ∧ inB at_ 0 ((manyN xs : Int) - 1) = true then cl xs at_.toNat else []

theorem imgB_len {xs : List Int} (h : imgB xs = true) : xs.length ≤ 512 := by
  simp [imgB] at h
  exact h.2
theorem getD_past (xs : List Int) (j : Nat) (h : xs.length ≤ j) : xs.getD j 0 = 0 := by
  rw [List.getD_eq_getElem?_getD, List.getElem?_eq_none h]; rfl
theorem whole_length (xs : List Int) : (whole xs).length = manyN xs * 8 := by
  unfold whole manyN; simp; omega
theorem whole_get (xs : List Int) (j : Nat) : (whole xs).getD j 0 = xs.getD j 0 := by
  unfold whole
  rw [List.getD_eq_getElem?_getD, List.getD_eq_getElem?_getD, List.getElem?_append]
  split
  · rfl
  · rw [List.getElem?_eq_none (l := xs) (by omega), List.getElem?_replicate]
    split <;> rfl

theorem clusterL_no {xs : List Int} {at_ : Int} (h : imgB xs = false) : clusterL xs at_ = [] := by simp [clusterL, h]
theorem clusterL_out {xs : List Int} {at_ : Int} (h : inB at_ 0 ((manyN xs : Int) - 1) = false) : clusterL xs at_ = [] := by simp [clusterL, h]
theorem clusterL_in {xs : List Int} {at_ : Int} (h : imgB xs = true) (h2 : inB at_ 0 ((manyN xs : Int) - 1) = true) : clusterL xs at_ = cl xs at_.toNat := by simp [clusterL, h, h2]

theorem RdC.one {w : World} {B n : Nat} {A : Option Addr} {ys : List Int} (h : RdC w B A n ys) {b off a : Nat} (hA : A = some ⟨b, off, none⟩) (ha : a < n) :
    RdC w B (some ⟨b, off + a * 8, none⟩) 1 (f8 (fun j => ys.getD (a * 8 + j) 0)) := by
  refine ⟨f8_length _, fun _ => ?_⟩
  obtain ⟨b', off', e, hb, hc⟩ := h.2 (by omega)
  rw [hA] at e
  injection e with e
  injection e with e1 e2
  subst e1; subst e2
  refine ⟨b, off + a * 8, rfl, hb, fun j hj => ?_⟩
  have := hc (a * 8 + j) (by omega)
  rw [f8_get _ j (by omega), ← this, Nat.add_assoc]

end Go.Proofs.Ytibokhkohanoaaa