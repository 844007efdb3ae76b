/- A cluster written: the model's side. -/
import Derived.Test.YtibokhkohanoaaaClat
import Derived.Test.YtibokhkohanoaaaApp
namespace Go.Proofs.Ytibokhkohanoaaa
open Go.RowKit

def lenV : Value → Nat
  | .slice _ n _ => n
  | _ => 0

theorem empty_ow (w : World) : Ow (w.alloc (.cells #[] 2)) w.heap.size (w.heap.size + 1) (some ⟨w.heap.size, 0, none⟩) 0 0 [] := by
  have h : (w.alloc (.cells #[] 2)).ownsRow w.heap.size 2 1 (.slice (some ⟨w.heap.size, 0, none⟩) 0 0) 0 (iv []) := World.ownsRow_made w #[] 0 (Nat.le_refl _) (by simp [maxLen]) rfl
  exact ⟨h, fun g hg => by have := (h.lt g hg).2; simpa using this⟩

theorem below_ow {w w1 w' : World} {lo hi n c : Nat} {A : Option Addr} {xs : List Int} (hb : Below w.heap.size w w1) (ho : Ow w1 lo hi A n c xs) (hlo : w.heap.size ≤ lo) (hg : w1.grownBy w' (Value.ownBlock (.slice A n c))) : Below w.heap.size w w' :=
  hb.grown hg hb.size (fun g h => by have := (ho.own.lt g h).1; omega)

/-- As Ret, and it is not nil. -/
def RetS (w : World) (ys : List Int) (e : Ending) (w' : World) : Prop :=
  ∃ (g n c : Nat), e = .returned (.slice (some ⟨g, 0, none⟩) n c) ∧ n ≤ c ∧ Ow w' w.heap.size w'.heap.size (some ⟨g, 0, none⟩) n c ys ∧ Below w.heap.size w w'
theorem RetS.mk {w w' : World} {A : Option Addr} {n c : Nat} {ys : List Int} (hA : A = none → False) (ho : Ow w' w.heap.size w'.heap.size A n c ys) (hb : Below w.heap.size w w') : RetS w ys (.returned (.slice A n c)) w' := by
  rcases ho.form with ⟨h, _⟩ | ⟨g, rfl, _, _, _, hc⟩
  · exact absurd h hA
  · exact ⟨g, n, c, rfl, hc, ho, hb⟩

theorem whole_step (xs : List Int) (j : Nat) : (xs ++ List.replicate j 0) ++ [0] = xs ++ List.replicate (j + 1) 0 := by
  rw [List.append_assoc, ← List.replicate_succ']

theorem Rd.take {w : World} {B n k : Nat} {A : Option Addr} {xs : List Int} (h : Rd w B A n xs) (hk : k ≤ n) : Rd w B A k (xs.take k) := by
  have hl := h.len
  refine ⟨by simp; omega, fun h0 => ?_⟩
  obtain ⟨b, off, e, hb, hc⟩ := h.2 (by omega)
  refine ⟨b, off, e, hb, fun j hj => ?_⟩
  rw [hc j (by omega)]
  simp [List.getD_eq_getElem?_getD, hj]
theorem Rd.drop {w : World} {B n k b off : Nat} {xs : List Int} (h : Rd w B (some ⟨b, off, none⟩) n xs) (hk : k ≤ n) : Rd w B (some ⟨b, off + k, none⟩) (n - k) (xs.drop k) := by
  have hl := h.len
  refine ⟨by simp; omega, fun h0 => ?_⟩
  obtain ⟨b', off', e, hb, hc⟩ := h.2 (by omega)
  injection e with e
  injection e with e1 e2
  subst e1; subst e2
  refine ⟨b, off + k, rfl, hb, fun j hj => ?_⟩
  rw [Nat.add_assoc, hc (k + j) (by omega)]
  simp [List.getD_eq_getElem?_getD]
theorem Rd.zero {w : World} {B : Nat} {A : Option Addr} {xs : List Int} (h : xs = []) : Rd w B A 0 xs := by subst h; exact Rd.nil _ _ _

/-- A whole image zs with the words ws in the place of cluster a (or behind all). -/
def setCl (zs : List Int) (a : Nat) (ws : List Int) : List Int := (zs.take (a * 8) ++ ws) ++ zs.drop ((a + 1) * 8)

def eightB (ws : List Int) : Bool := decide (ws.length = 8) && wordsB ws
theorem eightB_img (ws : List Int) : eightB ws = (decide (ws.length = 8) && imgB ws) := by
  unfold eightB imgB
  by_cases h : ws.length = 8 <;> simp [h]
theorem eightB_len {ws : List Int} (h : eightB ws = true) : ws.length = 8 := by
  simp [eightB] at h
  exact h.1

/-- WithCluster. -/
def withB (xs : List Int) (at_ : Int) (ws : List Int) : Bool := imgB xs && (eightB ws && (inB at_ 0 (manyN xs) && decide (at_ < 64)))
def withL (xs : List Int) (at_ : Int) (ws : List Int) : List Int := if withB xs at_ ws = true then setCl (whole xs) at_.toNat ws else []

end Go.Proofs.Ytibokhkohanoaaa