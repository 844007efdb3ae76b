/- What the laws' helpers do with rows of defects. The exact laws of chapter 11, walked, given what the program's own functions answer. -/
import Derived.Test.YtiokfhdkbpoadaaGreatDoorY5
import Derived.Test.YtiokfhdkbpoadaaGreatDoorQ2
import Derived.Test.YtiokfhdkbpoadaaGreatDoorH6
import Derived.Test.YtiokfhdkbpoadaaGreatDoorG3
namespace Go.Proofs.YtiokfhdkbpoadaaGreatDoor
open Go.RowKit

theorem dc_cell {l : List Dc} {k j : Nat} (hk : k < l.length) (hj : j < 3) : (l.flatMap dcV)[k * 3 + j]? = (dcV (l.getD k dc0))[j]? := by
  rw [flat_get dcV 3 (fun _ => rfl) l k j hk hj, List.getD_eq_getElem?_getD, List.getElem?_eq_getElem hk]; rfl

theorem RdV.dc {w : World} {B n b off : Nat} {l : List Dc} (h : RdV 3 w B (some ⟨b, off, none⟩) n (l.flatMap dcV)) {k : Nat} (hk : k < l.length) (hn : l.length = n) :
    w.cell? ⟨b, off + k * 3, none⟩ = some (.int .i64 (l.getD k dc0).kind) ∧ w.cell? ⟨b, off + k * 3 + 1, none⟩ = some (.int .i64 (l.getD k dc0).a) ∧ w.cell? ⟨b, off + k * 3 + 2, none⟩ = some (.int .i64 (l.getD k dc0).b) ∧ b < B := by
  obtain ⟨b', off', e, hb, hc⟩ := h.2 (by omega)
  injection e with e
  injection e with e1 e2
  subst e1; subst e2
  refine ⟨?_, ?_, ?_, hb⟩
  · have := hc (k * 3) (by omega)
    have e := dc_cell hk (show 0 < 3 by omega)
    rw [Nat.add_zero] at e
    rw [this, e]
    rfl
  · have := hc (k * 3 + 1) (by omega)
    rw [show off + k * 3 + 1 = off + (k * 3 + 1) by omega, this, dc_cell hk (by omega)]
    rfl
  · have := hc (k * 3 + 2) (by omega)
    rw [show off + k * 3 + 2 = off + (k * 3 + 2) by omega, this, dc_cell hk (by omega)]
    rfl

/-- What the mark leaves at cell m. -/
def mkDefect (q : Int) (m : Nat) : Value := .int .i64 (q + (m : Int))

/-- The answer of DefectsIn, of whoever it is. -/
def RetDcs (w : World) (l : List Dc) : Ending → World → Prop := RetR 76 3 w l.length (l.flatMap dcV)

theorem RetDc.toR {w : World} {l : List Dc} {e : Ending} {w' : World} (h : RetDc w l e w') : RetDcs w l e w' := by
  obtain ⟨g, c, he, ho, hb⟩ := h
  exact ⟨_, c, he, ho.toR, hb⟩

theorem specDefectsR_any (A : Option Addr) (n c : Nat) (xs : List Int) (w : World) (h : Rd w w.heap.size A n xs) (hn : n ≤ 2097152) :
    Calls Tryz.prog 47 #[.slice A n c] w (RetDcs w (defectsL xs)) := (specDefects_any A n c xs w h hn).mono fun _ _ h => h.toR

/-- In every world that has grown out of W. -/
def SoundC (W : World) : Prop := ∀ (A : Option Addr) (n c : Nat) (xs : List Int) (w : World), Below W.heap.size W w → Rd w w.heap.size A n xs → n ≤ 2097152 → n ≤ c → Calls Tryz.prog 26 #[.slice A n c] w (RetB w (soundB xs))

end Go.Proofs.YtiokfhdkbpoadaaGreatDoor
