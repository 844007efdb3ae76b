/- What the laws' helpers do with rows of defects. The exact laws of chapter 11, walked, given what the program's own functions answer. -/
import Derived.Test.YtieknpkbmccimaaDoorY5
import Derived.Test.YtieknpkbmccimaaDoorDfc
import Derived.Test.YtieknpkbmccimaaDoorH6
import Derived.Test.YtieknpkbmccimaaDoorG3
namespace Go.Proofs.YtieknpkbmccimaaDoor
open Go.RowKit

theorem dc_cell {l : List Dc} {k j : Nat} (hk : k < l.length) (hj : j < 3) : (l.flatMap dcV)[k * 3 + j]? = (dcV (l.getD k dc0))[j]? := by
  rw [flat_get dcV 3 (fun _ => rfl) l k j hk hj, List.getD_eq_getElem?_getD, List.getElem?_eq_getElem hk]; rfl

theorem RdV.dc {w : World} {B n b off : Nat} {l : List Dc} (h : RdV 3 w B (some ⟨b, off, none⟩) n (l.flatMap dcV)) {k : Nat} (hk : k < l.length) (hn : l.length = n) :
    w.cell? ⟨b, off + k * 3, none⟩ = some (.int .i64 (l.getD k dc0).kind) ∧ w.cell? ⟨b, off + k * 3 + 1, none⟩ = some (.int .i64 (l.getD k dc0).a) ∧ w.cell? ⟨b, off + k * 3 + 2, none⟩ = some (.int .i64 (l.getD k dc0).b) ∧ b < B := by
  obtain ⟨b', off', e, hb, hc⟩ := h.2 (by omega)
  injection e with e
  injection e with e1 e2
  subst e1; subst e2
  refine ⟨?_, ?_, ?_, hb⟩
  · have := hc (k * 3) (by omega)
    have e := dc_cell hk (show 0 < 3 by omega)
    rw [Nat.add_zero] at e
    rw [this, e]
    rfl
  · have := hc (k * 3 + 1) (by omega)
    rw [show off + k * 3 + 1 = off + (k * 3 + 1) by omega, this, dc_cell hk (by omega)]
    rfl
  · have := hc (k * 3 + 2) (by omega)
    rw [show off + k * 3 + 2 = off + (k * 3 + 2) by omega, this, dc_cell hk (by omega)]
    rfl

/-- What the mark leaves at cell m. -/
def mkDefect (q : Int) (m : Nat) : Value := .int .i64 (q + (m : Int))

/-- The answer of DefectsIn, of whoever it is. -/
def RetDcs (w : World) (l : List Dc) : Ending → World → Prop := RetR 36 3 w l.length (l.flatMap dcV)

theorem RetDc.toR {w : World} {l : List Dc} {e : Ending} {w' : World} (h : RetDc w l e w') : RetDcs w l e w' := by
  obtain ⟨g, c, he, ho, hb⟩ := h
  exact ⟨_, c, he, ho.toR, hb⟩

theorem specDefectsR_any (A : Option Addr) (n c : Nat) (xs : List Int) (w : World) (h : Rd w w.heap.size A n xs) (hn : n ≤ 2097152) :
    Calls Tryd.prog 9 #[.slice A n c] w (RetDcs w (defectsL xs)) := (specDefects_any A n c xs w h hn).mono fun _ _ h => h.toR

/-- In every world that has grown out of W. -/
def SoundC (W : World) : Prop := ∀ (A : Option Addr) (n c : Nat) (xs : List Int) (w : World), Below W.heap.size W w → Rd w w.heap.size A n xs → n ≤ 2097152 → n ≤ c → Calls Tryd.prog 6 #[.slice A n c] w (RetB w (soundB xs))

set_option maxHeartbeats 1000000 in
theorem law_Sound (w : World) (hI : SoundC w) (A : Option Addr) (n c : Nat) (xs : List Int) (h : Rd w w.heap.size A n xs) :
    Calls Tryd.prog 3 #[.slice A n c] w fun e w' => e = .returned (.bool true) ∧ Below w.heap.size w w' := by
  by_cases hbig : 1048576 < n
  · have hb : decide ((1048576 : Int) < (n : Int)) = true := by simp; omega
    go_enter Tryd.func3, Tryd.ntmps3
    go_wp2
    go_ret
    exact ⟨rfl, Below.refl _ _⟩
  have hb : decide ((1048576 : Int) < (n : Int)) = false := by simp; omega
  have hee : (xs == xs) = true := by simp
  have hff : (soundB xs != soundB xs) = false := by simp
  go_enter Tryd.func3, Tryd.ntmps3
  go_wp2_with fail
  refine (to_any A n c xs w h (by omega)).mono ?_
  rintro e w1 ⟨B1, rfl, o1, b1⟩
  go_wp2_with fail
  refine (specSound_any B1 n n xs w1 o1.rd (by omega)).mono ?_
  rintro e w2 ⟨rfl, b2⟩
  have b02 := below_more b1 b2 b1.size
  go_wp2_with fail
  refine (to_any A n c xs w2 ((h.below b02).more b02.size) (by omega)).mono ?_
  rintro e w3 ⟨X, rfl, oX, b3⟩
  have b03 := below_more b02 b3 b02.size
  go_wp2_with fail
  refine (hI X n n xs w3 b03 oX.rd (by omega) (Nat.le_refl _)).mono ?_
  rintro e w4 ⟨rfl, b4⟩
  have b04 := below_more b03 b4 b03.size
  have oX := oX.below b4 (Nat.le_refl _)
  go_wp2_with fail
  refine (to_any A n c xs w4 ((h.below b04).more b04.size) (by omega)).mono ?_
  rintro e w5 ⟨Y, rfl, oY, b5⟩
  have b05 := below_more b04 b5 b04.size
  have oX := oX.below b5 b4.size
  have s4 := b4.size
  have s5 := b5.size
  go_wp2_with fail
  refine (eq_any X Y n n n n xs xs w5.heap.size w5 (oX.rd.more (by omega)) oY.rd (by omega)).mono ?_
  rintro e w5' ⟨rfl, d2, rfl⟩
  go_wp2_with fail
  go_ret
  exact ⟨rfl, below_drewN b05 d2⟩

end Go.Proofs.YtieknpkbmccimaaDoor
