/- What the laws' helpers do with rows of defects. The exact laws of chapter 11, walked, given what the program's own functions answer. -/
import Derived.Test.YtieknpkbmccimabGreatDoorY5
import Derived.Test.YtieknpkbmccimabGreatDoorDfc
import Derived.Test.YtieknpkbmccimabGreatDoorH6
import Derived.Test.YtieknpkbmccimabGreatDoorG3
namespace Go.Proofs.YtieknpkbmccimabGreatDoor
open Go.RowKit

theorem dc_cell {l : List Dc} {k j : Nat} (hk : k < l.length) (hj : j < 3) : (l.flatMap dcV)[k * 3 + j]? = (dcV (l.getD k dc0))[j]? := by
  rw [flat_get dcV 3 (fun _ => rfl) l k j hk hj, List.getD_eq_getElem?_getD, List.getElem?_eq_getElem hk]; rfl

theorem RdV.dc {w : World} {B n b off : Nat} {l : List Dc} (h : RdV 3 w B (some ⟨b, off, none⟩) n (l.flatMap dcV)) {k : Nat} (hk : k < l.length) (hn : l.length = n) :
    w.cell? ⟨b, off + k * 3, none⟩ = some (.int .i64 (l.getD k dc0).kind) ∧ w.cell? ⟨b, off + k * 3 + 1, none⟩ = some (.int .i64 (l.getD k dc0).a) ∧ w.cell? ⟨b, off + k * 3 + 2, none⟩ = some (.int .i64 (l.getD k dc0).b) ∧ b < B := by
  obtain ⟨b', off', e, hb, hc⟩ := h.2 (by omega)
  injection e with e
  injection e with e1 e2
  subst e1; subst e2
  refine ⟨?_, ?_, ?_, hb⟩
  · have := hc (k * 3) (by omega)
    have e := dc_cell hk (show 0 < 3 by omega)
    rw [Nat.add_zero] at e
    rw [this, e]
    rfl
  · have := hc (k * 3 + 1) (by omega)
    rw [show off + k * 3 + 1 = off + (k * 3 + 1) by omega, this, dc_cell hk (by omega)]
    rfl
  · have := hc (k * 3 + 2) (by omega)
    rw [show off + k * 3 + 2 = off + (k * 3 + 2) by omega, this, dc_cell hk (by omega)]
    rfl

set_option maxHeartbeats 2000000 in
theorem likeDefects_any (A A' : Option Addr) (n c c' : Nat) (l : List Dc) (B : Nat) (w : World) (h : RdV 3 w B A n (l.flatMap dcV)) (h' : RdV 3 w B A' n (l.flatMap dcV)) (hl : l.length = n) (hn : n ≤ 100000) :
    Calls Tryz.prog 10 #[.slice A n c, .slice A' n c'] w fun e w' => e = .returned (.bool true) ∧ ∃ d, w' = w.drewN d := by
  have hd : ((n : Int) != (n : Int)) = false := by simp
  go_enter Tryz.func10, Tryz.ntmps10
  go_wp2_with fail
  go_loopw [5] (fun i wr => ∃ k : Nat, k ≤ n ∧ i = .int .i64 k ∧ ∃ d, wr = w.drewN d) (fun i _ => n - (intOf i).toNat)
  case atStart => exact ⟨0, Nat.zero_le _, rfl, 0, rfl⟩
  case round =>
    obtain ⟨k, hk, rfl, d, rfl⟩ := hrel
    by_cases hlt : k < n
    · obtain ⟨b, off, rfl, hbb, _⟩ := h.2 (by omega)
      obtain ⟨b', off', rfl, hbb', _⟩ := h'.2 (by omega)
      obtain ⟨p0, p1, p2, _⟩ := h.dc (show k < l.length by omega) hl
      obtain ⟨q0, q1, q2, _⟩ := h'.dc (show k < l.length by omega) hl
      generalize (l.getD k dc0).kind = x0 at *
      generalize (l.getD k dc0).a = x1 at *
      generalize (l.getD k dc0).b = x2 at *
      have n1 : (0 : Int) ≤ (k : Int) := by omega
      have n2 : (k : Int) < (n : Int) := by omega
      clear h h' hl
      change (w.drewN d).cell? _ = _ at p0 p1 p2 q0 q1 q2
      obtain ⟨wr, hwr⟩ : ∃ wr, wr = w.drewN d := ⟨_, rfl⟩
      rw [← hwr] at p0 p1 p2 q0 q1 q2 ⊢
      have HW := Lib.hid hwr
      clear hwr
      go_wp2_with fail
      go_region_held3 (fun w' => w'.cell? ⟨b, off + k * 3, none⟩ = some (.int .i64 x0) ∧ w'.cell? ⟨b, off + k * 3 + 1, none⟩ = some (.int .i64 x1) ∧ w'.cell? ⟨b, off + k * 3 + 2, none⟩ = some (.int .i64 x2) ∧ w'.cell? ⟨b', off' + k * 3, none⟩ = some (.int .i64 x0) ∧ w'.cell? ⟨b', off' + k * 3 + 1, none⟩ = some (.int .i64 x1) ∧ w'.cell? ⟨b', off' + k * 3 + 2, none⟩ = some (.int .i64 x2)) (go_keep) (fail)
      go_wp2_with fail
      go_roundw
      case rel => exact ⟨k + 1, by omega, by go_num, d + 1, by rw [HW.out]; rfl⟩
      case measure => simp [intOf]; omega
    · go_wp2_with fail
      go_ret
      exact ⟨rfl, _, rfl⟩

/-- What the mark leaves at cell m. -/
def mkDefect (q : Int) (m : Nat) : Value := .int .i64 (q + (m : Int))

/-- The answer of DefectsIn, of whoever it is. -/
def RetDcs (w : World) (l : List Dc) : Ending → World → Prop := RetR 31 3 w l.length (l.flatMap dcV)

theorem RetDc.toR {w : World} {l : List Dc} {e : Ending} {w' : World} (h : RetDc w l e w') : RetDcs w l e w' := by
  obtain ⟨g, c, he, ho, hb⟩ := h
  exact ⟨_, c, he, ho.toR, hb⟩

theorem specDefectsR_any (A : Option Addr) (n c : Nat) (xs : List Int) (w : World) (h : Rd w w.heap.size A n xs) (hn : n ≤ 2097152) :
    Calls Tryz.prog 11 #[.slice A n c] w (RetDcs w (defectsL xs)) := (specDefects_any A n c xs w h hn).mono fun _ _ h => h.toR

/-- In every world that has grown out of W. -/
def DefectsC (W : World) : Prop := ∀ (A : Option Addr) (n c : Nat) (xs : List Int) (w : World), Below W.heap.size W w → Rd w w.heap.size A n xs → n ≤ 2097152 → n ≤ c → Calls Tryz.prog 7 #[.slice A n c] w (RetDcs w (defectsL xs))

/-- In every world that has grown out of W. -/
def SoundC (W : World) : Prop := ∀ (A : Option Addr) (n c : Nat) (xs : List Int) (w : World), Below W.heap.size W w → Rd w w.heap.size A n xs → n ≤ 2097152 → n ≤ c → Calls Tryz.prog 12 #[.slice A n c] w (RetB w (soundB xs))

/-- In every world that has grown out of W. -/
def MildC (W : World) : Prop := ∀ (A : Option Addr) (n c : Nat) (xs : List Int) (w : World), Below W.heap.size W w → Rd w w.heap.size A n xs → n ≤ 2097152 → n ≤ c → Calls Tryz.prog 14 #[.slice A n c] w (RetB w (mildB xs))

end Go.Proofs.YtieknpkbmccimabGreatDoor
