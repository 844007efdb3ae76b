/- What the laws' helpers do with rows of claims. -/
import Derived.Test.YtkgmopeocmppfabOrw
import Derived.Test.YtkgmopeocmppfabCt
namespace Go.Proofs.Ytkgmopeocmppfab
open Go.RowKit

theorem mark_any_cell (cs : List Value) (f : Nat → Value) (m : Nat) (hm : m < cs.length) : ((List.range m).map f ++ cs.drop m).set m (f m) = (List.range (m + 1)).map f ++ cs.drop (m + 1) := by
  rw [List.set_append, if_neg (by simp), List.length_map, List.length_range, Nat.sub_self, List.range_succ, List.map_append, List.drop_eq_getElem_cons hm, List.set_cons_zero, List.append_assoc]
  rfl
theorem range_map_get (f : Nat → Value) (n j : Nat) (h : j < n) : ((List.range n).map f)[j]? = some (f j) := by simp [h]

theorem RdV.cm {w : World} {B n b off : Nat} {l : List Cm} (h : RdV 6 w B (some ⟨b, off, none⟩) n (l.flatMap cmV)) {k : Nat} (hk : k < l.length) (hn : l.length = n) :
    w.cell? ⟨b, off + k * 6, none⟩ = some (.int .i64 (l.getD k cm0).kind) ∧ w.cell? ⟨b, off + k * 6 + 1, none⟩ = some (.int .i64 (l.getD k cm0).frm) ∧ w.cell? ⟨b, off + k * 6 + 2, none⟩ = some (.int .i64 (l.getD k cm0).slot) ∧ w.cell? ⟨b, off + k * 6 + 3, none⟩ = some (.int .i64 (l.getD k cm0).place) ∧ w.cell? ⟨b, off + k * 6 + 4, none⟩ = some (.int .i64 (l.getD k cm0).target) ∧ w.cell? ⟨b, off + k * 6 + 5, none⟩ = some (.bool (l.getD k cm0).good) ∧ b < B := by
  obtain ⟨b', off', e, hb, hc⟩ := h.2 (by omega)
  injection e with e
  injection e with e1 e2
  subst e1; subst e2
  refine ⟨?_, ?_, ?_, ?_, ?_, ?_, hb⟩
  · have := hc (k * 6) (by omega)
    have e := cm_cell hk (show 0 < 6 by omega)
    rw [Nat.add_zero] at e
    rw [this, e]
    rfl
  · have := hc (k * 6 + 1) (by omega)
    rw [show off + k * 6 + 1 = off + (k * 6 + 1) by omega, this, cm_cell hk (by omega)]
    rfl
  · have := hc (k * 6 + 2) (by omega)
    rw [show off + k * 6 + 2 = off + (k * 6 + 2) by omega, this, cm_cell hk (by omega)]
    rfl
  · have := hc (k * 6 + 3) (by omega)
    rw [show off + k * 6 + 3 = off + (k * 6 + 3) by omega, this, cm_cell hk (by omega)]
    rfl
  · have := hc (k * 6 + 4) (by omega)
    rw [show off + k * 6 + 4 = off + (k * 6 + 4) by omega, this, cm_cell hk (by omega)]
    rfl
  · have := hc (k * 6 + 5) (by omega)
    rw [show off + k * 6 + 5 = off + (k * 6 + 5) by omega, this, cm_cell hk (by omega)]
    rfl

set_option maxHeartbeats 2000000 in
theorem likeClaims_any (A A' : Option Addr) (n c c' : Nat) (l : List Cm) (B : Nat) (w : World) (h : RdV 6 w B A n (l.flatMap cmV)) (h' : RdV 6 w B A' n (l.flatMap cmV)) (hl : l.length = n) (hn : n ≤ 100000) :
    Calls Try.prog 11 #[.slice A n c, .slice A' n c'] w fun e w' => e = .returned (.bool true) ∧ ∃ d, w' = w.drewN d := by
  have hd : ((n : Int) != (n : Int)) = false := by simp
  go_enter Try.func11, Try.ntmps11
  go_wp2_with fail
  go_loopw [5] (fun i wr => ∃ k : Nat, k ≤ n ∧ i = .int .i64 k ∧ ∃ d, wr = w.drewN d) (fun i _ => n - (intOf i).toNat)
  case atStart => exact ⟨0, Nat.zero_le _, rfl, 0, rfl⟩
  case round =>
    obtain ⟨k, hk, rfl, d, rfl⟩ := hrel
    by_cases hlt : k < n
    · obtain ⟨b, off, rfl, hbb, _⟩ := h.2 (by omega)
      obtain ⟨b', off', rfl, hbb', _⟩ := h'.2 (by omega)
      obtain ⟨p0, p1, p2, p3, p4, p5, _⟩ := h.cm (show k < l.length by omega) hl
      obtain ⟨q0, q1, q2, q3, q4, q5, _⟩ := h'.cm (show k < l.length by omega) hl
      generalize (l.getD k cm0).kind = x0 at *
      generalize (l.getD k cm0).frm = x1 at *
      generalize (l.getD k cm0).slot = x2 at *
      generalize (l.getD k cm0).place = x3 at *
      generalize (l.getD k cm0).target = x4 at *
      generalize (l.getD k cm0).good = x5 at *
      have n1 : (0 : Int) ≤ (k : Int) := by omega
      have n2 : (k : Int) < (n : Int) := by omega
      clear h h' hl
      change (w.drewN d).cell? _ = _ at p0 p1 p2 p3 p4 p5 q0 q1 q2 q3 q4 q5
      obtain ⟨wr, hwr⟩ : ∃ wr, wr = w.drewN d := ⟨_, rfl⟩
      rw [← hwr] at p0 p1 p2 p3 p4 p5 q0 q1 q2 q3 q4 q5 ⊢
      have HW := Lib.hid hwr
      clear hwr
      go_wp2_with fail
      go_region_held3 (fun w' => w'.cell? ⟨b, off + k * 6, none⟩ = some (.int .i64 x0) ∧ w'.cell? ⟨b, off + k * 6 + 1, none⟩ = some (.int .i64 x1) ∧ w'.cell? ⟨b, off + k * 6 + 2, none⟩ = some (.int .i64 x2) ∧ w'.cell? ⟨b, off + k * 6 + 3, none⟩ = some (.int .i64 x3) ∧ w'.cell? ⟨b, off + k * 6 + 4, none⟩ = some (.int .i64 x4) ∧ w'.cell? ⟨b, off + k * 6 + 5, none⟩ = some (.bool x5) ∧ w'.cell? ⟨b', off' + k * 6, none⟩ = some (.int .i64 x0) ∧ w'.cell? ⟨b', off' + k * 6 + 1, none⟩ = some (.int .i64 x1) ∧ w'.cell? ⟨b', off' + k * 6 + 2, none⟩ = some (.int .i64 x2) ∧ w'.cell? ⟨b', off' + k * 6 + 3, none⟩ = some (.int .i64 x3) ∧ w'.cell? ⟨b', off' + k * 6 + 4, none⟩ = some (.int .i64 x4) ∧ w'.cell? ⟨b', off' + k * 6 + 5, none⟩ = some (.bool x5)) (go_keep) (fail)
      go_wp2_with fail
      go_roundw
      case rel => exact ⟨k + 1, by omega, by go_num, d + 1, by rw [HW.out]; rfl⟩
      case measure => simp [intOf]; omega
    · go_wp2_with fail
      go_ret
      exact ⟨rfl, _, rfl⟩

/-- What the mark leaves at cell m. -/
def mkClaim (q : Int) (m : Nat) : Value := if m % 6 = 5 then .bool ((q + (m : Int)) % 3 == 0) else .int .i64 (q + (m : Int))

end Go.Proofs.Ytkgmopeocmppfab
