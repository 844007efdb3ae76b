/- What the laws' helpers do with rows of claims. -/
import Derived.Test.YtimbfilbojejiaaOrw
import Derived.Test.YtimbfilbojejiaaCt
namespace Go.Proofs.Ytimbfilbojejiaa
open Go.RowKit

theorem mark_any_cell (cs : List Value) (f : Nat → Value) (m : Nat) (hm : m < cs.length) : ((List.range m).map f ++ cs.drop m).set m (f m) = (List.range (m + 1)).map f ++ cs.drop (m + 1) := by
  rw [List.set_append, if_neg (by simp), List.length_map, List.length_range, Nat.sub_self, List.range_succ, List.map_append, List.drop_eq_getElem_cons hm, List.set_cons_zero, List.append_assoc]
  rfl
theorem range_map_get (f : Nat → Value) (n j : Nat) (h : j < n) : ((List.range n).map f)[j]? = some (f j) := by simp [h]

theorem RdV.cm {w : World} {B n b off : Nat} {l : List Cm} (h : RdV 6 w B (some ⟨b, off, none⟩) n (l.flatMap cmV)) {k : Nat} (hk : k < l.length) (hn : l.length = n) :
    w.cell? ⟨b, off + k * 6, none⟩ = some (.int .i64 (l.getD k cm0).kind) ∧ w.cell? ⟨b, off + k * 6 + 1, none⟩ = some (.int .i64 (l.getD k cm0).frm) ∧ w.cell? ⟨b, off + k * 6 + 2, none⟩ = some (.int .i64 (l.getD k cm0).slot) ∧ w.cell? ⟨b, off + k * 6 + 3, none⟩ = some (.int .i64 (l.getD k cm0).place) ∧ w.cell? ⟨b, off + k * 6 + 4, none⟩ = some (.int .i64 (l.getD k cm0).target) ∧ w.cell? ⟨b, off + k * 6 + 5, none⟩ = some (.bool (l.getD k cm0).good) ∧ b < B := by
  obtain ⟨b', off', e, hb, hc⟩ := h.2 (by omega)
  injection e with e
  injection e with e1 e2
  subst e1; subst e2
  refine ⟨?_, ?_, ?_, ?_, ?_, ?_, hb⟩
  · have := hc (k * 6) (by omega)
    have e := cm_cell hk (show 0 < 6 by omega)
    rw [Nat.add_zero] at e
    rw [this, e]
    rfl
  · have := hc (k * 6 + 1) (by omega)
    rw [show off + k * 6 + 1 = off + (k * 6 + 1) by omega, this, cm_cell hk (by omega)]
    rfl
  · have := hc (k * 6 + 2) (by omega)
    rw [show off + k * 6 + 2 = off + (k * 6 + 2) by omega, this, cm_cell hk (by omega)]
    rfl
  · have := hc (k * 6 + 3) (by omega)
    rw [show off + k * 6 + 3 = off + (k * 6 + 3) by omega, this, cm_cell hk (by omega)]
    rfl
  · have := hc (k * 6 + 4) (by omega)
    rw [show off + k * 6 + 4 = off + (k * 6 + 4) by omega, this, cm_cell hk (by omega)]
    rfl
  · have := hc (k * 6 + 5) (by omega)
    rw [show off + k * 6 + 5 = off + (k * 6 + 5) by omega, this, cm_cell hk (by omega)]
    rfl

/-- What the mark leaves at cell m. -/
def mkClaim (q : Int) (m : Nat) : Value := if m % 6 = 5 then .bool ((q + (m : Int)) % 3 == 0) else .int .i64 (q + (m : Int))

end Go.Proofs.Ytimbfilbojejiaa
