/- errors.As at a target of the program's own type (a struct that is an error): Go's own text walked; closed facts on the model's entries at this translation's numbers. errors.As where the error is none of the target's type, and errors.Is of an error of the program's own that wraps one of errors.New's make. -/
import Derived.Test.YtieknpkbmccimaaDoorG0
import Derived.LaidEql
import Derived.Stop.Asserts
import Derived.RowKitTokens
import Derived.RangeFuncBox
namespace Go.Proofs.YtieknpkbmccimaaDoor
open Go.RowKit Go.Extern.Stop Go.Stop Go.Extern

theorem as_kindD (w : World) : ((ReflectliteType.abiMethod fun t => (fun a : Nat => Value.int IntKind.u8 (a : Int)) <$> Rtype.kind t) #[.pointer (some ⟨3, 60, none⟩)]).run Tryd.prog w = .ok (.int .u8 25) w := by kernel_rfl

theorem as_rlm (z : Sem Value) (f : TypeId → Addr → Nat → Nat → Sem Value) (v : Value) :
    ReflectliteValue.method z f #[v] = (do match ← ReflectliteValue.parts v with | none => z | some (t, a, fl) => f t a fl (fl % 32)) := rfl

theorem as_valueOfD (k a b : Int) (z : Value) (w : World) : (ReflectliteValue.unpack (.iface 60 (.agg #[.int .i64 k, .int .i64 a, .int .i64 b, z]))).run Tryd.prog w
    = .ok (.agg #[.pointer (some ⟨3, 60, none⟩), .pointer (some ⟨w.heap.size, 0, none⟩), .int .u64 153]) (w.alloc (.cells #[.int .i64 k, .int .i64 a, .int .i64 b, z] 60)) := by kernel_rfl

theorem as_mkD (p : Addr) (w : World) : (ReflectliteValue.mk 60 p ReflectliteValue.flagAddr).run Tryd.prog w = .ok (.agg #[.pointer (some ⟨3, 60, none⟩), .pointer (some p), .int .u64 409]) w := by kernel_rfl

theorem as_rls (v x : Value) : ReflectliteValue.set #[v, x] = (do
    let (some (dst, a, fl), some (src, b, _)) := (← ReflectliteValue.parts v, ← ReflectliteValue.parts x)
      | unsupported (.noEntry "extern/(internal/reflectlite.Value).Set.zeroValue")
    if fl / ReflectliteValue.flagAddr % 2 == 0 then unsupported (.noEntry "extern/(internal/reflectlite.Value).Set.unaddressable")
    let val ← loadVar src b
    if ← Rtype.directlyAssignable dst src then storeVar dst a val
    else if ← Rtype.implements dst src then
      if (← Rtype.kind src) == 20 then
        match val with
        | .nilIface => unsupported (.noEntry "extern/reflectlite: a nil value of one interface type handed on as a value of another")
        | _ => storeVar dst a val
      else storeVar dst a (.iface src val)
    else panicString ("reflectlite.Set: value of type " ++ (← Rtype.spelt src) ++ " is not assignable to type " ++ (← Rtype.spelt dst))
    pure (.tuple #[])) := rfl

theorem as_partsDa (a : Addr) (w : World) : (ReflectliteValue.parts (.agg #[.pointer (some ⟨3, 60, none⟩), .pointer (some a), .int .u64 409])).run Tryd.prog w = .ok (some (60, a, 409)) w := by kernel_rfl

theorem as_partsD (a : Addr) (w : World) : (ReflectliteValue.parts (.agg #[.pointer (some ⟨3, 60, none⟩), .pointer (some a), .int .u64 153])).run Tryd.prog w = .ok (some (60, a, 153)) w := by kernel_rfl

theorem as_directD (w : World) : (Rtype.directlyAssignable 60 60).run Tryd.prog w = .ok true w := by kernel_rfl

theorem as_sizeD (w : World) : (sizeOf 60).run Tryd.prog w = .ok 4 w := by kernel_rfl

theorem as_isAggD (w : World) : (isAgg 60).run Tryd.prog w = .ok true w := by kernel_rfl

theorem as_loadD (p : Nat) (v0 v1 v2 v3 : Value) (W : World) (h0 : W.cell? ⟨p, 0, none⟩ = some v0) (h1 : W.cell? ⟨p, 1, none⟩ = some v1) (h2 : W.cell? ⟨p, 2, none⟩ = some v2) (h3 : W.cell? ⟨p, 3, none⟩ = some v3) :
    (loadVar 60 ⟨p, 0, none⟩).run Tryd.prog W = .ok (.agg #[v0, v1, v2, v3]) W := by
  unfold loadVar
  simp only [Sem.run_bind, as_isAggD, Result.andThen_ok, if_true, as_sizeD]
  simp [loadCells, loadCellsFrom, Addr.add, h0, h1, h2, h3]

/-- The four cells of a struct that is written anew. -/
def put4 (W : World) (q : Nat) (v0 v1 v2 v3 : Value) : World := (((W.setCell ⟨q, 0, none⟩ v0).setCell ⟨q, 1, none⟩ v1).setCell ⟨q, 2, none⟩ v2).setCell ⟨q, 3, none⟩ v3

theorem cells_setCell {W : World} {q : Nat} {cs : List Value} {t : TypeId} (h : W.heap[q]? = some (.cells cs.toArray t (0, 0))) (j : Nat) (v : Value) : (W.setCell ⟨q, j, none⟩ v).heap[q]? = some (.cells (cs.set j v).toArray t (0, 0)) := by
  obtain ⟨hlt, hk⟩ := Array.getElem?_eq_some_iff.1 h
  show (W.heap.modify q _)[q]? = _
  rw [Array.getElem?_eq_getElem (by rw [Array.size_modify]; exact hlt), Array.getElem_modify_self, hk]
  simp
theorem run_store4 {W : World} {q : Nat} {cs : List Value} {t : TypeId} (h : W.heap[q]? = some (.cells cs.toArray t (0, 0))) {j : Nat} {v : Value} (hj : j < cs.length) (hv : v.oneCell' = true) : (store (⟨q, j, none⟩ : Addr) v).run Tryd.prog W = .ok () (W.setCell ⟨q, j, none⟩ v) := by
  have hc : W.cell? ⟨q, j, none⟩ = some cs[j] := by simp [World.cell?, h, hj]
  have hf : W.frozen? ⟨q, j, none⟩ = false := by simp [World.frozen?, h]
  rw [run_store Tryd.prog W _ _ _ hv]
  simp [hc, hf]

theorem as_storeD (q : Nat) (c0 c1 c2 c3 : Value) (t : TypeId) (k a b : Int) (T : TypeId) (x : Addr) (W : World) (h : W.heap[q]? = some (.cells #[c0, c1, c2, c3] t (0, 0))) :
    (storeVar 60 ⟨q, 0, none⟩ (.agg #[.int .i64 k, .int .i64 a, .int .i64 b, .iface T (.pointer (some x))])).run Tryd.prog W = .ok () (put4 W q (.int .i64 k) (.int .i64 a) (.int .i64 b) (.iface T (.pointer (some x)))) := by
  have hs := as_sizeD W
  have h0 : W.heap[q]? = some (.cells [c0, c1, c2, c3].toArray t (0, 0)) := h
  have h1 := cells_setCell h0 0 (.int .i64 k)
  have h2 := cells_setCell h1 1 (.int .i64 a)
  have h3 := cells_setCell h2 2 (.int .i64 b)
  have r0 := run_store4 h0 (j := 0) (v := .int .i64 k) (by simp) rfl
  have r1 := run_store4 h1 (j := 1) (v := .int .i64 a) (by simp) rfl
  have r2 := run_store4 h2 (j := 2) (v := .int .i64 b) (by simp) rfl
  have r3 := run_store4 h3 (j := 3) (v := .iface T (.pointer (some x))) (by simp) rfl
  unfold storeVar put4
  simp only [Sem.run_bind, hs, Result.andThen_ok]
  rw [if_neg (by simp [Value.cells])]
  simp [Value.cells, storeCells, Addr.add, r0, r1, r2, r3, Result.andThen]

theorem as_setD (q p : Nat) (c0 c1 c2 c3 : Value) (t : TypeId) (k a b : Int) (T : TypeId) (x : Addr) (W : World) (h : W.heap[q]? = some (.cells #[c0, c1, c2, c3] t (0, 0)))
    (h0 : W.cell? ⟨p, 0, none⟩ = some (.int .i64 k)) (h1 : W.cell? ⟨p, 1, none⟩ = some (.int .i64 a)) (h2 : W.cell? ⟨p, 2, none⟩ = some (.int .i64 b)) (h3 : W.cell? ⟨p, 3, none⟩ = some (.iface T (.pointer (some x)))) :
    (ReflectliteValue.set #[.agg #[.pointer (some ⟨3, 60, none⟩), .pointer (some ⟨q, 0, none⟩), .int .u64 409], .agg #[.pointer (some ⟨3, 60, none⟩), .pointer (some ⟨p, 0, none⟩), .int .u64 153]]).run Tryd.prog W
      = .ok (.tuple #[]) (put4 W q (.int .i64 k) (.int .i64 a) (.int .i64 b) (.iface T (.pointer (some x)))) := by
  have hl := as_loadD p _ _ _ _ W h0 h1 h2 h3
  have hs := as_storeD q c0 c1 c2 c3 t k a b T x W h
  rw [as_rls]
  simp only [Sem.run_bind, as_partsDa, as_partsD, Result.andThen]
  simp [ReflectliteValue.flagAddr, hl, Result.andThen, as_directD, hs]

theorem is_comparable (w : World) : ((Extern.ReflectliteType.method fun t => do Go.Extern.Rtype.noPackHeld "Comparable" t; (fun a => Value.bool a.comparable) <$> typeInfo t) #[.agg #[.pointer (some ⟨3, 105, none⟩)]]).run Tryd.prog w = .ok (.bool true) w := by kernel_rfl

theorem is_comp : (Tryd.prog.info? 105).map (·.comparable) = some true := by kernel_rfl

theorem is_size : (Tryd.prog.info? 124).map (·.size) = some 1 := by kernel_rfl

end Go.Proofs.YtieknpkbmccimaaDoor
