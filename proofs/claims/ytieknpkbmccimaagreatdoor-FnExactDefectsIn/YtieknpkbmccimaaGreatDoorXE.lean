/- errors.As at a target of the program's own type (a struct that is an error): Go's own text walked; closed facts on the model's entries at this translation's numbers. errors.As where the error is none of the target's type, and errors.Is of an error of the program's own that wraps one of errors.New's make. -/
import Derived.Test.YtieknpkbmccimaaGreatDoorG0
import Derived.LaidEql
import Derived.Stop.Asserts
import Derived.RowKitTokens
import Derived.RangeFuncBox
namespace Go.Proofs.YtieknpkbmccimaaGreatDoor
open Go.RowKit Go.Extern.Stop Go.Stop Go.Extern

theorem as_valueOfP (t : Addr) (w : World) : (ReflectliteValue.unpack (.iface 52 (.pointer (some t)))).run Tryz.prog w
    = .ok (.agg #[.pointer (some ⟨4, 52, none⟩), .pointer (some ⟨w.heap.size, 0, none⟩), .int .u64 150]) (w.alloc (.cells #[.pointer (some t)] 52)) := by kernel_rfl

theorem as_typeP (a : Addr) (w : World) : (ReflectliteValue.methodAny (ReflectliteValue.valueError "reflectlite.Value.Type" 0) (fun t _ _ _ => ReflectliteType.toType t) #[.agg #[.pointer (some ⟨4, 52, none⟩), .pointer (some a), .int .u64 150]]).run Tryz.prog w
    = .ok (.iface 96 (.agg #[.pointer (some ⟨4, 52, none⟩)])) w := by kernel_rfl

theorem as_methodKind (h : Value) (w : World) : (Go.method 276 96 (.agg #[h]) "Kind").run Tryz.prog w = .ok (119, h) w := by kernel_rfl

theorem as_kindP (w : World) : ((ReflectliteType.abiMethod fun t => (fun a : Nat => Value.int IntKind.u8 (a : Int)) <$> Rtype.kind t) #[.pointer (some ⟨4, 52, none⟩)]).run Tryz.prog w = .ok (.int .u8 22) w := by kernel_rfl

theorem as_kindD (w : World) : ((ReflectliteType.abiMethod fun t => (fun a : Nat => Value.int IntKind.u8 (a : Int)) <$> Rtype.kind t) #[.pointer (some ⟨4, 50, none⟩)]).run Tryz.prog w = .ok (.int .u8 25) w := by kernel_rfl

theorem as_rlm (z : Sem Value) (f : TypeId → Addr → Nat → Nat → Sem Value) (v : Value) :
    ReflectliteValue.method z f #[v] = (do match ← ReflectliteValue.parts v with | none => z | some (t, a, fl) => f t a fl (fl % 32)) := rfl

theorem as_partsP (a : Addr) (w : World) : (ReflectliteValue.parts (.agg #[.pointer (some ⟨4, 52, none⟩), .pointer (some a), .int .u64 150])).run Tryz.prog w = .ok (some (52, a, 150)) w := by kernel_rfl

theorem as_isNilP (a p : Addr) (W : World) (ha : W.cell? a = some (.pointer (some p))) :
    (ReflectliteValue.method (ReflectliteValue.valueError "reflectlite.Value.IsNil" 0) ReflectliteValue.isNil #[.agg #[.pointer (some ⟨4, 52, none⟩), .pointer (some a), .int .u64 150]]).run Tryz.prog W = .ok (.bool false) W := by
  rw [as_rlm]
  simp only [Sem.run_bind, as_partsP, Result.andThen]
  simp [ReflectliteValue.isNil, loadVar, isAgg, underlying, Tryz.underlying52, ha, Result.andThen]

theorem as_methodElem (h : Value) (w : World) : (Go.method 276 96 (.agg #[h]) "Elem").run Tryz.prog w = .ok (130, .agg #[h]) w := by kernel_rfl

theorem as_methodImplements (h : Value) (w : World) : (Go.method 276 96 (.agg #[h]) "Implements").run Tryz.prog w = .ok (131, .agg #[h]) w := by kernel_rfl

theorem as_methodAssignableTo (h : Value) (w : World) : (Go.method 276 96 (.agg #[h]) "AssignableTo").run Tryz.prog w = .ok (128, .agg #[h]) w := by kernel_rfl

theorem as_elemP (w : World) : (ReflectliteType.method ReflectliteType.elem #[.agg #[.pointer (some ⟨4, 52, none⟩)]]).run Tryz.prog w = .ok (.iface 96 (.agg #[.pointer (some ⟨4, 50, none⟩)])) w := by kernel_rfl

theorem as_implementsD (w : World) : (ReflectliteType.relation "Implements" ReflectliteType.implements_ #[.agg #[.pointer (some ⟨4, 50, none⟩)], .iface 96 (.agg #[.pointer (some ⟨4, 48, none⟩)])]).run Tryz.prog w = .ok (.bool true) w := by kernel_rfl

theorem as_typeOfD (v : Value) (w : World) : (ReflectliteType.typeOf #[.iface 50 v]).run Tryz.prog w = .ok (.iface 96 (.agg #[.pointer (some ⟨4, 50, none⟩)])) w := by kernel_rfl

theorem as_typeOfE (v : Value) (w : World) : (ReflectliteType.typeOf #[.iface 142 v]).run Tryz.prog w = .ok (.iface 96 (.agg #[.pointer (some ⟨4, 142, none⟩)])) w := by kernel_rfl

theorem as_assignableD (w : World) : (ReflectliteType.relation "AssignableTo" ReflectliteType.assignableTo #[.agg #[.pointer (some ⟨4, 50, none⟩)], .iface 96 (.agg #[.pointer (some ⟨4, 50, none⟩)])]).run Tryz.prog w = .ok (.bool true) w := by kernel_rfl

theorem as_assignableE (w : World) : (ReflectliteType.relation "AssignableTo" ReflectliteType.assignableTo #[.agg #[.pointer (some ⟨4, 142, none⟩)], .iface 96 (.agg #[.pointer (some ⟨4, 50, none⟩)])]).run Tryz.prog w = .ok (.bool false) w := by kernel_rfl

theorem as_valueOfD (k a b : Int) (z : Value) (w : World) : (ReflectliteValue.unpack (.iface 50 (.agg #[.int .i64 k, .int .i64 a, .int .i64 b, z]))).run Tryz.prog w
    = .ok (.agg #[.pointer (some ⟨4, 50, none⟩), .pointer (some ⟨w.heap.size, 0, none⟩), .int .u64 153]) (w.alloc (.cells #[.int .i64 k, .int .i64 a, .int .i64 b, z] 50)) := by kernel_rfl

theorem as_elemOfP (w : World) : (Rtype.elem? 52).run Tryz.prog w = .ok (some 50) w := by kernel_rfl

theorem as_mkD (p : Addr) (w : World) : (ReflectliteValue.mk 50 p ReflectliteValue.flagAddr).run Tryz.prog w = .ok (.agg #[.pointer (some ⟨4, 50, none⟩), .pointer (some p), .int .u64 409]) w := by kernel_rfl

theorem as_elemVP (a p : Addr) (W : World) (ha : W.cell? a = some (.pointer (some p))) :
    (ReflectliteValue.method (ReflectliteValue.valueError "reflectlite.Value.Elem" 0) ReflectliteValue.elem #[.agg #[.pointer (some ⟨4, 52, none⟩), .pointer (some a), .int .u64 150]]).run Tryz.prog W
      = .ok (.agg #[.pointer (some ⟨4, 50, none⟩), .pointer (some p), .int .u64 409]) W := by
  rw [as_rlm]
  simp only [Sem.run_bind, as_partsP, Result.andThen]
  simp [ReflectliteValue.elem, loadVar, isAgg, underlying, Tryz.underlying52, ha, Result.andThen, as_elemOfP, as_mkD]

theorem as_rls (v x : Value) : ReflectliteValue.set #[v, x] = (do
    let (some (dst, a, fl), some (src, b, _)) := (← ReflectliteValue.parts v, ← ReflectliteValue.parts x)
      | unsupported (.noEntry "extern/(internal/reflectlite.Value).Set.zeroValue")
    if fl / ReflectliteValue.flagAddr % 2 == 0 then unsupported (.noEntry "extern/(internal/reflectlite.Value).Set.unaddressable")
    let val ← loadVar src b
    if ← Rtype.directlyAssignable dst src then storeVar dst a val
    else if ← Rtype.implements dst src then
      if (← Rtype.kind src) == 20 then
        match val with
        | .nilIface => unsupported (.noEntry "extern/reflectlite: a nil value of one interface type handed on as a value of another")
        | _ => storeVar dst a val
      else storeVar dst a (.iface src val)
    else panicString ("reflectlite.Set: value of type " ++ (← Rtype.spelt src) ++ " is not assignable to type " ++ (← Rtype.spelt dst))
    pure (.tuple #[])) := rfl

theorem as_partsDa (a : Addr) (w : World) : (ReflectliteValue.parts (.agg #[.pointer (some ⟨4, 50, none⟩), .pointer (some a), .int .u64 409])).run Tryz.prog w = .ok (some (50, a, 409)) w := by kernel_rfl

theorem as_partsD (a : Addr) (w : World) : (ReflectliteValue.parts (.agg #[.pointer (some ⟨4, 50, none⟩), .pointer (some a), .int .u64 153])).run Tryz.prog w = .ok (some (50, a, 153)) w := by kernel_rfl

theorem as_directD (w : World) : (Rtype.directlyAssignable 50 50).run Tryz.prog w = .ok true w := by kernel_rfl

theorem as_sizeD (w : World) : (sizeOf 50).run Tryz.prog w = .ok 4 w := by kernel_rfl

theorem as_isAggD (w : World) : (isAgg 50).run Tryz.prog w = .ok true w := by kernel_rfl

theorem as_loadD (p : Nat) (v0 v1 v2 v3 : Value) (W : World) (h0 : W.cell? ⟨p, 0, none⟩ = some v0) (h1 : W.cell? ⟨p, 1, none⟩ = some v1) (h2 : W.cell? ⟨p, 2, none⟩ = some v2) (h3 : W.cell? ⟨p, 3, none⟩ = some v3) :
    (loadVar 50 ⟨p, 0, none⟩).run Tryz.prog W = .ok (.agg #[v0, v1, v2, v3]) W := by
  unfold loadVar
  simp only [Sem.run_bind, as_isAggD, Result.andThen_ok, if_true, as_sizeD]
  simp [loadCells, loadCellsFrom, Addr.add, h0, h1, h2, h3]

/-- The four cells of a struct that is written anew. -/
def put4 (W : World) (q : Nat) (v0 v1 v2 v3 : Value) : World := (((W.setCell ⟨q, 0, none⟩ v0).setCell ⟨q, 1, none⟩ v1).setCell ⟨q, 2, none⟩ v2).setCell ⟨q, 3, none⟩ v3

theorem cells_setCell {W : World} {q : Nat} {cs : List Value} {t : TypeId} (h : W.heap[q]? = some (.cells cs.toArray t (0, 0))) (j : Nat) (v : Value) : (W.setCell ⟨q, j, none⟩ v).heap[q]? = some (.cells (cs.set j v).toArray t (0, 0)) := by
  obtain ⟨hlt, hk⟩ := Array.getElem?_eq_some_iff.1 h
  show (W.heap.modify q _)[q]? = _
  rw [Array.getElem?_eq_getElem (by rw [Array.size_modify]; exact hlt), Array.getElem_modify_self, hk]
  simp
theorem run_store4 {W : World} {q : Nat} {cs : List Value} {t : TypeId} (h : W.heap[q]? = some (.cells cs.toArray t (0, 0))) {j : Nat} {v : Value} (hj : j < cs.length) (hv : v.oneCell' = true) : (store (⟨q, j, none⟩ : Addr) v).run Tryz.prog W = .ok () (W.setCell ⟨q, j, none⟩ v) := by
  have hc : W.cell? ⟨q, j, none⟩ = some cs[j] := by simp [World.cell?, h, hj]
  have hf : W.frozen? ⟨q, j, none⟩ = false := by simp [World.frozen?, h]
  rw [run_store Tryz.prog W _ _ _ hv]
  simp [hc, hf]

theorem as_storeD (q : Nat) (c0 c1 c2 c3 : Value) (t : TypeId) (k a b : Int) (T : TypeId) (x : Addr) (W : World) (h : W.heap[q]? = some (.cells #[c0, c1, c2, c3] t (0, 0))) :
    (storeVar 50 ⟨q, 0, none⟩ (.agg #[.int .i64 k, .int .i64 a, .int .i64 b, .iface T (.pointer (some x))])).run Tryz.prog W = .ok () (put4 W q (.int .i64 k) (.int .i64 a) (.int .i64 b) (.iface T (.pointer (some x)))) := by
  have hs := as_sizeD W
  have h0 : W.heap[q]? = some (.cells [c0, c1, c2, c3].toArray t (0, 0)) := h
  have h1 := cells_setCell h0 0 (.int .i64 k)
  have h2 := cells_setCell h1 1 (.int .i64 a)
  have h3 := cells_setCell h2 2 (.int .i64 b)
  have r0 := run_store4 h0 (j := 0) (v := .int .i64 k) (by simp) rfl
  have r1 := run_store4 h1 (j := 1) (v := .int .i64 a) (by simp) rfl
  have r2 := run_store4 h2 (j := 2) (v := .int .i64 b) (by simp) rfl
  have r3 := run_store4 h3 (j := 3) (v := .iface T (.pointer (some x))) (by simp) rfl
  unfold storeVar put4
  simp only [Sem.run_bind, hs, Result.andThen_ok]
  rw [if_neg (by simp [Value.cells])]
  simp [Value.cells, storeCells, Addr.add, r0, r1, r2, r3, Result.andThen]

theorem as_setD (q p : Nat) (c0 c1 c2 c3 : Value) (t : TypeId) (k a b : Int) (T : TypeId) (x : Addr) (W : World) (h : W.heap[q]? = some (.cells #[c0, c1, c2, c3] t (0, 0)))
    (h0 : W.cell? ⟨p, 0, none⟩ = some (.int .i64 k)) (h1 : W.cell? ⟨p, 1, none⟩ = some (.int .i64 a)) (h2 : W.cell? ⟨p, 2, none⟩ = some (.int .i64 b)) (h3 : W.cell? ⟨p, 3, none⟩ = some (.iface T (.pointer (some x)))) :
    (ReflectliteValue.set #[.agg #[.pointer (some ⟨4, 50, none⟩), .pointer (some ⟨q, 0, none⟩), .int .u64 409], .agg #[.pointer (some ⟨4, 50, none⟩), .pointer (some ⟨p, 0, none⟩), .int .u64 153]]).run Tryz.prog W
      = .ok (.tuple #[]) (put4 W q (.int .i64 k) (.int .i64 a) (.int .i64 b) (.iface T (.pointer (some x)))) := by
  have hl := as_loadD p _ _ _ _ W h0 h1 h2 h3
  have hs := as_storeD q c0 c1 c2 c3 t k a b T x W h
  rw [as_rls]
  simp only [Sem.run_bind, as_partsDa, as_partsD, Result.andThen]
  simp [ReflectliteValue.flagAddr, hl, Result.andThen, as_directD, hs]

theorem as_noAs (v : Value) (xT : TypeId) (w : World) : (Instr.typeAssert (.iface 142 v) xT 100 true).run Tryz.prog w = .ok (.tuple #[.nilIface, .bool false]) w := run_typeAssert_lacksB Tryz.underlying100 (by kernel_rfl) (by kernel_rfl) v xT w

theorem as_noUnwrap (v : Value) (xT : TypeId) (w : World) : (Instr.typeAssert (.iface 142 v) xT 103 true).run Tryz.prog w = .ok (.tuple #[.nilIface, .bool false]) w := run_typeAssert_lacksB Tryz.underlying103 (by kernel_rfl) (by kernel_rfl) v xT w

theorem as_noUnwraps (v : Value) (xT : TypeId) (w : World) : (Instr.typeAssert (.iface 142 v) xT 105 true).run Tryz.prog w = .ok (.tuple #[.nilIface, .bool false]) w := run_typeAssert_lacksB Tryz.underlying105 (by kernel_rfl) (by kernel_rfl) v xT w

set_option maxHeartbeats 4000000 in
/-- The error's own type is the target's: true, and the target is set. -/
theorem as_hit (q : Nat) (c0 c1 c2 c3 : Value) (t : TypeId) (k a b : Int) (x : Addr) (w : World) (hg : w.cell? ⟨2, 0, none⟩ = some (.iface 96 (.agg #[.pointer (some ⟨4, 48, none⟩)])))
    (h : w.heap[q]? = some (.cells #[c0, c1, c2, c3] t (0, 0))) :
    Calls Tryz.prog 21 #[.iface 50 (.agg #[.int .i64 k, .int .i64 a, .int .i64 b, .iface 142 (.pointer (some x))]), .iface 52 (.pointer (some ⟨q, 0, none⟩))] w
      fun ev w' => ev = .returned (.bool true) ∧ w' = put4 ((((w.alloc (.cells #[.pointer (some ⟨q, 0, none⟩)] 52)).alloc (.cells #[.pointer (some ⟨4, 52, none⟩), .pointer (some ⟨w.heap.size, 0, none⟩), .int .u64 150] 66)).alloc (.cells #[.pointer (some ⟨4, 52, none⟩), .pointer (some ⟨w.heap.size, 0, none⟩), .int .u64 150] 66)).alloc (.cells #[.int .i64 k, .int .i64 a, .int .i64 b, .iface 142 (.pointer (some x))] 50)) q (.int .i64 k) (.int .i64 a) (.int .i64 b) (.iface 142 (.pointer (some x))) := by
  have h6 := @run_callFunc_extern Tryz.prog 42 _ (fun args => ReflectliteValue.unpack (args.getD 0 (.tuple #[]))) Tryz.func42 (by kernel_rfl) (by kernel_rfl) (by kernel_rfl) (by kernel_rfl)
  have h7 := @run_callFunc_extern Tryz.prog 43 _ (ReflectliteValue.methodAny (ReflectliteValue.valueError "reflectlite.Value.Type" 0) (fun t _ _ _ => ReflectliteType.toType t)) Tryz.func43 (by kernel_rfl) (by kernel_rfl) (by kernel_rfl) (by kernel_rfl)
  have h8 := @run_callFunc_extern Tryz.prog 44 _ (ReflectliteValue.method (ReflectliteValue.valueError "reflectlite.Value.IsNil" 0) ReflectliteValue.isNil) Tryz.func44 (by kernel_rfl) (by kernel_rfl) (by kernel_rfl) (by kernel_rfl)
  have h27 := @run_callFunc_extern Tryz.prog 119 _ (ReflectliteType.abiMethod fun t => do pure (.int .u8 (← Rtype.kind t))) Tryz.func119 (by kernel_rfl) (by kernel_rfl) (by kernel_rfl) (by kernel_rfl)
  have h37 := @run_callFunc_extern Tryz.prog 130 _ (ReflectliteType.method ReflectliteType.elem) Tryz.func130 (by kernel_rfl) (by kernel_rfl) (by kernel_rfl) (by kernel_rfl)
  have h38 := @run_callFunc_extern Tryz.prog 131 _ (ReflectliteType.relation "Implements" ReflectliteType.implements_) Tryz.func131 (by kernel_rfl) (by kernel_rfl) (by kernel_rfl) (by kernel_rfl)
  have h10 := @run_callFunc_extern Tryz.prog 46 _ ReflectliteType.typeOf Tryz.func46 (by kernel_rfl) (by kernel_rfl) (by kernel_rfl) (by kernel_rfl)
  have h35 := @run_callFunc_extern Tryz.prog 128 _ (ReflectliteType.relation "AssignableTo" ReflectliteType.assignableTo) Tryz.func128 (by kernel_rfl) (by kernel_rfl) (by kernel_rfl) (by kernel_rfl)
  have h11 := @run_callFunc_extern Tryz.prog 68 _ (ReflectliteValue.method (ReflectliteValue.valueError "reflectlite.Value.Elem" 0) ReflectliteValue.elem) Tryz.func68 (by kernel_rfl) (by kernel_rfl) (by kernel_rfl) (by kernel_rfl)
  have h12 := @run_callFunc_extern Tryz.prog 69 _ ReflectliteValue.set Tryz.func69 (by kernel_rfl) (by kernel_rfl) (by kernel_rfl) (by kernel_rfl)
  have tO := as_typeOfD
  have mA := as_methodAssignableTo
  have aD := as_assignableD
  have vD := as_valueOfD
  have f6 := as_valueOfP
  have f7 := as_typeP
  have mK := as_methodKind
  have mE := as_methodElem
  have mI := as_methodImplements
  have kP := as_kindP
  have kD := as_kindD
  have eP := as_elemP
  have iD := as_implementsD
  have hlt : 2 < w.heap.size := World.block_lt_of_cell? w _ hg
  have hql : q < w.heap.size := (Array.getElem?_eq_some_iff.1 h).1
  obtain ⟨wa, ea⟩ : ∃ wa, wa = w.alloc (.cells #[.pointer (some ⟨q, 0, none⟩)] 52) := ⟨_, rfl⟩
  obtain ⟨wb, eb⟩ : ∃ wb, wb = wa.alloc (.cells #[.pointer (some ⟨4, 52, none⟩), .pointer (some ⟨w.heap.size, 0, none⟩), .int .u64 150] 66) := ⟨_, rfl⟩
  obtain ⟨wc, ec⟩ : ∃ wc, wc = wb.alloc (.cells #[.pointer (some ⟨4, 52, none⟩), .pointer (some ⟨w.heap.size, 0, none⟩), .int .u64 150] 66) := ⟨_, rfl⟩
  obtain ⟨wd, ed⟩ : ∃ wd, wd = wc.alloc (.cells #[.int .i64 k, .int .i64 a, .int .i64 b, .iface 142 (.pointer (some x))] 50) := ⟨_, rfl⟩
  have sa : wa.heap.size = w.heap.size + 1 := by rw [ea]; simp
  have sb : wb.heap.size = w.heap.size + 2 := by rw [eb]; simp [sa]
  have sc : wc.heap.size = w.heap.size + 3 := by rw [ec]; simp [sb]
  have ca : wa.cell? ⟨w.heap.size, 0, none⟩ = some (.pointer (some ⟨q, 0, none⟩)) := by rw [ea]; simp
  have cb : wb.cell? ⟨w.heap.size, 0, none⟩ = some (.pointer (some ⟨q, 0, none⟩)) := by rw [eb, World.cell?_alloc_lt _ _ ⟨w.heap.size, 0, none⟩ (by simp [sa])]; exact ca
  have cc : wc.cell? ⟨w.heap.size, 0, none⟩ = some (.pointer (some ⟨q, 0, none⟩)) := by rw [ec, World.cell?_alloc_lt _ _ ⟨w.heap.size, 0, none⟩ (by simp [sb])]; exact cb
  have hg2 : wb.cell? ⟨2, 0, none⟩ = some (.iface 96 (.agg #[.pointer (some ⟨4, 48, none⟩)])) := by
    rw [eb, World.cell?_alloc_lt _ _ ⟨2, 0, none⟩ (by simp [sa]; omega), ea, World.cell?_alloc_lt _ _ ⟨2, 0, none⟩ hlt]; exact hg
  have hqd : wd.heap[q]? = some (.cells #[c0, c1, c2, c3] t (0, 0)) := by
    rw [ed, Below.heap_alloc _ _ _ (by omega), ec, Below.heap_alloc _ _ _ (by omega), eb, Below.heap_alloc _ _ _ (by omega), ea, Below.heap_alloc _ _ _ hql]; exact h
  have hpd : wd.heap[w.heap.size + 3]? = some (.cells #[.int .i64 k, .int .i64 a, .int .i64 b, .iface 142 (.pointer (some x))] 50 (0, 0)) := by
    rw [ed, ← sc]; exact World.alloc_heap_new wc _
  have n8 := as_isNilP ⟨w.heap.size, 0, none⟩ ⟨q, 0, none⟩ wb cb
  have el := as_elemVP ⟨w.heap.size, 0, none⟩ ⟨q, 0, none⟩ wc cc
  have st := as_setD q (w.heap.size + 3) c0 c1 c2 c3 t k a b 142 x wd hqd (by simp [World.cell?, hpd]) (by simp [World.cell?, hpd]) (by simp [World.cell?, hpd]) (by simp [World.cell?, hpd])
  rw [ed, ec, eb, ea] at st
  rw [ec, eb, ea] at el
  rw [eb, ea] at n8 hg2
  clear hqd hpd ca cb cc sa sb sc ed ec eb ea
  go_enter Tryz.func21, Tryz.ntmps21
  go_wp2
  refine wp_loop_rounds 1 ?_
  rw [rounds_succ]
  go_wp2
  go_ret
  exact ⟨rfl, rfl⟩

set_option maxHeartbeats 4000000 in
theorem as_miss (q : Nat) (x : Addr) (w : World) (hg : w.cell? ⟨2, 0, none⟩ = some (.iface 96 (.agg #[.pointer (some ⟨4, 48, none⟩)]))) :
    Calls Tryz.prog 21 #[.iface 142 (.pointer (some x)), .iface 52 (.pointer (some ⟨q, 0, none⟩))] w
      fun ev w' => ev = .returned (.bool false) ∧ w' = (((w.alloc (.cells #[.pointer (some ⟨q, 0, none⟩)] 52)).alloc (.cells #[.pointer (some ⟨4, 52, none⟩), .pointer (some ⟨w.heap.size, 0, none⟩), .int .u64 150] 66)).alloc (.cells #[.pointer (some ⟨4, 52, none⟩), .pointer (some ⟨w.heap.size, 0, none⟩), .int .u64 150] 66)) := by
  have h6 := @run_callFunc_extern Tryz.prog 42 _ (fun args => ReflectliteValue.unpack (args.getD 0 (.tuple #[]))) Tryz.func42 (by kernel_rfl) (by kernel_rfl) (by kernel_rfl) (by kernel_rfl)
  have h7 := @run_callFunc_extern Tryz.prog 43 _ (ReflectliteValue.methodAny (ReflectliteValue.valueError "reflectlite.Value.Type" 0) (fun t _ _ _ => ReflectliteType.toType t)) Tryz.func43 (by kernel_rfl) (by kernel_rfl) (by kernel_rfl) (by kernel_rfl)
  have h8 := @run_callFunc_extern Tryz.prog 44 _ (ReflectliteValue.method (ReflectliteValue.valueError "reflectlite.Value.IsNil" 0) ReflectliteValue.isNil) Tryz.func44 (by kernel_rfl) (by kernel_rfl) (by kernel_rfl) (by kernel_rfl)
  have h27 := @run_callFunc_extern Tryz.prog 119 _ (ReflectliteType.abiMethod fun t => do pure (.int .u8 (← Rtype.kind t))) Tryz.func119 (by kernel_rfl) (by kernel_rfl) (by kernel_rfl) (by kernel_rfl)
  have h37 := @run_callFunc_extern Tryz.prog 130 _ (ReflectliteType.method ReflectliteType.elem) Tryz.func130 (by kernel_rfl) (by kernel_rfl) (by kernel_rfl) (by kernel_rfl)
  have h38 := @run_callFunc_extern Tryz.prog 131 _ (ReflectliteType.relation "Implements" ReflectliteType.implements_) Tryz.func131 (by kernel_rfl) (by kernel_rfl) (by kernel_rfl) (by kernel_rfl)
  have h10 := @run_callFunc_extern Tryz.prog 46 _ ReflectliteType.typeOf Tryz.func46 (by kernel_rfl) (by kernel_rfl) (by kernel_rfl) (by kernel_rfl)
  have h35 := @run_callFunc_extern Tryz.prog 128 _ (ReflectliteType.relation "AssignableTo" ReflectliteType.assignableTo) Tryz.func128 (by kernel_rfl) (by kernel_rfl) (by kernel_rfl) (by kernel_rfl)
  have tO := as_typeOfE
  have mA := as_methodAssignableTo
  have aE := as_assignableE
  have f6 := as_valueOfP
  have f7 := as_typeP
  have mK := as_methodKind
  have mE := as_methodElem
  have mI := as_methodImplements
  have kP := as_kindP
  have kD := as_kindD
  have eP := as_elemP
  have iD := as_implementsD
  have nA := as_noAs
  have nU := as_noUnwrap
  have nV := as_noUnwraps
  have hlt : 2 < w.heap.size := World.block_lt_of_cell? w _ hg
  obtain ⟨wa, ea⟩ : ∃ wa, wa = w.alloc (.cells #[.pointer (some ⟨q, 0, none⟩)] 52) := ⟨_, rfl⟩
  obtain ⟨wb, eb⟩ : ∃ wb, wb = wa.alloc (.cells #[.pointer (some ⟨4, 52, none⟩), .pointer (some ⟨w.heap.size, 0, none⟩), .int .u64 150] 66) := ⟨_, rfl⟩
  have sa : wa.heap.size = w.heap.size + 1 := by rw [ea]; simp
  have ca : wa.cell? ⟨w.heap.size, 0, none⟩ = some (.pointer (some ⟨q, 0, none⟩)) := by rw [ea]; simp
  have cb : wb.cell? ⟨w.heap.size, 0, none⟩ = some (.pointer (some ⟨q, 0, none⟩)) := by rw [eb, World.cell?_alloc_lt _ _ ⟨w.heap.size, 0, none⟩ (by simp [sa])]; exact ca
  have hg2 : wb.cell? ⟨2, 0, none⟩ = some (.iface 96 (.agg #[.pointer (some ⟨4, 48, none⟩)])) := by
    rw [eb, World.cell?_alloc_lt _ _ ⟨2, 0, none⟩ (by simp [sa]; omega), ea, World.cell?_alloc_lt _ _ ⟨2, 0, none⟩ hlt]; exact hg
  have n8 := as_isNilP ⟨w.heap.size, 0, none⟩ ⟨q, 0, none⟩ wb cb
  rw [eb, ea] at n8 hg2
  clear ca cb sa eb ea
  go_enter Tryz.func21, Tryz.ntmps21
  go_wp2
  refine wp_loop_rounds 1 ?_
  rw [rounds_succ]
  go_wp2
  go_ret
  exact ⟨rfl, rfl⟩

theorem is_comparable (w : World) : ((Extern.ReflectliteType.method fun t => do Go.Extern.Rtype.noPackHeld "Comparable" t; (fun a => Value.bool a.comparable) <$> typeInfo t) #[.agg #[.pointer (some ⟨4, 142, none⟩)]]).run Tryz.prog w = .ok (.bool true) w := by kernel_rfl

theorem is_methodComparable (v : Value) (w : World) : (Go.method 276 96 v "Comparable").run Tryz.prog w = .ok (129, v) w := by kernel_rfl

theorem is_typeOfE (v : Value) (w : World) : (Extern.ReflectliteType.typeOf #[.iface 142 v]).run Tryz.prog w = .ok (.iface 96 (.agg #[.pointer (some ⟨4, 142, none⟩)])) w := by kernel_rfl

theorem is_comp : (Tryz.prog.info? 142).map (·.comparable) = some true := by kernel_rfl

theorem is_size : (Tryz.prog.info? 164).map (·.size) = some 1 := by kernel_rfl

theorem is_noIsE (v : Value) (xT : TypeId) (w : World) : (Instr.typeAssert (.iface 142 v) xT 107 true).run Tryz.prog w = .ok (.tuple #[.nilIface, .bool false]) w := run_typeAssert_lacksB Tryz.underlying107 (by kernel_rfl) (by kernel_rfl) v xT w

theorem is_noUnwrapE (v : Value) (xT : TypeId) (w : World) : (Instr.typeAssert (.iface 142 v) xT 103 true).run Tryz.prog w = .ok (.tuple #[.nilIface, .bool false]) w := run_typeAssert_lacksB Tryz.underlying103 (by kernel_rfl) (by kernel_rfl) v xT w

theorem is_noUnwrapsE (v : Value) (xT : TypeId) (w : World) : (Instr.typeAssert (.iface 142 v) xT 105 true).run Tryz.prog w = .ok (.tuple #[.nilIface, .bool false]) w := run_typeAssert_lacksB Tryz.underlying105 (by kernel_rfl) (by kernel_rfl) v xT w

theorem is_noIsD (v : Value) (xT : TypeId) (w : World) : (Instr.typeAssert (.iface 50 v) xT 107 true).run Tryz.prog w = .ok (.tuple #[.nilIface, .bool false]) w := run_typeAssert_lacksB Tryz.underlying107 (by kernel_rfl) (by kernel_rfl) v xT w

theorem is_hasUnwrapD (v : Value) (xT : TypeId) (w : World) : (Instr.typeAssert (.iface 50 v) xT 103 true).run Tryz.prog w = .ok (.tuple #[.iface 50 v, .bool true]) w := run_typeAssert_hasB Tryz.underlying103 (by kernel_rfl) v xT w

theorem is_methodUnwrap (v : Value) (w : World) : (Go.method 276 50 v "Unwrap").run Tryz.prog w = .ok (123, v) w := by kernel_rfl

set_option maxHeartbeats 4000000 in
theorem is_wrap_same (k a b : Int) (m : Addr) (w : World) :
    Calls Tryz.prog 23 #[.iface 50 (.agg #[.int .i64 k, .int .i64 a, .int .i64 b, .iface 142 (.pointer (some m))]), .iface 142 (.pointer (some m))] w fun e w' => e = .returned (.bool true) ∧ w' = w.alloc (.cells #[.int .i64 k, .int .i64 a, .int .i64 b, .iface 142 (.pointer (some m))] 50) := by
  obtain ⟨i, hi, hcmp⟩ := Option.map_eq_some_iff.1 is_comp
  obtain ⟨j, hj, hjs⟩ := Option.map_eq_some_iff.1 is_size
  have h8 := @run_callFunc_extern Tryz.prog 46 _ Extern.ReflectliteType.typeOf Tryz.func46 (by kernel_rfl) (by kernel_rfl) (by kernel_rfl) (by kernel_rfl)
  have h32 := @run_callFunc_extern Tryz.prog 129 _ (Extern.ReflectliteType.method fun t => do Go.Extern.Rtype.noPackHeld "Comparable" t; pure (.bool (← typeInfo t).comparable)) Tryz.func129 (by kernel_rfl) (by kernel_rfl) (by kernel_rfl) (by kernel_rfl)
  have tT := is_typeOfE
  have cT := is_comparable
  have mR := is_methodComparable
  have nE := is_noIsE
  have uE := is_noUnwrapE
  have vE := is_noUnwrapsE
  have nD := is_noIsD
  have uD := is_hasUnwrapD
  have mU := is_methodUnwrap
  have heq := run_eql_iface_ptr_same (P := Tryz.prog) (w.alloc (.cells #[.int .i64 k, .int .i64 a, .int .i64 b, .iface 142 (.pointer (some m))] 50)) m Tryz.underlying48 Tryz.underlying142 hi hcmp hj
  have hty := run_eql_iface_types (P := Tryz.prog) 50 142 (.agg #[.int .i64 k, .int .i64 a, .int .i64 b, .iface 142 (.pointer (some m))]) (.pointer (some m)) Tryz.underlying48 (by decide) w
  go_enter Tryz.func23, Tryz.ntmps23
  go_wp2
  refine wp_loop_rounds 2 ?_
  rw [rounds_succ]
  go_wp2
  rw [rounds_succ]
  go_wp2
  go_ret
  exact ⟨rfl, rfl⟩

set_option maxHeartbeats 4000000 in
theorem is_wrap_other (k a b : Int) (x m : Addr) (ca cb : Array Value) (ta tb : TypeId) (w : World) (hne : x ≠ m) (ha : w.heap[x.block]? = some (.cells ca ta (0, 0))) (hb : w.heap[m.block]? = some (.cells cb tb (0, 0))) :
    Calls Tryz.prog 23 #[.iface 50 (.agg #[.int .i64 k, .int .i64 a, .int .i64 b, .iface 142 (.pointer (some x))]), .iface 142 (.pointer (some m))] w fun e w' => e = .returned (.bool false) ∧ w' = w.alloc (.cells #[.int .i64 k, .int .i64 a, .int .i64 b, .iface 142 (.pointer (some x))] 50) := by
  obtain ⟨i, hi, hcmp⟩ := Option.map_eq_some_iff.1 is_comp
  obtain ⟨j, hj, hjs⟩ := Option.map_eq_some_iff.1 is_size
  have h8 := @run_callFunc_extern Tryz.prog 46 _ Extern.ReflectliteType.typeOf Tryz.func46 (by kernel_rfl) (by kernel_rfl) (by kernel_rfl) (by kernel_rfl)
  have h32 := @run_callFunc_extern Tryz.prog 129 _ (Extern.ReflectliteType.method fun t => do Go.Extern.Rtype.noPackHeld "Comparable" t; pure (.bool (← typeInfo t).comparable)) Tryz.func129 (by kernel_rfl) (by kernel_rfl) (by kernel_rfl) (by kernel_rfl)
  have tT := is_typeOfE
  have cT := is_comparable
  have mR := is_methodComparable
  have nE := is_noIsE
  have uE := is_noUnwrapE
  have vE := is_noUnwrapsE
  have nD := is_noIsD
  have uD := is_hasUnwrapD
  have mU := is_methodUnwrap
  have ha2 : (w.alloc (.cells #[.int .i64 k, .int .i64 a, .int .i64 b, .iface 142 (.pointer (some x))] 50)).heap[x.block]? = some (.cells ca ta (0, 0)) := by rw [Below.heap_alloc _ _ _ (Array.getElem?_eq_some_iff.1 ha).1]; exact ha
  have hb2 : (w.alloc (.cells #[.int .i64 k, .int .i64 a, .int .i64 b, .iface 142 (.pointer (some x))] 50)).heap[m.block]? = some (.cells cb tb (0, 0)) := by rw [Below.heap_alloc _ _ _ (Array.getElem?_eq_some_iff.1 hb).1]; exact hb
  have heq := run_eql_iface_ptr_other (P := Tryz.prog) (w.alloc (.cells #[.int .i64 k, .int .i64 a, .int .i64 b, .iface 142 (.pointer (some x))] 50)) Tryz.underlying48 Tryz.underlying142 hi hcmp hj (by rw [hjs]; decide) hne ha2 hb2
  clear ha2 hb2
  have hty := run_eql_iface_types (P := Tryz.prog) 50 142 (.agg #[.int .i64 k, .int .i64 a, .int .i64 b, .iface 142 (.pointer (some x))]) (.pointer (some m)) Tryz.underlying48 (by decide) w
  go_enter Tryz.func23, Tryz.ntmps23
  go_wp2
  refine wp_loop_rounds 2 ?_
  rw [rounds_succ]
  go_wp2
  rw [rounds_succ]
  go_wp2
  go_ret
  exact ⟨rfl, rfl⟩

set_option maxHeartbeats 4000000 in
theorem is_other (a b : Addr) (ca cb : Array Value) (ta tb : TypeId) (w : World) (hne : a ≠ b) (ha : w.heap[a.block]? = some (.cells ca ta (0, 0))) (hb : w.heap[b.block]? = some (.cells cb tb (0, 0))) :
    Calls Tryz.prog 23 #[.iface 142 (.pointer (some a)), .iface 142 (.pointer (some b))] w fun e w' => e = .returned (.bool false) ∧ w' = w := by
  obtain ⟨i, hi, hcmp⟩ := Option.map_eq_some_iff.1 is_comp
  obtain ⟨j, hj, hjs⟩ := Option.map_eq_some_iff.1 is_size
  have h8 := @run_callFunc_extern Tryz.prog 46 _ Extern.ReflectliteType.typeOf Tryz.func46 (by kernel_rfl) (by kernel_rfl) (by kernel_rfl) (by kernel_rfl)
  have h32 := @run_callFunc_extern Tryz.prog 129 _ (Extern.ReflectliteType.method fun t => do Go.Extern.Rtype.noPackHeld "Comparable" t; pure (.bool (← typeInfo t).comparable)) Tryz.func129 (by kernel_rfl) (by kernel_rfl) (by kernel_rfl) (by kernel_rfl)
  have tT := is_typeOfE
  have cT := is_comparable
  have mR := is_methodComparable
  have nE := is_noIsE
  have uE := is_noUnwrapE
  have vE := is_noUnwrapsE
  have nD := is_noIsD
  have uD := is_hasUnwrapD
  have mU := is_methodUnwrap
  have heq := run_eql_iface_ptr_other (P := Tryz.prog) w Tryz.underlying48 Tryz.underlying142 hi hcmp hj (by rw [hjs]; decide) hne ha hb
  go_enter Tryz.func23, Tryz.ntmps23
  go_wp2
  refine wp_loop_rounds 1 ?_
  rw [rounds_succ]
  go_wp2
  go_ret
  exact ⟨rfl, rfl⟩

end Go.Proofs.YtieknpkbmccimaaGreatDoor
