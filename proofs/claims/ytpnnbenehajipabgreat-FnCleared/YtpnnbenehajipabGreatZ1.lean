/- A range over a function that hands over a known list: the round is told which one it is of. Nothing of one program. copy and clear in a block that is known whole: of no program. -/
import Derived.Test.YtpnnbenehajipabGreatMem
import Derived.RangeFuncNested
import Derived.RangeFuncCalls
import Derived.RangeFuncLeaves
import Derived.Laws.CopyOwn
import Derived.Laws.CopyRow
import Derived.Lib.SliceRun
namespace Go.Proofs.YtpnnbenehajipabGreat
open Go.RowKit

/-- The function gf hands over N tuples, enc k the k-th, in this order, as long as each round keeps what Kp says. -/
def SeqList (F : Fence) (n : Nat) (P : Program) (gf : Nat) (lb : Array Value) (enc : Nat → Array Value) (N : Nat) (Kp : World → World → Prop) (w : World) : Prop :=
  ∀ (l : Nat) (J : Nat → World → Prop) (W : World), Below w.heap.size w W → AbidesFrom W.heap.size J → J 0 W →
    (∀ k W1, k < N → J k W1 → YieldAt F (n - 1) P l (enc k) W1 fun e W' => e = .returned (.bool true) ∧ J (k + 1) W' ∧ Kp W1 W') →
    CallsIn F n P gf (#[.func (.yield l) #[] #[]] ++ lb) W fun e W' => (∃ v, e = .returned v) ∧ J N W'

/-- The body goes on to the next round; it is left in no other way. -/
def listPost (B : Nat) (Kp : World → World → Prop) (I : Nat → World → Prop) (k : Nat) (W : World) : Exit → Act → World → Prop
  | .normal, _, W' => KeepsFrom B W W' ∧ Kp W W' ∧ I k W'
  | _, _, _ => False

/-- Where the loop's two blocks of its own lie between two rounds. -/
def Stands (r : LoopState → Option Code → Loop) (B : Nat) (s : LoopState) (W : World) : Prop :=
  W.heap[B + 1]? = some (.loop (r s none)) ∧ W.heap[B]? = some (.deferred (some []))

theorem wpIn_range_list {F : Fence} {n : Nat} {P : Program} {g : Operand} {ps : Array Tmp} {assign body : Code} {Q : Exit → Act → World → Prop} {a : Act} {w : World}
    (hro : F.round = none) (h1 : 1 ≤ n) {gf : Nat} {lb : Array Value} (hg : a.eval g = .func (.func gf) #[] lb) (hF : F.fn gf) (eg : ∀ args w, (callFunc gf args).run P w = .ok (.enter gf args) w)
    {enc : Nat → Array Value} {N : Nat} {Kp : World → World → Prop} {w0 : World} (hseq : SeqList F (n - 1) P gf lb enc N Kp w0)
    (hKt : ∀ {A B C : World}, Kp A B → Kp B C → Kp A C) (hKb : ∀ (W : World) (l : Nat) (o o' : Obj), w.heap.size ≤ l → W.heap[l]? = some o → o.isCells = false → o.isWalk = false → Kp W (W.putObj l o'))
    (hb0 : Below w0.heap.size w0 w) (hps : ∀ k, (enc k).size = ps.size)
    (I : Nat → World → Prop) (hI : OwnFrom w.heap.size I) (h0 : I 0 w) (A : Nat → Act → World → Prop) (hA : ∀ k a', OwnFrom w.heap.size (fun (_ : Unit) W => A k a' W))
    (hassign : ∀ (l k : Nat) (W : World) (K : Act → World → Prop), k < N → I k W → (∀ a' W', KeepsFrom w.heap.size W W' → Kp W W' → I k W' → A k a' W' → K a' W') →
      assign.wpIn (F.inRound l) (n - 1 - 1) P (Exit.then K (fun _ _ _ => False)) { tmps := (ps.zip (enc k)).foldl (fun t (p, v) => t.setIfInBounds p v) a.tmps, defers := [] } W)
    (hbody : ∀ (l k : Nat) (a' : Act) (W : World), k < N → I k W → A k a' W → body.wpIn (F.inRound l) (n - 1 - 1) P (listPost w.heap.size Kp I (k + 1) W) a' W)
    (hdone : ∀ (D : Nat) (W : World), w.heap.size ≤ D → I N W → W.heap[D]? = some (.deferred (some [])) → Q .normal { a with defers := { target := .collected D, args := #[] } :: a.defers } W) :
    (Code.rangeFunc g ps assign body).wpIn F n P Q a w := by
  refine wpIn_rangeFunc fun fn hfn => ?_
  rw [hro]
  obtain ⟨B, hB⟩ : ∃ B, B = w.heap.size := ⟨_, rfl⟩
  obtain ⟨r, hr⟩ : ∃ r : LoopState → Option Code → Loop, r = fun st pe => { state := st, pending := pe, fn, tmps := a.tmps, params := ps, assign, body, defers := w.heap.size } := ⟨_, rfl⟩
  obtain ⟨V, hV⟩ : ∃ V, V = (w.alloc (.deferred (some []))).alloc (.loop (r .ready none)) := ⟨_, rfl⟩
  have sV : V.heap.size = B + 2 := by rw [hV, hB]; simp
  have stV : Stands r B .ready V := by
    constructor
    · have := World.alloc_heap_new (w.alloc (.deferred (some []))) (.loop (r .ready none))
      rw [World.size_alloc, ← hB, ← hV] at this
      exact this
    · rw [hV, hB]
      exact (Below.heap_alloc _ _ _ (by simp)).trans (World.alloc_heap_new w _)
  have bV : Below w0.heap.size w0 V := by
    rw [hV]; exact (hb0.alloc hb0.size _).alloc (by have := hb0.size; simp; omega) _
  have iV : I 0 V := by rw [hV]; exact hI.alloc _ (hI.alloc _ h0)
  have abide : AbidesFrom V.heap.size (fun k W => I k W ∧ Stands r B .ready W) := fun k X Y row hs hgr hrow =>
    ⟨hI k X Y row hs.1 hgr (fun q e => by
      obtain ⟨hq, o, ho, hw⟩ := hrow q e
      exact ⟨by omega, o, ho, Obj.not_cells_of_walk hw⟩),
     (grownBy_keeps hgr (fun q e => (hrow q e).2) hs.2.1 rfl).trans hs.2.1, (grownBy_keeps hgr (fun q e => (hrow q e).2) hs.2.2 rfl).trans hs.2.2⟩
  refine ⟨B + 1, [{ target := .collected B, args := #[] }], V, { target := .fn (.func gf) lb, args := #[.func (.yield (B + 1)) #[] #[]] }, V, gf, #[.func (.yield (B + 1)) #[] #[]] ++ lb, V, ?_, ?_, ?_, ?_, fun _ => h1, ?_⟩
  · rw [hV, hr, hB]; exact run_enterLoop_outer _ _ _ _ _
  · simp only [resolve, hg]; simp [go_sem]
  · intro f hf
    simp [Target.leads] at hf
    exact hf ▸ hF
  · simp [invoke, go_sem, eg]
  refine (hseq (B + 1) (fun k W => I k W ∧ Stands r B .ready W) V bV abide ⟨iV, stV⟩ ?_).mono ?_
  · rintro k W hk ⟨hi, hl, hd⟩
    have hy := run_yield (P := P) (args := enc k) hl (by rw [hr]; exact hps k)
    rw [hr] at hy
    refine ⟨fn, _, assign, body, hy, roundIn_of_wpIn hfn (hassign _ k W _ hk hi fun a' X kf kp hi hax => ?_)⟩
    clear hy
    have hl := kf.same _ _ (by omega) hl rfl
    have hd := kf.same _ _ (by omega) hd rfl
    have hlt : B + 1 < X.heap.size := (Array.getElem?_eq_some_iff.1 hl).1
    refine ⟨_, run_beginRound hl (by rw [hr]), ?_⟩
    obtain ⟨Y, hY⟩ : ∃ Y, Y = X.putObj (B + 1) (.loop { r .ready none with state := .busy }) := ⟨_, rfl⟩
    rw [← hY]
    have hlY : Y.heap[B + 1]? = some (.loop { r .ready none with state := .busy }) := by rw [hY]; exact World.putObj_heap_same hlt
    have hdY : Y.heap[B]? = some (.deferred (some [])) := by rw [hY]; exact (World.putObj_heap_other (by omega)).trans hd
    have kpY : Kp X Y := by rw [hY]; exact hKb _ _ _ _ (by omega) hl rfl rfl
    have hiY : I k Y := by rw [hY]; exact hI.putObj _ hi (by omega) hl rfl
    have haY : A k a' Y := by rw [hY]; exact (hA k a').putObj (s := ()) _ hax (by omega) hl rfl
    refine wpIn_mono (hbody _ k a' Y hk hiY haY) ?_
    rintro e a3 Z hp
    cases e with
    | normal =>
      obtain ⟨kz, kpz, hiz⟩ := hp
      have hlz := kz.same _ _ (by omega) hlY rfl
      have hdz := kz.same _ _ (by omega) hdY rfl
      have hend := run_endRound (P := P) none hlz
      rw [hr] at hend hlz
      refine ⟨_, _, hend, rfl, ⟨hI.putObj _ hiz (by omega) hlz rfl, ?_, (World.putObj_heap_other (by omega)).trans hdz⟩, hKt kp (hKt (hKt kpY kpz) (hKb _ _ _ _ (by omega) hlz rfl rfl))⟩
      rw [hr]
      exact World.putObj_heap_same (Array.getElem?_eq_some_iff.1 hlz).1
    | ret => exact hp.elim
    | exit id => exact hp.elim
    | goto t => exact hp.elim
    | panic ch => exact hp.elim
    | outgrown => exact hp.elim
  · rintro e W ⟨⟨v, rfl⟩, hi, hl, hd⟩
    have hend := run_endLoop (P := P) hl (by rw [hr]; simp)
    rw [hr] at hend hl
    exact ⟨none, _, hend, hB ▸ hdone B _ (by omega) (hI.putObj _ hi (by omega) hl rfl) ((World.putObj_heap_other (by omega)).trans hd)⟩

/-- What a round keeps: each cell but those of blocks of S. -/
def KpS (S : Nat → Prop) (W W' : World) : Prop := W.heap.size ≤ W'.heap.size ∧ ∀ (p : Addr) (v : Value), ¬ S p.block → W.cell? p = some v → W'.cell? p = some v
theorem KpS.refl (S : Nat → Prop) (W : World) : KpS S W W := ⟨Nat.le_refl _, fun _ _ _ h => h⟩
theorem KpS.trans {S : Nat → Prop} {A B C : World} (h : KpS S A B) (k : KpS S B C) : KpS S A C := ⟨Nat.le_trans h.1 k.1, fun p v hp hc => k.2 p v hp (h.2 p v hp hc)⟩
theorem KpS.alloc {S : Nat → Prop} {A B : World} (h : KpS S A B) (o : Obj) : KpS S A (B.alloc o) :=
  h.trans ⟨by simp, fun _ _ _ hc => cell_kept hc (World.grownBy_alloc B o none) (fun _ e => by cases e)⟩
theorem KpS.put {S : Nat → Prop} {W : World} {l : Nat} {o : Obj} (o' : Obj) (h : W.heap[l]? = some o) (ho : o.isCells = false) : KpS S W (W.putObj l o') :=
  ⟨(grownBy_putObj' W l o').size, fun _ _ _ hc => cell_kept hc (grownBy_putObj' W l o') (fun _ e => by cases e; exact ⟨o, h, ho⟩)⟩
/-- Blocks that lie as they lay, but those of S. -/
theorem KpS.of {S : Nat → Prop} {W W' : World} (hs : W.heap.size ≤ W'.heap.size) (h : ∀ b, b < W.heap.size → ¬ S b → W'.heap[b]? = W.heap[b]?) : KpS S W W' :=
  ⟨hs, fun p v hp hc => by
    obtain ⟨o, ho, _⟩ := cells_of_cell hc
    exact (World.cell?_of_block (h p.block (Array.getElem?_eq_some_iff.1 ho).1 hp)).trans hc⟩

/-- copy into a block that is known whole, as one step of such a region; all other blocks stay. -/
theorem step_copy_block {P : Program} {ops : Array Oper} {o : Oper} {a : Act} {w : World} {K : Act → World → Prop} {Q : Exit → Act → World → Prop} {E : Prop} (hgd : o.guard = none) (d s : Operand) (dT sT : TypeId)
    (ho : o.op = .call { callee := .builtin .copy, args := #[d, s], argTypes := #[dT, sT] }) (elem : TypeId) (hu : P.underlying dT = some (.slice elem)) (hsz : (P.info? elem).map (·.size) = some 1)
    (g off : Nat) (ad : Addr) (dLen dCap sLen sCap : Nat) (hd : a.eval d = .slice (some ⟨g, off, none⟩) dLen dCap) (hs : a.eval s = .slice (some ad) sLen sCap)
    (cur : List Value) (t : TypeId) (hg : w.heap[g]? = some (.cells cur.toArray t (0, 0))) (cs : List Value) (hn : cs.length = Nat.min sLen dLen)
    (hsrc : ∀ j v, cs[j]? = some v → w.cell? (ad.add j) = some v) (hfit : off + cs.length ≤ cur.length) (h1 : ∀ v ∈ cs, v.oneCell' = true)
    (h : ∀ w', w'.heap[g]? = some (.cells (splice cur off cs).toArray t (0, 0)) → w.grownBy w' (some g) → K (a.put o.dst (goInt cs.length)) w') :
    if Region.wanted o (yielded ops a.tmps) = true then Oper.wp P o a w K Q else E := by
  have hw : Region.wanted o (yielded ops a.tmps) = true := by simp [Region.wanted, hgd]
  rw [if_pos hw]
  have hrun := run_copy_row (P := P) w dT sT o.type elem g off dLen dCap ad sLen sCap cur.toArray t cs hu hsz hg hn hsrc (by simpa using hfit) h1
  unfold Oper.wp
  simp [execOp, ho, resolve, invoke, builtin, hd, hs, hrun, Result.andThen]
  refine h _ (show _ = _ by simpa [splice] using setRow_heap w g _ _ t _ hg) ⟨rfl, rfl, rfl, by simp [World.setRow], fun k _ hk => setRow_other w g k _ (fun e => hk (by rw [e]))⟩


theorem splice_cons {α : Type} (cur : List α) (o : Nat) (v : α) (vs : List α) (h : o < cur.length) : Go.splice (cur.set o v) (o + 1) vs = Go.splice cur o (v :: vs) := by
  unfold Go.splice
  have e1 : (cur.set o v).take (o + 1) = cur.take o ++ [v] := by
    rw [List.take_succ_eq_append_getElem (by simpa using h), List.take_set_of_le (Nat.le_refl _)]
    simp
  have e2 : (cur.set o v).drop (o + 1 + vs.length) = cur.drop (o + 1 + vs.length) := by
    rw [List.drop_set]
    split
    · rfl
    · omega
  rw [e1, e2, List.length_cons, show o + (vs.length + 1) = o + 1 + vs.length by omega]
  simp
/-- Cells stored one behind the other in a block that is known whole. -/
theorem setCells_block (b : Nat) (t : TypeId) : ∀ (vs : List Value) (o : Nat) (w : World) (cur : List Value), w.heap[b]? = some (.cells cur.toArray t (0, 0)) → o + vs.length ≤ cur.length →
    (w.setCells b o vs).heap[b]? = some (.cells (Go.splice cur o vs).toArray t (0, 0)) ∧ w.grownBy (w.setCells b o vs) (some b)
  | [], o, w, cur, h, _ => ⟨by simpa [Go.splice, World.setCells] using h, grown_refl _ _⟩
  | v :: vs, o, w, cur, h, hl => by
    rw [List.length_cons] at hl
    have h1 : (w.setCell ⟨b, o, none⟩ v).heap[b]? = some (.cells (cur.set o v).toArray t (0, 0)) := by
      simp only [World.setCell, Array.getElem?_modify]
      simp [h]
    have g1 : w.grownBy (w.setCell ⟨b, o, none⟩ v) (some b) := by
      refine ⟨rfl, rfl, rfl, by simp [World.setCell], fun k hk hn => ?_⟩
      simp only [World.setCell, Array.getElem?_modify]
      rw [if_neg (fun e => hn (by rw [e]))]
    obtain ⟨h2, g2⟩ := setCells_block b t vs (o + 1) _ _ h1 (by simp; omega)
    rw [splice_cons cur o v vs (by omega)] at h2
    exact ⟨h2, grown_trans g1 g2⟩

/-- clear of int64 numbers within a block that is known whole. -/
theorem wpList_clear_block {P : Program} {w : World} {ops : Array Oper} {rest : List Oper} {o : Oper} {a : Act} {Q : Exit → Act → World → Prop} (hgd : o.guard = none) (s : Operand) (T : TypeId)
    (ho : o.op = .call { callee := .builtin .clear, args := #[s], argTypes := #[T] }) (e : TypeId) (i : TypeInfo) (hu : P.underlying T = some (.slice e)) (hi : P.info? e = some i) (hz : i.zero = some (.int .i64 0))
    (g off n c : Nat) (hs : a.eval s = .slice (some ⟨g, off, none⟩) n c) (hn : 0 < n) (cur : List Value) (t : TypeId) (hg : w.heap[g]? = some (.cells cur.toArray t (0, 0))) (hfit : off + n ≤ cur.length)
    (h : ∀ w', w'.heap[g]? = some (.cells (Go.splice cur off (List.replicate n (.int .i64 0))).toArray t (0, 0)) → w.grownBy w' (some g) → wpList P ops Q rest (a.put o.dst (.tuple #[])) w') :
    wpList P ops Q (o :: rest) a w := by
  refine wpList_plain hgd fun K hK => ?_
  have hv : ∀ w, (zeroValue e).run P w = .ok (.int .i64 0) w := fun w => by simp [zeroValue, typeInfo, hi, hz]
  have hc : ∀ j, j < n → w.cell? ⟨g, off + j, none⟩ = cur[off + j]? := fun j hj => by simp [World.cell?, hg]
  have hrun := Lib.run_clear_slice (P := P) w T e o.type (.int .i64 0) hu hv rfl rfl g off n c hn (fun j hj => by rw [hc j hj, List.getElem?_eq_getElem (by omega)]; rfl) (fun j _ => frozen_of_row w g (off + j) _ _ hg)
  obtain ⟨h1, h2⟩ := setCells_block g t (List.replicate n (.int .i64 0)) off w cur hg (by simpa using hfit)
  unfold Oper.wp
  simp [execOp, ho, resolve, invoke, builtin, hs, hrun, Result.andThen]
  exact hK _ _ (h _ h1 h2)

end Go.Proofs.YtpnnbenehajipabGreat
