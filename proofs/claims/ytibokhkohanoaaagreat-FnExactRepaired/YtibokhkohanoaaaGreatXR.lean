/- A range over a function that hands over a known list: the round is told which one it is of. Nothing of one program. A range over a function that hands over a list whose k-th element is known by where it lies: the round is told of it. Nothing of one program. -/
import Derived.Test.YtibokhkohanoaaaGreatG0
import Derived.RangeFuncNested
import Derived.RangeFuncCalls
import Derived.RangeFuncLeaves
namespace Go.Proofs.YtibokhkohanoaaaGreat
open Go.RowKit

/-- The function gf hands over N tuples, enc k the k-th, in this order, as long as each round keeps what Kp says. -/
def SeqList (F : Fence) (n : Nat) (P : Program) (gf : Nat) (lb : Array Value) (enc : Nat → Array Value) (N : Nat) (Kp : World → World → Prop) (w : World) : Prop :=
  ∀ (l : Nat) (J : Nat → World → Prop) (W : World), Below w.heap.size w W → AbidesFrom W.heap.size J → J 0 W →
    (∀ k W1, k < N → J k W1 → YieldAt F (n - 1) P l (enc k) W1 fun e W' => e = .returned (.bool true) ∧ J (k + 1) W' ∧ Kp W1 W') →
    CallsIn F n P gf (#[.func (.yield l) #[] #[]] ++ lb) W fun e W' => (∃ v, e = .returned v) ∧ J N W'

/-- The body goes on to the next round; it is left in no other way. -/
def listPost (B : Nat) (Kp : World → World → Prop) (I : Nat → World → Prop) (k : Nat) (W : World) : Exit → Act → World → Prop
  | .normal, _, W' => KeepsFrom B W W' ∧ Kp W W' ∧ I k W'
  | _, _, _ => False

/-- Where the loop's two blocks of its own lie between two rounds. -/
def Stands (r : LoopState → Option Code → Loop) (B : Nat) (s : LoopState) (W : World) : Prop :=
  W.heap[B + 1]? = some (.loop (r s none)) ∧ W.heap[B]? = some (.deferred (some []))

theorem wpIn_range_list {F : Fence} {n : Nat} {P : Program} {g : Operand} {ps : Array Tmp} {assign body : Code} {Q : Exit → Act → World → Prop} {a : Act} {w : World}
    (hro : F.round = none) (h1 : 1 ≤ n) {gf : Nat} {lb : Array Value} (hg : a.eval g = .func (.func gf) #[] lb) (hF : F.fn gf) (eg : ∀ args w, (callFunc gf args).run P w = .ok (.enter gf args) w)
    {enc : Nat → Array Value} {N : Nat} {Kp : World → World → Prop} {w0 : World} (hseq : SeqList F (n - 1) P gf lb enc N Kp w0)
    (hKt : ∀ {A B C : World}, Kp A B → Kp B C → Kp A C) (hKb : ∀ (W : World) (l : Nat) (o o' : Obj), w.heap.size ≤ l → W.heap[l]? = some o → o.isCells = false → o.isWalk = false → Kp W (W.putObj l o'))
    (hb0 : Below w0.heap.size w0 w) (hps : ∀ k, (enc k).size = ps.size)
    (I : Nat → World → Prop) (hI : OwnFrom w.heap.size I) (h0 : I 0 w) (A : Nat → Act → World → Prop) (hA : ∀ k a', OwnFrom w.heap.size (fun (_ : Unit) W => A k a' W))
    (hassign : ∀ (l k : Nat) (W : World) (K : Act → World → Prop), k < N → I k W → (∀ a' W', KeepsFrom w.heap.size W W' → Kp W W' → I k W' → A k a' W' → K a' W') →
      assign.wpIn (F.inRound l) (n - 1 - 1) P (Exit.then K (fun _ _ _ => False)) { tmps := (ps.zip (enc k)).foldl (fun t (p, v) => t.setIfInBounds p v) a.tmps, defers := [] } W)
    (hbody : ∀ (l k : Nat) (a' : Act) (W : World), k < N → I k W → A k a' W → body.wpIn (F.inRound l) (n - 1 - 1) P (listPost w.heap.size Kp I (k + 1) W) a' W)
    (hdone : ∀ (D : Nat) (W : World), w.heap.size ≤ D → I N W → W.heap[D]? = some (.deferred (some [])) → Q .normal { a with defers := { target := .collected D, args := #[] } :: a.defers } W) :
    (Code.rangeFunc g ps assign body).wpIn F n P Q a w := by
  refine wpIn_rangeFunc fun fn hfn => ?_
  rw [hro]
  obtain ⟨B, hB⟩ : ∃ B, B = w.heap.size := ⟨_, rfl⟩
  obtain ⟨r, hr⟩ : ∃ r : LoopState → Option Code → Loop, r = fun st pe => { state := st, pending := pe, fn, tmps := a.tmps, params := ps, assign, body, defers := w.heap.size } := ⟨_, rfl⟩
  obtain ⟨V, hV⟩ : ∃ V, V = (w.alloc (.deferred (some []))).alloc (.loop (r .ready none)) := ⟨_, rfl⟩
  have sV : V.heap.size = B + 2 := by rw [hV, hB]; simp
  have stV : Stands r B .ready V := by
    constructor
    · have := World.alloc_heap_new (w.alloc (.deferred (some []))) (.loop (r .ready none))
      rw [World.size_alloc, ← hB, ← hV] at this
      exact this
    · rw [hV, hB]
      exact (Below.heap_alloc _ _ _ (by simp)).trans (World.alloc_heap_new w _)
  have bV : Below w0.heap.size w0 V := by
    rw [hV]; exact (hb0.alloc hb0.size _).alloc (by have := hb0.size; simp; omega) _
  have iV : I 0 V := by rw [hV]; exact hI.alloc _ (hI.alloc _ h0)
  have abide : AbidesFrom V.heap.size (fun k W => I k W ∧ Stands r B .ready W) := fun k X Y row hs hgr hrow =>
    ⟨hI k X Y row hs.1 hgr (fun q e => by
      obtain ⟨hq, o, ho, hw⟩ := hrow q e
      exact ⟨by omega, o, ho, Obj.not_cells_of_walk hw⟩),
     (grownBy_keeps hgr (fun q e => (hrow q e).2) hs.2.1 rfl).trans hs.2.1, (grownBy_keeps hgr (fun q e => (hrow q e).2) hs.2.2 rfl).trans hs.2.2⟩
  refine ⟨B + 1, [{ target := .collected B, args := #[] }], V, { target := .fn (.func gf) lb, args := #[.func (.yield (B + 1)) #[] #[]] }, V, gf, #[.func (.yield (B + 1)) #[] #[]] ++ lb, V, ?_, ?_, ?_, ?_, fun _ => h1, ?_⟩
  · rw [hV, hr, hB]; exact run_enterLoop_outer _ _ _ _ _
  · simp only [resolve, hg]; simp [go_sem]
  · intro f hf
    simp [Target.leads] at hf
    exact hf ▸ hF
  · simp [invoke, go_sem, eg]
  refine (hseq (B + 1) (fun k W => I k W ∧ Stands r B .ready W) V bV abide ⟨iV, stV⟩ ?_).mono ?_
  · rintro k W hk ⟨hi, hl, hd⟩
    have hy := run_yield (P := P) (args := enc k) hl (by rw [hr]; exact hps k)
    rw [hr] at hy
    refine ⟨fn, _, assign, body, hy, roundIn_of_wpIn hfn (hassign _ k W _ hk hi fun a' X kf kp hi hax => ?_)⟩
    clear hy
    have hl := kf.same _ _ (by omega) hl rfl
    have hd := kf.same _ _ (by omega) hd rfl
    have hlt : B + 1 < X.heap.size := (Array.getElem?_eq_some_iff.1 hl).1
    refine ⟨_, run_beginRound hl (by rw [hr]), ?_⟩
    obtain ⟨Y, hY⟩ : ∃ Y, Y = X.putObj (B + 1) (.loop { r .ready none with state := .busy }) := ⟨_, rfl⟩
    rw [← hY]
    have hlY : Y.heap[B + 1]? = some (.loop { r .ready none with state := .busy }) := by rw [hY]; exact World.putObj_heap_same hlt
    have hdY : Y.heap[B]? = some (.deferred (some [])) := by rw [hY]; exact (World.putObj_heap_other (by omega)).trans hd
    have kpY : Kp X Y := by rw [hY]; exact hKb _ _ _ _ (by omega) hl rfl rfl
    have hiY : I k Y := by rw [hY]; exact hI.putObj _ hi (by omega) hl rfl
    have haY : A k a' Y := by rw [hY]; exact (hA k a').putObj (s := ()) _ hax (by omega) hl rfl
    refine wpIn_mono (hbody _ k a' Y hk hiY haY) ?_
    rintro e a3 Z hp
    cases e with
    | normal =>
      obtain ⟨kz, kpz, hiz⟩ := hp
      have hlz := kz.same _ _ (by omega) hlY rfl
      have hdz := kz.same _ _ (by omega) hdY rfl
      have hend := run_endRound (P := P) none hlz
      rw [hr] at hend hlz
      refine ⟨_, _, hend, rfl, ⟨hI.putObj _ hiz (by omega) hlz rfl, ?_, (World.putObj_heap_other (by omega)).trans hdz⟩, hKt kp (hKt (hKt kpY kpz) (hKb _ _ _ _ (by omega) hlz rfl rfl))⟩
      rw [hr]
      exact World.putObj_heap_same (Array.getElem?_eq_some_iff.1 hlz).1
    | ret => exact hp.elim
    | exit id => exact hp.elim
    | goto t => exact hp.elim
    | panic ch => exact hp.elim
    | outgrown => exact hp.elim
  · rintro e W ⟨⟨v, rfl⟩, hi, hl, hd⟩
    have hend := run_endLoop (P := P) hl (by rw [hr]; simp)
    rw [hr] at hend hl
    exact ⟨none, _, hend, hB ▸ hdone B _ (by omega) (hI.putObj _ hi (by omega) hl rfl) ((World.putObj_heap_other (by omega)).trans hd)⟩

/-- What a round keeps: each cell but those of blocks of S. -/
def KpS (S : Nat → Prop) (W W' : World) : Prop := W.heap.size ≤ W'.heap.size ∧ ∀ (p : Addr) (v : Value), ¬ S p.block → W.cell? p = some v → W'.cell? p = some v
theorem KpS.refl (S : Nat → Prop) (W : World) : KpS S W W := ⟨Nat.le_refl _, fun _ _ _ h => h⟩
theorem KpS.trans {S : Nat → Prop} {A B C : World} (h : KpS S A B) (k : KpS S B C) : KpS S A C := ⟨Nat.le_trans h.1 k.1, fun p v hp hc => k.2 p v hp (h.2 p v hp hc)⟩
theorem KpS.alloc {S : Nat → Prop} {A B : World} (h : KpS S A B) (o : Obj) : KpS S A (B.alloc o) :=
  h.trans ⟨by simp, fun _ _ _ hc => cell_kept hc (World.grownBy_alloc B o none) (fun _ e => by cases e)⟩
theorem KpS.put {S : Nat → Prop} {W : World} {l : Nat} {o : Obj} (o' : Obj) (h : W.heap[l]? = some o) (ho : o.isCells = false) : KpS S W (W.putObj l o') :=
  ⟨(grownBy_putObj' W l o').size, fun _ _ _ hc => cell_kept hc (grownBy_putObj' W l o') (fun _ e => by cases e; exact ⟨o, h, ho⟩)⟩
/-- Blocks that lie as they lay, but those of S. -/
theorem KpS.of {S : Nat → Prop} {W W' : World} (hs : W.heap.size ≤ W'.heap.size) (h : ∀ b, b < W.heap.size → ¬ S b → W'.heap[b]? = W.heap[b]?) : KpS S W W' :=
  ⟨hs, fun p v hp hc => by
    obtain ⟨o, ho, _⟩ := cells_of_cell hc
    exact (World.cell?_of_block (h p.block (Array.getElem?_eq_some_iff.1 ho).1 hp)).trans hc⟩

/-- The function gf hands over N elements; of the k-th, x, it says T k x of the world in which it is handed over, as long as each round keeps what Kp says. -/
def SeqTold {α : Type} (F : Fence) (n : Nat) (P : Program) (gf : Nat) (lb : Array Value) (enc : α → Array Value) (T : Nat → α → World → Prop) (N : Nat) (Kp : World → World → Prop) (w : World) : Prop :=
  ∀ (l : Nat) (J : Nat → World → Prop) (W : World), Below w.heap.size w W → AbidesFrom W.heap.size J → J 0 W →
    (∀ k x W1, k < N → J k W1 → T k x W1 → YieldAt F (n - 1) P l (enc x) W1 fun e W' => e = .returned (.bool true) ∧ J (k + 1) W' ∧ Kp W1 W') →
    CallsIn F n P gf (#[.func (.yield l) #[] #[]] ++ lb) W fun e W' => (∃ v, e = .returned v) ∧ J N W'

theorem wpIn_range_told {F : Fence} {n : Nat} {P : Program} {g : Operand} {ps : Array Tmp} {assign body : Code} {Q : Exit → Act → World → Prop} {a : Act} {w : World}
    (hro : F.round = none) (h1 : 1 ≤ n) {gf : Nat} {lb : Array Value} (hg : a.eval g = .func (.func gf) #[] lb) (hF : F.fn gf) (eg : ∀ args w, (callFunc gf args).run P w = .ok (.enter gf args) w)
    {α : Type} {enc : α → Array Value} {T : Nat → α → World → Prop} {N : Nat} {Kp : World → World → Prop} {w0 : World} (hseq : SeqTold F (n - 1) P gf lb enc T N Kp w0)
    (hKt : ∀ {A B C : World}, Kp A B → Kp B C → Kp A C) (hKb : ∀ (W : World) (l : Nat) (o o' : Obj), w.heap.size ≤ l → W.heap[l]? = some o → o.isCells = false → o.isWalk = false → Kp W (W.putObj l o'))
    (hb0 : Below w0.heap.size w0 w) (hps : ∀ x, (enc x).size = ps.size)
    (I : Nat → World → Prop) (hI : OwnFrom w.heap.size I) (h0 : I 0 w) (A : Nat → α → Act → World → Prop) (hA : ∀ k x a', OwnFrom w.heap.size (fun (_ : Unit) W => A k x a' W))
    (hassign : ∀ (l k : Nat) (x : α) (W : World) (K : Act → World → Prop), k < N → I k W → T k x W → (∀ a' W', KeepsFrom w.heap.size W W' → Kp W W' → I k W' → A k x a' W' → K a' W') →
      assign.wpIn (F.inRound l) (n - 1 - 1) P (Exit.then K (fun _ _ _ => False)) { tmps := (ps.zip (enc x)).foldl (fun t (p, v) => t.setIfInBounds p v) a.tmps, defers := [] } W)
    (hbody : ∀ (l k : Nat) (x : α) (a' : Act) (W : World), k < N → I k W → A k x a' W → body.wpIn (F.inRound l) (n - 1 - 1) P (listPost w.heap.size Kp I (k + 1) W) a' W)
    (hdone : ∀ (D : Nat) (W : World), w.heap.size ≤ D → I N W → W.heap[D]? = some (.deferred (some [])) → Q .normal { a with defers := { target := .collected D, args := #[] } :: a.defers } W) :
    (Code.rangeFunc g ps assign body).wpIn F n P Q a w := by
  refine wpIn_rangeFunc fun fn hfn => ?_
  rw [hro]
  obtain ⟨B, hB⟩ : ∃ B, B = w.heap.size := ⟨_, rfl⟩
  obtain ⟨r, hr⟩ : ∃ r : LoopState → Option Code → Loop, r = fun st pe => { state := st, pending := pe, fn, tmps := a.tmps, params := ps, assign, body, defers := w.heap.size } := ⟨_, rfl⟩
  obtain ⟨V, hV⟩ : ∃ V, V = (w.alloc (.deferred (some []))).alloc (.loop (r .ready none)) := ⟨_, rfl⟩
  have sV : V.heap.size = B + 2 := by rw [hV, hB]; simp
  have stV : Stands r B .ready V := by
    constructor
    · have := World.alloc_heap_new (w.alloc (.deferred (some []))) (.loop (r .ready none))
      rw [World.size_alloc, ← hB, ← hV] at this
      exact this
    · rw [hV, hB]
      exact (Below.heap_alloc _ _ _ (by simp)).trans (World.alloc_heap_new w _)
  have bV : Below w0.heap.size w0 V := by
    rw [hV]; exact (hb0.alloc hb0.size _).alloc (by have := hb0.size; simp; omega) _
  have iV : I 0 V := by rw [hV]; exact hI.alloc _ (hI.alloc _ h0)
  have abide : AbidesFrom V.heap.size (fun k W => I k W ∧ Stands r B .ready W) := fun k X Y row hs hgr hrow =>
    ⟨hI k X Y row hs.1 hgr (fun q e => by
      obtain ⟨hq, o, ho, hw⟩ := hrow q e
      exact ⟨by omega, o, ho, Obj.not_cells_of_walk hw⟩),
     (grownBy_keeps hgr (fun q e => (hrow q e).2) hs.2.1 rfl).trans hs.2.1, (grownBy_keeps hgr (fun q e => (hrow q e).2) hs.2.2 rfl).trans hs.2.2⟩
  refine ⟨B + 1, [{ target := .collected B, args := #[] }], V, { target := .fn (.func gf) lb, args := #[.func (.yield (B + 1)) #[] #[]] }, V, gf, #[.func (.yield (B + 1)) #[] #[]] ++ lb, V, ?_, ?_, ?_, ?_, fun _ => h1, ?_⟩
  · rw [hV, hr, hB]; exact run_enterLoop_outer _ _ _ _ _
  · simp only [resolve, hg]; simp [go_sem]
  · intro f hf
    simp [Target.leads] at hf
    exact hf ▸ hF
  · simp [invoke, go_sem, eg]
  refine (hseq (B + 1) (fun k W => I k W ∧ Stands r B .ready W) V bV abide ⟨iV, stV⟩ ?_).mono ?_
  · rintro k x W hk ⟨hi, hl, hd⟩ ht
    have hy := run_yield (P := P) (args := enc x) hl (by rw [hr]; exact hps x)
    rw [hr] at hy
    refine ⟨fn, _, assign, body, hy, roundIn_of_wpIn hfn (hassign _ k x W _ hk hi ht fun a' X kf kp hi hax => ?_)⟩
    clear hy
    have hl := kf.same _ _ (by omega) hl rfl
    have hd := kf.same _ _ (by omega) hd rfl
    have hlt : B + 1 < X.heap.size := (Array.getElem?_eq_some_iff.1 hl).1
    refine ⟨_, run_beginRound hl (by rw [hr]), ?_⟩
    obtain ⟨Y, hY⟩ : ∃ Y, Y = X.putObj (B + 1) (.loop { r .ready none with state := .busy }) := ⟨_, rfl⟩
    rw [← hY]
    have hlY : Y.heap[B + 1]? = some (.loop { r .ready none with state := .busy }) := by rw [hY]; exact World.putObj_heap_same hlt
    have hdY : Y.heap[B]? = some (.deferred (some [])) := by rw [hY]; exact (World.putObj_heap_other (by omega)).trans hd
    have kpY : Kp X Y := by rw [hY]; exact hKb _ _ _ _ (by omega) hl rfl rfl
    have hiY : I k Y := by rw [hY]; exact hI.putObj _ hi (by omega) hl rfl
    have haY : A k x a' Y := by rw [hY]; exact (hA k x a').putObj (s := ()) _ hax (by omega) hl rfl
    refine wpIn_mono (hbody _ k x a' Y hk hiY haY) ?_
    rintro e a3 Z hp
    cases e with
    | normal =>
      obtain ⟨kz, kpz, hiz⟩ := hp
      have hlz := kz.same _ _ (by omega) hlY rfl
      have hdz := kz.same _ _ (by omega) hdY rfl
      have hend := run_endRound (P := P) none hlz
      rw [hr] at hend hlz
      refine ⟨_, _, hend, rfl, ⟨hI.putObj _ hiz (by omega) hlz rfl, ?_, (World.putObj_heap_other (by omega)).trans hdz⟩, hKt kp (hKt (hKt kpY kpz) (hKb _ _ _ _ (by omega) hlz rfl rfl))⟩
      rw [hr]
      exact World.putObj_heap_same (Array.getElem?_eq_some_iff.1 hlz).1
    | ret => exact hp.elim
    | exit id => exact hp.elim
    | goto t => exact hp.elim
    | panic ch => exact hp.elim
    | outgrown => exact hp.elim
  · rintro e W ⟨⟨v, rfl⟩, hi, hl, hd⟩
    have hend := run_endLoop (P := P) hl (by rw [hr]; simp)
    rw [hr] at hend hl
    exact ⟨none, _, hend, hB ▸ hdone B _ (by omega) (hI.putObj _ hi (by omega) hl rfl) ((World.putObj_heap_other (by omega)).trans hd)⟩

/-- What a round keeps: each row in a block that is spared (S), and that it is spared. -/
def KpB (S : World → Nat → Prop) (W W' : World) : Prop :=
  W.heap.size ≤ W'.heap.size ∧ ∀ b, b < W.heap.size → S W b → S W' b ∧ ∀ o, W.heap[b]? = some o → o.isCells = true → W'.heap[b]? = some o
theorem KpB.refl (S : World → Nat → Prop) (W : World) : KpB S W W := ⟨Nat.le_refl _, fun _ _ h => ⟨h, fun _ h _ => h⟩⟩
theorem KpB.trans {S : World → Nat → Prop} {A B C : World} (h : KpB S A B) (k : KpB S B C) : KpB S A C :=
  ⟨Nat.le_trans h.1 k.1, fun b hb hs => by
    obtain ⟨s1, c1⟩ := h.2 b hb hs
    obtain ⟨s2, c2⟩ := k.2 b (Nat.lt_of_lt_of_le hb h.1) s1
    exact ⟨s2, fun o ho hc => c2 o (c1 o ho hc) hc⟩⟩
/-- It is spared in whatever grows behind, and where what is no row is put. -/
structure SpareS (S : World → Nat → Prop) : Prop where
  below : ∀ W W' b, Below W.heap.size W W' → S W b → S W' b
  put : ∀ W l o o' b, W.heap[l]? = some o → o.isCells = false → S W b → S (W.putObj l o') b
theorem KpB.below {S : World → Nat → Prop} (hS : SpareS S) {W W' : World} (h : Below W.heap.size W W') : KpB S W W' :=
  ⟨h.size, fun b hb hs => ⟨hS.below W W' b h hs, fun _ ho _ => (h.block b hb).trans ho⟩⟩
theorem KpB.alloc {S : World → Nat → Prop} (hS : SpareS S) {A B : World} (h : KpB S A B) (o : Obj) : KpB S A (B.alloc o) :=
  h.trans (KpB.below hS ((Below.refl _ B).alloc (Nat.le_refl _) o))
theorem KpB.put {S : World → Nat → Prop} (hS : SpareS S) {W : World} {l : Nat} {o : Obj} (o' : Obj) (h : W.heap[l]? = some o) (ho : o.isCells = false) : KpB S W (W.putObj l o') :=
  ⟨(grownBy_putObj' W l o').size, fun b hb hs => ⟨hS.put W l o o' b h ho hs, fun o2 h2 hc => ((grownBy_putObj' W l o').block b hb (fun e => by
    injection e with e
    subst e
    rw [h] at h2
    cases h2
    rw [ho] at hc
    cases hc)).trans h2⟩⟩

/-- All blocks are spared but g. -/
def SpG (g : Nat) (_ : World) (b : Nat) : Prop := b ≠ g
theorem SpG.spare (g : Nat) : SpareS (SpG g) := ⟨fun _ _ _ _ h => h, fun _ _ _ _ _ _ _ h => h⟩
theorem KpB.grown {g : Nat} {W W' : World} (h : W.grownBy W' (some g)) : KpB (SpG g) W W' :=
  ⟨h.size, fun b hb hs => ⟨hs, fun _ ho _ => (h.block b hb (fun e => hs (by injection e))).trans ho⟩⟩

end Go.Proofs.YtibokhkohanoaaaGreat
