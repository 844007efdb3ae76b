/- A range over a function that hands over a known list: the round is told which one it is of. Nothing of one program. A range over a function that hands over a list whose k-th element is known by where it lies: the round is told of it. Nothing of one program. The tables that are gone into, each with all of its words as they must be (rightWords, an iterator): the program's side. Flags (chapter 15), as the program sets them: each table that is gone into gets all of its words as they must be. Plain mathematics. -/
import Derived.Test.YtiokfhdkbpoadaaGreatDoorG0
import Derived.RangeFuncNested
import Derived.RangeFuncCalls
import Derived.RangeFuncLeaves
import Derived.Test.YtiokfhdkbpoadaaGreatDoorX6
import Derived.Test.YtiokfhdkbpoadaaGreatDoorY5
import Derived.Test.YtiokfhdkbpoadaaGreatDoorY2
import Derived.Test.YtiokfhdkbpoadaaGreatDoorH3
namespace Go.Proofs.YtiokfhdkbpoadaaGreatDoor
open Go.RowKit
open Go.RowKit Go.Shelf

/-- The function gf hands over N tuples, enc k the k-th, in this order, as long as each round keeps what Kp says. -/
def SeqList (F : Fence) (n : Nat) (P : Program) (gf : Nat) (lb : Array Value) (enc : Nat → Array Value) (N : Nat) (Kp : World → World → Prop) (w : World) : Prop :=
  ∀ (l : Nat) (J : Nat → World → Prop) (W : World), Below w.heap.size w W → AbidesFrom W.heap.size J → J 0 W →
    (∀ k W1, k < N → J k W1 → YieldAt F (n - 1) P l (enc k) W1 fun e W' => e = .returned (.bool true) ∧ J (k + 1) W' ∧ Kp W1 W') →
    CallsIn F n P gf (#[.func (.yield l) #[] #[]] ++ lb) W fun e W' => (∃ v, e = .returned v) ∧ J N W'

/-- The body goes on to the next round; it is left in no other way. -/
def listPost (B : Nat) (Kp : World → World → Prop) (I : Nat → World → Prop) (k : Nat) (W : World) : Exit → Act → World → Prop
  | .normal, _, W' => KeepsFrom B W W' ∧ Kp W W' ∧ I k W'
  | _, _, _ => False

/-- Where the loop's two blocks of its own lie between two rounds. -/
def Stands (r : LoopState → Option Code → Loop) (B : Nat) (s : LoopState) (W : World) : Prop :=
  W.heap[B + 1]? = some (.loop (r s none)) ∧ W.heap[B]? = some (.deferred (some []))

theorem wpIn_range_list {F : Fence} {n : Nat} {P : Program} {g : Operand} {ps : Array Tmp} {assign body : Code} {Q : Exit → Act → World → Prop} {a : Act} {w : World}
    (hro : F.round = none) (h1 : 1 ≤ n) {gf : Nat} {lb : Array Value} (hg : a.eval g = .func (.func gf) #[] lb) (hF : F.fn gf) (eg : ∀ args w, (callFunc gf args).run P w = .ok (.enter gf args) w)
    {enc : Nat → Array Value} {N : Nat} {Kp : World → World → Prop} {w0 : World} (hseq : SeqList F (n - 1) P gf lb enc N Kp w0)
    (hKt : ∀ {A B C : World}, Kp A B → Kp B C → Kp A C) (hKb : ∀ (W : World) (l : Nat) (o o' : Obj), w.heap.size ≤ l → W.heap[l]? = some o → o.isCells = false → o.isWalk = false → Kp W (W.putObj l o'))
    (hb0 : Below w0.heap.size w0 w) (hps : ∀ k, (enc k).size = ps.size)
    (I : Nat → World → Prop) (hI : OwnFrom w.heap.size I) (h0 : I 0 w) (A : Nat → Act → World → Prop) (hA : ∀ k a', OwnFrom w.heap.size (fun (_ : Unit) W => A k a' W))
    (hassign : ∀ (l k : Nat) (W : World) (K : Act → World → Prop), k < N → I k W → (∀ a' W', KeepsFrom w.heap.size W W' → Kp W W' → I k W' → A k a' W' → K a' W') →
      assign.wpIn (F.inRound l) (n - 1 - 1) P (Exit.then K (fun _ _ _ => False)) { tmps := (ps.zip (enc k)).foldl (fun t (p, v) => t.setIfInBounds p v) a.tmps, defers := [] } W)
    (hbody : ∀ (l k : Nat) (a' : Act) (W : World), k < N → I k W → A k a' W → body.wpIn (F.inRound l) (n - 1 - 1) P (listPost w.heap.size Kp I (k + 1) W) a' W)
    (hdone : ∀ (D : Nat) (W : World), w.heap.size ≤ D → I N W → W.heap[D]? = some (.deferred (some [])) → Q .normal { a with defers := { target := .collected D, args := #[] } :: a.defers } W) :
    (Code.rangeFunc g ps assign body).wpIn F n P Q a w := by
  refine wpIn_rangeFunc fun fn hfn => ?_
  rw [hro]
  obtain ⟨B, hB⟩ : ∃ B, B = w.heap.size := ⟨_, rfl⟩
  obtain ⟨r, hr⟩ : ∃ r : LoopState → Option Code → Loop, r = fun st pe => { state := st, pending := pe, fn, tmps := a.tmps, params := ps, assign, body, defers := w.heap.size } := ⟨_, rfl⟩
  obtain ⟨V, hV⟩ : ∃ V, V = (w.alloc (.deferred (some []))).alloc (.loop (r .ready none)) := ⟨_, rfl⟩
  have sV : V.heap.size = B + 2 := by rw [hV, hB]; simp
  have stV : Stands r B .ready V := by
    constructor
    · have := World.alloc_heap_new (w.alloc (.deferred (some []))) (.loop (r .ready none))
      rw [World.size_alloc, ← hB, ← hV] at this
      exact this
    · rw [hV, hB]
      exact (Below.heap_alloc _ _ _ (by simp)).trans (World.alloc_heap_new w _)
  have bV : Below w0.heap.size w0 V := by
    rw [hV]; exact (hb0.alloc hb0.size _).alloc (by have := hb0.size; simp; omega) _
  have iV : I 0 V := by rw [hV]; exact hI.alloc _ (hI.alloc _ h0)
  have abide : AbidesFrom V.heap.size (fun k W => I k W ∧ Stands r B .ready W) := fun k X Y row hs hgr hrow =>
    ⟨hI k X Y row hs.1 hgr (fun q e => by
      obtain ⟨hq, o, ho, hw⟩ := hrow q e
      exact ⟨by omega, o, ho, Obj.not_cells_of_walk hw⟩),
     (grownBy_keeps hgr (fun q e => (hrow q e).2) hs.2.1 rfl).trans hs.2.1, (grownBy_keeps hgr (fun q e => (hrow q e).2) hs.2.2 rfl).trans hs.2.2⟩
  refine ⟨B + 1, [{ target := .collected B, args := #[] }], V, { target := .fn (.func gf) lb, args := #[.func (.yield (B + 1)) #[] #[]] }, V, gf, #[.func (.yield (B + 1)) #[] #[]] ++ lb, V, ?_, ?_, ?_, ?_, fun _ => h1, ?_⟩
  · rw [hV, hr, hB]; exact run_enterLoop_outer _ _ _ _ _
  · simp only [resolve, hg]; simp [go_sem]
  · intro f hf
    simp [Target.leads] at hf
    exact hf ▸ hF
  · simp [invoke, go_sem, eg]
  refine (hseq (B + 1) (fun k W => I k W ∧ Stands r B .ready W) V bV abide ⟨iV, stV⟩ ?_).mono ?_
  · rintro k W hk ⟨hi, hl, hd⟩
    have hy := run_yield (P := P) (args := enc k) hl (by rw [hr]; exact hps k)
    rw [hr] at hy
    refine ⟨fn, _, assign, body, hy, roundIn_of_wpIn hfn (hassign _ k W _ hk hi fun a' X kf kp hi hax => ?_)⟩
    clear hy
    have hl := kf.same _ _ (by omega) hl rfl
    have hd := kf.same _ _ (by omega) hd rfl
    have hlt : B + 1 < X.heap.size := (Array.getElem?_eq_some_iff.1 hl).1
    refine ⟨_, run_beginRound hl (by rw [hr]), ?_⟩
    obtain ⟨Y, hY⟩ : ∃ Y, Y = X.putObj (B + 1) (.loop { r .ready none with state := .busy }) := ⟨_, rfl⟩
    rw [← hY]
    have hlY : Y.heap[B + 1]? = some (.loop { r .ready none with state := .busy }) := by rw [hY]; exact World.putObj_heap_same hlt
    have hdY : Y.heap[B]? = some (.deferred (some [])) := by rw [hY]; exact (World.putObj_heap_other (by omega)).trans hd
    have kpY : Kp X Y := by rw [hY]; exact hKb _ _ _ _ (by omega) hl rfl rfl
    have hiY : I k Y := by rw [hY]; exact hI.putObj _ hi (by omega) hl rfl
    have haY : A k a' Y := by rw [hY]; exact (hA k a').putObj (s := ()) _ hax (by omega) hl rfl
    refine wpIn_mono (hbody _ k a' Y hk hiY haY) ?_
    rintro e a3 Z hp
    cases e with
    | normal =>
      obtain ⟨kz, kpz, hiz⟩ := hp
      have hlz := kz.same _ _ (by omega) hlY rfl
      have hdz := kz.same _ _ (by omega) hdY rfl
      have hend := run_endRound (P := P) none hlz
      rw [hr] at hend hlz
      refine ⟨_, _, hend, rfl, ⟨hI.putObj _ hiz (by omega) hlz rfl, ?_, (World.putObj_heap_other (by omega)).trans hdz⟩, hKt kp (hKt (hKt kpY kpz) (hKb _ _ _ _ (by omega) hlz rfl rfl))⟩
      rw [hr]
      exact World.putObj_heap_same (Array.getElem?_eq_some_iff.1 hlz).1
    | ret => exact hp.elim
    | exit id => exact hp.elim
    | goto t => exact hp.elim
    | panic ch => exact hp.elim
    | outgrown => exact hp.elim
  · rintro e W ⟨⟨v, rfl⟩, hi, hl, hd⟩
    have hend := run_endLoop (P := P) hl (by rw [hr]; simp)
    rw [hr] at hend hl
    exact ⟨none, _, hend, hB ▸ hdone B _ (by omega) (hI.putObj _ hi (by omega) hl rfl) ((World.putObj_heap_other (by omega)).trans hd)⟩

/-- What a round keeps: each cell but those of blocks of S. -/
def KpS (S : Nat → Prop) (W W' : World) : Prop := W.heap.size ≤ W'.heap.size ∧ ∀ (p : Addr) (v : Value), ¬ S p.block → W.cell? p = some v → W'.cell? p = some v
theorem KpS.refl (S : Nat → Prop) (W : World) : KpS S W W := ⟨Nat.le_refl _, fun _ _ _ h => h⟩
theorem KpS.trans {S : Nat → Prop} {A B C : World} (h : KpS S A B) (k : KpS S B C) : KpS S A C := ⟨Nat.le_trans h.1 k.1, fun p v hp hc => k.2 p v hp (h.2 p v hp hc)⟩
theorem KpS.alloc {S : Nat → Prop} {A B : World} (h : KpS S A B) (o : Obj) : KpS S A (B.alloc o) :=
  h.trans ⟨by simp, fun _ _ _ hc => cell_kept hc (World.grownBy_alloc B o none) (fun _ e => by cases e)⟩
theorem KpS.put {S : Nat → Prop} {W : World} {l : Nat} {o : Obj} (o' : Obj) (h : W.heap[l]? = some o) (ho : o.isCells = false) : KpS S W (W.putObj l o') :=
  ⟨(grownBy_putObj' W l o').size, fun _ _ _ hc => cell_kept hc (grownBy_putObj' W l o') (fun _ e => by cases e; exact ⟨o, h, ho⟩)⟩
/-- Blocks that lie as they lay, but those of S. -/
theorem KpS.of {S : Nat → Prop} {W W' : World} (hs : W.heap.size ≤ W'.heap.size) (h : ∀ b, b < W.heap.size → ¬ S b → W'.heap[b]? = W.heap[b]?) : KpS S W W' :=
  ⟨hs, fun p v hp hc => by
    obtain ⟨o, ho, _⟩ := cells_of_cell hc
    exact (World.cell?_of_block (h p.block (Array.getElem?_eq_some_iff.1 ho).1 hp)).trans hc⟩

/-- The function gf hands over N elements; of the k-th, x, it says T k x of the world in which it is handed over, as long as each round keeps what Kp says. -/
def SeqTold {α : Type} (F : Fence) (n : Nat) (P : Program) (gf : Nat) (lb : Array Value) (enc : α → Array Value) (T : Nat → α → World → Prop) (N : Nat) (Kp : World → World → Prop) (w : World) : Prop :=
  ∀ (l : Nat) (J : Nat → World → Prop) (W : World), Below w.heap.size w W → AbidesFrom W.heap.size J → J 0 W →
    (∀ k x W1, k < N → J k W1 → T k x W1 → YieldAt F (n - 1) P l (enc x) W1 fun e W' => e = .returned (.bool true) ∧ J (k + 1) W' ∧ Kp W1 W') →
    CallsIn F n P gf (#[.func (.yield l) #[] #[]] ++ lb) W fun e W' => (∃ v, e = .returned v) ∧ J N W'

theorem wpIn_range_told {F : Fence} {n : Nat} {P : Program} {g : Operand} {ps : Array Tmp} {assign body : Code} {Q : Exit → Act → World → Prop} {a : Act} {w : World}
    (hro : F.round = none) (h1 : 1 ≤ n) {gf : Nat} {lb : Array Value} (hg : a.eval g = .func (.func gf) #[] lb) (hF : F.fn gf) (eg : ∀ args w, (callFunc gf args).run P w = .ok (.enter gf args) w)
    {α : Type} {enc : α → Array Value} {T : Nat → α → World → Prop} {N : Nat} {Kp : World → World → Prop} {w0 : World} (hseq : SeqTold F (n - 1) P gf lb enc T N Kp w0)
    (hKt : ∀ {A B C : World}, Kp A B → Kp B C → Kp A C) (hKb : ∀ (W : World) (l : Nat) (o o' : Obj), w.heap.size ≤ l → W.heap[l]? = some o → o.isCells = false → o.isWalk = false → Kp W (W.putObj l o'))
    (hb0 : Below w0.heap.size w0 w) (hps : ∀ x, (enc x).size = ps.size)
    (I : Nat → World → Prop) (hI : OwnFrom w.heap.size I) (h0 : I 0 w) (A : Nat → α → Act → World → Prop) (hA : ∀ k x a', OwnFrom w.heap.size (fun (_ : Unit) W => A k x a' W))
    (hassign : ∀ (l k : Nat) (x : α) (W : World) (K : Act → World → Prop), k < N → I k W → T k x W → (∀ a' W', KeepsFrom w.heap.size W W' → Kp W W' → I k W' → A k x a' W' → K a' W') →
      assign.wpIn (F.inRound l) (n - 1 - 1) P (Exit.then K (fun _ _ _ => False)) { tmps := (ps.zip (enc x)).foldl (fun t (p, v) => t.setIfInBounds p v) a.tmps, defers := [] } W)
    (hbody : ∀ (l k : Nat) (x : α) (a' : Act) (W : World), k < N → I k W → A k x a' W → body.wpIn (F.inRound l) (n - 1 - 1) P (listPost w.heap.size Kp I (k + 1) W) a' W)
    (hdone : ∀ (D : Nat) (W : World), w.heap.size ≤ D → I N W → W.heap[D]? = some (.deferred (some [])) → Q .normal { a with defers := { target := .collected D, args := #[] } :: a.defers } W) :
    (Code.rangeFunc g ps assign body).wpIn F n P Q a w := by
  refine wpIn_rangeFunc fun fn hfn => ?_
  rw [hro]
  obtain ⟨B, hB⟩ : ∃ B, B = w.heap.size := ⟨_, rfl⟩
  obtain ⟨r, hr⟩ : ∃ r : LoopState → Option Code → Loop, r = fun st pe => { state := st, pending := pe, fn, tmps := a.tmps, params := ps, assign, body, defers := w.heap.size } := ⟨_, rfl⟩
  obtain ⟨V, hV⟩ : ∃ V, V = (w.alloc (.deferred (some []))).alloc (.loop (r .ready none)) := ⟨_, rfl⟩
  have sV : V.heap.size = B + 2 := by rw [hV, hB]; simp
  have stV : Stands r B .ready V := by
    constructor
    · have := World.alloc_heap_new (w.alloc (.deferred (some []))) (.loop (r .ready none))
      rw [World.size_alloc, ← hB, ← hV] at this
      exact this
    · rw [hV, hB]
      exact (Below.heap_alloc _ _ _ (by simp)).trans (World.alloc_heap_new w _)
  have bV : Below w0.heap.size w0 V := by
    rw [hV]; exact (hb0.alloc hb0.size _).alloc (by have := hb0.size; simp; omega) _
  have iV : I 0 V := by rw [hV]; exact hI.alloc _ (hI.alloc _ h0)
  have abide : AbidesFrom V.heap.size (fun k W => I k W ∧ Stands r B .ready W) := fun k X Y row hs hgr hrow =>
    ⟨hI k X Y row hs.1 hgr (fun q e => by
      obtain ⟨hq, o, ho, hw⟩ := hrow q e
      exact ⟨by omega, o, ho, Obj.not_cells_of_walk hw⟩),
     (grownBy_keeps hgr (fun q e => (hrow q e).2) hs.2.1 rfl).trans hs.2.1, (grownBy_keeps hgr (fun q e => (hrow q e).2) hs.2.2 rfl).trans hs.2.2⟩
  refine ⟨B + 1, [{ target := .collected B, args := #[] }], V, { target := .fn (.func gf) lb, args := #[.func (.yield (B + 1)) #[] #[]] }, V, gf, #[.func (.yield (B + 1)) #[] #[]] ++ lb, V, ?_, ?_, ?_, ?_, fun _ => h1, ?_⟩
  · rw [hV, hr, hB]; exact run_enterLoop_outer _ _ _ _ _
  · simp only [resolve, hg]; simp [go_sem]
  · intro f hf
    simp [Target.leads] at hf
    exact hf ▸ hF
  · simp [invoke, go_sem, eg]
  refine (hseq (B + 1) (fun k W => I k W ∧ Stands r B .ready W) V bV abide ⟨iV, stV⟩ ?_).mono ?_
  · rintro k x W hk ⟨hi, hl, hd⟩ ht
    have hy := run_yield (P := P) (args := enc x) hl (by rw [hr]; exact hps x)
    rw [hr] at hy
    refine ⟨fn, _, assign, body, hy, roundIn_of_wpIn hfn (hassign _ k x W _ hk hi ht fun a' X kf kp hi hax => ?_)⟩
    clear hy
    have hl := kf.same _ _ (by omega) hl rfl
    have hd := kf.same _ _ (by omega) hd rfl
    have hlt : B + 1 < X.heap.size := (Array.getElem?_eq_some_iff.1 hl).1
    refine ⟨_, run_beginRound hl (by rw [hr]), ?_⟩
    obtain ⟨Y, hY⟩ : ∃ Y, Y = X.putObj (B + 1) (.loop { r .ready none with state := .busy }) := ⟨_, rfl⟩
    rw [← hY]
    have hlY : Y.heap[B + 1]? = some (.loop { r .ready none with state := .busy }) := by rw [hY]; exact World.putObj_heap_same hlt
    have hdY : Y.heap[B]? = some (.deferred (some [])) := by rw [hY]; exact (World.putObj_heap_other (by omega)).trans hd
    have kpY : Kp X Y := by rw [hY]; exact hKb _ _ _ _ (by omega) hl rfl rfl
    have hiY : I k Y := by rw [hY]; exact hI.putObj _ hi (by omega) hl rfl
    have haY : A k x a' Y := by rw [hY]; exact (hA k x a').putObj (s := ()) _ hax (by omega) hl rfl
    refine wpIn_mono (hbody _ k x a' Y hk hiY haY) ?_
    rintro e a3 Z hp
    cases e with
    | normal =>
      obtain ⟨kz, kpz, hiz⟩ := hp
      have hlz := kz.same _ _ (by omega) hlY rfl
      have hdz := kz.same _ _ (by omega) hdY rfl
      have hend := run_endRound (P := P) none hlz
      rw [hr] at hend hlz
      refine ⟨_, _, hend, rfl, ⟨hI.putObj _ hiz (by omega) hlz rfl, ?_, (World.putObj_heap_other (by omega)).trans hdz⟩, hKt kp (hKt (hKt kpY kpz) (hKb _ _ _ _ (by omega) hlz rfl rfl))⟩
      rw [hr]
      exact World.putObj_heap_same (Array.getElem?_eq_some_iff.1 hlz).1
    | ret => exact hp.elim
    | exit id => exact hp.elim
    | goto t => exact hp.elim
    | panic ch => exact hp.elim
    | outgrown => exact hp.elim
  · rintro e W ⟨⟨v, rfl⟩, hi, hl, hd⟩
    have hend := run_endLoop (P := P) hl (by rw [hr]; simp)
    rw [hr] at hend hl
    exact ⟨none, _, hend, hB ▸ hdone B _ (by omega) (hI.putObj _ hi (by omega) hl rfl) ((World.putObj_heap_other (by omega)).trans hd)⟩

/-- What a round keeps: each row in a block that is spared (S), and that it is spared. -/
def KpB (S : World → Nat → Prop) (W W' : World) : Prop :=
  W.heap.size ≤ W'.heap.size ∧ ∀ b, b < W.heap.size → S W b → S W' b ∧ ∀ o, W.heap[b]? = some o → o.isCells = true → W'.heap[b]? = some o
theorem KpB.refl (S : World → Nat → Prop) (W : World) : KpB S W W := ⟨Nat.le_refl _, fun _ _ h => ⟨h, fun _ h _ => h⟩⟩
theorem KpB.trans {S : World → Nat → Prop} {A B C : World} (h : KpB S A B) (k : KpB S B C) : KpB S A C :=
  ⟨Nat.le_trans h.1 k.1, fun b hb hs => by
    obtain ⟨s1, c1⟩ := h.2 b hb hs
    obtain ⟨s2, c2⟩ := k.2 b (Nat.lt_of_lt_of_le hb h.1) s1
    exact ⟨s2, fun o ho hc => c2 o (c1 o ho hc) hc⟩⟩
/-- It is spared in whatever grows behind, and where what is no row is put. -/
structure SpareS (S : World → Nat → Prop) : Prop where
  below : ∀ W W' b, Below W.heap.size W W' → S W b → S W' b
  put : ∀ W l o o' b, W.heap[l]? = some o → o.isCells = false → S W b → S (W.putObj l o') b
theorem KpB.below {S : World → Nat → Prop} (hS : SpareS S) {W W' : World} (h : Below W.heap.size W W') : KpB S W W' :=
  ⟨h.size, fun b hb hs => ⟨hS.below W W' b h hs, fun _ ho _ => (h.block b hb).trans ho⟩⟩
theorem KpB.alloc {S : World → Nat → Prop} (hS : SpareS S) {A B : World} (h : KpB S A B) (o : Obj) : KpB S A (B.alloc o) :=
  h.trans (KpB.below hS ((Below.refl _ B).alloc (Nat.le_refl _) o))
theorem KpB.put {S : World → Nat → Prop} (hS : SpareS S) {W : World} {l : Nat} {o : Obj} (o' : Obj) (h : W.heap[l]? = some o) (ho : o.isCells = false) : KpB S W (W.putObj l o') :=
  ⟨(grownBy_putObj' W l o').size, fun b hb hs => ⟨hS.put W l o o' b h ho hs, fun o2 h2 hc => ((grownBy_putObj' W l o').block b hb (fun e => by
    injection e with e
    subst e
    rw [h] at h2
    cases h2
    rw [ho] at hc
    cases hc)).trans h2⟩⟩

/-- All blocks are spared but g. -/
def SpG (g : Nat) (_ : World) (b : Nat) : Prop := b ≠ g
theorem SpG.spare (g : Nat) : SpareS (SpG g) := ⟨fun _ _ _ _ h => h, fun _ _ _ _ _ _ _ h => h⟩
theorem KpB.grown {g : Nat} {W W' : World} (h : W.grownBy W' (some g)) : KpB (SpG g) W W' :=
  ⟨h.size, fun b hb hs => ⟨hs, fun _ ho _ => (h.block b hb (fun e => hs (by injection e))).trans ho⟩⟩

attribute [local go_sem] Oper.semAt_some

set_option maxHeartbeats 1000000 in
theorem wordMustBe_any (word kind : Int) (counts : List Int) (gc cc : Nat) (w : World) (hc : ∀ j, j < 64 → w.cell? ⟨gc, j, none⟩ = some (.int .i64 (counts.getD j 0))) (ht : targetOf word ≠ 0 → 0 ≤ targetOf word ∧ targetOf word < 64) :
    Calls Tryz.prog 121 #[.int .i64 word, .int .i64 kind, .slice (some ⟨gc, 0, none⟩) 64 cc] w fun e w' => e = .returned (.int .i64 (wordMust word kind counts)) ∧ w = w' := by
  have HW : Hid (wordMust word kind counts = entryOf (targetOf word) (!(targetOf word == 0) && (!(kind == 3) && counts.getD (targetOf word).toNat 0 == 1))) := rfl
  generalize wordMust word kind counts = r at *
  by_cases h0 : targetOf word = 0
  · rw [h0] at HW
    have HE : Hid (r = entryOf 0 false) := by rw [HW.out]; exact rfl
    go_enter Tryz.func121, Tryz.ntmps121
    go_wp2_with fail
    refine (implTarget_any _ _).mono ?_
    rintro e w' ⟨rfl, rfl⟩
    rw [h0]
    go_wp2_with fail
    refine (implEntry_any _ _ _).mono ?_
    rintro e w' ⟨rfl, rfl⟩
    go_wp2_with fail
    go_ret
    exact ⟨by rw [HE.out]; rfl, rfl⟩
  · obtain ⟨t0, t1⟩ := ht h0
    clear ht
    generalize hte : targetOf word = t at *
    have HTE := Lib.hid hte
    clear hte
    obtain ⟨τ, rfl⟩ := Int.eq_ofNat_of_zero_le t0
    have hτ : τ < 64 := by omega
    have d0 : ((τ : Int) != 0) = true := by simpa using h0
    have d1 : ((τ : Int) == 0) = false := by simpa using h0
    have hcc := hc τ hτ
    clear hc h0
    rw [Int.toNat_natCast, d1] at HW
    generalize counts.getD τ 0 = y at *
    by_cases hk : kind = 3
    · subst hk
      have HE : Hid (r = entryOf τ false) := by rw [HW.out]; exact rfl
      go_enter Tryz.func121, Tryz.ntmps121
      go_wp2_with fail
      refine (implTarget_any _ _).mono ?_
      rintro e w' ⟨rfl, rfl⟩
      rw [HTE.out]
      go_wp2_with fail
      refine (implEntry_any _ _ _).mono ?_
      rintro e w' ⟨rfl, rfl⟩
      go_wp2_with fail
      go_ret
      exact ⟨by rw [HE.out]; rfl, rfl⟩
    · have dk : (kind != 3) = true := by simpa using hk
      have dk2 : (kind == 3) = false := by simpa using hk
      have HE : Hid (r = entryOf τ (y == 1)) := by rw [HW.out, dk2]; exact rfl
      go_enter Tryz.func121, Tryz.ntmps121
      go_wp2_with fail
      refine (implTarget_any _ _).mono ?_
      rintro e w' ⟨rfl, rfl⟩
      rw [HTE.out]
      go_wp2_with fail
      refine (implEntry_any _ _ _).mono ?_
      rintro e w' ⟨rfl, rfl⟩
      go_wp2_with fail
      go_ret
      exact ⟨by rw [HE.out]; rfl, rfl⟩

/-- What is handed over: the table's number, and where its words lie. -/
structure Hw where
  tbl : Int
  g : Nat
  c : Nat

def hwV (x : Hw) : Array Value := #[.int .i64 x.tbl, .slice (some ⟨x.g, 0, none⟩) 8 x.c]
/-- It is the k-th table, with its words as they must be. -/
def HwAt (xs : List Int) (B k : Nat) (x : Hw) (W : World) : Prop :=
  x.tbl = ((tgL (claimsC xs)).getD k cm0).target ∧ B ≤ x.g ∧ Ow W x.g (x.g + 1) (some ⟨x.g, 0, none⟩) 8 x.c (rtL xs (looseL xs) (countsC (claimsC xs)) ((tgL (claimsC xs)).getD k cm0))

theorem KpB.cell {S : World → Nat → Prop} {W W' : World} (h : KpB S W W') {p : Addr} {v : Value} (hs : S W p.block) (hc : W.cell? p = some v) : W'.cell? p = some v := by
  obtain ⟨o, ho, hcl⟩ := cells_of_cell hc
  exact (World.cell?_of_block (((h.2 _ (Array.getElem?_eq_some_iff.1 ho).1 hs).2 o ho hcl).trans ho.symm)).trans hc
theorem Rd.kpb {S : World → Nat → Prop} {W W' : World} {B n : Nat} {A : Option Addr} {xs : List Int} (h : Rd W B A n xs) (k : KpB S W W') (hs : ∀ b, b < B → S W b) : Rd W' B A n xs :=
  ⟨h.1, fun hn => by
    obtain ⟨b, off, e, hb, hc⟩ := h.2 hn
    exact ⟨b, off, e, hb, fun j hj => k.cell (p := ⟨b, off + j, none⟩) (hs b hb) (hc j hj)⟩⟩
theorem OwR.kpb {S : World → Nat → Prop} {t : TypeId} {sz lo hi n c : Nat} {W W' : World} {A : Option Addr} {cs : List Value} (h : OwR t sz W lo hi A n c cs) (k : KpB S W W') (hs : ∀ b, lo ≤ b → S W b) : OwR t sz W' lo hi A n c cs := by
  refine ⟨⟨h.own.1, ?_⟩, h.top⟩
  have hl := h.own.lt
  rcases h.own.2 with hn | ⟨g, cap, cur, hv, hb, hg, rest⟩
  · exact .inl hn
  · exact .inr ⟨g, cap, cur, hv, hb, (k.2 g (Array.getElem?_eq_some_iff.1 hg).1 (hs g hb)).2 _ hg rfl, rest⟩

theorem Ow.tight {w : World} {lo hi g n c : Nat} {xs : List Int} (h : Ow w lo hi (some ⟨g, 0, none⟩) n c xs) : Ow w g (g + 1) (some ⟨g, 0, none⟩) n c xs := by
  refine ⟨⟨h.own.1, ?_⟩, fun k hk => by simp [Value.ownBlock] at hk; omega⟩
  rcases h.own.2 with ⟨hv, _⟩ | ⟨g', cap, cur, hv, _, rest⟩
  · cases hv
  · have e : g = g' := by injection hv with e; injection e with e; injection e
    exact .inr ⟨g', cap, cur, hv, by omega, rest⟩

/-- The round's table. -/
def HwX (xs : List Int) (B0 : Nat) (tm : Hw → Array Value) (k : Nat) (x : Hw) (a : Act) (W : World) : Prop := HwAt xs B0 k x W ∧ a = { tmps := tm x, defers := [] }

theorem HwAt.kept {xs : List Int} {B0 k : Nat} {x : Hw} {W W' : World} {row : Option Nat} (h : HwAt xs B0 k x W) (hg : W.grownBy W' row) (hr : row ≠ some x.g) : HwAt xs B0 k x W' :=
  ⟨h.1, h.2.1, h.2.2.grown hg (fun g e => by
    have : g ≠ x.g := fun e2 => hr (by rw [e, e2])
    omega)⟩
theorem HwX.own {xs : List Int} {B0 B k : Nat} {tm : Hw → Array Value} {x : Hw} {a : Act} : OwnFrom B (fun (_ : Unit) W => HwX xs B0 tm k x a W) := fun _ X Y row hs hg hr => by
  refine ⟨hs.1.kept hg (fun e => ?_), hs.2⟩
  obtain ⟨_, o, ho, hc⟩ := hr _ e
  rcases hs.1.2.2.own.2 with ⟨hv, _⟩ | ⟨g', cap, cur, hv, _, hb, _⟩
  · cases hv
  · injection hv with e1
    injection e1 with e1
    injection e1 with e1
    rw [e1] at ho
    rw [hb] at ho
    cases ho
    cases hc

set_option maxRecDepth 100000 in
set_option maxHeartbeats 8000000 in
theorem right1_in (hC : ClaimsC) (hL : LooseC) (hCo : CountsC) (hT : TableC) {S : World → Nat → Prop} (hS : SpareS S) (nn l Bs lo : Nat) (hnn : 1 ≤ nn) (A : Option Addr) (n c : Nat) (xs : List Int) (W : World)
    (hbox : W.cell? ⟨Bs, 0, none⟩ = some (.slice A n c)) (hr : Rd W lo A n xs) (hlo : lo ≤ W.heap.size) (hn : n ≤ 2097152) (hnc : n ≤ c) (hh : hasHead xs = true)
    (hsp : ∀ W', Below W.heap.size W W' → ∀ b, (b < lo ∨ b = Bs ∨ W.heap.size ≤ b) → S W' b)
    (J : Nat → World → Prop) (hJ : AbidesFrom W.heap.size J) (h0 : J 0 W)
    (hY : ∀ k x W1, k < (tgL (claimsC xs)).length → J k W1 → HwAt xs W.heap.size k x W1 → YieldAt Fence.wide (nn - 1) Tryz.prog l (hwV x) W1 fun e W' => e = .returned (.bool true) ∧ J (k + 1) W' ∧ KpB S W1 W') :
    CallsIn Fence.wide nn Tryz.prog 118 #[.func (.yield l) #[] #[], .pointer (some ⟨Bs, 0, none⟩)] W fun e W' => (∃ v, e = .returned v) ∧ J (tgL (claimsC xs)).length W' := by
  have hz : ∀ k W1 W2, J k W1 → Below W1.heap.size W1 W2 → J k W2 := fun s W1 W2 h b => hJ s W1 W2 none h (below_grownBy b) (fun _ e => by cases e)
  have HZ := Lib.hid hz
  have HY := Lib.hid hY
  have HSP := Lib.hid hsp
  have HH := Lib.hid hh
  have hlt0 : Bs < W.heap.size := World.block_lt_of_cell? W _ hbox
  have bd := (Below.refl W.heap.size W).drew
  have hrd : Rd W.drew W.drew.heap.size A n xs := (hr.below (bd.mono hlo)).more hlo
  have hbd : W.drew.cell? ⟨Bs, 0, none⟩ = some (.slice A n c) := hbox
  clear hJ hY hz hsp hh
  refine callsIn_of_wp Tryz.func118 rfl trivial ?_ rfl
  simp only [Tryz.ntmps118, List.size_toArray, List.length_cons, List.length_nil, Nat.reduceAdd, Nat.reduceSub, Array.replicate_succ, Array.replicate_zero, List.push_toArray, List.append_toArray, List.nil_append, List.cons_append]
  gi_wp2_with fail
  refine wpIn_wide.2 ?_
  go_region_held3 (fun w' => w'.cell? ⟨Bs, 0, none⟩ = some (.slice A n c))
    (first | (exact HB2.out) | (exact HB3.out) | go_keep)
    (first
      | (go_at_call 117; refine (hCo A n c xs w2 ((hrd.below b2).more b2.size) hn hnc).mono ?_; rintro e w3 ⟨C, nc, c3, rfl, oc, b3⟩
         have HB3 : Hid (w3.cell? ⟨Bs, 0, none⟩ = some (.slice A n c)) := (b3.cell (p := ⟨Bs, 0, none⟩) (by have : W.heap.size ≤ w2.heap.size := b2.size; show Bs < w2.heap.size; omega)).trans HB2.out)
      | (go_at_call 115; refine (hL A n c xs _ hrd hn hnc).mono ?_; rintro e w2 ⟨G, cg, rfl, oG, b2⟩
         have HB2 : Hid (w2.cell? ⟨Bs, 0, none⟩ = some (.slice A n c)) := (b2.cell (p := ⟨Bs, 0, none⟩) hlt0).trans hbd))
  have hce : countsL xs = countsC (claimsC xs) := by unfold countsL; rw [HH.out]; rfl
  rw [hce] at oc
  obtain rfl : 64 = nc := by have := oc.len; rw [counts_length] at this; exact this
  rcases oc.form with ⟨_, h0, _⟩ | ⟨gc, rfl, k1, k2, k3, k4⟩
  · omega
  have B3 : Below W.heap.size W w3 := Below.trans bd (below_more b2 b3 b2.size)
  have hcl : claimsL xs = claimsC xs := by unfold claimsL; rw [HH.out]; rfl
  have hTG := tablesGone_any hC A n c xs w3 ((hrd.below (below_more b2 b3 b2.size)).more (below_more b2 b3 b2.size).size) hn hnc
  rw [hcl] at hTG
  have HTG := Lib.hid hTG
  clear hTG hcl hce
  gi_wp2_with (refine ⟨trivial, ?_⟩; gi_at_call 119; refine (callsIn_wide.2 HTG.out).mono ?_; rintro e w4 ⟨X, cx, rfl, oX, b4⟩)
  have B4 := below_more B3 b4 B3.size
  have s2 : W.heap.size ≤ w2.heap.size := b2.size
  have s3 := b3.size
  have s4 := b4.size
  have SP4 := Lib.hid (HSP.out w4 B4)
  have HGL := Lib.hid ((oG.below b3 (Nat.le_refl _)).below b4 s3)
  have HCC := Lib.hid (fun (j : Nat) (hj : j < 64) => (oc.below b4 (Nat.le_refl _)).cell hj)
  have HX := Lib.hid oX
  have HR := Lib.hid (hr.below (B4.mono hlo))
  have HBX := Lib.hid ((B4.cell (p := ⟨Bs, 0, none⟩) hlt0).trans hbox)
  have hJ4 := HZ.out _ _ _ h0 B4
  have hll := looseL_length xs
  have htl := tg_length xs
  have HTM := Lib.hid (fun (t : Cm) (h : t ∈ tgL (claimsC xs)) => tg_mem h)
  have HOW := Lib.hid (fun (t : Cm) (h : t ∈ tgL (claimsC xs)) (i : Nat) (hi : i < 8) => own_word HH.out (countsC (claimsC xs)) h i hi _ rfl)
  have HTH := Lib.hid (fun (t : Cm) (h : t ∈ tgL (claimsC xs)) => tables_there (xs := xs) (by rw [← tg_tables]; exact List.mem_map_of_mem h))
  have HAT : Hid (∀ (k : Nat) (x : Hw) (W1 : World), x.tbl = ((tgL (claimsC xs)).getD k cm0).target → W.heap.size ≤ x.g → Ow W1 x.g (x.g + 1) (some ⟨x.g, 0, none⟩) 8 x.c (rtL xs (looseL xs) (countsC (claimsC xs)) ((tgL (claimsC xs)).getD k cm0)) → HwAt xs W.heap.size k x W1) := fun _ _ _ h1 h2 h3 => ⟨h1, h2, h3⟩
  clear oG oc oX b2 b3 b4 B3 HTG h0 hr hrd hbd bd hbox k4
  generalize HwAt xs W.heap.size = hw at *
  generalize hTl : tgL (claimsC xs) = tl at *
  have HTl := Lib.hid hTl
  clear hTl
  generalize countsC (claimsC xs) = counts at *
  generalize looseL xs = loose at *
  gi_loopw [17] (fun i wr => ∃ k : Nat, k ≤ tl.length ∧ i = .int .i64 k ∧ J k wr ∧ KpB S w4 wr) (fun i _ => tl.length - (intOf i).toNat)
  case atStart => exact ⟨0, Nat.zero_le _, rfl, hJ4, KpB.refl _ _⟩
  case round =>
    obtain ⟨k, hk, rfl, hJs, hkp⟩ := hrel
    have sr : w4.heap.size ≤ wr.heap.size := hkp.1
    by_cases hlt : k < tl.length
    · obtain ⟨gt, rfl, hg1, hg2, hg3, hce⟩ := cmr_cells8 HX.out hlt
      have hst : S w4 gt := SP4.out gt (.inr (.inr (by omega)))
      have hce : ∀ j v, j < 6 → (cmV (tl.getD k cm0))[j]? = some v → wr.cell? ⟨gt, k * 6 + j, none⟩ = some v := fun j v hj hv => hkp.cell hst ((hce j hj).trans hv)
      have hkm : tl.getD k cm0 ∈ tl := by rw [show tl.getD k cm0 = tl[k] by simp [List.getD_eq_getElem?_getD, hlt]]; exact List.getElem_mem hlt
      have HO8 := Lib.hid (HOW.out _ hkm)
      have hth := HTH.out _ hkm
      have HA8 := Lib.hid (fun x W1 => HAT.out k x W1)
      have hbx := hkp.cell (SP4.out Bs (.inr (.inl rfl))) HBX.out
      have hrr := HR.out.kpb hkp (fun b hb => SP4.out b (.inl hb))
      have HGr := Lib.hid (HGL.out.kpb hkp (fun b hb => SP4.out b (.inr (.inr hb))))
      have HCr := Lib.hid (fun (j : Nat) (hj : j < 64) => hkp.cell (p := ⟨gc, j, none⟩) (SP4.out gc (.inr (.inr (by omega)))) (HCC.out j hj))
      clear hkm hst
      generalize tl.getD k cm0 = x at *
      obtain ⟨xk, xf, xs', xp, xt, xg⟩ := x
      simp only at hth HO8 HA8
      have e0 : wr.cell? ⟨gt, k * 6, none⟩ = some (.int .i64 xk) := hce 0 _ (by omega) rfl
      have e1 : wr.cell? ⟨gt, k * 6 + 1, none⟩ = some (.int .i64 xf) := hce 1 _ (by omega) rfl
      have e2 : wr.cell? ⟨gt, k * 6 + 2, none⟩ = some (.int .i64 xs') := hce 2 _ (by omega) rfl
      have e3 : wr.cell? ⟨gt, k * 6 + 3, none⟩ = some (.int .i64 xp) := hce 3 _ (by omega) rfl
      have e4 : wr.cell? ⟨gt, k * 6 + 4, none⟩ = some (.int .i64 xt) := hce 4 _ (by omega) rfl
      have e5 : wr.cell? ⟨gt, k * 6 + 5, none⟩ = some (.bool xg) := hce 5 _ (by omega) rfl
      clear hce
      have q1 := (Below.refl wr.heap.size wr).alloc (Nat.le_refl _) (.cells #[.int .i64 xk, .int .i64 xf, .int .i64 xs', .int .i64 xp, .int .i64 xt, .bool xg] 80)
      have n1 : (wr.alloc (.cells #[.int .i64 xk, .int .i64 xf, .int .i64 xs', .int .i64 xp, .int .i64 xt, .bool xg] 80)).heap[wr.heap.size]? = some (.cells #[.int .i64 xk, .int .i64 xf, .int .i64 xs', .int .i64 xp, .int .i64 xt, .bool xg] 80 (0, 0)) := World.alloc_heap_new wr _
      have z1 : (wr.alloc (.cells #[.int .i64 xk, .int .i64 xf, .int .i64 xs', .int .i64 xp, .int .i64 xt, .bool xg] 80)).heap.size = wr.heap.size + 1 := by simp
      have hTb := hT A n c xs xt _ ((hrr.below (q1.mono (by omega))).more (by omega)) hn hnc
      have HTb := Lib.hid hTb
      have HTL := Lib.hid (tableL_in HH.out hth)
      have lbs : Bs < wr.heap.size := by omega
      clear hTb hrr
      gi_wp2_with (refine ⟨trivial, ?_⟩; gi_at_call 43; refine (callsIn_wide.2 HTb.out).mono ?_; rintro e w5 ⟨Y, ny, cy, rfl, oY, b5⟩)
      rw [HTL.out] at oY
      obtain rfl : 8 = ny := by have := oY.len; rw [cl_length] at this; exact this
      rcases oY.form with ⟨_, h0, _⟩ | ⟨gy, rfl, y1, y2, y3, y4⟩
      · omega
      have s5 := b5.size
      have B5 := below_more q1 b5 (by omega)
      have N5 := Lib.hid ((b5.block wr.heap.size (by omega)).trans n1)
      have HG5 := Lib.hid ((HGr.out.below q1 (by omega)).below b5 (by omega))
      have HC5 := Lib.hid (fun (j : Nat) (hj : j < 64) => (B5.cell (p := ⟨gc, j, none⟩) (by show gc < _; omega)).trans (HCr.out j hj))
      have HJ5 : Hid (∀ W', w5.grownBy W' (some gy) → J k W') := fun W' h => HZ.out _ _ _ hJs (B5.grown h (by omega) (fun g e => by cases e; omega))
      have HK5 : Hid (∀ W', w5.grownBy W' (some gy) → KpB S w4 W') := fun W' h => hkp.trans (KpB.below hS (B5.grown h (by omega) (fun g e => by cases e; omega)))
      have oY8 := oY.tight
      have hT0 := rtTo_zero xs loose counts ⟨xk, xf, xs', xp, xt, xg⟩
      simp only at hT0
      rw [← hT0] at oY8
      have HTS := Lib.hid (fun j => rtTo_step xs loose counts ⟨xk, xf, xs', xp, xt, xg⟩ j)
      have HTK := Lib.hid (fun j h => rtTo_skip xs loose counts ⟨xk, xf, xs', xp, xt, xg⟩ j h)
      have HTE := Lib.hid (fun j h => rtTo_get xs loose counts ⟨xk, xf, xs', xp, xt, xg⟩ j j h (Nat.le_refl _))
      have HT8 := Lib.hid (rtTo_eight xs loose counts ⟨xk, xf, xs', xp, xt, xg⟩)
      have HRW : Hid (∀ j : Nat, standB loose xt j = false → rtW xs loose counts ⟨xk, xf, xs', xp, xt, xg⟩ j = wordMust ((cl xs xt.toNat).getD j 0) xk counts) := fun j h => by
        unfold rtW
        simp only [h]
        exact if_neg (by simp)
      simp only at HTK HTE
      clear oY hT0 n1 q1 b5 hkp hJs hbx
      clear e0 e1 e2 e3 e4 e5 HTb
      generalize rtTo xs loose counts ⟨xk, xf, xs', xp, xt, xg⟩ = R at *
      generalize rtL xs loose counts ⟨xk, xf, xs', xp, xt, xg⟩ = RL at *
      generalize rtW xs loose counts ⟨xk, xf, xs', xp, xt, xg⟩ = RW at *
      generalize hqe : wr.heap.size = q at *
      rw [show ((8 : Nat) : Int) = 8 from rfl]
      gi_loopw [27] (fun i wr => ∃ j : Nat, j ≤ 8 ∧ i = .int .i64 j ∧ Ow wr gy (gy + 1) (some ⟨gy, 0, none⟩) 8 cy (R j) ∧ w5.grownBy wr (some gy)) (fun i _ => 8 - (intOf i).toNat)
      case atStart => exact ⟨0, Nat.zero_le _, rfl, oY8, grown_refl _ _⟩
      case round =>
        obtain ⟨j, hj, rfl, hoj, hgj⟩ := hrel
        have sr2 := hgj.size
        have nb := (hgj.block q (by omega) (fun e => by injection e; omega)).trans N5.out
        by_cases hj8 : j < 8
        · have hcy := hoj.cell hj8
          rw [HTE.out j hj8] at hcy
          have f0 : wr.cell? ⟨q, 0, none⟩ = some (.int .i64 xk) := by simp [World.cell?, nb]
          have f4 : wr.cell? ⟨q, 4, none⟩ = some (.int .i64 xt) := by simp [World.cell?, nb]
          have HO9 := Lib.hid (HO8.out j hj8).2
          have HR9 := Lib.hid (HRW.out j)
          have hSt := standsIn_any G cg W.heap.size w2.heap.size loose xt j wr (by omega) (HG5.out.grown hgj (fun g e => by cases e; omega)) (by omega)
          have HSt := Lib.hid hSt
          clear hSt
          generalize (cl xs xt.toNat).getD j 0 = wd at *
          cases hst : standB loose xt j
          · obtain ⟨_, hbd⟩ := HO9.out hst
            have HBD := Lib.hid hbd
            have HR0 := Lib.hid (HR9.out hst)
            rw [hst] at HSt
            clear hbd
            gi_wp2_with (first
              | (refine ⟨trivial, ?_⟩; gi_at_call 121; refine (callsIn_wide.2 HM.out).mono ?_; rintro e w' ⟨rfl, rfl⟩)
              | (refine ⟨trivial, ?_⟩; gi_at_call 120; refine (callsIn_wide.2 HSt.out).mono ?_; rintro e w6 ⟨rfl, b6⟩
                 have s6 := b6.size
                 have G6 := grown_trans hgj (r := some gy) ⟨b6.os, b6.tape, b6.output, b6.size, fun k hk _ => b6.block k hk⟩
                 have o6 := hoj.below b6 (by omega)
                 have c6 := o6.cell hj8
                 have r6 := o6.free j
                 have f46 : w6.cell? ⟨q, 4, none⟩ = some (.int .i64 xt) := (b6.cell (p := ⟨q, 4, none⟩) (by show q < _; omega)).trans f4
                 have f06 : w6.cell? ⟨q, 0, none⟩ = some (.int .i64 xk) := (b6.cell (p := ⟨q, 0, none⟩) (by show q < _; omega)).trans f0
                 have hM := wordMustBe_any wd xk counts gc c3 w6 (fun i hi => (World.cell?_of_block (G6.block gc (by omega) (fun e => by injection e; omega))).trans (HC5.out i hi)) HBD.out
                 rw [← HR0.out] at hM
                 have HM := Lib.hid hM
                 have hS6 := o6.set j (RW j)
                 rw [HTS.out j] at hS6
                 have HST := Lib.hid hS6
                 clear hM hS6
                 generalize RW j = mu at *))
            go_roundw
            case rel =>
              obtain ⟨h1, h2⟩ := HST.out
              exact ⟨j + 1, by omega, by go_num, h1, grown_trans G6 h2⟩
            case measure => simp [intOf]; omega
          · rw [hst] at HSt
            gi_wp2_with (refine ⟨trivial, ?_⟩; gi_at_call 120; refine (callsIn_wide.2 HSt.out).mono ?_; rintro e w6 ⟨rfl, b6⟩)
            have G6 := grown_trans hgj (r := some gy) ⟨b6.os, b6.tape, b6.output, b6.size, fun k hk _ => b6.block k hk⟩
            have o6 := hoj.below b6 (by omega)
            go_roundw
            case rel => exact ⟨j + 1, by omega, by go_num, by rw [HTK.out j hst]; exact o6, G6⟩
            case measure => simp [intOf]; omega
        · obtain rfl : j = 8 := by omega
          have hJ8 := HJ5.out wr hgj
          have hK8 := HK5.out wr hgj
          have f4 : wr.cell? ⟨q, 4, none⟩ = some (.int .i64 xt) := by simp [World.cell?, nb]
          rw [HT8.out] at hoj
          obtain ⟨fn, tmps, assign, body, hy, hR⟩ := HY.out k ⟨xt, gy, cy⟩ wr hlt hJ8 (HA8.out ⟨xt, gy, cy⟩ wr rfl (by show W.heap.size ≤ gy; omega) hoj)
          unfold hwV at hy
          dsimp only at hy
          gi_wp2
          refine hR.mono ?_
          rintro e W3 ⟨rfl, hJ3, hk3⟩
          have hk3 := hK8.trans hk3
          gi_wp2
          go_roundw
          case rel => exact ⟨k + 1, by omega, by go_num, hJ3, hk3⟩
          case measure => simp [intOf]; omega
    · obtain rfl : k = tl.length := by omega
      gi_wp2
      go_end0
      exact ⟨⟨_, rfl⟩, by rw [HTl.out]; exact hJs⟩

/-- The tables' iterator. -/
theorem right_in (A : Option Addr) (n c : Nat) (nn : Nat) (w : World) :
    CallsIn Fence.wide nn Tryz.prog 98 #[.slice A n c] w fun e w' => e = .returned (.func (.func 118) #[] #[.pointer (some ⟨w.heap.size, 0, none⟩)]) ∧ w' = w.alloc (.cells #[.slice A n c] 22) := by
  refine callsIn_of_wp Tryz.func98 rfl trivial ?_ rfl
  simp only [Tryz.ntmps98, List.size_toArray, List.length_cons, List.length_nil, Nat.reduceAdd, Nat.reduceSub, Array.replicate_succ, Array.replicate_zero, List.push_toArray, List.append_toArray, List.nil_append, List.cons_append]
  gi_wp2
  go_ret
  exact ⟨rfl, rfl⟩

theorem right_stops (hC : ClaimsC) (hL : LooseC) (hCo : CountsC) (hT : TableC) {S : World → Nat → Prop} (hS : SpareS S) (nn Bs lo : Nat) (hnn : 1 ≤ nn) (A : Option Addr) (n c : Nat) (xs : List Int) (w : World) (hbs : Bs < w.heap.size)
    (hbox : w.cell? ⟨Bs, 0, none⟩ = some (.slice A n c)) (hr : Rd w lo A n xs) (hlo : lo ≤ w.heap.size) (hn : n ≤ 2097152) (hnc : n ≤ c) (hh : hasHead xs = true)
    (hsp : ∀ W', Below w.heap.size w W' → ∀ b, (b < lo ∨ b = Bs ∨ w.heap.size ≤ b) → S W' b) :
    SeqTold Fence.wide nn Tryz.prog 118 #[.pointer (some ⟨Bs, 0, none⟩)] hwV (HwAt xs w.heap.size) (tgL (claimsC xs)).length (KpB S) w := fun l J W hW hJ h0 hY =>
  right1_in hC hL hCo hT hS nn l Bs lo hnn A n c xs W ((hW.cell (p := ⟨Bs, 0, none⟩) hbs).trans hbox) (hr.below (hW.mono hlo)) (Nat.le_trans hlo hW.size) hn hnc hh
    (fun W' h b hb => hsp W' (below_more hW h hW.size) b (by have := hW.size; omega)) J hJ h0 (fun k x W1 hk hj ht => hY k x W1 hk hj ⟨ht.1, Nat.le_trans hW.size ht.2.1, ht.2.2⟩)

/-- It is as it must be. -/
theorem rt_must {xs : List Int} (hh : hasHead xs = true) {to : Cm} (hto : to ∈ tgL (claimsC xs)) (i : Nat) (hi : i < 8) : rtW xs (looseL xs) (countsC (claimsC xs)) to i = mustW xs to.target i := by
  obtain ⟨h1, h2⟩ := own_word hh (countsC (claimsC xs)) hto i hi _ rfl
  unfold rtW mustW
  cases h : standB (looseL xs) to.target i
  · rw [if_neg (by simp), (h2 h).1]
  · rw [if_pos rfl, h1 h]

/-- A table's words in their place. -/
def putT (xs : List Int) (loose : List Cm) (counts : List Int) (z : List Int) (to : Cm) : List Int := setCl z to.target.toNat (rtL xs loose counts to)

theorem putT_fold {xs : List Int} (hh : hasHead xs = true) : ∀ (ts : List Cm), (∀ t ∈ ts, t ∈ tgL (claimsC xs)) → ∀ z : List Int, z.length = manyN xs * 8 →
    (ts.foldl (putT xs (looseL xs) (countsC (claimsC xs))) z).length = manyN xs * 8 ∧
    ∀ (a s : Nat), s < 8 → (ts.foldl (putT xs (looseL xs) (countsC (claimsC xs))) z).getD (a * 8 + s) 0 = if (a : Int) ∈ ts.map (·.target) then mustW xs a s else z.getD (a * 8 + s) 0
  | [], _, z, hz => ⟨hz, fun a s _ => by simp⟩
  | t :: ts, ht, z, hz => by
    have hm : t ∈ tgL (claimsC xs) := ht t (by simp)
    have hth := there_lt (tables_there (xs := xs) (by rw [← tg_tables]; exact List.mem_map_of_mem hm))
    obtain ⟨τ, hτ⟩ := Int.eq_ofNat_of_zero_le (show 0 ≤ t.target by omega)
    have hτm : τ < manyN xs := by omega
    have hl := rtL_length xs (looseL xs) (countsC (claimsC xs)) t
    have hz1 : (putT xs (looseL xs) (countsC (claimsC xs)) z t).length = manyN xs * 8 := by
      unfold putT
      rw [hτ, Int.toNat_natCast, setCl_length (by omega) (by omega) hl, if_neg (by omega), hz]
    obtain ⟨h1, h2⟩ := putT_fold hh ts (fun x hx => ht x (by simp [hx])) _ hz1
    refine ⟨h1, fun a s hs => ?_⟩
    rw [List.foldl_cons, h2 a s hs, List.map_cons]
    by_cases h3 : (a : Int) ∈ ts.map (·.target)
    · rw [if_pos h3, if_pos (by simp [h3])]
    · rw [if_neg h3]
      unfold putT
      rw [hτ, Int.toNat_natCast, setCl_get (by omega) hl]
      by_cases h4 : a = τ
      · subst h4
        rw [if_pos (by omega), if_pos (by simp), show a * 8 + s - a * 8 = s by omega, rtL_get _ _ _ _ s hs, rt_must hh hm s hs, hτ]
      · rw [if_neg (by omega), if_neg (by
          rw [List.mem_cons, not_or]
          exact ⟨fun e => h4 (by omega), h3⟩)]

/-- All tables' words in their places: what is flagged anew. -/
theorem owned_prog {xs : List Int} (hh : hasHead xs = true) : (tgL (claimsC xs)).foldl (putT xs (looseL xs) (countsC (claimsC xs))) (whole xs) = ownedC xs := by
  obtain ⟨h1, h2⟩ := putT_fold hh (tgL (claimsC xs)) (fun _ h => h) (whole xs) (whole_length xs)
  apply List.ext_getElem
  · rw [h1, owned_length]
  · intro i hi1 hi2
    have e1 : ∀ (l : List Int) (h : i < l.length), l[i] = l.getD i 0 := fun l h => by simp [List.getD_eq_getElem?_getD, h]
    rw [e1 _ hi1, e1 _ hi2, show i = i / 8 * 8 + i % 8 by omega, h2 _ _ (by omega), tg_tables, ← cl_word_get (ownedC xs) _ _ (by omega)]
    by_cases h : ((i / 8 : Nat) : Int) ∈ tablesC (claimsC xs)
    · rw [if_pos h]
      have := owned_tab h (s := i % 8) (by omega)
      rw [Int.toNat_natCast] at this
      rw [this]
    · rw [if_neg h, owned_other (fun u hu e => h (by rw [← e]; exact hu)), cl_word_get _ _ _ (by omega), whole_get]

end Go.Proofs.YtiokfhdkbpoadaaGreatDoor
