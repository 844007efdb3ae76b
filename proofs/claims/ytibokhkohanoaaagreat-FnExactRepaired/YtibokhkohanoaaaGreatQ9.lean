/- A region that draws its order, in a round of a range over a function: its operations one by one. The tables that are gone into (tablesGoneInto): the program's side. Three passes over the iterator, each a round of a loop. The words of a table as they must be, as the program tells them. Plain mathematics. -/
import Derived.Test.YtibokhkohanoaaaGreatGdi
import Derived.Deep.RegionHeld3
import Derived.Test.YtibokhkohanoaaaGreatQ8
namespace Go.Proofs.YtibokhkohanoaaaGreat
open Go.RowKit Go.Shelf
open Go.RowKit

attribute [local go_sem] Oper.semAt_some

/-- An operation that is carried out anywhere is carried out in a round of a loop, too. -/
theorem wpOpIn_round {l n : Nat} {P : Program} {ops : Array Oper} {Q : Exit → Act → World → Prop} (hd : ∀ (i : Nat) (o : Oper) c, ops[i]? = some o → o.op ≠ .defer c) (hl : ¬ LetsOut Q) {i : Nat} {K : Act → World → Prop} {a : Act} {w : World}
    (h : wpOp P ops Q i K a w) : wpOpIn (Fence.wide.inRound l) n P ops Q i K a w := by
  unfold wpOp at h
  unfold wpOpIn
  cases ho : ops[i]? with
  | none => simp only [ho] at h ⊢; exact h
  | some o =>
    simp only [ho] at h ⊢
    split
    · rename_i hw
      rw [if_pos hw] at h
      rcases h with h | h
      · refine ⟨fun _ _ => trivial, ?_⟩
        unfold Oper.wp at h
        rw [Fence.inRound_round, Oper.semAt_some l _ _ (fun c => hd i o c ho)]
        generalize (execOp a.eval o).run P w = r at *
        cases r with
        | ok x w' =>
          cases x <;> simp only [Oper.upon, Oper.uponIn] at h ⊢
          case value => exact h
          case skip => exact h
          case defer => exact h
          case enter f args => exact ⟨fun h0 => (by cases h0), CallsIn.inRound l (callsIn_wide.2 h)⟩
          case row row args => exact ⟨fun h0 => (by cases h0), fun c cs _ => by obtain ⟨v, w2, r, s⟩ := h c cs; exact ⟨v, w2, r, stepsIn_wide.2 s⟩⟩
        | halt x w' => cases x <;> simp only [Oper.upon, Oper.uponIn] at h ⊢ <;> exact h
      · exact absurd h.2 hl
    · rename_i hw
      rw [if_neg hw] at h
      exact ⟨fun _ _ => trivial, h⟩

theorem wpAnyIn_round {l n : Nat} {P : Program} {md : Region.Mode} {ops : Array Oper} {Q : Exit → Act → World → Prop} (hd : ∀ (i : Nat) (o : Oper) c, ops[i]? = some o → o.op ≠ .defer c) (hl : ¬ LetsOut Q) :
    ∀ (fuel : Nat) (listed : Array Bool) (a : Act) (w : World), wpAny P md ops Q fuel listed a w → wpAnyIn (Fence.wide.inRound l) n P md ops Q fuel listed a w
  | 0, _, _, _, h => h
  | fuel + 1, _, _, _, h => ⟨h.1, fun i hi => wpOpIn_mono (fun a' w' h' => wpAnyIn_round hd hl fuel _ a' w' h') (wpOpIn_round hd hl (h.2 i hi))⟩

/-- Has the operation no defer? -/
def noDefer (o : Oper) : Bool := match o.op with | .defer _ => false | _ => true
theorem noDefer_spec {ops : Array Oper} (h : ops.all noDefer = true) (i : Nat) (o : Oper) (c) (ho : ops[i]? = some o) : o.op ≠ .defer c := fun e => by
  rw [Array.all_eq_true'] at h
  have := h o (Array.mem_of_getElem? ho)
  simp [noDefer, e] at this

/-- The beginning of a region that draws its order, in a round. -/
theorem wpIn_region_round {id l n : Nat} {P : Program} {ops : Array Oper} {Q : Exit → Act → World → Prop} {S : World → Prop} {a : Act} {w : World} (hm : P.follows .mixedOrders = true) (hd : ops.all noDefer = true) (hl : ¬ LetsOut Q) (hS : S w.drew)
    (h : S w.drew → wpAnyH P .any ops Q S ops.size (Array.replicate ops.size false) a w.drew) : (Code.region id ops true).wpIn (Fence.wide.inRound l) n P Q a w :=
  wpIn_region_any hm (wpAnyIn_round (noDefer_spec hd) hl _ _ _ _ (wpAny_of_held _ _ _ _ (h hS)))

/-- One operation is taken first; its temporary is typed out. -/
theorem wpAnyH_take_to {P : Program} {ops : Array Oper} {Q : Exit → Act → World → Prop} {md : Region.Mode} {S : World → Prop} {i : Nat} {oi : Oper} {d : Option Tmp} {v : Value} {fuel : Nat} {listed : Array Bool} {a : Act} {w : World} (hi : ops[i]? = some oi) (hd : oi.dst = d)
    (hs : Region.noSelect ops = true) (hf : Region.free md ops listed i = true) (hr : (Region.ready md ops listed).contains i = true)
    (hQ : ∀ c a w, Q (.panic c) (a.put d v) w → Q (.panic c) a w) (hy : YieldsIf P ops S oi v a) (hS : S w)
    (h : wpAnyH P md ops Q S fuel (listed.setIfInBounds i true) (a.put d v) w) : wpAnyH P md ops Q S (fuel + 1) listed a w := by
  subst hd
  exact wpAnyH_take hi hs hf hr hQ hy hS h

theorem KpC.below {g : Nat} {W W' : World} (h : Below W.heap.size W W') : KpC g W W' :=
  ⟨h.size, fun p v _ hc => by
    obtain ⟨o, ho, _⟩ := cells_of_cell hc
    exact (h.cell (p := p) (Array.getElem?_eq_some_iff.1 ho).1).trans hc⟩

attribute [local go_sem] Oper.semAt_some

/-- A region that draws its order and only reads, in a round of a loop over a function. -/
theorem wpIn_region_quiet_round {id l n : Nat} {P : Program} {Q : Exit → Act → World → Prop} {a : Act} {w : World} {ol : List Oper} (hm : P.follows .mixedOrders = true) (hB : Region.lexB .any ol.toArray = true) (hd : ol.toArray.all noDefer = true) (hl : ¬ LetsOut Q)
    (h : wpQuiet P ol.toArray (fun w' => ∃ n, w' = w.drewN n) (fun a' => ∀ w', (∃ n, w' = w.drewN n) → Q .normal a' w') ol a) : (Code.region id ol.toArray true).wpIn (Fence.wide.inRound l) n P Q a w := by
  simp only [Region.lexB, Bool.and_eq_true] at hB
  refine wpIn_region_any hm (wpAnyIn_round (noDefer_spec hd) hl _ _ _ _ (wpAny_of_quiet (C := fun w' => ∃ n, w' = w.drewN n) (Q := fun a' => ∀ w', (∃ n, w' = w.drewN n) → Q .normal a' w') (fun _ w' hw' h => h w' hw') _ _ _ _ ⟨1, rfl⟩ ?_))
  have := wpAnyQ_lex (C := fun w' => ∃ n, w' = w.drewN n) (md := .any) hB.1 ol.toArray.toList 0 (Array.replicate ol.toArray.size false) a (by simp) (by simpa using hB.2) (by simpa using h)
  simpa using this

/-- Between two rounds of a pass: the tables so far, in a row that lies in the box T. -/
structure TgP (w : World) (T S I : Nat) (iv : Int) (Ds : List Nat) (o : List Cm) (W : World) : Prop where
  row : ∃ v, Boxed W T 59 v ∧ W.ownsRow w.heap.size 62 6 v o.length (o.flatMap cmV)
  lit : W.heap[S]? = some (.cells #[.int .i64 4, .int .i64 7, .int .i64 8] 2 (0, 0))
  ins : Boxed W I 2 (.int .i64 iv)
  ds : ∀ D ∈ Ds, W.heap[D]? = some (.deferred (some []))
  bel : Below w.heap.size w W
theorem own_away {W : World} {S base e size k : Nat} {t : TypeId} {c : Array Value} {fz : Nat × Nat} {v : Value} {xs : List Value} (h : W.heap[S]? = some (.cells c t fz)) (hte : t ≠ e) (hr : W.ownsRow base e size v k xs) : v.ownBlock ≠ some S := by
  rcases hr.2 with ⟨rfl, _⟩ | ⟨g, cap, cur, rfl, _, hgb, _⟩
  · simp [Value.ownBlock]
  · intro e'
    obtain rfl : g = S := by simpa [Value.ownBlock] using e'
    rw [hgb] at h
    injection h with h
    injection h with _ h _
    exact hte h.symm
theorem TgP.own {α : Type} {w : World} {T S I B : Nat} {iv : Int} {Ds : List Nat} {f : List α → List Cm} (h1 : w.heap.size ≤ B) (h2 : T < B) (h3 : S < B) (h4 : I < B) (h5 : ∀ D ∈ Ds, D < B) : OwnFrom B (fun pre W => TgP w T S I iv Ds (f pre) W) := fun s X Y row hs hg hr => by
  obtain ⟨⟨v, hv, hrow⟩, hlit, hins, hds, hb⟩ := hs
  refine ⟨⟨v, hv.kept hg (fun e => by have := (hr _ e.symm).1; omega), hrow.kept hg ?_⟩, (hg.block S (Array.getElem?_eq_some_iff.1 hlit).1 (fun e => by have := (hr _ e.symm).1; omega)).trans hlit, hins.kept hg (fun e => by have := (hr _ e.symm).1; omega),
    fun D hD => (hg.block D (Array.getElem?_eq_some_iff.1 (hds D hD)).1 (fun e => by have := (hr _ e.symm).1; have := h5 D hD; omega)).trans (hds D hD), hb.grown hg hb.size (fun k e => by have := (hr _ e).1; omega)⟩
  rcases hrow.2 with ⟨rfl, _⟩ | ⟨g, cap, cur, rfl, _, hgb, _⟩
  · exact .inl rfl
  · refine .inr fun e' => ?_
    obtain ⟨_, o, ho, hc⟩ := hr g (by simpa [Value.ownBlock] using e'.symm)
    rw [hgb] at ho; cases ho; cases hc
theorem own_below {W W' : World} {base e size k : Nat} {v : Value} {xs : List Value} (h : W.ownsRow base e size v k xs) (hb : Below W.heap.size W W') : W'.ownsRow base e size v k xs := by
  refine h.kept (below_grownBy hb) ?_
  rcases h.2 with ⟨rfl, _⟩ | ⟨g, cap, cur, rfl, _, hgb, _⟩
  · exact .inl rfl
  · exact .inr (by simp [Value.ownBlock])
theorem TgP.below {w : World} {T S I : Nat} {iv : Int} {Ds : List Nat} {o : List Cm} {W W' : World} (h : TgP w T S I iv Ds o W) (hb : Below W.heap.size W W') : TgP w T S I iv Ds o W' := by
  obtain ⟨⟨v, hv, hrow⟩, hlit, hins, hds, hw⟩ := h
  refine ⟨⟨v, hv.kept (below_grownBy hb) (by simp), own_below hrow hb⟩, (hb.block S (Array.getElem?_eq_some_iff.1 hlit).1).trans hlit, hins.kept (below_grownBy hb) (by simp), fun D hD => (hb.block D (Array.getElem?_eq_some_iff.1 (hds D hD)).1).trans (hds D hD), below_more hw hb hw.size⟩
/-- The round's claim lies in a box of its own. -/
def TgX (T S I : Nat) (tm : Gq (fun c => c.good = true) → Nat → Array Value) (x : Gq (fun c => c.good = true)) (a : Act) (W : World) : Prop :=
  ∃ Bx, T < Bx ∧ S < Bx ∧ I < Bx ∧ W.heap[Bx]? = some (.cells #[.int .i64 x.1.kind, .int .i64 x.1.frm, .int .i64 x.1.slot, .int .i64 x.1.place, .int .i64 x.1.target, .bool x.1.good] 62 (0, 0)) ∧ a = { tmps := tm x Bx, defers := [] }
theorem TgX.own {T S I B : Nat} {tm : Gq (fun c => c.good = true) → Nat → Array Value} {x : Gq (fun c => c.good = true)} {a : Act} : OwnFrom B (fun (_ : Unit) W => TgX T S I tm x a W) := fun _ X Y row hs hg hr => by
  obtain ⟨Bx, h1, h2, h5, h3, h4⟩ := hs
  refine ⟨Bx, h1, h2, h5, ?_, h4⟩
  refine (hg.block Bx (Array.getElem?_eq_some_iff.1 h3).1 (fun e => ?_)).trans h3
  obtain ⟨_, o, ho, hc⟩ := hr _ e.symm
  rw [h3] at ho
  cases ho
  cases hc

theorem tg_snoc (iv : Int) (pre : List (Gq (fun c => c.good = true))) (x : Gq (fun c => c.good = true)) (o : List Cm) : ((pre ++ [x]).map Subtype.val).foldl (tgStep iv) o = tgStep iv ((pre.map Subtype.val).foldl (tgStep iv) o) x.1 := by
  rw [List.map_append, List.foldl_append]; rfl
theorem tg_len (iv : Int) (pre : List (Gq (fun c => c.good = true))) (o : List Cm) : ((pre.map Subtype.val).foldl (tgStep iv) o).length ≤ o.length + pre.length := by
  have := foldl_length (tgStep iv) 1 (tgStep_length iv) (pre.map Subtype.val) o
  rw [List.length_map] at this
  omega
theorem tgRound_len (xs : List Int) (o : List Cm) (iv : Int) : (tgRound (claimsL xs) o iv).length ≤ o.length + 1296 := by
  have h1 := foldl_length (tgStep iv) 1 (tgStep_length iv) ((claimsL xs).filter fun c => c.good) o
  have h2 := List.length_filter_le (fun c : Cm => c.good) (claimsL xs)
  have h3 := claimsL_length xs
  unfold tgRound
  omega
theorem tgRound_one (xs : List Int) : (tgRound (claimsL xs) [] 4).length ≤ 1296 := by
  have := tgRound_len xs [] 4
  simpa using this
theorem tgRound_two (xs : List Int) : (tgRound (claimsL xs) (tgRound (claimsL xs) [] 4) 7).length ≤ 2592 := by
  have h1 := tgRound_len xs (tgRound (claimsL xs) [] 4) 7
  have h2 := tgRound_one xs
  omega
theorem row_form {W : World} {base e size k : Nat} {v : Value} {xs : List Value} (h : W.ownsRow base e size v k xs) : ∃ A c, v = .slice A k c := by
  rcases h.2 with ⟨rfl, rfl⟩ | ⟨g, cap, cur, rfl, _⟩
  · exact ⟨none, 0, rfl⟩
  · exact ⟨_, cap, rfl⟩

set_option maxRecDepth 100000 in
set_option maxHeartbeats 16000000 in
theorem tablesGone_any (hC : ClaimsC) (A : Option Addr) (n c : Nat) (xs : List Int) (w : World) (hr : Rd w w.heap.size A n xs) (hn : n ≤ 2097152) (hnc : n ≤ c) :
    Calls Tryz.prog 108 #[.slice A n c] w (RetCms w (tgL (claimsL xs))) := by
  obtain ⟨i0, hi0, hz0, hz1, hz2⟩ := info_parts infoCm
  refine (callsIn_wide (n := 5)).1 ?_
  refine callsIn_of_wp_marks Tryz.func108 rfl trivial ?_ rfl
  simp only [Tryz.ntmps108, List.size_toArray, List.length_cons, List.length_nil, Nat.reduceAdd, Nat.reduceSub, Array.replicate_succ, Array.replicate_zero, List.push_toArray, List.append_toArray, List.nil_append, List.cons_append]
  have b1 := (Below.refl w.heap.size w).alloc (Nat.le_refl _) (.cells #[.slice none 0 0] 59)
  have b2 := b1.alloc b1.size (.cells #[.int .i64 4, .int .i64 7, .int .i64 8] 2)
  have x1 : Boxed (w.alloc (.cells #[.slice none 0 0] 59)) w.heap.size 59 (.slice none 0 0) := Boxed.new _ _ _
  have x2 := x1.alloc (.cells #[.int .i64 4, .int .i64 7, .int .i64 8] 2)
  have l2 : ((w.alloc (.cells #[.slice none 0 0] 59)).alloc (.cells #[.int .i64 4, .int .i64 7, .int .i64 8] 2)).heap[w.heap.size + 1]? = some (.cells #[.int .i64 4, .int .i64 7, .int .i64 8] 2 (0, 0)) := by
    have := World.alloc_heap_new (w.alloc (.cells #[.slice none 0 0] 59)) (.cells #[.int .i64 4, .int .i64 7, .int .i64 8] 2)
    rwa [World.size_alloc] at this
  obtain ⟨T, hTe⟩ : ∃ T, w.heap.size = T := ⟨_, rfl⟩
  have hTw : w.heap.size ≤ T := by omega
  gi_wp2_with fail
  refine wpIn_loop_rounds 4 ?_
  rw [roundsIn_succ]
  have hQ : ∃ v, Boxed ((w.alloc (.cells #[.slice none 0 0] 59)).alloc (.cells #[.int .i64 4, .int .i64 7, .int .i64 8] 2)) T 59 v ∧ ((w.alloc (.cells #[.slice none 0 0] 59)).alloc (.cells #[.int .i64 4, .int .i64 7, .int .i64 8] 2)).ownsRow w.heap.size 62 6 v ([] : List Cm).length (([] : List Cm).flatMap cmV) := ⟨_, hTe ▸ x2, World.ownsRow_nil _ _ _ _⟩
  rw [hTe] at l2
  have hP1 : (∃ v, Boxed ((w.alloc (.cells #[.slice none 0 0] 59)).alloc (.cells #[.int .i64 4, .int .i64 7, .int .i64 8] 2)) T 59 v ∧ ((w.alloc (.cells #[.slice none 0 0] 59)).alloc (.cells #[.int .i64 4, .int .i64 7, .int .i64 8] 2)).ownsRow w.heap.size 62 6 v ([] : List Cm).length (([] : List Cm).flatMap cmV)) ∧ ((w.alloc (.cells #[.slice none 0 0] 59)).alloc (.cells #[.int .i64 4, .int .i64 7, .int .i64 8] 2)).heap[T + 1]? = some (.cells #[.int .i64 4, .int .i64 7, .int .i64 8] 2 (0, 0)) ∧ True ∧ (∀ D ∈ ([] : List Nat), ((w.alloc (.cells #[.slice none 0 0] 59)).alloc (.cells #[.int .i64 4, .int .i64 7, .int .i64 8] 2)).heap[D]? = some (.deferred (some []))) ∧ Below w.heap.size w ((w.alloc (.cells #[.slice none 0 0] 59)).alloc (.cells #[.int .i64 4, .int .i64 7, .int .i64 8] 2)) := ⟨hQ, l2, trivial, fun _ h => (by cases h), b2⟩
  clear x1 x2 l2 b1 b2 hQ
  generalize (w.alloc (.cells #[.slice none 0 0] 59)).alloc (.cells #[.int .i64 4, .int .i64 7, .int .i64 8] 2) = V0 at *
  obtain ⟨⟨v1, hv1, hrow1⟩, hlit1, _, hds1, hw1⟩ := hP1
  have l01 : V0.cell? ⟨T + 1, 0, none⟩ = some (.int .i64 4) := by simp [World.cell?, hlit1]
  have ltT1 := hv1.lt
  have ltS1 := (Array.getElem?_eq_some_iff.1 hlit1).1
  have x41 := hv1.alloc (.cells #[.int .i64 4] 2)
  have x51 := x41.alloc (.cells #[.slice A n c] 22)
  have i41 : Boxed (V0.alloc (.cells #[.int .i64 4] 2)) V0.heap.size 2 (.int .i64 4) := Boxed.new _ _ _
  have i51 := i41.alloc (.cells #[.slice A n c] 22)
  have y51 := Boxed.new (V0.alloc (.cells #[.int .i64 4] 2)) 22 (.slice A n c)
  have r51 := (hrow1.alloc (.cells #[.int .i64 4] 2)).alloc (.cells #[.slice A n c] 22)
  have b51 := (hw1.alloc hw1.size (.cells #[.int .i64 4] 2)).alloc (hw1.alloc hw1.size (.cells #[.int .i64 4] 2)).size (.cells #[.slice A n c] 22)
  have q51 : Below V0.heap.size V0 ((V0.alloc (.cells #[.int .i64 4] 2)).alloc (.cells #[.slice A n c] 22)) := ((Below.refl _ V0).alloc (Nat.le_refl _) _).alloc (by simp) _
  have z51 : ((V0.alloc (.cells #[.int .i64 4] 2)).alloc (.cells #[.slice A n c] 22)).heap.size = V0.heap.size + 2 := by simp
  rw [World.size_alloc] at y51
  have P51 : TgP w T (T + 1) V0.heap.size 4 [] ([] : List Cm) ((V0.alloc (.cells #[.int .i64 4] 2)).alloc (.cells #[.slice A n c] 22)) :=
    ⟨⟨v1, x51, r51⟩, (q51.block _ ltS1).trans hlit1, i51, fun D hD => (q51.block D (Array.getElem?_eq_some_iff.1 (hds1 D hD)).1).trans (hds1 D hD), b51⟩
  have HDL1 : Hid (∀ D ∈ ([] : List Nat), D < V0.heap.size) := fun D hD => (Array.getElem?_eq_some_iff.1 (hds1 D hD)).1
  have HSP1 : Hid (∀ b, V0.heap.size + 2 ≤ b → SpT T v1 b) := fun b hb => ⟨by omega, fun e => by have := (hrow1.lt b e).2; omega⟩
  clear hv1 hrow1 hlit1 hds1 i41 i51 x41 r51 q51
  gi_wp2_with (refine ⟨trivial, ?_⟩; gi_at_call 102; refine (good_in A n c _ _).mono ?_; rintro e w' ⟨rfl, rfl⟩)
  generalize (V0.alloc (.cells #[.int .i64 4] 2)).alloc (.cells #[.slice A n c] 22) = w51 at *
  refine wpIn_rangeFunc_ownH rfl (by omega) (gf := 125) (lb := #[.pointer (some ⟨V0.heap.size + 1, 0, none⟩)]) rfl trivial (enters_of Tryz.func125 (by kernel_rfl) rfl)
    (goodt_stops hC 4 (V0.heap.size + 1) T (by omega) A n c xs w51 (by omega) y51.cell ((hr.below b51).more b51.size) hn hnc v1 x51.cell (fun b hb => HSP1.out b (by omega)) (fun _ _ h => h)) KpT.trans (fun W l o o' _ h ho _ => KpT.put o' h ho) (Below.refl _ _) (fun _ => rfl)
    (fun pre W => TgP w T (T + 1) V0.heap.size 4 [] ((pre.map Subtype.val).foldl (tgStep 4) ([] : List Cm)) W) (fun _ _ _ => False) (TgP.own (f := fun pre => (pre.map Subtype.val).foldl (tgStep 4) ([] : List Cm)) (by omega) (by omega) (by omega) (by omega) (fun D hD => by have := HDL1.out D hD; omega)) (fun _ _ _ _ _ hs _ _ => hs) P51
    (TgX T (T + 1) V0.heap.size (fun x Bx => #[.slice A n c, undef, .slice none 0 0, .pointer (some ⟨T, 0, none⟩), undef, .pointer (some ⟨V0.heap.size, 0, none⟩), .pointer (some ⟨Bx, 0, none⟩), undef, .slice (some ⟨T + 1, 0, none⟩) 3 3, .int .i64 3, .int .i64 0, .bool true, .pointer (some ⟨T + 1, 0, none⟩), .int .i64 4, .slice A n c, .func (.func 125) #[] #[.pointer (some ⟨V0.heap.size + 1, 0, none⟩)], .agg #[.int .i64 x.1.kind, .int .i64 x.1.frm, .int .i64 x.1.slot, .int .i64 x.1.place, .int .i64 x.1.target, .bool x.1.good], undef, undef, undef, undef, undef, undef, undef, undef, undef, undef, undef, undef, undef, undef, undef, undef, undef, undef])) (fun _ _ => TgX.own) ?assign1 ?body1 ?done1 ?stop1
  case assign1 =>
    rintro l pre x W K hPa hK
    have lT := (hPa.row.choose_spec.1).lt
    have lS := (Array.getElem?_eq_some_iff.1 hPa.lit).1
    have lI := hPa.ins.lt
    gi_wp2
    exact hK _ _ ((KeepsOthers.alloc _ _).from _) ((KpT.refl _ _).alloc _) (hPa.below ((Below.refl _ W).alloc (Nat.le_refl _) _)) ⟨W.heap.size, lT, lS, lI, World.alloc_heap_new W _, rfl⟩
  case body1 =>
    rintro l pre x a' W hl _ ⟨⟨v, hbx, hrow⟩, hlit, hins, hds, hw⟩ ⟨Bx, h1, h2, h5, h3, rfl⟩ hlt
    have HS := Lib.hid (tg_snoc 4 pre x ([] : List Cm))
    have hol := tg_len 4 pre ([] : List Cm)
    have hob := show ([] : List Cm).length = 0 from rfl
    generalize ((pre.map Subtype.val).foldl (tgStep 4) ([] : List Cm)) = o at *
    obtain ⟨⟨xk, xf, xs', xp, xt, xg⟩, tg⟩ := x
    simp only at tg h3 HS
    subst tg
    obtain ⟨A', c', rfl⟩ := row_form hrow
    have hH := hasTarget_any Bx xt A' c' w.heap.size W.heap.size o W (by omega) (by simp [World.cell?, h3]) ⟨hrow, fun g hg => (hrow.lt g hg).2⟩
    have HH := Lib.hid hH
    have c1 := hbx.cell
    have lB := (Array.getElem?_eq_some_iff.1 h3).1
    clear hH
    gi_wp2_with (refine ⟨trivial, ?_⟩; gi_at_call 128; refine (CallsIn.inRound l (callsIn_wide.2 HH.out)).mono ?_; rintro e W2 ⟨rfl, b2⟩)
    have e0 : W2.cell? ⟨Bx, 0, none⟩ = some (.int .i64 xk) := (b2.cell (p := ⟨Bx, 0, none⟩) lB).trans (by simp [World.cell?, h3])
    have i2 : W2.cell? ⟨V0.heap.size, 0, none⟩ = some (.int .i64 4) := (b2.cell (p := ⟨V0.heap.size, 0, none⟩) hins.lt).trans hins.cell
    have HT : Hid (tgStep 4 o ⟨xk, xf, xs', xp, xt, true⟩ = if kindIn xk = 4 ∧ (o.any fun t => t.target == xt) = false then o ++ [⟨xk, xf, xs', xp, xt, true⟩] else o) := rfl
    cases hk : (kindIn xk == 4)
    · have HE : Hid (tgStep 4 o ⟨xk, xf, xs', xp, xt, true⟩ = o) := by rw [HT.out, if_neg (fun h => by rw [h.1] at hk; simp at hk)]; exact rfl
      clear HT
      gi_wp2_with fail
      refine wpIn_region_quiet_round (by kernel_rfl) (by kernel_rfl) (by kernel_rfl) (by rintro ⟨_, _, h⟩; exact h) ?_
      repeat (quiet_step ((go_at_call 130; exact (kindInside_any _ _).mono (fun _ _ h => ⟨h.1, _, h.2.symm⟩))))
      refine wpQuiet_nil ?_
      intro W3 hW3
      obtain ⟨nq, rfl⟩ := hW3
      have b3 := below_drewN b2 nq
      gi_wp2
      exact ⟨KeepsFrom.of_grownBy (below_grownBy b3) (fun _ e => by cases e), KpT.below b3, by show TgP w T (T + 1) V0.heap.size 4 [] (((pre ++ [(⟨⟨xk, xf, xs', xp, xt, true⟩, rfl⟩ : Gq (fun c => c.good = true))]).map Subtype.val).foldl (tgStep 4) ([] : List Cm)) _; rw [HS.out, HE.out]; exact TgP.below ⟨⟨_, hbx, hrow⟩, hlit, hins, hds, hw⟩ b3⟩
    · cases hn2 : (o.any fun t => t.target == xt)
      · have HE : Hid (tgStep 4 o ⟨xk, xf, xs', xp, xt, true⟩ = o ++ [⟨xk, xf, xs', xp, xt, true⟩]) := by rw [HT.out, if_pos ⟨by simpa using hk, hn2⟩]; exact rfl
        clear HT
        gi_wp2_with fail
        refine wpIn_region_quiet_round (by kernel_rfl) (by kernel_rfl) (by kernel_rfl) (by rintro ⟨_, _, h⟩; exact h) ?_
        repeat (quiet_step ((go_at_call 130; exact (kindInside_any _ _).mono (fun _ _ h => ⟨h.1, _, h.2.symm⟩))))
        refine wpQuiet_nil ?_
        intro W3 hW3
        obtain ⟨nq, rfl⟩ := hW3
        have b3 := below_drewN b2 nq
        generalize W2.drewN nq = W3 at *
        have P3 : TgP w T (T + 1) V0.heap.size 4 [] o W3 := TgP.below ⟨⟨_, hbx, hrow⟩, hlit, hins, hds, hw⟩ b3
        have f0 : W3.cell? ⟨Bx, 0, none⟩ = some (.int .i64 xk) := (b3.cell (p := ⟨Bx, 0, none⟩) lB).trans (by simp [World.cell?, h3])
        have f1 : W3.cell? ⟨Bx, 1, none⟩ = some (.int .i64 xf) := (b3.cell (p := ⟨Bx, 1, none⟩) lB).trans (by simp [World.cell?, h3])
        have f2 : W3.cell? ⟨Bx, 2, none⟩ = some (.int .i64 xs') := (b3.cell (p := ⟨Bx, 2, none⟩) lB).trans (by simp [World.cell?, h3])
        have f3 : W3.cell? ⟨Bx, 3, none⟩ = some (.int .i64 xp) := (b3.cell (p := ⟨Bx, 3, none⟩) lB).trans (by simp [World.cell?, h3])
        have f4 : W3.cell? ⟨Bx, 4, none⟩ = some (.int .i64 xt) := (b3.cell (p := ⟨Bx, 4, none⟩) lB).trans (by simp [World.cell?, h3])
        have f5 : W3.cell? ⟨Bx, 5, none⟩ = some (.bool true) := (b3.cell (p := ⟨Bx, 5, none⟩) lB).trans (by simp [World.cell?, h3])
        have hbx3 := hbx.kept (below_grownBy b3) (by simp)
        have hrow3 := own_below hrow b3
        have c3 := hbx3.cell
        have lw3 := P3.bel.size
        have ltT3 := hbx3.lt
        gi_wp2_with (gi_at_builtin; refine wpListIn_append_t rfl (.tmp 29) (.tmp 31) 59 rfl 62 6 48 _ i0 Tryz.underlying59 hi0 hz0 hz1 hz2 rfl (by omega) (by omega) w.heap.size o.length c' A' _ rfl (hrow3.alloc (.cells #[.int .i64 xk, .int .i64 xf, .int .i64 xs', .int .i64 xp, .int .i64 xt, .bool true] 62)) ⟨W3.heap.size, 0, none⟩ 1 1 #[.int .i64 xk, .int .i64 xf, .int .i64 xs', .int .i64 xp, .int .i64 xt, .bool true].toList rfl (by omega) rfl (by intro j u hj; rw [Addr.add_lit, Nat.zero_add, World.cell?_alloc_new]; simpa using hj) (by simp [Value.oneCell']) (by omega) (by simp; omega) ?_; intro g' cd w6 hown6 hg6 hat6; obtain ⟨bx6, bx7, ow7, ko7, be7⟩ := Boxed.appended (tmp := .cells #[.int .i64 xk, .int .i64 xf, .int .i64 xs', .int .i64 xp, .int .i64 xt, .bool true] 62) hbx3 (by decide) hrow3 lw3 hTw hown6 hg6; have c6 := bx6.cell; have z6 := bx6.frozen)
        refine ⟨(KeepsFrom.of_grownBy (below_grownBy b3) (fun _ e => by cases e)).trans (ko7.from _), ((KpT.below b3).alloc (.cells #[.int .i64 xk, .int .i64 xf, .int .i64 xs', .int .i64 xp, .int .i64 xt, .bool true] 62)).trans (KpT.append (hbx3.alloc _).cell hg6 ?_ (own_away hbx3 (by decide) hrow3)), ?_⟩
        · rcases hat6 with h | h
          · exact .inl h.symm
          · exact .inr (fun g hg => by simp [Value.ownBlock] at hg; omega)
        · have hl6 : w6.heap[T + 1]? = some (.cells #[.int .i64 4, .int .i64 7, .int .i64 8] 2 (0, 0)) := (hg6.block (T + 1) (by have := (Array.getElem?_eq_some_iff.1 P3.lit).1; simp; omega) (fun e => own_away P3.lit (by decide) hrow3 e.symm)).trans ((Below.heap_alloc _ _ _ (Array.getElem?_eq_some_iff.1 P3.lit).1).trans P3.lit)
          have hi6 := (P3.ins.alloc (.cells #[.int .i64 xk, .int .i64 xf, .int .i64 xs', .int .i64 xp, .int .i64 xt, .bool true] 62)).kept hg6 (fun e => own_away P3.ins (by decide) hrow3 e.symm)
          have gs := grownBy_setCell' w6 T (.slice (some ⟨g', 0, none⟩) (o.length + 1) cd)
          show TgP w T (T + 1) V0.heap.size 4 [] (((pre ++ [(⟨⟨xk, xf, xs', xp, xt, true⟩, rfl⟩ : Gq (fun c => c.good = true))]).map Subtype.val).foldl (tgStep 4) ([] : List Cm)) _
          rw [HS.out, HE.out]
          refine ⟨⟨_, bx7, ?_⟩, (gs.block (T + 1) (Array.getElem?_eq_some_iff.1 hl6).1 (fun e => by injection e; omega)).trans hl6, hi6.kept gs (fun e => by injection e; omega), fun D hD => ko7.same D _ (P3.ds D hD) rfl, Below.trans P3.bel be7⟩
          rw [List.length_append, List.flatMap_append]
          exact ow7
      · have HE : Hid (tgStep 4 o ⟨xk, xf, xs', xp, xt, true⟩ = o) := by rw [HT.out, if_neg (fun h => by rw [hn2] at h; cases h.2)]; exact rfl
        clear HT
        gi_wp2_with fail
        refine wpIn_region_quiet_round (by kernel_rfl) (by kernel_rfl) (by kernel_rfl) (by rintro ⟨_, _, h⟩; exact h) ?_
        repeat (quiet_step ((go_at_call 130; exact (kindInside_any _ _).mono (fun _ _ h => ⟨h.1, _, h.2.symm⟩))))
        refine wpQuiet_nil ?_
        intro W3 hW3
        obtain ⟨nq, rfl⟩ := hW3
        have b3 := below_drewN b2 nq
        gi_wp2
        exact ⟨KeepsFrom.of_grownBy (below_grownBy b3) (fun _ e => by cases e), KpT.below b3, by show TgP w T (T + 1) V0.heap.size 4 [] (((pre ++ [(⟨⟨xk, xf, xs', xp, xt, true⟩, rfl⟩ : Gq (fun c => c.good = true))]).map Subtype.val).foldl (tgStep 4) ([] : List Cm)) _; rw [HS.out, HE.out]; exact TgP.below ⟨⟨_, hbx, hrow⟩, hlit, hins, hds, hw⟩ b3⟩
  case stop1 =>
    rintro D c pre W _ _ h _
    exact h.elim
  case done1 =>
    rintro D1 ys V1 hDa1 hS hP2 hK1
    rw [hS] at hP2
    have HHK1 := Lib.hid hK1
    gi_wp2_with fail
    rw [roundsIn_succ]
    obtain ⟨rowN, litN, insN, dsN, belN⟩ := hP2
    have hP2 : (∃ v, Boxed V1 T 59 v ∧ V1.ownsRow w.heap.size 62 6 v (tgRound (claimsL xs) [] 4).length ((tgRound (claimsL xs) [] 4).flatMap cmV)) ∧ V1.heap[T + 1]? = some (.cells #[.int .i64 4, .int .i64 7, .int .i64 8] 2 (0, 0)) ∧ True ∧ (∀ D ∈ ([D1] : List Nat), V1.heap[D]? = some (.deferred (some []))) ∧ Below w.heap.size w V1 := ⟨rowN, litN, trivial, ?dsx1, belN⟩
    case dsx1 =>
      intro D hD
      simp only [List.mem_cons, List.not_mem_nil, or_false] at hD
      subst hD; exact HHK1.out
    clear rowN litN insN dsN belN
    obtain ⟨⟨v2, hv2, hrow2⟩, hlit2, _, hds2, hw2⟩ := hP2
    have l02 : V1.cell? ⟨T + 1, 1, none⟩ = some (.int .i64 7) := by simp [World.cell?, hlit2]
    have ltT2 := hv2.lt
    have ltS2 := (Array.getElem?_eq_some_iff.1 hlit2).1
    have x42 := hv2.alloc (.cells #[.int .i64 7] 2)
    have x52 := x42.alloc (.cells #[.slice A n c] 22)
    have i42 : Boxed (V1.alloc (.cells #[.int .i64 7] 2)) V1.heap.size 2 (.int .i64 7) := Boxed.new _ _ _
    have i52 := i42.alloc (.cells #[.slice A n c] 22)
    have y52 := Boxed.new (V1.alloc (.cells #[.int .i64 7] 2)) 22 (.slice A n c)
    have r52 := (hrow2.alloc (.cells #[.int .i64 7] 2)).alloc (.cells #[.slice A n c] 22)
    have b52 := (hw2.alloc hw2.size (.cells #[.int .i64 7] 2)).alloc (hw2.alloc hw2.size (.cells #[.int .i64 7] 2)).size (.cells #[.slice A n c] 22)
    have q52 : Below V1.heap.size V1 ((V1.alloc (.cells #[.int .i64 7] 2)).alloc (.cells #[.slice A n c] 22)) := ((Below.refl _ V1).alloc (Nat.le_refl _) _).alloc (by simp) _
    have z52 : ((V1.alloc (.cells #[.int .i64 7] 2)).alloc (.cells #[.slice A n c] 22)).heap.size = V1.heap.size + 2 := by simp
    rw [World.size_alloc] at y52
    have P52 : TgP w T (T + 1) V1.heap.size 7 [D1] (tgRound (claimsL xs) [] 4) ((V1.alloc (.cells #[.int .i64 7] 2)).alloc (.cells #[.slice A n c] 22)) :=
      ⟨⟨v2, x52, r52⟩, (q52.block _ ltS2).trans hlit2, i52, fun D hD => (q52.block D (Array.getElem?_eq_some_iff.1 (hds2 D hD)).1).trans (hds2 D hD), b52⟩
    have HDL2 : Hid (∀ D ∈ ([D1] : List Nat), D < V1.heap.size) := fun D hD => (Array.getElem?_eq_some_iff.1 (hds2 D hD)).1
    have HSP2 : Hid (∀ b, V1.heap.size + 2 ≤ b → SpT T v2 b) := fun b hb => ⟨by omega, fun e => by have := (hrow2.lt b e).2; omega⟩
    clear hv2 hrow2 hlit2 hds2 i42 i52 x42 r52 q52
    gi_wp2_with (refine ⟨trivial, ?_⟩; gi_at_call 102; refine (good_in A n c _ _).mono ?_; rintro e w' ⟨rfl, rfl⟩)
    generalize (V1.alloc (.cells #[.int .i64 7] 2)).alloc (.cells #[.slice A n c] 22) = w52 at *
    refine wpIn_rangeFunc_ownH rfl (by omega) (gf := 125) (lb := #[.pointer (some ⟨V1.heap.size + 1, 0, none⟩)]) rfl trivial (enters_of Tryz.func125 (by kernel_rfl) rfl)
      (goodt_stops hC 4 (V1.heap.size + 1) T (by omega) A n c xs w52 (by omega) y52.cell ((hr.below b52).more b52.size) hn hnc v2 x52.cell (fun b hb => HSP2.out b (by omega)) (fun _ _ h => h)) KpT.trans (fun W l o o' _ h ho _ => KpT.put o' h ho) (Below.refl _ _) (fun _ => rfl)
      (fun pre W => TgP w T (T + 1) V1.heap.size 7 [D1] ((pre.map Subtype.val).foldl (tgStep 7) (tgRound (claimsL xs) [] 4)) W) (fun _ _ _ => False) (TgP.own (f := fun pre => (pre.map Subtype.val).foldl (tgStep 7) (tgRound (claimsL xs) [] 4)) (by omega) (by omega) (by omega) (by omega) (fun D hD => by have := HDL2.out D hD; omega)) (fun _ _ _ _ _ hs _ _ => hs) P52
      (TgX T (T + 1) V1.heap.size (fun x Bx => #[.slice A n c, undef, .slice none 0 0, .pointer (some ⟨T, 0, none⟩), undef, .pointer (some ⟨V1.heap.size, 0, none⟩), .pointer (some ⟨Bx, 0, none⟩), undef, .slice (some ⟨T + 1, 0, none⟩) 3 3, .int .i64 3, .int .i64 1, .bool true, .pointer (some ⟨T + 1, 1, none⟩), .int .i64 7, .slice A n c, .func (.func 125) #[] #[.pointer (some ⟨V1.heap.size + 1, 0, none⟩)], .agg #[.int .i64 x.1.kind, .int .i64 x.1.frm, .int .i64 x.1.slot, .int .i64 x.1.place, .int .i64 x.1.target, .bool x.1.good], undef, undef, undef, undef, undef, undef, undef, undef, undef, undef, undef, undef, undef, undef, undef, undef, .int .i64 1, undef])) (fun _ _ => TgX.own) ?assign2 ?body2 ?done2 ?stop2
    case assign2 =>
      rintro l pre x W K hPa hK
      have lT := (hPa.row.choose_spec.1).lt
      have lS := (Array.getElem?_eq_some_iff.1 hPa.lit).1
      have lI := hPa.ins.lt
      gi_wp2
      exact hK _ _ ((KeepsOthers.alloc _ _).from _) ((KpT.refl _ _).alloc _) (hPa.below ((Below.refl _ W).alloc (Nat.le_refl _) _)) ⟨W.heap.size, lT, lS, lI, World.alloc_heap_new W _, rfl⟩
    case body2 =>
      rintro l pre x a' W hl _ ⟨⟨v, hbx, hrow⟩, hlit, hins, hds, hw⟩ ⟨Bx, h1, h2, h5, h3, rfl⟩ hlt
      have HS := Lib.hid (tg_snoc 7 pre x (tgRound (claimsL xs) [] 4))
      have hol := tg_len 7 pre (tgRound (claimsL xs) [] 4)
      have hob := tgRound_one xs
      generalize ((pre.map Subtype.val).foldl (tgStep 7) (tgRound (claimsL xs) [] 4)) = o at *
      obtain ⟨⟨xk, xf, xs', xp, xt, xg⟩, tg⟩ := x
      simp only at tg h3 HS
      subst tg
      obtain ⟨A', c', rfl⟩ := row_form hrow
      have hH := hasTarget_any Bx xt A' c' w.heap.size W.heap.size o W (by omega) (by simp [World.cell?, h3]) ⟨hrow, fun g hg => (hrow.lt g hg).2⟩
      have HH := Lib.hid hH
      have c1 := hbx.cell
      have lB := (Array.getElem?_eq_some_iff.1 h3).1
      clear hH
      gi_wp2_with (refine ⟨trivial, ?_⟩; gi_at_call 128; refine (CallsIn.inRound l (callsIn_wide.2 HH.out)).mono ?_; rintro e W2 ⟨rfl, b2⟩)
      have e0 : W2.cell? ⟨Bx, 0, none⟩ = some (.int .i64 xk) := (b2.cell (p := ⟨Bx, 0, none⟩) lB).trans (by simp [World.cell?, h3])
      have i2 : W2.cell? ⟨V1.heap.size, 0, none⟩ = some (.int .i64 7) := (b2.cell (p := ⟨V1.heap.size, 0, none⟩) hins.lt).trans hins.cell
      have HT : Hid (tgStep 7 o ⟨xk, xf, xs', xp, xt, true⟩ = if kindIn xk = 7 ∧ (o.any fun t => t.target == xt) = false then o ++ [⟨xk, xf, xs', xp, xt, true⟩] else o) := rfl
      cases hk : (kindIn xk == 7)
      · have HE : Hid (tgStep 7 o ⟨xk, xf, xs', xp, xt, true⟩ = o) := by rw [HT.out, if_neg (fun h => by rw [h.1] at hk; simp at hk)]; exact rfl
        clear HT
        gi_wp2_with fail
        refine wpIn_region_quiet_round (by kernel_rfl) (by kernel_rfl) (by kernel_rfl) (by rintro ⟨_, _, h⟩; exact h) ?_
        repeat (quiet_step ((go_at_call 130; exact (kindInside_any _ _).mono (fun _ _ h => ⟨h.1, _, h.2.symm⟩))))
        refine wpQuiet_nil ?_
        intro W3 hW3
        obtain ⟨nq, rfl⟩ := hW3
        have b3 := below_drewN b2 nq
        gi_wp2
        exact ⟨KeepsFrom.of_grownBy (below_grownBy b3) (fun _ e => by cases e), KpT.below b3, by show TgP w T (T + 1) V1.heap.size 7 [D1] (((pre ++ [(⟨⟨xk, xf, xs', xp, xt, true⟩, rfl⟩ : Gq (fun c => c.good = true))]).map Subtype.val).foldl (tgStep 7) (tgRound (claimsL xs) [] 4)) _; rw [HS.out, HE.out]; exact TgP.below ⟨⟨_, hbx, hrow⟩, hlit, hins, hds, hw⟩ b3⟩
      · cases hn2 : (o.any fun t => t.target == xt)
        · have HE : Hid (tgStep 7 o ⟨xk, xf, xs', xp, xt, true⟩ = o ++ [⟨xk, xf, xs', xp, xt, true⟩]) := by rw [HT.out, if_pos ⟨by simpa using hk, hn2⟩]; exact rfl
          clear HT
          gi_wp2_with fail
          refine wpIn_region_quiet_round (by kernel_rfl) (by kernel_rfl) (by kernel_rfl) (by rintro ⟨_, _, h⟩; exact h) ?_
          repeat (quiet_step ((go_at_call 130; exact (kindInside_any _ _).mono (fun _ _ h => ⟨h.1, _, h.2.symm⟩))))
          refine wpQuiet_nil ?_
          intro W3 hW3
          obtain ⟨nq, rfl⟩ := hW3
          have b3 := below_drewN b2 nq
          generalize W2.drewN nq = W3 at *
          have P3 : TgP w T (T + 1) V1.heap.size 7 [D1] o W3 := TgP.below ⟨⟨_, hbx, hrow⟩, hlit, hins, hds, hw⟩ b3
          have f0 : W3.cell? ⟨Bx, 0, none⟩ = some (.int .i64 xk) := (b3.cell (p := ⟨Bx, 0, none⟩) lB).trans (by simp [World.cell?, h3])
          have f1 : W3.cell? ⟨Bx, 1, none⟩ = some (.int .i64 xf) := (b3.cell (p := ⟨Bx, 1, none⟩) lB).trans (by simp [World.cell?, h3])
          have f2 : W3.cell? ⟨Bx, 2, none⟩ = some (.int .i64 xs') := (b3.cell (p := ⟨Bx, 2, none⟩) lB).trans (by simp [World.cell?, h3])
          have f3 : W3.cell? ⟨Bx, 3, none⟩ = some (.int .i64 xp) := (b3.cell (p := ⟨Bx, 3, none⟩) lB).trans (by simp [World.cell?, h3])
          have f4 : W3.cell? ⟨Bx, 4, none⟩ = some (.int .i64 xt) := (b3.cell (p := ⟨Bx, 4, none⟩) lB).trans (by simp [World.cell?, h3])
          have f5 : W3.cell? ⟨Bx, 5, none⟩ = some (.bool true) := (b3.cell (p := ⟨Bx, 5, none⟩) lB).trans (by simp [World.cell?, h3])
          have hbx3 := hbx.kept (below_grownBy b3) (by simp)
          have hrow3 := own_below hrow b3
          have c3 := hbx3.cell
          have lw3 := P3.bel.size
          have ltT3 := hbx3.lt
          gi_wp2_with (gi_at_builtin; refine wpListIn_append_t rfl (.tmp 29) (.tmp 31) 59 rfl 62 6 48 _ i0 Tryz.underlying59 hi0 hz0 hz1 hz2 rfl (by omega) (by omega) w.heap.size o.length c' A' _ rfl (hrow3.alloc (.cells #[.int .i64 xk, .int .i64 xf, .int .i64 xs', .int .i64 xp, .int .i64 xt, .bool true] 62)) ⟨W3.heap.size, 0, none⟩ 1 1 #[.int .i64 xk, .int .i64 xf, .int .i64 xs', .int .i64 xp, .int .i64 xt, .bool true].toList rfl (by omega) rfl (by intro j u hj; rw [Addr.add_lit, Nat.zero_add, World.cell?_alloc_new]; simpa using hj) (by simp [Value.oneCell']) (by omega) (by simp; omega) ?_; intro g' cd w6 hown6 hg6 hat6; obtain ⟨bx6, bx7, ow7, ko7, be7⟩ := Boxed.appended (tmp := .cells #[.int .i64 xk, .int .i64 xf, .int .i64 xs', .int .i64 xp, .int .i64 xt, .bool true] 62) hbx3 (by decide) hrow3 lw3 hTw hown6 hg6; have c6 := bx6.cell; have z6 := bx6.frozen)
          refine ⟨(KeepsFrom.of_grownBy (below_grownBy b3) (fun _ e => by cases e)).trans (ko7.from _), ((KpT.below b3).alloc (.cells #[.int .i64 xk, .int .i64 xf, .int .i64 xs', .int .i64 xp, .int .i64 xt, .bool true] 62)).trans (KpT.append (hbx3.alloc _).cell hg6 ?_ (own_away hbx3 (by decide) hrow3)), ?_⟩
          · rcases hat6 with h | h
            · exact .inl h.symm
            · exact .inr (fun g hg => by simp [Value.ownBlock] at hg; omega)
          · have hl6 : w6.heap[T + 1]? = some (.cells #[.int .i64 4, .int .i64 7, .int .i64 8] 2 (0, 0)) := (hg6.block (T + 1) (by have := (Array.getElem?_eq_some_iff.1 P3.lit).1; simp; omega) (fun e => own_away P3.lit (by decide) hrow3 e.symm)).trans ((Below.heap_alloc _ _ _ (Array.getElem?_eq_some_iff.1 P3.lit).1).trans P3.lit)
            have hi6 := (P3.ins.alloc (.cells #[.int .i64 xk, .int .i64 xf, .int .i64 xs', .int .i64 xp, .int .i64 xt, .bool true] 62)).kept hg6 (fun e => own_away P3.ins (by decide) hrow3 e.symm)
            have gs := grownBy_setCell' w6 T (.slice (some ⟨g', 0, none⟩) (o.length + 1) cd)
            show TgP w T (T + 1) V1.heap.size 7 [D1] (((pre ++ [(⟨⟨xk, xf, xs', xp, xt, true⟩, rfl⟩ : Gq (fun c => c.good = true))]).map Subtype.val).foldl (tgStep 7) (tgRound (claimsL xs) [] 4)) _
            rw [HS.out, HE.out]
            refine ⟨⟨_, bx7, ?_⟩, (gs.block (T + 1) (Array.getElem?_eq_some_iff.1 hl6).1 (fun e => by injection e; omega)).trans hl6, hi6.kept gs (fun e => by injection e; omega), fun D hD => ko7.same D _ (P3.ds D hD) rfl, Below.trans P3.bel be7⟩
            rw [List.length_append, List.flatMap_append]
            exact ow7
        · have HE : Hid (tgStep 7 o ⟨xk, xf, xs', xp, xt, true⟩ = o) := by rw [HT.out, if_neg (fun h => by rw [hn2] at h; cases h.2)]; exact rfl
          clear HT
          gi_wp2_with fail
          refine wpIn_region_quiet_round (by kernel_rfl) (by kernel_rfl) (by kernel_rfl) (by rintro ⟨_, _, h⟩; exact h) ?_
          repeat (quiet_step ((go_at_call 130; exact (kindInside_any _ _).mono (fun _ _ h => ⟨h.1, _, h.2.symm⟩))))
          refine wpQuiet_nil ?_
          intro W3 hW3
          obtain ⟨nq, rfl⟩ := hW3
          have b3 := below_drewN b2 nq
          gi_wp2
          exact ⟨KeepsFrom.of_grownBy (below_grownBy b3) (fun _ e => by cases e), KpT.below b3, by show TgP w T (T + 1) V1.heap.size 7 [D1] (((pre ++ [(⟨⟨xk, xf, xs', xp, xt, true⟩, rfl⟩ : Gq (fun c => c.good = true))]).map Subtype.val).foldl (tgStep 7) (tgRound (claimsL xs) [] 4)) _; rw [HS.out, HE.out]; exact TgP.below ⟨⟨_, hbx, hrow⟩, hlit, hins, hds, hw⟩ b3⟩
    case stop2 =>
      rintro D c pre W _ _ h _
      exact h.elim
    case done2 =>
      rintro D2 ys V2 hDa2 hS hP3 hK2
      rw [hS] at hP3
      have HHK2 := Lib.hid hK2
      gi_wp2_with fail
      rw [roundsIn_succ]
      obtain ⟨rowN, litN, insN, dsN, belN⟩ := hP3
      have hP3 : (∃ v, Boxed V2 T 59 v ∧ V2.ownsRow w.heap.size 62 6 v (tgRound (claimsL xs) (tgRound (claimsL xs) [] 4) 7).length ((tgRound (claimsL xs) (tgRound (claimsL xs) [] 4) 7).flatMap cmV)) ∧ V2.heap[T + 1]? = some (.cells #[.int .i64 4, .int .i64 7, .int .i64 8] 2 (0, 0)) ∧ True ∧ (∀ D ∈ ([D1, D2] : List Nat), V2.heap[D]? = some (.deferred (some []))) ∧ Below w.heap.size w V2 := ⟨rowN, litN, trivial, ?dsx2, belN⟩
      case dsx2 =>
        intro D hD
        simp only [List.mem_cons, List.not_mem_nil, or_false] at hD
        rcases hD with rfl | rfl; exact dsN _ (by simp); exact HHK2.out
      clear rowN litN insN dsN belN
      obtain ⟨⟨v3, hv3, hrow3⟩, hlit3, _, hds3, hw3⟩ := hP3
      have l03 : V2.cell? ⟨T + 1, 2, none⟩ = some (.int .i64 8) := by simp [World.cell?, hlit3]
      have ltT3 := hv3.lt
      have ltS3 := (Array.getElem?_eq_some_iff.1 hlit3).1
      have x43 := hv3.alloc (.cells #[.int .i64 8] 2)
      have x53 := x43.alloc (.cells #[.slice A n c] 22)
      have i43 : Boxed (V2.alloc (.cells #[.int .i64 8] 2)) V2.heap.size 2 (.int .i64 8) := Boxed.new _ _ _
      have i53 := i43.alloc (.cells #[.slice A n c] 22)
      have y53 := Boxed.new (V2.alloc (.cells #[.int .i64 8] 2)) 22 (.slice A n c)
      have r53 := (hrow3.alloc (.cells #[.int .i64 8] 2)).alloc (.cells #[.slice A n c] 22)
      have b53 := (hw3.alloc hw3.size (.cells #[.int .i64 8] 2)).alloc (hw3.alloc hw3.size (.cells #[.int .i64 8] 2)).size (.cells #[.slice A n c] 22)
      have q53 : Below V2.heap.size V2 ((V2.alloc (.cells #[.int .i64 8] 2)).alloc (.cells #[.slice A n c] 22)) := ((Below.refl _ V2).alloc (Nat.le_refl _) _).alloc (by simp) _
      have z53 : ((V2.alloc (.cells #[.int .i64 8] 2)).alloc (.cells #[.slice A n c] 22)).heap.size = V2.heap.size + 2 := by simp
      rw [World.size_alloc] at y53
      have P53 : TgP w T (T + 1) V2.heap.size 8 [D1, D2] (tgRound (claimsL xs) (tgRound (claimsL xs) [] 4) 7) ((V2.alloc (.cells #[.int .i64 8] 2)).alloc (.cells #[.slice A n c] 22)) :=
        ⟨⟨v3, x53, r53⟩, (q53.block _ ltS3).trans hlit3, i53, fun D hD => (q53.block D (Array.getElem?_eq_some_iff.1 (hds3 D hD)).1).trans (hds3 D hD), b53⟩
      have HDL3 : Hid (∀ D ∈ ([D1, D2] : List Nat), D < V2.heap.size) := fun D hD => (Array.getElem?_eq_some_iff.1 (hds3 D hD)).1
      have HSP3 : Hid (∀ b, V2.heap.size + 2 ≤ b → SpT T v3 b) := fun b hb => ⟨by omega, fun e => by have := (hrow3.lt b e).2; omega⟩
      clear hv3 hrow3 hlit3 hds3 i43 i53 x43 r53 q53
      gi_wp2_with (refine ⟨trivial, ?_⟩; gi_at_call 102; refine (good_in A n c _ _).mono ?_; rintro e w' ⟨rfl, rfl⟩)
      generalize (V2.alloc (.cells #[.int .i64 8] 2)).alloc (.cells #[.slice A n c] 22) = w53 at *
      refine wpIn_rangeFunc_ownH rfl (by omega) (gf := 125) (lb := #[.pointer (some ⟨V2.heap.size + 1, 0, none⟩)]) rfl trivial (enters_of Tryz.func125 (by kernel_rfl) rfl)
        (goodt_stops hC 4 (V2.heap.size + 1) T (by omega) A n c xs w53 (by omega) y53.cell ((hr.below b53).more b53.size) hn hnc v3 x53.cell (fun b hb => HSP3.out b (by omega)) (fun _ _ h => h)) KpT.trans (fun W l o o' _ h ho _ => KpT.put o' h ho) (Below.refl _ _) (fun _ => rfl)
        (fun pre W => TgP w T (T + 1) V2.heap.size 8 [D1, D2] ((pre.map Subtype.val).foldl (tgStep 8) (tgRound (claimsL xs) (tgRound (claimsL xs) [] 4) 7)) W) (fun _ _ _ => False) (TgP.own (f := fun pre => (pre.map Subtype.val).foldl (tgStep 8) (tgRound (claimsL xs) (tgRound (claimsL xs) [] 4) 7)) (by omega) (by omega) (by omega) (by omega) (fun D hD => by have := HDL3.out D hD; omega)) (fun _ _ _ _ _ hs _ _ => hs) P53
        (TgX T (T + 1) V2.heap.size (fun x Bx => #[.slice A n c, undef, .slice none 0 0, .pointer (some ⟨T, 0, none⟩), undef, .pointer (some ⟨V2.heap.size, 0, none⟩), .pointer (some ⟨Bx, 0, none⟩), undef, .slice (some ⟨T + 1, 0, none⟩) 3 3, .int .i64 3, .int .i64 2, .bool true, .pointer (some ⟨T + 1, 2, none⟩), .int .i64 8, .slice A n c, .func (.func 125) #[] #[.pointer (some ⟨V2.heap.size + 1, 0, none⟩)], .agg #[.int .i64 x.1.kind, .int .i64 x.1.frm, .int .i64 x.1.slot, .int .i64 x.1.place, .int .i64 x.1.target, .bool x.1.good], undef, undef, undef, undef, undef, undef, undef, undef, undef, undef, undef, undef, undef, undef, undef, undef, .int .i64 2, undef])) (fun _ _ => TgX.own) ?assign3 ?body3 ?done3 ?stop3
      case assign3 =>
        rintro l pre x W K hPa hK
        have lT := (hPa.row.choose_spec.1).lt
        have lS := (Array.getElem?_eq_some_iff.1 hPa.lit).1
        have lI := hPa.ins.lt
        gi_wp2
        exact hK _ _ ((KeepsOthers.alloc _ _).from _) ((KpT.refl _ _).alloc _) (hPa.below ((Below.refl _ W).alloc (Nat.le_refl _) _)) ⟨W.heap.size, lT, lS, lI, World.alloc_heap_new W _, rfl⟩
      case body3 =>
        rintro l pre x a' W hl _ ⟨⟨v, hbx, hrow⟩, hlit, hins, hds, hw⟩ ⟨Bx, h1, h2, h5, h3, rfl⟩ hlt
        have HS := Lib.hid (tg_snoc 8 pre x (tgRound (claimsL xs) (tgRound (claimsL xs) [] 4) 7))
        have hol := tg_len 8 pre (tgRound (claimsL xs) (tgRound (claimsL xs) [] 4) 7)
        have hob := tgRound_two xs
        generalize ((pre.map Subtype.val).foldl (tgStep 8) (tgRound (claimsL xs) (tgRound (claimsL xs) [] 4) 7)) = o at *
        obtain ⟨⟨xk, xf, xs', xp, xt, xg⟩, tg⟩ := x
        simp only at tg h3 HS
        subst tg
        obtain ⟨A', c', rfl⟩ := row_form hrow
        have hH := hasTarget_any Bx xt A' c' w.heap.size W.heap.size o W (by omega) (by simp [World.cell?, h3]) ⟨hrow, fun g hg => (hrow.lt g hg).2⟩
        have HH := Lib.hid hH
        have c1 := hbx.cell
        have lB := (Array.getElem?_eq_some_iff.1 h3).1
        clear hH
        gi_wp2_with (refine ⟨trivial, ?_⟩; gi_at_call 128; refine (CallsIn.inRound l (callsIn_wide.2 HH.out)).mono ?_; rintro e W2 ⟨rfl, b2⟩)
        have e0 : W2.cell? ⟨Bx, 0, none⟩ = some (.int .i64 xk) := (b2.cell (p := ⟨Bx, 0, none⟩) lB).trans (by simp [World.cell?, h3])
        have i2 : W2.cell? ⟨V2.heap.size, 0, none⟩ = some (.int .i64 8) := (b2.cell (p := ⟨V2.heap.size, 0, none⟩) hins.lt).trans hins.cell
        have HT : Hid (tgStep 8 o ⟨xk, xf, xs', xp, xt, true⟩ = if kindIn xk = 8 ∧ (o.any fun t => t.target == xt) = false then o ++ [⟨xk, xf, xs', xp, xt, true⟩] else o) := rfl
        cases hk : (kindIn xk == 8)
        · have HE : Hid (tgStep 8 o ⟨xk, xf, xs', xp, xt, true⟩ = o) := by rw [HT.out, if_neg (fun h => by rw [h.1] at hk; simp at hk)]; exact rfl
          clear HT
          gi_wp2_with fail
          refine wpIn_region_quiet_round (by kernel_rfl) (by kernel_rfl) (by kernel_rfl) (by rintro ⟨_, _, h⟩; exact h) ?_
          repeat (quiet_step ((go_at_call 130; exact (kindInside_any _ _).mono (fun _ _ h => ⟨h.1, _, h.2.symm⟩))))
          refine wpQuiet_nil ?_
          intro W3 hW3
          obtain ⟨nq, rfl⟩ := hW3
          have b3 := below_drewN b2 nq
          gi_wp2
          exact ⟨KeepsFrom.of_grownBy (below_grownBy b3) (fun _ e => by cases e), KpT.below b3, by show TgP w T (T + 1) V2.heap.size 8 [D1, D2] (((pre ++ [(⟨⟨xk, xf, xs', xp, xt, true⟩, rfl⟩ : Gq (fun c => c.good = true))]).map Subtype.val).foldl (tgStep 8) (tgRound (claimsL xs) (tgRound (claimsL xs) [] 4) 7)) _; rw [HS.out, HE.out]; exact TgP.below ⟨⟨_, hbx, hrow⟩, hlit, hins, hds, hw⟩ b3⟩
        · cases hn2 : (o.any fun t => t.target == xt)
          · have HE : Hid (tgStep 8 o ⟨xk, xf, xs', xp, xt, true⟩ = o ++ [⟨xk, xf, xs', xp, xt, true⟩]) := by rw [HT.out, if_pos ⟨by simpa using hk, hn2⟩]; exact rfl
            clear HT
            gi_wp2_with fail
            refine wpIn_region_quiet_round (by kernel_rfl) (by kernel_rfl) (by kernel_rfl) (by rintro ⟨_, _, h⟩; exact h) ?_
            repeat (quiet_step ((go_at_call 130; exact (kindInside_any _ _).mono (fun _ _ h => ⟨h.1, _, h.2.symm⟩))))
            refine wpQuiet_nil ?_
            intro W3 hW3
            obtain ⟨nq, rfl⟩ := hW3
            have b3 := below_drewN b2 nq
            generalize W2.drewN nq = W3 at *
            have P3 : TgP w T (T + 1) V2.heap.size 8 [D1, D2] o W3 := TgP.below ⟨⟨_, hbx, hrow⟩, hlit, hins, hds, hw⟩ b3
            have f0 : W3.cell? ⟨Bx, 0, none⟩ = some (.int .i64 xk) := (b3.cell (p := ⟨Bx, 0, none⟩) lB).trans (by simp [World.cell?, h3])
            have f1 : W3.cell? ⟨Bx, 1, none⟩ = some (.int .i64 xf) := (b3.cell (p := ⟨Bx, 1, none⟩) lB).trans (by simp [World.cell?, h3])
            have f2 : W3.cell? ⟨Bx, 2, none⟩ = some (.int .i64 xs') := (b3.cell (p := ⟨Bx, 2, none⟩) lB).trans (by simp [World.cell?, h3])
            have f3 : W3.cell? ⟨Bx, 3, none⟩ = some (.int .i64 xp) := (b3.cell (p := ⟨Bx, 3, none⟩) lB).trans (by simp [World.cell?, h3])
            have f4 : W3.cell? ⟨Bx, 4, none⟩ = some (.int .i64 xt) := (b3.cell (p := ⟨Bx, 4, none⟩) lB).trans (by simp [World.cell?, h3])
            have f5 : W3.cell? ⟨Bx, 5, none⟩ = some (.bool true) := (b3.cell (p := ⟨Bx, 5, none⟩) lB).trans (by simp [World.cell?, h3])
            have hbx3 := hbx.kept (below_grownBy b3) (by simp)
            have hrow3 := own_below hrow b3
            have c3 := hbx3.cell
            have lw3 := P3.bel.size
            have ltT3 := hbx3.lt
            gi_wp2_with (gi_at_builtin; refine wpListIn_append_t rfl (.tmp 29) (.tmp 31) 59 rfl 62 6 48 _ i0 Tryz.underlying59 hi0 hz0 hz1 hz2 rfl (by omega) (by omega) w.heap.size o.length c' A' _ rfl (hrow3.alloc (.cells #[.int .i64 xk, .int .i64 xf, .int .i64 xs', .int .i64 xp, .int .i64 xt, .bool true] 62)) ⟨W3.heap.size, 0, none⟩ 1 1 #[.int .i64 xk, .int .i64 xf, .int .i64 xs', .int .i64 xp, .int .i64 xt, .bool true].toList rfl (by omega) rfl (by intro j u hj; rw [Addr.add_lit, Nat.zero_add, World.cell?_alloc_new]; simpa using hj) (by simp [Value.oneCell']) (by omega) (by simp; omega) ?_; intro g' cd w6 hown6 hg6 hat6; obtain ⟨bx6, bx7, ow7, ko7, be7⟩ := Boxed.appended (tmp := .cells #[.int .i64 xk, .int .i64 xf, .int .i64 xs', .int .i64 xp, .int .i64 xt, .bool true] 62) hbx3 (by decide) hrow3 lw3 hTw hown6 hg6; have c6 := bx6.cell; have z6 := bx6.frozen)
            refine ⟨(KeepsFrom.of_grownBy (below_grownBy b3) (fun _ e => by cases e)).trans (ko7.from _), ((KpT.below b3).alloc (.cells #[.int .i64 xk, .int .i64 xf, .int .i64 xs', .int .i64 xp, .int .i64 xt, .bool true] 62)).trans (KpT.append (hbx3.alloc _).cell hg6 ?_ (own_away hbx3 (by decide) hrow3)), ?_⟩
            · rcases hat6 with h | h
              · exact .inl h.symm
              · exact .inr (fun g hg => by simp [Value.ownBlock] at hg; omega)
            · have hl6 : w6.heap[T + 1]? = some (.cells #[.int .i64 4, .int .i64 7, .int .i64 8] 2 (0, 0)) := (hg6.block (T + 1) (by have := (Array.getElem?_eq_some_iff.1 P3.lit).1; simp; omega) (fun e => own_away P3.lit (by decide) hrow3 e.symm)).trans ((Below.heap_alloc _ _ _ (Array.getElem?_eq_some_iff.1 P3.lit).1).trans P3.lit)
              have hi6 := (P3.ins.alloc (.cells #[.int .i64 xk, .int .i64 xf, .int .i64 xs', .int .i64 xp, .int .i64 xt, .bool true] 62)).kept hg6 (fun e => own_away P3.ins (by decide) hrow3 e.symm)
              have gs := grownBy_setCell' w6 T (.slice (some ⟨g', 0, none⟩) (o.length + 1) cd)
              show TgP w T (T + 1) V2.heap.size 8 [D1, D2] (((pre ++ [(⟨⟨xk, xf, xs', xp, xt, true⟩, rfl⟩ : Gq (fun c => c.good = true))]).map Subtype.val).foldl (tgStep 8) (tgRound (claimsL xs) (tgRound (claimsL xs) [] 4) 7)) _
              rw [HS.out, HE.out]
              refine ⟨⟨_, bx7, ?_⟩, (gs.block (T + 1) (Array.getElem?_eq_some_iff.1 hl6).1 (fun e => by injection e; omega)).trans hl6, hi6.kept gs (fun e => by injection e; omega), fun D hD => ko7.same D _ (P3.ds D hD) rfl, Below.trans P3.bel be7⟩
              rw [List.length_append, List.flatMap_append]
              exact ow7
          · have HE : Hid (tgStep 8 o ⟨xk, xf, xs', xp, xt, true⟩ = o) := by rw [HT.out, if_neg (fun h => by rw [hn2] at h; cases h.2)]; exact rfl
            clear HT
            gi_wp2_with fail
            refine wpIn_region_quiet_round (by kernel_rfl) (by kernel_rfl) (by kernel_rfl) (by rintro ⟨_, _, h⟩; exact h) ?_
            repeat (quiet_step ((go_at_call 130; exact (kindInside_any _ _).mono (fun _ _ h => ⟨h.1, _, h.2.symm⟩))))
            refine wpQuiet_nil ?_
            intro W3 hW3
            obtain ⟨nq, rfl⟩ := hW3
            have b3 := below_drewN b2 nq
            gi_wp2
            exact ⟨KeepsFrom.of_grownBy (below_grownBy b3) (fun _ e => by cases e), KpT.below b3, by show TgP w T (T + 1) V2.heap.size 8 [D1, D2] (((pre ++ [(⟨⟨xk, xf, xs', xp, xt, true⟩, rfl⟩ : Gq (fun c => c.good = true))]).map Subtype.val).foldl (tgStep 8) (tgRound (claimsL xs) (tgRound (claimsL xs) [] 4) 7)) _; rw [HS.out, HE.out]; exact TgP.below ⟨⟨_, hbx, hrow⟩, hlit, hins, hds, hw⟩ b3⟩
      case stop3 =>
        rintro D c pre W _ _ h _
        exact h.elim
      case done3 =>
        rintro D3 ys V3 hDa3 hS hP4 hK3
        rw [hS] at hP4
        have HHK3 := Lib.hid hK3
        obtain ⟨⟨v, hv, hrow⟩, hlit, _, hds, hw⟩ := hP4
        obtain ⟨A', c', rfl⟩ := row_form hrow
        have c1 := hv.cell
        have hD1 := hds D1 (by simp)
        have hD2 := hds D2 (by simp)
        have l1 := (Array.getElem?_eq_some_iff.1 hD1).1
        have n12 : D1 ≠ D2 := by have := HDL2.out D1 (by simp); omega
        have n23 : D2 ≠ D3 := by have := HDL3.out D2 (by simp); omega
        have n13 : D1 ≠ D3 := by have := HDL3.out D1 (by simp); omega
        have hwD1 : w.heap.size ≤ D1 := by have := hw1.size; omega
        have hwD2 : w.heap.size ≤ D2 := by have := hw2.size; omega
        have hwD3 : w.heap.size ≤ D3 := by have := hw3.size; omega
        have g7 := grownBy_putObj' V3 D3 (.deferred none)
        have hD2' := (g7.block D2 (Array.getElem?_eq_some_iff.1 hD2).1 (fun e => n23 (by injection e))).trans hD2
        have hD1' := (g7.block D1 l1 (fun e => n13 (by injection e))).trans hD1
        have g8 := grownBy_putObj' (V3.putObj D3 (.deferred none)) D2 (.deferred none)
        have hD1'' := (g8.block D1 (Array.getElem?_eq_some_iff.1 hD1').1 (fun e => n12 (by injection e))).trans hD1'
        have g9 := grownBy_putObj' ((V3.putObj D3 (.deferred none)).putObj D2 (.deferred none)) D1 (.deferred none)
        have o9 := ownsRow_putObj (ownsRow_putObj (ownsRow_putObj hrow (.deferred none) HHK3.out rfl) (.deferred none) hD2' rfl) (.deferred none) hD1'' rfl
        have b9 := ((hw.grown g7 hw.size (fun k e => by cases e; omega)).grown g8 (Nat.le_trans hw.size g7.size) (fun k e => by cases e; omega)).grown g9 (Nat.le_trans (Nat.le_trans hw.size g7.size) g8.size) (fun k e => by cases e; omega)
        gi_wp2_with fail
        rw [roundsIn_succ]
        gi_wp2_with fail
        refine ⟨by simp, .inl ⟨_, _, rfl, run_takeDeferred HHK3.out, ?_⟩⟩
        refine ⟨by simp, .inl ⟨_, _, rfl, run_takeDeferred hD2', ?_⟩⟩
        refine ⟨by simp, .inl ⟨_, _, rfl, run_takeDeferred hD1'', ?_⟩⟩
        refine ⟨_, results_tmp rfl _ _ _, ?_⟩
        exact ⟨A', c', rfl, ⟨o9, fun g hg => (o9.lt g hg).2⟩, b9⟩

/-- The word of a slot of a table, as it must be. -/
def rtW (xs : List Int) (loose : List Cm) (counts : List Int) (to : Cm) (i : Nat) : Int :=
  if standB loose to.target i = true then (cl xs to.target.toNat).getD i 0 else wordMust ((cl xs to.target.toNat).getD i 0) to.kind counts
/-- All of them. -/
def rtL (xs : List Int) (loose : List Cm) (counts : List Int) (to : Cm) : List Int := f8 (rtW xs loose counts to)
/-- The first k are as they must be. -/
def rtTo (xs : List Int) (loose : List Cm) (counts : List Int) (to : Cm) (k : Nat) : List Int := f8 fun i => if i < k then rtW xs loose counts to i else (cl xs to.target.toNat).getD i 0

section
variable (xs : List Int) (loose : List Cm) (counts : List Int) (to : Cm)
theorem rtL_length : (rtL xs loose counts to).length = 8 := f8_length _
theorem rtL_get (i : Nat) (h : i < 8) : (rtL xs loose counts to).getD i 0 = rtW xs loose counts to i := f8_get _ i h
theorem rtTo_zero : rtTo xs loose counts to 0 = cl xs to.target.toNat := by
  unfold rtTo
  conv => rhs; unfold cl
  exact f8_congr fun j hj => by rw [if_neg (by omega), cl_word_get _ _ _ hj]
theorem rtTo_eight : rtTo xs loose counts to 8 = rtL xs loose counts to := f8_congr fun j hj => by rw [if_pos hj]
theorem rtTo_get (k i : Nat) (h : i < 8) (hk : k ≤ i) : (rtTo xs loose counts to k).getD i 0 = (cl xs to.target.toNat).getD i 0 := by
  unfold rtTo
  rw [f8_get _ i h, if_neg (by omega)]
theorem rtTo_step (k : Nat) : (rtTo xs loose counts to k).set k (rtW xs loose counts to k) = rtTo xs loose counts to (k + 1) := by
  apply List.ext_getElem
  · simp [rtTo, f8]
  · intro i h1 h2
    have h8 : i < 8 := by simpa [rtTo, f8] using h2
    simp only [List.getElem_set, rtTo, f8, List.getElem_map, List.getElem_range]
    by_cases e : k = i
    · subst e; simp
    · rw [if_neg e]
      by_cases h3 : i < k
      · rw [if_pos h3, if_pos (by omega)]
      · rw [if_neg h3, if_neg (by omega)]
theorem rtTo_skip (k : Nat) (hs : standB loose to.target k = true) : rtTo xs loose counts to (k + 1) = rtTo xs loose counts to k := f8_congr fun i _ => by
  by_cases e : i = k
  · subst e
    rw [if_pos (by omega), if_neg (by omega)]
    unfold rtW
    rw [if_pos hs]
  · by_cases h3 : i < k
    · rw [if_pos (by omega), if_pos h3]
    · rw [if_neg (by omega), if_neg h3]
end

end Go.Proofs.YtibokhkohanoaaaGreat
