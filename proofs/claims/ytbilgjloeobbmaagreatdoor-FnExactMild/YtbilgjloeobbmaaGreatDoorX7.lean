/- The tables that are gone into (tablesGoneInto): the program's side. Three passes over the iterator, each a round of a loop. Words that are not as they must be (wrongWords): the program's side. Rows of errors one behind another (slices.Concat, with slices.Grow in it). All that is wrong with an image, as errors (allWrong): the program's side. -/
import Derived.Test.YtbilgjloeobbmaaGreatDoorX6
import Derived.Test.YtbilgjloeobbmaaGreatDoorX2
import Derived.Test.YtbilgjloeobbmaaGreatDoorLawTb
import Derived.Laws.AppendOwnNone
import Derived.Deep.RegionHeld3
namespace Go.Proofs.YtbilgjloeobbmaaGreatDoor
open Go.RowKit Go.Shelf
open Go.RowKit

attribute [local go_sem] Oper.semAt_some

/-- A region that draws its order and only reads, in a round of a loop over a function. -/
theorem wpIn_region_quiet_round {id l n : Nat} {P : Program} {Q : Exit → Act → World → Prop} {a : Act} {w : World} {ol : List Oper} (hm : P.follows .mixedOrders = true) (hB : Region.lexB .any ol.toArray = true) (hd : ol.toArray.all noDefer = true) (hl : ¬ LetsOut Q)
    (h : wpQuiet P ol.toArray (fun w' => ∃ n, w' = w.drewN n) (fun a' => ∀ w', (∃ n, w' = w.drewN n) → Q .normal a' w') ol a) : (Code.region id ol.toArray true).wpIn (Fence.wide.inRound l) n P Q a w := by
  simp only [Region.lexB, Bool.and_eq_true] at hB
  refine wpIn_region_any hm (wpAnyIn_round (noDefer_spec hd) hl _ _ _ _ (wpAny_of_quiet (C := fun w' => ∃ n, w' = w.drewN n) (Q := fun a' => ∀ w', (∃ n, w' = w.drewN n) → Q .normal a' w') (fun _ w' hw' h => h w' hw') _ _ _ _ ⟨1, rfl⟩ ?_))
  have := wpAnyQ_lex (C := fun w' => ∃ n, w' = w.drewN n) (md := .any) hB.1 ol.toArray.toList 0 (Array.replicate ol.toArray.size false) a (by simp) (by simpa using hB.2) (by simpa using h)
  simpa using this

/-- Between two rounds of a pass: the tables so far, in a row that lies in the box T. -/
structure TgP (w : World) (T S I : Nat) (iv : Int) (Ds : List Nat) (o : List Cm) (W : World) : Prop where
  row : ∃ v, Boxed W T 37 v ∧ W.ownsRow w.heap.size 40 6 v o.length (o.flatMap cmV)
  lit : W.heap[S]? = some (.cells #[.int .i64 4, .int .i64 7, .int .i64 8] 2 (0, 0))
  ins : Boxed W I 2 (.int .i64 iv)
  ds : ∀ D ∈ Ds, W.heap[D]? = some (.deferred (some []))
  bel : Below w.heap.size w W
theorem own_away {W : World} {S base e size k : Nat} {t : TypeId} {c : Array Value} {fz : Nat × Nat} {v : Value} {xs : List Value} (h : W.heap[S]? = some (.cells c t fz)) (hte : t ≠ e) (hr : W.ownsRow base e size v k xs) : v.ownBlock ≠ some S := by
  rcases hr.2 with ⟨rfl, _⟩ | ⟨g, cap, cur, rfl, _, hgb, _⟩
  · simp [Value.ownBlock]
  · intro e'
    obtain rfl : g = S := by simpa [Value.ownBlock] using e'
    rw [hgb] at h
    injection h with h
    injection h with _ h _
    exact hte h.symm
theorem TgP.own {α : Type} {w : World} {T S I B : Nat} {iv : Int} {Ds : List Nat} {f : List α → List Cm} (h1 : w.heap.size ≤ B) (h2 : T < B) (h3 : S < B) (h4 : I < B) (h5 : ∀ D ∈ Ds, D < B) : OwnFrom B (fun pre W => TgP w T S I iv Ds (f pre) W) := fun s X Y row hs hg hr => by
  obtain ⟨⟨v, hv, hrow⟩, hlit, hins, hds, hb⟩ := hs
  refine ⟨⟨v, hv.kept hg (fun e => by have := (hr _ e.symm).1; omega), hrow.kept hg ?_⟩, (hg.block S (Array.getElem?_eq_some_iff.1 hlit).1 (fun e => by have := (hr _ e.symm).1; omega)).trans hlit, hins.kept hg (fun e => by have := (hr _ e.symm).1; omega),
    fun D hD => (hg.block D (Array.getElem?_eq_some_iff.1 (hds D hD)).1 (fun e => by have := (hr _ e.symm).1; have := h5 D hD; omega)).trans (hds D hD), hb.grown hg hb.size (fun k e => by have := (hr _ e).1; omega)⟩
  rcases hrow.2 with ⟨rfl, _⟩ | ⟨g, cap, cur, rfl, _, hgb, _⟩
  · exact .inl rfl
  · refine .inr fun e' => ?_
    obtain ⟨_, o, ho, hc⟩ := hr g (by simpa [Value.ownBlock] using e'.symm)
    rw [hgb] at ho; cases ho; cases hc
theorem own_below {W W' : World} {base e size k : Nat} {v : Value} {xs : List Value} (h : W.ownsRow base e size v k xs) (hb : Below W.heap.size W W') : W'.ownsRow base e size v k xs := by
  refine h.kept (below_grownBy hb) ?_
  rcases h.2 with ⟨rfl, _⟩ | ⟨g, cap, cur, rfl, _, hgb, _⟩
  · exact .inl rfl
  · exact .inr (by simp [Value.ownBlock])
theorem TgP.below {w : World} {T S I : Nat} {iv : Int} {Ds : List Nat} {o : List Cm} {W W' : World} (h : TgP w T S I iv Ds o W) (hb : Below W.heap.size W W') : TgP w T S I iv Ds o W' := by
  obtain ⟨⟨v, hv, hrow⟩, hlit, hins, hds, hw⟩ := h
  refine ⟨⟨v, hv.kept (below_grownBy hb) (by simp), own_below hrow hb⟩, (hb.block S (Array.getElem?_eq_some_iff.1 hlit).1).trans hlit, hins.kept (below_grownBy hb) (by simp), fun D hD => (hb.block D (Array.getElem?_eq_some_iff.1 (hds D hD)).1).trans (hds D hD), below_more hw hb hw.size⟩
/-- The round's claim lies in a box of its own. -/
def TgX (T S I : Nat) (tm : Gq (fun c => c.good = true) → Nat → Array Value) (x : Gq (fun c => c.good = true)) (a : Act) (W : World) : Prop :=
  ∃ Bx, T < Bx ∧ S < Bx ∧ I < Bx ∧ W.heap[Bx]? = some (.cells #[.int .i64 x.1.kind, .int .i64 x.1.frm, .int .i64 x.1.slot, .int .i64 x.1.place, .int .i64 x.1.target, .bool x.1.good] 40 (0, 0)) ∧ a = { tmps := tm x Bx, defers := [] }
theorem TgX.own {T S I B : Nat} {tm : Gq (fun c => c.good = true) → Nat → Array Value} {x : Gq (fun c => c.good = true)} {a : Act} : OwnFrom B (fun (_ : Unit) W => TgX T S I tm x a W) := fun _ X Y row hs hg hr => by
  obtain ⟨Bx, h1, h2, h5, h3, h4⟩ := hs
  refine ⟨Bx, h1, h2, h5, ?_, h4⟩
  refine (hg.block Bx (Array.getElem?_eq_some_iff.1 h3).1 (fun e => ?_)).trans h3
  obtain ⟨_, o, ho, hc⟩ := hr _ e.symm
  rw [h3] at ho
  cases ho
  cases hc

theorem tg_snoc (iv : Int) (pre : List (Gq (fun c => c.good = true))) (x : Gq (fun c => c.good = true)) (o : List Cm) : ((pre ++ [x]).map Subtype.val).foldl (tgStep iv) o = tgStep iv ((pre.map Subtype.val).foldl (tgStep iv) o) x.1 := by
  rw [List.map_append, List.foldl_append]; rfl
theorem tg_len (iv : Int) (pre : List (Gq (fun c => c.good = true))) (o : List Cm) : ((pre.map Subtype.val).foldl (tgStep iv) o).length ≤ o.length + pre.length := by
  have := foldl_length (tgStep iv) 1 (tgStep_length iv) (pre.map Subtype.val) o
  rw [List.length_map] at this
  omega
theorem tgRound_len (xs : List Int) (o : List Cm) (iv : Int) : (tgRound (claimsL xs) o iv).length ≤ o.length + 1296 := by
  have h1 := foldl_length (tgStep iv) 1 (tgStep_length iv) ((claimsL xs).filter fun c => c.good) o
  have h2 := List.length_filter_le (fun c : Cm => c.good) (claimsL xs)
  have h3 := claimsL_length xs
  unfold tgRound
  omega
theorem tgRound_one (xs : List Int) : (tgRound (claimsL xs) [] 4).length ≤ 1296 := by
  have := tgRound_len xs [] 4
  simpa using this
theorem tgRound_two (xs : List Int) : (tgRound (claimsL xs) (tgRound (claimsL xs) [] 4) 7).length ≤ 2592 := by
  have h1 := tgRound_len xs (tgRound (claimsL xs) [] 4) 7
  have h2 := tgRound_one xs
  omega
theorem row_form {W : World} {base e size k : Nat} {v : Value} {xs : List Value} (h : W.ownsRow base e size v k xs) : ∃ A c, v = .slice A k c := by
  rcases h.2 with ⟨rfl, rfl⟩ | ⟨g, cap, cur, rfl, _⟩
  · exact ⟨none, 0, rfl⟩
  · exact ⟨_, cap, rfl⟩

set_option maxRecDepth 100000 in
set_option maxHeartbeats 16000000 in
theorem tablesGone_any (hC : ClaimsC) (A : Option Addr) (n c : Nat) (xs : List Int) (w : World) (hr : Rd w w.heap.size A n xs) (hn : n ≤ 2097152) (hnc : n ≤ c) :
    Calls Tryz.prog 66 #[.slice A n c] w (RetCms w (tgL (claimsL xs))) := by
  obtain ⟨i0, hi0, hz0, hz1, hz2⟩ := info_parts infoCm
  refine (callsIn_wide (n := 5)).1 ?_
  refine callsIn_of_wp_marks Tryz.func66 rfl trivial ?_ rfl
  simp only [Tryz.ntmps66, List.size_toArray, List.length_cons, List.length_nil, Nat.reduceAdd, Nat.reduceSub, Array.replicate_succ, Array.replicate_zero, List.push_toArray, List.append_toArray, List.nil_append, List.cons_append]
  have b1 := (Below.refl w.heap.size w).alloc (Nat.le_refl _) (.cells #[.slice none 0 0] 37)
  have b2 := b1.alloc b1.size (.cells #[.int .i64 4, .int .i64 7, .int .i64 8] 2)
  have x1 : Boxed (w.alloc (.cells #[.slice none 0 0] 37)) w.heap.size 37 (.slice none 0 0) := Boxed.new _ _ _
  have x2 := x1.alloc (.cells #[.int .i64 4, .int .i64 7, .int .i64 8] 2)
  have l2 : ((w.alloc (.cells #[.slice none 0 0] 37)).alloc (.cells #[.int .i64 4, .int .i64 7, .int .i64 8] 2)).heap[w.heap.size + 1]? = some (.cells #[.int .i64 4, .int .i64 7, .int .i64 8] 2 (0, 0)) := by
    have := World.alloc_heap_new (w.alloc (.cells #[.slice none 0 0] 37)) (.cells #[.int .i64 4, .int .i64 7, .int .i64 8] 2)
    rwa [World.size_alloc] at this
  obtain ⟨T, hTe⟩ : ∃ T, w.heap.size = T := ⟨_, rfl⟩
  have hTw : w.heap.size ≤ T := by omega
  gi_wp2_with fail
  refine wpIn_loop_rounds 4 ?_
  rw [roundsIn_succ]
  have hQ : ∃ v, Boxed ((w.alloc (.cells #[.slice none 0 0] 37)).alloc (.cells #[.int .i64 4, .int .i64 7, .int .i64 8] 2)) T 37 v ∧ ((w.alloc (.cells #[.slice none 0 0] 37)).alloc (.cells #[.int .i64 4, .int .i64 7, .int .i64 8] 2)).ownsRow w.heap.size 40 6 v ([] : List Cm).length (([] : List Cm).flatMap cmV) := ⟨_, hTe ▸ x2, World.ownsRow_nil _ _ _ _⟩
  rw [hTe] at l2
  have hP1 : (∃ v, Boxed ((w.alloc (.cells #[.slice none 0 0] 37)).alloc (.cells #[.int .i64 4, .int .i64 7, .int .i64 8] 2)) T 37 v ∧ ((w.alloc (.cells #[.slice none 0 0] 37)).alloc (.cells #[.int .i64 4, .int .i64 7, .int .i64 8] 2)).ownsRow w.heap.size 40 6 v ([] : List Cm).length (([] : List Cm).flatMap cmV)) ∧ ((w.alloc (.cells #[.slice none 0 0] 37)).alloc (.cells #[.int .i64 4, .int .i64 7, .int .i64 8] 2)).heap[T + 1]? = some (.cells #[.int .i64 4, .int .i64 7, .int .i64 8] 2 (0, 0)) ∧ True ∧ (∀ D ∈ ([] : List Nat), ((w.alloc (.cells #[.slice none 0 0] 37)).alloc (.cells #[.int .i64 4, .int .i64 7, .int .i64 8] 2)).heap[D]? = some (.deferred (some []))) ∧ Below w.heap.size w ((w.alloc (.cells #[.slice none 0 0] 37)).alloc (.cells #[.int .i64 4, .int .i64 7, .int .i64 8] 2)) := ⟨hQ, l2, trivial, fun _ h => (by cases h), b2⟩
  clear x1 x2 l2 b1 b2 hQ
  generalize (w.alloc (.cells #[.slice none 0 0] 37)).alloc (.cells #[.int .i64 4, .int .i64 7, .int .i64 8] 2) = V0 at *
  obtain ⟨⟨v1, hv1, hrow1⟩, hlit1, _, hds1, hw1⟩ := hP1
  have l01 : V0.cell? ⟨T + 1, 0, none⟩ = some (.int .i64 4) := by simp [World.cell?, hlit1]
  have ltT1 := hv1.lt
  have ltS1 := (Array.getElem?_eq_some_iff.1 hlit1).1
  have x41 := hv1.alloc (.cells #[.int .i64 4] 2)
  have x51 := x41.alloc (.cells #[.slice A n c] 22)
  have i41 : Boxed (V0.alloc (.cells #[.int .i64 4] 2)) V0.heap.size 2 (.int .i64 4) := Boxed.new _ _ _
  have i51 := i41.alloc (.cells #[.slice A n c] 22)
  have y51 := Boxed.new (V0.alloc (.cells #[.int .i64 4] 2)) 22 (.slice A n c)
  have r51 := (hrow1.alloc (.cells #[.int .i64 4] 2)).alloc (.cells #[.slice A n c] 22)
  have b51 := (hw1.alloc hw1.size (.cells #[.int .i64 4] 2)).alloc (hw1.alloc hw1.size (.cells #[.int .i64 4] 2)).size (.cells #[.slice A n c] 22)
  have q51 : Below V0.heap.size V0 ((V0.alloc (.cells #[.int .i64 4] 2)).alloc (.cells #[.slice A n c] 22)) := ((Below.refl _ V0).alloc (Nat.le_refl _) _).alloc (by simp) _
  have z51 : ((V0.alloc (.cells #[.int .i64 4] 2)).alloc (.cells #[.slice A n c] 22)).heap.size = V0.heap.size + 2 := by simp
  rw [World.size_alloc] at y51
  have P51 : TgP w T (T + 1) V0.heap.size 4 [] ([] : List Cm) ((V0.alloc (.cells #[.int .i64 4] 2)).alloc (.cells #[.slice A n c] 22)) :=
    ⟨⟨v1, x51, r51⟩, (q51.block _ ltS1).trans hlit1, i51, fun D hD => (q51.block D (Array.getElem?_eq_some_iff.1 (hds1 D hD)).1).trans (hds1 D hD), b51⟩
  have HDL1 : Hid (∀ D ∈ ([] : List Nat), D < V0.heap.size) := fun D hD => (Array.getElem?_eq_some_iff.1 (hds1 D hD)).1
  have HSP1 : Hid (∀ b, V0.heap.size + 2 ≤ b → SpT T v1 b) := fun b hb => ⟨by omega, fun e => by have := (hrow1.lt b e).2; omega⟩
  clear hv1 hrow1 hlit1 hds1 i41 i51 x41 r51 q51
  gi_wp2_with (refine ⟨trivial, ?_⟩; gi_at_call 81; refine (good_in A n c _ _).mono ?_; rintro e w' ⟨rfl, rfl⟩)
  generalize (V0.alloc (.cells #[.int .i64 4] 2)).alloc (.cells #[.slice A n c] 22) = w51 at *
  refine wpIn_rangeFunc_ownH rfl (by omega) (gf := 95) (lb := #[.pointer (some ⟨V0.heap.size + 1, 0, none⟩)]) rfl trivial (enters_of Tryz.func95 (by kernel_rfl) rfl)
    (goodt_stops hC 4 (V0.heap.size + 1) T (by omega) A n c xs w51 (by omega) y51.cell ((hr.below b51).more b51.size) hn hnc v1 x51.cell (fun b hb => HSP1.out b (by omega)) (fun _ _ h => h)) KpT.trans (fun W l o o' _ h ho _ => KpT.put o' h ho) (Below.refl _ _) (fun _ => rfl)
    (fun pre W => TgP w T (T + 1) V0.heap.size 4 [] ((pre.map Subtype.val).foldl (tgStep 4) ([] : List Cm)) W) (fun _ _ _ => False) (TgP.own (f := fun pre => (pre.map Subtype.val).foldl (tgStep 4) ([] : List Cm)) (by omega) (by omega) (by omega) (by omega) (fun D hD => by have := HDL1.out D hD; omega)) (fun _ _ _ _ _ hs _ _ => hs) P51
    (TgX T (T + 1) V0.heap.size (fun x Bx => #[.slice A n c, undef, .slice none 0 0, .pointer (some ⟨T, 0, none⟩), undef, .pointer (some ⟨V0.heap.size, 0, none⟩), .pointer (some ⟨Bx, 0, none⟩), undef, .slice (some ⟨T + 1, 0, none⟩) 3 3, .int .i64 3, .int .i64 0, .bool true, .pointer (some ⟨T + 1, 0, none⟩), .int .i64 4, .slice A n c, .func (.func 95) #[] #[.pointer (some ⟨V0.heap.size + 1, 0, none⟩)], .agg #[.int .i64 x.1.kind, .int .i64 x.1.frm, .int .i64 x.1.slot, .int .i64 x.1.place, .int .i64 x.1.target, .bool x.1.good], undef, undef, undef, undef, undef, undef, undef, undef, undef, undef, undef, undef, undef, undef, undef, undef, undef, undef])) (fun _ _ => TgX.own) ?assign1 ?body1 ?done1 ?stop1
  case assign1 =>
    rintro l pre x W K hPa hK
    have lT := (hPa.row.choose_spec.1).lt
    have lS := (Array.getElem?_eq_some_iff.1 hPa.lit).1
    have lI := hPa.ins.lt
    gi_wp2
    exact hK _ _ ((KeepsOthers.alloc _ _).from _) ((KpT.refl _ _).alloc _) (hPa.below ((Below.refl _ W).alloc (Nat.le_refl _) _)) ⟨W.heap.size, lT, lS, lI, World.alloc_heap_new W _, rfl⟩
  case body1 =>
    rintro l pre x a' W hl _ ⟨⟨v, hbx, hrow⟩, hlit, hins, hds, hw⟩ ⟨Bx, h1, h2, h5, h3, rfl⟩ hlt
    have HS := Lib.hid (tg_snoc 4 pre x ([] : List Cm))
    have hol := tg_len 4 pre ([] : List Cm)
    have hob := show ([] : List Cm).length = 0 from rfl
    generalize ((pre.map Subtype.val).foldl (tgStep 4) ([] : List Cm)) = o at *
    obtain ⟨⟨xk, xf, xs', xp, xt, xg⟩, tg⟩ := x
    simp only at tg h3 HS
    subst tg
    obtain ⟨A', c', rfl⟩ := row_form hrow
    have hH := hasTarget_any Bx xt A' c' w.heap.size W.heap.size o W (by omega) (by simp [World.cell?, h3]) ⟨hrow, fun g hg => (hrow.lt g hg).2⟩
    have HH := Lib.hid hH
    have c1 := hbx.cell
    have lB := (Array.getElem?_eq_some_iff.1 h3).1
    clear hH
    gi_wp2_with (refine ⟨trivial, ?_⟩; gi_at_call 82; refine (CallsIn.inRound l (callsIn_wide.2 HH.out)).mono ?_; rintro e W2 ⟨rfl, b2⟩)
    have e0 : W2.cell? ⟨Bx, 0, none⟩ = some (.int .i64 xk) := (b2.cell (p := ⟨Bx, 0, none⟩) lB).trans (by simp [World.cell?, h3])
    have i2 : W2.cell? ⟨V0.heap.size, 0, none⟩ = some (.int .i64 4) := (b2.cell (p := ⟨V0.heap.size, 0, none⟩) hins.lt).trans hins.cell
    have HT : Hid (tgStep 4 o ⟨xk, xf, xs', xp, xt, true⟩ = if kindIn xk = 4 ∧ (o.any fun t => t.target == xt) = false then o ++ [⟨xk, xf, xs', xp, xt, true⟩] else o) := rfl
    cases hk : (kindIn xk == 4)
    · have HE : Hid (tgStep 4 o ⟨xk, xf, xs', xp, xt, true⟩ = o) := by rw [HT.out, if_neg (fun h => by rw [h.1] at hk; simp at hk)]; exact rfl
      clear HT
      gi_wp2_with fail
      refine wpIn_region_quiet_round (by kernel_rfl) (by kernel_rfl) (by kernel_rfl) (by rintro ⟨_, _, h⟩; exact h) ?_
      repeat (quiet_step ((go_at_call 84; exact (kindInside_any _ _).mono (fun _ _ h => ⟨h.1, _, h.2.symm⟩))))
      refine wpQuiet_nil ?_
      intro W3 hW3
      obtain ⟨nq, rfl⟩ := hW3
      have b3 := below_drewN b2 nq
      gi_wp2
      exact ⟨KeepsFrom.of_grownBy (below_grownBy b3) (fun _ e => by cases e), KpT.below b3, by show TgP w T (T + 1) V0.heap.size 4 [] (((pre ++ [(⟨⟨xk, xf, xs', xp, xt, true⟩, rfl⟩ : Gq (fun c => c.good = true))]).map Subtype.val).foldl (tgStep 4) ([] : List Cm)) _; rw [HS.out, HE.out]; exact TgP.below ⟨⟨_, hbx, hrow⟩, hlit, hins, hds, hw⟩ b3⟩
    · cases hn2 : (o.any fun t => t.target == xt)
      · have HE : Hid (tgStep 4 o ⟨xk, xf, xs', xp, xt, true⟩ = o ++ [⟨xk, xf, xs', xp, xt, true⟩]) := by rw [HT.out, if_pos ⟨by simpa using hk, hn2⟩]; exact rfl
        clear HT
        gi_wp2_with fail
        refine wpIn_region_quiet_round (by kernel_rfl) (by kernel_rfl) (by kernel_rfl) (by rintro ⟨_, _, h⟩; exact h) ?_
        repeat (quiet_step ((go_at_call 84; exact (kindInside_any _ _).mono (fun _ _ h => ⟨h.1, _, h.2.symm⟩))))
        refine wpQuiet_nil ?_
        intro W3 hW3
        obtain ⟨nq, rfl⟩ := hW3
        have b3 := below_drewN b2 nq
        generalize W2.drewN nq = W3 at *
        have P3 : TgP w T (T + 1) V0.heap.size 4 [] o W3 := TgP.below ⟨⟨_, hbx, hrow⟩, hlit, hins, hds, hw⟩ b3
        have f0 : W3.cell? ⟨Bx, 0, none⟩ = some (.int .i64 xk) := (b3.cell (p := ⟨Bx, 0, none⟩) lB).trans (by simp [World.cell?, h3])
        have f1 : W3.cell? ⟨Bx, 1, none⟩ = some (.int .i64 xf) := (b3.cell (p := ⟨Bx, 1, none⟩) lB).trans (by simp [World.cell?, h3])
        have f2 : W3.cell? ⟨Bx, 2, none⟩ = some (.int .i64 xs') := (b3.cell (p := ⟨Bx, 2, none⟩) lB).trans (by simp [World.cell?, h3])
        have f3 : W3.cell? ⟨Bx, 3, none⟩ = some (.int .i64 xp) := (b3.cell (p := ⟨Bx, 3, none⟩) lB).trans (by simp [World.cell?, h3])
        have f4 : W3.cell? ⟨Bx, 4, none⟩ = some (.int .i64 xt) := (b3.cell (p := ⟨Bx, 4, none⟩) lB).trans (by simp [World.cell?, h3])
        have f5 : W3.cell? ⟨Bx, 5, none⟩ = some (.bool true) := (b3.cell (p := ⟨Bx, 5, none⟩) lB).trans (by simp [World.cell?, h3])
        have hbx3 := hbx.kept (below_grownBy b3) (by simp)
        have hrow3 := own_below hrow b3
        have c3 := hbx3.cell
        have lw3 := P3.bel.size
        have ltT3 := hbx3.lt
        gi_wp2_with (gi_at_builtin; refine wpListIn_append_t rfl (.tmp 29) (.tmp 31) 37 rfl 40 6 48 _ i0 Tryz.underlying37 hi0 hz0 hz1 hz2 rfl (by omega) (by omega) w.heap.size o.length c' A' _ rfl (hrow3.alloc (.cells #[.int .i64 xk, .int .i64 xf, .int .i64 xs', .int .i64 xp, .int .i64 xt, .bool true] 40)) ⟨W3.heap.size, 0, none⟩ 1 1 #[.int .i64 xk, .int .i64 xf, .int .i64 xs', .int .i64 xp, .int .i64 xt, .bool true].toList rfl (by omega) rfl (by intro j u hj; rw [Addr.add_lit, Nat.zero_add, World.cell?_alloc_new]; simpa using hj) (by simp [Value.oneCell']) (by omega) (by simp; omega) ?_; intro g' cd w6 hown6 hg6 hat6; obtain ⟨bx6, bx7, ow7, ko7, be7⟩ := Boxed.appended (tmp := .cells #[.int .i64 xk, .int .i64 xf, .int .i64 xs', .int .i64 xp, .int .i64 xt, .bool true] 40) hbx3 (by decide) hrow3 lw3 hTw hown6 hg6; have c6 := bx6.cell; have z6 := bx6.frozen)
        refine ⟨(KeepsFrom.of_grownBy (below_grownBy b3) (fun _ e => by cases e)).trans (ko7.from _), ((KpT.below b3).alloc (.cells #[.int .i64 xk, .int .i64 xf, .int .i64 xs', .int .i64 xp, .int .i64 xt, .bool true] 40)).trans (KpT.append (hbx3.alloc _).cell hg6 ?_ (own_away hbx3 (by decide) hrow3)), ?_⟩
        · rcases hat6 with h | h
          · exact .inl h.symm
          · exact .inr (fun g hg => by simp [Value.ownBlock] at hg; omega)
        · have hl6 : w6.heap[T + 1]? = some (.cells #[.int .i64 4, .int .i64 7, .int .i64 8] 2 (0, 0)) := (hg6.block (T + 1) (by have := (Array.getElem?_eq_some_iff.1 P3.lit).1; simp; omega) (fun e => own_away P3.lit (by decide) hrow3 e.symm)).trans ((Below.heap_alloc _ _ _ (Array.getElem?_eq_some_iff.1 P3.lit).1).trans P3.lit)
          have hi6 := (P3.ins.alloc (.cells #[.int .i64 xk, .int .i64 xf, .int .i64 xs', .int .i64 xp, .int .i64 xt, .bool true] 40)).kept hg6 (fun e => own_away P3.ins (by decide) hrow3 e.symm)
          have gs := grownBy_setCell' w6 T (.slice (some ⟨g', 0, none⟩) (o.length + 1) cd)
          show TgP w T (T + 1) V0.heap.size 4 [] (((pre ++ [(⟨⟨xk, xf, xs', xp, xt, true⟩, rfl⟩ : Gq (fun c => c.good = true))]).map Subtype.val).foldl (tgStep 4) ([] : List Cm)) _
          rw [HS.out, HE.out]
          refine ⟨⟨_, bx7, ?_⟩, (gs.block (T + 1) (Array.getElem?_eq_some_iff.1 hl6).1 (fun e => by injection e; omega)).trans hl6, hi6.kept gs (fun e => by injection e; omega), fun D hD => ko7.same D _ (P3.ds D hD) rfl, Below.trans P3.bel be7⟩
          rw [List.length_append, List.flatMap_append]
          exact ow7
      · have HE : Hid (tgStep 4 o ⟨xk, xf, xs', xp, xt, true⟩ = o) := by rw [HT.out, if_neg (fun h => by rw [hn2] at h; cases h.2)]; exact rfl
        clear HT
        gi_wp2_with fail
        refine wpIn_region_quiet_round (by kernel_rfl) (by kernel_rfl) (by kernel_rfl) (by rintro ⟨_, _, h⟩; exact h) ?_
        repeat (quiet_step ((go_at_call 84; exact (kindInside_any _ _).mono (fun _ _ h => ⟨h.1, _, h.2.symm⟩))))
        refine wpQuiet_nil ?_
        intro W3 hW3
        obtain ⟨nq, rfl⟩ := hW3
        have b3 := below_drewN b2 nq
        gi_wp2
        exact ⟨KeepsFrom.of_grownBy (below_grownBy b3) (fun _ e => by cases e), KpT.below b3, by show TgP w T (T + 1) V0.heap.size 4 [] (((pre ++ [(⟨⟨xk, xf, xs', xp, xt, true⟩, rfl⟩ : Gq (fun c => c.good = true))]).map Subtype.val).foldl (tgStep 4) ([] : List Cm)) _; rw [HS.out, HE.out]; exact TgP.below ⟨⟨_, hbx, hrow⟩, hlit, hins, hds, hw⟩ b3⟩
  case stop1 =>
    rintro D c pre W _ _ h _
    exact h.elim
  case done1 =>
    rintro D1 ys V1 hDa1 hS hP2 hK1
    rw [hS] at hP2
    have HHK1 := Lib.hid hK1
    gi_wp2_with fail
    rw [roundsIn_succ]
    obtain ⟨rowN, litN, insN, dsN, belN⟩ := hP2
    have hP2 : (∃ v, Boxed V1 T 37 v ∧ V1.ownsRow w.heap.size 40 6 v (tgRound (claimsL xs) [] 4).length ((tgRound (claimsL xs) [] 4).flatMap cmV)) ∧ V1.heap[T + 1]? = some (.cells #[.int .i64 4, .int .i64 7, .int .i64 8] 2 (0, 0)) ∧ True ∧ (∀ D ∈ ([D1] : List Nat), V1.heap[D]? = some (.deferred (some []))) ∧ Below w.heap.size w V1 := ⟨rowN, litN, trivial, ?dsx1, belN⟩
    case dsx1 =>
      intro D hD
      simp only [List.mem_cons, List.not_mem_nil, or_false] at hD
      subst hD; exact HHK1.out
    clear rowN litN insN dsN belN
    obtain ⟨⟨v2, hv2, hrow2⟩, hlit2, _, hds2, hw2⟩ := hP2
    have l02 : V1.cell? ⟨T + 1, 1, none⟩ = some (.int .i64 7) := by simp [World.cell?, hlit2]
    have ltT2 := hv2.lt
    have ltS2 := (Array.getElem?_eq_some_iff.1 hlit2).1
    have x42 := hv2.alloc (.cells #[.int .i64 7] 2)
    have x52 := x42.alloc (.cells #[.slice A n c] 22)
    have i42 : Boxed (V1.alloc (.cells #[.int .i64 7] 2)) V1.heap.size 2 (.int .i64 7) := Boxed.new _ _ _
    have i52 := i42.alloc (.cells #[.slice A n c] 22)
    have y52 := Boxed.new (V1.alloc (.cells #[.int .i64 7] 2)) 22 (.slice A n c)
    have r52 := (hrow2.alloc (.cells #[.int .i64 7] 2)).alloc (.cells #[.slice A n c] 22)
    have b52 := (hw2.alloc hw2.size (.cells #[.int .i64 7] 2)).alloc (hw2.alloc hw2.size (.cells #[.int .i64 7] 2)).size (.cells #[.slice A n c] 22)
    have q52 : Below V1.heap.size V1 ((V1.alloc (.cells #[.int .i64 7] 2)).alloc (.cells #[.slice A n c] 22)) := ((Below.refl _ V1).alloc (Nat.le_refl _) _).alloc (by simp) _
    have z52 : ((V1.alloc (.cells #[.int .i64 7] 2)).alloc (.cells #[.slice A n c] 22)).heap.size = V1.heap.size + 2 := by simp
    rw [World.size_alloc] at y52
    have P52 : TgP w T (T + 1) V1.heap.size 7 [D1] (tgRound (claimsL xs) [] 4) ((V1.alloc (.cells #[.int .i64 7] 2)).alloc (.cells #[.slice A n c] 22)) :=
      ⟨⟨v2, x52, r52⟩, (q52.block _ ltS2).trans hlit2, i52, fun D hD => (q52.block D (Array.getElem?_eq_some_iff.1 (hds2 D hD)).1).trans (hds2 D hD), b52⟩
    have HDL2 : Hid (∀ D ∈ ([D1] : List Nat), D < V1.heap.size) := fun D hD => (Array.getElem?_eq_some_iff.1 (hds2 D hD)).1
    have HSP2 : Hid (∀ b, V1.heap.size + 2 ≤ b → SpT T v2 b) := fun b hb => ⟨by omega, fun e => by have := (hrow2.lt b e).2; omega⟩
    clear hv2 hrow2 hlit2 hds2 i42 i52 x42 r52 q52
    gi_wp2_with (refine ⟨trivial, ?_⟩; gi_at_call 81; refine (good_in A n c _ _).mono ?_; rintro e w' ⟨rfl, rfl⟩)
    generalize (V1.alloc (.cells #[.int .i64 7] 2)).alloc (.cells #[.slice A n c] 22) = w52 at *
    refine wpIn_rangeFunc_ownH rfl (by omega) (gf := 95) (lb := #[.pointer (some ⟨V1.heap.size + 1, 0, none⟩)]) rfl trivial (enters_of Tryz.func95 (by kernel_rfl) rfl)
      (goodt_stops hC 4 (V1.heap.size + 1) T (by omega) A n c xs w52 (by omega) y52.cell ((hr.below b52).more b52.size) hn hnc v2 x52.cell (fun b hb => HSP2.out b (by omega)) (fun _ _ h => h)) KpT.trans (fun W l o o' _ h ho _ => KpT.put o' h ho) (Below.refl _ _) (fun _ => rfl)
      (fun pre W => TgP w T (T + 1) V1.heap.size 7 [D1] ((pre.map Subtype.val).foldl (tgStep 7) (tgRound (claimsL xs) [] 4)) W) (fun _ _ _ => False) (TgP.own (f := fun pre => (pre.map Subtype.val).foldl (tgStep 7) (tgRound (claimsL xs) [] 4)) (by omega) (by omega) (by omega) (by omega) (fun D hD => by have := HDL2.out D hD; omega)) (fun _ _ _ _ _ hs _ _ => hs) P52
      (TgX T (T + 1) V1.heap.size (fun x Bx => #[.slice A n c, undef, .slice none 0 0, .pointer (some ⟨T, 0, none⟩), undef, .pointer (some ⟨V1.heap.size, 0, none⟩), .pointer (some ⟨Bx, 0, none⟩), undef, .slice (some ⟨T + 1, 0, none⟩) 3 3, .int .i64 3, .int .i64 1, .bool true, .pointer (some ⟨T + 1, 1, none⟩), .int .i64 7, .slice A n c, .func (.func 95) #[] #[.pointer (some ⟨V1.heap.size + 1, 0, none⟩)], .agg #[.int .i64 x.1.kind, .int .i64 x.1.frm, .int .i64 x.1.slot, .int .i64 x.1.place, .int .i64 x.1.target, .bool x.1.good], undef, undef, undef, undef, undef, undef, undef, undef, undef, undef, undef, undef, undef, undef, undef, undef, .int .i64 1, undef])) (fun _ _ => TgX.own) ?assign2 ?body2 ?done2 ?stop2
    case assign2 =>
      rintro l pre x W K hPa hK
      have lT := (hPa.row.choose_spec.1).lt
      have lS := (Array.getElem?_eq_some_iff.1 hPa.lit).1
      have lI := hPa.ins.lt
      gi_wp2
      exact hK _ _ ((KeepsOthers.alloc _ _).from _) ((KpT.refl _ _).alloc _) (hPa.below ((Below.refl _ W).alloc (Nat.le_refl _) _)) ⟨W.heap.size, lT, lS, lI, World.alloc_heap_new W _, rfl⟩
    case body2 =>
      rintro l pre x a' W hl _ ⟨⟨v, hbx, hrow⟩, hlit, hins, hds, hw⟩ ⟨Bx, h1, h2, h5, h3, rfl⟩ hlt
      have HS := Lib.hid (tg_snoc 7 pre x (tgRound (claimsL xs) [] 4))
      have hol := tg_len 7 pre (tgRound (claimsL xs) [] 4)
      have hob := tgRound_one xs
      generalize ((pre.map Subtype.val).foldl (tgStep 7) (tgRound (claimsL xs) [] 4)) = o at *
      obtain ⟨⟨xk, xf, xs', xp, xt, xg⟩, tg⟩ := x
      simp only at tg h3 HS
      subst tg
      obtain ⟨A', c', rfl⟩ := row_form hrow
      have hH := hasTarget_any Bx xt A' c' w.heap.size W.heap.size o W (by omega) (by simp [World.cell?, h3]) ⟨hrow, fun g hg => (hrow.lt g hg).2⟩
      have HH := Lib.hid hH
      have c1 := hbx.cell
      have lB := (Array.getElem?_eq_some_iff.1 h3).1
      clear hH
      gi_wp2_with (refine ⟨trivial, ?_⟩; gi_at_call 82; refine (CallsIn.inRound l (callsIn_wide.2 HH.out)).mono ?_; rintro e W2 ⟨rfl, b2⟩)
      have e0 : W2.cell? ⟨Bx, 0, none⟩ = some (.int .i64 xk) := (b2.cell (p := ⟨Bx, 0, none⟩) lB).trans (by simp [World.cell?, h3])
      have i2 : W2.cell? ⟨V1.heap.size, 0, none⟩ = some (.int .i64 7) := (b2.cell (p := ⟨V1.heap.size, 0, none⟩) hins.lt).trans hins.cell
      have HT : Hid (tgStep 7 o ⟨xk, xf, xs', xp, xt, true⟩ = if kindIn xk = 7 ∧ (o.any fun t => t.target == xt) = false then o ++ [⟨xk, xf, xs', xp, xt, true⟩] else o) := rfl
      cases hk : (kindIn xk == 7)
      · have HE : Hid (tgStep 7 o ⟨xk, xf, xs', xp, xt, true⟩ = o) := by rw [HT.out, if_neg (fun h => by rw [h.1] at hk; simp at hk)]; exact rfl
        clear HT
        gi_wp2_with fail
        refine wpIn_region_quiet_round (by kernel_rfl) (by kernel_rfl) (by kernel_rfl) (by rintro ⟨_, _, h⟩; exact h) ?_
        repeat (quiet_step ((go_at_call 84; exact (kindInside_any _ _).mono (fun _ _ h => ⟨h.1, _, h.2.symm⟩))))
        refine wpQuiet_nil ?_
        intro W3 hW3
        obtain ⟨nq, rfl⟩ := hW3
        have b3 := below_drewN b2 nq
        gi_wp2
        exact ⟨KeepsFrom.of_grownBy (below_grownBy b3) (fun _ e => by cases e), KpT.below b3, by show TgP w T (T + 1) V1.heap.size 7 [D1] (((pre ++ [(⟨⟨xk, xf, xs', xp, xt, true⟩, rfl⟩ : Gq (fun c => c.good = true))]).map Subtype.val).foldl (tgStep 7) (tgRound (claimsL xs) [] 4)) _; rw [HS.out, HE.out]; exact TgP.below ⟨⟨_, hbx, hrow⟩, hlit, hins, hds, hw⟩ b3⟩
      · cases hn2 : (o.any fun t => t.target == xt)
        · have HE : Hid (tgStep 7 o ⟨xk, xf, xs', xp, xt, true⟩ = o ++ [⟨xk, xf, xs', xp, xt, true⟩]) := by rw [HT.out, if_pos ⟨by simpa using hk, hn2⟩]; exact rfl
          clear HT
          gi_wp2_with fail
          refine wpIn_region_quiet_round (by kernel_rfl) (by kernel_rfl) (by kernel_rfl) (by rintro ⟨_, _, h⟩; exact h) ?_
          repeat (quiet_step ((go_at_call 84; exact (kindInside_any _ _).mono (fun _ _ h => ⟨h.1, _, h.2.symm⟩))))
          refine wpQuiet_nil ?_
          intro W3 hW3
          obtain ⟨nq, rfl⟩ := hW3
          have b3 := below_drewN b2 nq
          generalize W2.drewN nq = W3 at *
          have P3 : TgP w T (T + 1) V1.heap.size 7 [D1] o W3 := TgP.below ⟨⟨_, hbx, hrow⟩, hlit, hins, hds, hw⟩ b3
          have f0 : W3.cell? ⟨Bx, 0, none⟩ = some (.int .i64 xk) := (b3.cell (p := ⟨Bx, 0, none⟩) lB).trans (by simp [World.cell?, h3])
          have f1 : W3.cell? ⟨Bx, 1, none⟩ = some (.int .i64 xf) := (b3.cell (p := ⟨Bx, 1, none⟩) lB).trans (by simp [World.cell?, h3])
          have f2 : W3.cell? ⟨Bx, 2, none⟩ = some (.int .i64 xs') := (b3.cell (p := ⟨Bx, 2, none⟩) lB).trans (by simp [World.cell?, h3])
          have f3 : W3.cell? ⟨Bx, 3, none⟩ = some (.int .i64 xp) := (b3.cell (p := ⟨Bx, 3, none⟩) lB).trans (by simp [World.cell?, h3])
          have f4 : W3.cell? ⟨Bx, 4, none⟩ = some (.int .i64 xt) := (b3.cell (p := ⟨Bx, 4, none⟩) lB).trans (by simp [World.cell?, h3])
          have f5 : W3.cell? ⟨Bx, 5, none⟩ = some (.bool true) := (b3.cell (p := ⟨Bx, 5, none⟩) lB).trans (by simp [World.cell?, h3])
          have hbx3 := hbx.kept (below_grownBy b3) (by simp)
          have hrow3 := own_below hrow b3
          have c3 := hbx3.cell
          have lw3 := P3.bel.size
          have ltT3 := hbx3.lt
          gi_wp2_with (gi_at_builtin; refine wpListIn_append_t rfl (.tmp 29) (.tmp 31) 37 rfl 40 6 48 _ i0 Tryz.underlying37 hi0 hz0 hz1 hz2 rfl (by omega) (by omega) w.heap.size o.length c' A' _ rfl (hrow3.alloc (.cells #[.int .i64 xk, .int .i64 xf, .int .i64 xs', .int .i64 xp, .int .i64 xt, .bool true] 40)) ⟨W3.heap.size, 0, none⟩ 1 1 #[.int .i64 xk, .int .i64 xf, .int .i64 xs', .int .i64 xp, .int .i64 xt, .bool true].toList rfl (by omega) rfl (by intro j u hj; rw [Addr.add_lit, Nat.zero_add, World.cell?_alloc_new]; simpa using hj) (by simp [Value.oneCell']) (by omega) (by simp; omega) ?_; intro g' cd w6 hown6 hg6 hat6; obtain ⟨bx6, bx7, ow7, ko7, be7⟩ := Boxed.appended (tmp := .cells #[.int .i64 xk, .int .i64 xf, .int .i64 xs', .int .i64 xp, .int .i64 xt, .bool true] 40) hbx3 (by decide) hrow3 lw3 hTw hown6 hg6; have c6 := bx6.cell; have z6 := bx6.frozen)
          refine ⟨(KeepsFrom.of_grownBy (below_grownBy b3) (fun _ e => by cases e)).trans (ko7.from _), ((KpT.below b3).alloc (.cells #[.int .i64 xk, .int .i64 xf, .int .i64 xs', .int .i64 xp, .int .i64 xt, .bool true] 40)).trans (KpT.append (hbx3.alloc _).cell hg6 ?_ (own_away hbx3 (by decide) hrow3)), ?_⟩
          · rcases hat6 with h | h
            · exact .inl h.symm
            · exact .inr (fun g hg => by simp [Value.ownBlock] at hg; omega)
          · have hl6 : w6.heap[T + 1]? = some (.cells #[.int .i64 4, .int .i64 7, .int .i64 8] 2 (0, 0)) := (hg6.block (T + 1) (by have := (Array.getElem?_eq_some_iff.1 P3.lit).1; simp; omega) (fun e => own_away P3.lit (by decide) hrow3 e.symm)).trans ((Below.heap_alloc _ _ _ (Array.getElem?_eq_some_iff.1 P3.lit).1).trans P3.lit)
            have hi6 := (P3.ins.alloc (.cells #[.int .i64 xk, .int .i64 xf, .int .i64 xs', .int .i64 xp, .int .i64 xt, .bool true] 40)).kept hg6 (fun e => own_away P3.ins (by decide) hrow3 e.symm)
            have gs := grownBy_setCell' w6 T (.slice (some ⟨g', 0, none⟩) (o.length + 1) cd)
            show TgP w T (T + 1) V1.heap.size 7 [D1] (((pre ++ [(⟨⟨xk, xf, xs', xp, xt, true⟩, rfl⟩ : Gq (fun c => c.good = true))]).map Subtype.val).foldl (tgStep 7) (tgRound (claimsL xs) [] 4)) _
            rw [HS.out, HE.out]
            refine ⟨⟨_, bx7, ?_⟩, (gs.block (T + 1) (Array.getElem?_eq_some_iff.1 hl6).1 (fun e => by injection e; omega)).trans hl6, hi6.kept gs (fun e => by injection e; omega), fun D hD => ko7.same D _ (P3.ds D hD) rfl, Below.trans P3.bel be7⟩
            rw [List.length_append, List.flatMap_append]
            exact ow7
        · have HE : Hid (tgStep 7 o ⟨xk, xf, xs', xp, xt, true⟩ = o) := by rw [HT.out, if_neg (fun h => by rw [hn2] at h; cases h.2)]; exact rfl
          clear HT
          gi_wp2_with fail
          refine wpIn_region_quiet_round (by kernel_rfl) (by kernel_rfl) (by kernel_rfl) (by rintro ⟨_, _, h⟩; exact h) ?_
          repeat (quiet_step ((go_at_call 84; exact (kindInside_any _ _).mono (fun _ _ h => ⟨h.1, _, h.2.symm⟩))))
          refine wpQuiet_nil ?_
          intro W3 hW3
          obtain ⟨nq, rfl⟩ := hW3
          have b3 := below_drewN b2 nq
          gi_wp2
          exact ⟨KeepsFrom.of_grownBy (below_grownBy b3) (fun _ e => by cases e), KpT.below b3, by show TgP w T (T + 1) V1.heap.size 7 [D1] (((pre ++ [(⟨⟨xk, xf, xs', xp, xt, true⟩, rfl⟩ : Gq (fun c => c.good = true))]).map Subtype.val).foldl (tgStep 7) (tgRound (claimsL xs) [] 4)) _; rw [HS.out, HE.out]; exact TgP.below ⟨⟨_, hbx, hrow⟩, hlit, hins, hds, hw⟩ b3⟩
    case stop2 =>
      rintro D c pre W _ _ h _
      exact h.elim
    case done2 =>
      rintro D2 ys V2 hDa2 hS hP3 hK2
      rw [hS] at hP3
      have HHK2 := Lib.hid hK2
      gi_wp2_with fail
      rw [roundsIn_succ]
      obtain ⟨rowN, litN, insN, dsN, belN⟩ := hP3
      have hP3 : (∃ v, Boxed V2 T 37 v ∧ V2.ownsRow w.heap.size 40 6 v (tgRound (claimsL xs) (tgRound (claimsL xs) [] 4) 7).length ((tgRound (claimsL xs) (tgRound (claimsL xs) [] 4) 7).flatMap cmV)) ∧ V2.heap[T + 1]? = some (.cells #[.int .i64 4, .int .i64 7, .int .i64 8] 2 (0, 0)) ∧ True ∧ (∀ D ∈ ([D1, D2] : List Nat), V2.heap[D]? = some (.deferred (some []))) ∧ Below w.heap.size w V2 := ⟨rowN, litN, trivial, ?dsx2, belN⟩
      case dsx2 =>
        intro D hD
        simp only [List.mem_cons, List.not_mem_nil, or_false] at hD
        rcases hD with rfl | rfl; exact dsN _ (by simp); exact HHK2.out
      clear rowN litN insN dsN belN
      obtain ⟨⟨v3, hv3, hrow3⟩, hlit3, _, hds3, hw3⟩ := hP3
      have l03 : V2.cell? ⟨T + 1, 2, none⟩ = some (.int .i64 8) := by simp [World.cell?, hlit3]
      have ltT3 := hv3.lt
      have ltS3 := (Array.getElem?_eq_some_iff.1 hlit3).1
      have x43 := hv3.alloc (.cells #[.int .i64 8] 2)
      have x53 := x43.alloc (.cells #[.slice A n c] 22)
      have i43 : Boxed (V2.alloc (.cells #[.int .i64 8] 2)) V2.heap.size 2 (.int .i64 8) := Boxed.new _ _ _
      have i53 := i43.alloc (.cells #[.slice A n c] 22)
      have y53 := Boxed.new (V2.alloc (.cells #[.int .i64 8] 2)) 22 (.slice A n c)
      have r53 := (hrow3.alloc (.cells #[.int .i64 8] 2)).alloc (.cells #[.slice A n c] 22)
      have b53 := (hw3.alloc hw3.size (.cells #[.int .i64 8] 2)).alloc (hw3.alloc hw3.size (.cells #[.int .i64 8] 2)).size (.cells #[.slice A n c] 22)
      have q53 : Below V2.heap.size V2 ((V2.alloc (.cells #[.int .i64 8] 2)).alloc (.cells #[.slice A n c] 22)) := ((Below.refl _ V2).alloc (Nat.le_refl _) _).alloc (by simp) _
      have z53 : ((V2.alloc (.cells #[.int .i64 8] 2)).alloc (.cells #[.slice A n c] 22)).heap.size = V2.heap.size + 2 := by simp
      rw [World.size_alloc] at y53
      have P53 : TgP w T (T + 1) V2.heap.size 8 [D1, D2] (tgRound (claimsL xs) (tgRound (claimsL xs) [] 4) 7) ((V2.alloc (.cells #[.int .i64 8] 2)).alloc (.cells #[.slice A n c] 22)) :=
        ⟨⟨v3, x53, r53⟩, (q53.block _ ltS3).trans hlit3, i53, fun D hD => (q53.block D (Array.getElem?_eq_some_iff.1 (hds3 D hD)).1).trans (hds3 D hD), b53⟩
      have HDL3 : Hid (∀ D ∈ ([D1, D2] : List Nat), D < V2.heap.size) := fun D hD => (Array.getElem?_eq_some_iff.1 (hds3 D hD)).1
      have HSP3 : Hid (∀ b, V2.heap.size + 2 ≤ b → SpT T v3 b) := fun b hb => ⟨by omega, fun e => by have := (hrow3.lt b e).2; omega⟩
      clear hv3 hrow3 hlit3 hds3 i43 i53 x43 r53 q53
      gi_wp2_with (refine ⟨trivial, ?_⟩; gi_at_call 81; refine (good_in A n c _ _).mono ?_; rintro e w' ⟨rfl, rfl⟩)
      generalize (V2.alloc (.cells #[.int .i64 8] 2)).alloc (.cells #[.slice A n c] 22) = w53 at *
      refine wpIn_rangeFunc_ownH rfl (by omega) (gf := 95) (lb := #[.pointer (some ⟨V2.heap.size + 1, 0, none⟩)]) rfl trivial (enters_of Tryz.func95 (by kernel_rfl) rfl)
        (goodt_stops hC 4 (V2.heap.size + 1) T (by omega) A n c xs w53 (by omega) y53.cell ((hr.below b53).more b53.size) hn hnc v3 x53.cell (fun b hb => HSP3.out b (by omega)) (fun _ _ h => h)) KpT.trans (fun W l o o' _ h ho _ => KpT.put o' h ho) (Below.refl _ _) (fun _ => rfl)
        (fun pre W => TgP w T (T + 1) V2.heap.size 8 [D1, D2] ((pre.map Subtype.val).foldl (tgStep 8) (tgRound (claimsL xs) (tgRound (claimsL xs) [] 4) 7)) W) (fun _ _ _ => False) (TgP.own (f := fun pre => (pre.map Subtype.val).foldl (tgStep 8) (tgRound (claimsL xs) (tgRound (claimsL xs) [] 4) 7)) (by omega) (by omega) (by omega) (by omega) (fun D hD => by have := HDL3.out D hD; omega)) (fun _ _ _ _ _ hs _ _ => hs) P53
        (TgX T (T + 1) V2.heap.size (fun x Bx => #[.slice A n c, undef, .slice none 0 0, .pointer (some ⟨T, 0, none⟩), undef, .pointer (some ⟨V2.heap.size, 0, none⟩), .pointer (some ⟨Bx, 0, none⟩), undef, .slice (some ⟨T + 1, 0, none⟩) 3 3, .int .i64 3, .int .i64 2, .bool true, .pointer (some ⟨T + 1, 2, none⟩), .int .i64 8, .slice A n c, .func (.func 95) #[] #[.pointer (some ⟨V2.heap.size + 1, 0, none⟩)], .agg #[.int .i64 x.1.kind, .int .i64 x.1.frm, .int .i64 x.1.slot, .int .i64 x.1.place, .int .i64 x.1.target, .bool x.1.good], undef, undef, undef, undef, undef, undef, undef, undef, undef, undef, undef, undef, undef, undef, undef, undef, .int .i64 2, undef])) (fun _ _ => TgX.own) ?assign3 ?body3 ?done3 ?stop3
      case assign3 =>
        rintro l pre x W K hPa hK
        have lT := (hPa.row.choose_spec.1).lt
        have lS := (Array.getElem?_eq_some_iff.1 hPa.lit).1
        have lI := hPa.ins.lt
        gi_wp2
        exact hK _ _ ((KeepsOthers.alloc _ _).from _) ((KpT.refl _ _).alloc _) (hPa.below ((Below.refl _ W).alloc (Nat.le_refl _) _)) ⟨W.heap.size, lT, lS, lI, World.alloc_heap_new W _, rfl⟩
      case body3 =>
        rintro l pre x a' W hl _ ⟨⟨v, hbx, hrow⟩, hlit, hins, hds, hw⟩ ⟨Bx, h1, h2, h5, h3, rfl⟩ hlt
        have HS := Lib.hid (tg_snoc 8 pre x (tgRound (claimsL xs) (tgRound (claimsL xs) [] 4) 7))
        have hol := tg_len 8 pre (tgRound (claimsL xs) (tgRound (claimsL xs) [] 4) 7)
        have hob := tgRound_two xs
        generalize ((pre.map Subtype.val).foldl (tgStep 8) (tgRound (claimsL xs) (tgRound (claimsL xs) [] 4) 7)) = o at *
        obtain ⟨⟨xk, xf, xs', xp, xt, xg⟩, tg⟩ := x
        simp only at tg h3 HS
        subst tg
        obtain ⟨A', c', rfl⟩ := row_form hrow
        have hH := hasTarget_any Bx xt A' c' w.heap.size W.heap.size o W (by omega) (by simp [World.cell?, h3]) ⟨hrow, fun g hg => (hrow.lt g hg).2⟩
        have HH := Lib.hid hH
        have c1 := hbx.cell
        have lB := (Array.getElem?_eq_some_iff.1 h3).1
        clear hH
        gi_wp2_with (refine ⟨trivial, ?_⟩; gi_at_call 82; refine (CallsIn.inRound l (callsIn_wide.2 HH.out)).mono ?_; rintro e W2 ⟨rfl, b2⟩)
        have e0 : W2.cell? ⟨Bx, 0, none⟩ = some (.int .i64 xk) := (b2.cell (p := ⟨Bx, 0, none⟩) lB).trans (by simp [World.cell?, h3])
        have i2 : W2.cell? ⟨V2.heap.size, 0, none⟩ = some (.int .i64 8) := (b2.cell (p := ⟨V2.heap.size, 0, none⟩) hins.lt).trans hins.cell
        have HT : Hid (tgStep 8 o ⟨xk, xf, xs', xp, xt, true⟩ = if kindIn xk = 8 ∧ (o.any fun t => t.target == xt) = false then o ++ [⟨xk, xf, xs', xp, xt, true⟩] else o) := rfl
        cases hk : (kindIn xk == 8)
        · have HE : Hid (tgStep 8 o ⟨xk, xf, xs', xp, xt, true⟩ = o) := by rw [HT.out, if_neg (fun h => by rw [h.1] at hk; simp at hk)]; exact rfl
          clear HT
          gi_wp2_with fail
          refine wpIn_region_quiet_round (by kernel_rfl) (by kernel_rfl) (by kernel_rfl) (by rintro ⟨_, _, h⟩; exact h) ?_
          repeat (quiet_step ((go_at_call 84; exact (kindInside_any _ _).mono (fun _ _ h => ⟨h.1, _, h.2.symm⟩))))
          refine wpQuiet_nil ?_
          intro W3 hW3
          obtain ⟨nq, rfl⟩ := hW3
          have b3 := below_drewN b2 nq
          gi_wp2
          exact ⟨KeepsFrom.of_grownBy (below_grownBy b3) (fun _ e => by cases e), KpT.below b3, by show TgP w T (T + 1) V2.heap.size 8 [D1, D2] (((pre ++ [(⟨⟨xk, xf, xs', xp, xt, true⟩, rfl⟩ : Gq (fun c => c.good = true))]).map Subtype.val).foldl (tgStep 8) (tgRound (claimsL xs) (tgRound (claimsL xs) [] 4) 7)) _; rw [HS.out, HE.out]; exact TgP.below ⟨⟨_, hbx, hrow⟩, hlit, hins, hds, hw⟩ b3⟩
        · cases hn2 : (o.any fun t => t.target == xt)
          · have HE : Hid (tgStep 8 o ⟨xk, xf, xs', xp, xt, true⟩ = o ++ [⟨xk, xf, xs', xp, xt, true⟩]) := by rw [HT.out, if_pos ⟨by simpa using hk, hn2⟩]; exact rfl
            clear HT
            gi_wp2_with fail
            refine wpIn_region_quiet_round (by kernel_rfl) (by kernel_rfl) (by kernel_rfl) (by rintro ⟨_, _, h⟩; exact h) ?_
            repeat (quiet_step ((go_at_call 84; exact (kindInside_any _ _).mono (fun _ _ h => ⟨h.1, _, h.2.symm⟩))))
            refine wpQuiet_nil ?_
            intro W3 hW3
            obtain ⟨nq, rfl⟩ := hW3
            have b3 := below_drewN b2 nq
            generalize W2.drewN nq = W3 at *
            have P3 : TgP w T (T + 1) V2.heap.size 8 [D1, D2] o W3 := TgP.below ⟨⟨_, hbx, hrow⟩, hlit, hins, hds, hw⟩ b3
            have f0 : W3.cell? ⟨Bx, 0, none⟩ = some (.int .i64 xk) := (b3.cell (p := ⟨Bx, 0, none⟩) lB).trans (by simp [World.cell?, h3])
            have f1 : W3.cell? ⟨Bx, 1, none⟩ = some (.int .i64 xf) := (b3.cell (p := ⟨Bx, 1, none⟩) lB).trans (by simp [World.cell?, h3])
            have f2 : W3.cell? ⟨Bx, 2, none⟩ = some (.int .i64 xs') := (b3.cell (p := ⟨Bx, 2, none⟩) lB).trans (by simp [World.cell?, h3])
            have f3 : W3.cell? ⟨Bx, 3, none⟩ = some (.int .i64 xp) := (b3.cell (p := ⟨Bx, 3, none⟩) lB).trans (by simp [World.cell?, h3])
            have f4 : W3.cell? ⟨Bx, 4, none⟩ = some (.int .i64 xt) := (b3.cell (p := ⟨Bx, 4, none⟩) lB).trans (by simp [World.cell?, h3])
            have f5 : W3.cell? ⟨Bx, 5, none⟩ = some (.bool true) := (b3.cell (p := ⟨Bx, 5, none⟩) lB).trans (by simp [World.cell?, h3])
            have hbx3 := hbx.kept (below_grownBy b3) (by simp)
            have hrow3 := own_below hrow b3
            have c3 := hbx3.cell
            have lw3 := P3.bel.size
            have ltT3 := hbx3.lt
            gi_wp2_with (gi_at_builtin; refine wpListIn_append_t rfl (.tmp 29) (.tmp 31) 37 rfl 40 6 48 _ i0 Tryz.underlying37 hi0 hz0 hz1 hz2 rfl (by omega) (by omega) w.heap.size o.length c' A' _ rfl (hrow3.alloc (.cells #[.int .i64 xk, .int .i64 xf, .int .i64 xs', .int .i64 xp, .int .i64 xt, .bool true] 40)) ⟨W3.heap.size, 0, none⟩ 1 1 #[.int .i64 xk, .int .i64 xf, .int .i64 xs', .int .i64 xp, .int .i64 xt, .bool true].toList rfl (by omega) rfl (by intro j u hj; rw [Addr.add_lit, Nat.zero_add, World.cell?_alloc_new]; simpa using hj) (by simp [Value.oneCell']) (by omega) (by simp; omega) ?_; intro g' cd w6 hown6 hg6 hat6; obtain ⟨bx6, bx7, ow7, ko7, be7⟩ := Boxed.appended (tmp := .cells #[.int .i64 xk, .int .i64 xf, .int .i64 xs', .int .i64 xp, .int .i64 xt, .bool true] 40) hbx3 (by decide) hrow3 lw3 hTw hown6 hg6; have c6 := bx6.cell; have z6 := bx6.frozen)
            refine ⟨(KeepsFrom.of_grownBy (below_grownBy b3) (fun _ e => by cases e)).trans (ko7.from _), ((KpT.below b3).alloc (.cells #[.int .i64 xk, .int .i64 xf, .int .i64 xs', .int .i64 xp, .int .i64 xt, .bool true] 40)).trans (KpT.append (hbx3.alloc _).cell hg6 ?_ (own_away hbx3 (by decide) hrow3)), ?_⟩
            · rcases hat6 with h | h
              · exact .inl h.symm
              · exact .inr (fun g hg => by simp [Value.ownBlock] at hg; omega)
            · have hl6 : w6.heap[T + 1]? = some (.cells #[.int .i64 4, .int .i64 7, .int .i64 8] 2 (0, 0)) := (hg6.block (T + 1) (by have := (Array.getElem?_eq_some_iff.1 P3.lit).1; simp; omega) (fun e => own_away P3.lit (by decide) hrow3 e.symm)).trans ((Below.heap_alloc _ _ _ (Array.getElem?_eq_some_iff.1 P3.lit).1).trans P3.lit)
              have hi6 := (P3.ins.alloc (.cells #[.int .i64 xk, .int .i64 xf, .int .i64 xs', .int .i64 xp, .int .i64 xt, .bool true] 40)).kept hg6 (fun e => own_away P3.ins (by decide) hrow3 e.symm)
              have gs := grownBy_setCell' w6 T (.slice (some ⟨g', 0, none⟩) (o.length + 1) cd)
              show TgP w T (T + 1) V2.heap.size 8 [D1, D2] (((pre ++ [(⟨⟨xk, xf, xs', xp, xt, true⟩, rfl⟩ : Gq (fun c => c.good = true))]).map Subtype.val).foldl (tgStep 8) (tgRound (claimsL xs) (tgRound (claimsL xs) [] 4) 7)) _
              rw [HS.out, HE.out]
              refine ⟨⟨_, bx7, ?_⟩, (gs.block (T + 1) (Array.getElem?_eq_some_iff.1 hl6).1 (fun e => by injection e; omega)).trans hl6, hi6.kept gs (fun e => by injection e; omega), fun D hD => ko7.same D _ (P3.ds D hD) rfl, Below.trans P3.bel be7⟩
              rw [List.length_append, List.flatMap_append]
              exact ow7
          · have HE : Hid (tgStep 8 o ⟨xk, xf, xs', xp, xt, true⟩ = o) := by rw [HT.out, if_neg (fun h => by rw [hn2] at h; cases h.2)]; exact rfl
            clear HT
            gi_wp2_with fail
            refine wpIn_region_quiet_round (by kernel_rfl) (by kernel_rfl) (by kernel_rfl) (by rintro ⟨_, _, h⟩; exact h) ?_
            repeat (quiet_step ((go_at_call 84; exact (kindInside_any _ _).mono (fun _ _ h => ⟨h.1, _, h.2.symm⟩))))
            refine wpQuiet_nil ?_
            intro W3 hW3
            obtain ⟨nq, rfl⟩ := hW3
            have b3 := below_drewN b2 nq
            gi_wp2
            exact ⟨KeepsFrom.of_grownBy (below_grownBy b3) (fun _ e => by cases e), KpT.below b3, by show TgP w T (T + 1) V2.heap.size 8 [D1, D2] (((pre ++ [(⟨⟨xk, xf, xs', xp, xt, true⟩, rfl⟩ : Gq (fun c => c.good = true))]).map Subtype.val).foldl (tgStep 8) (tgRound (claimsL xs) (tgRound (claimsL xs) [] 4) 7)) _; rw [HS.out, HE.out]; exact TgP.below ⟨⟨_, hbx, hrow⟩, hlit, hins, hds, hw⟩ b3⟩
      case stop3 =>
        rintro D c pre W _ _ h _
        exact h.elim
      case done3 =>
        rintro D3 ys V3 hDa3 hS hP4 hK3
        rw [hS] at hP4
        have HHK3 := Lib.hid hK3
        obtain ⟨⟨v, hv, hrow⟩, hlit, _, hds, hw⟩ := hP4
        obtain ⟨A', c', rfl⟩ := row_form hrow
        have c1 := hv.cell
        have hD1 := hds D1 (by simp)
        have hD2 := hds D2 (by simp)
        have l1 := (Array.getElem?_eq_some_iff.1 hD1).1
        have n12 : D1 ≠ D2 := by have := HDL2.out D1 (by simp); omega
        have n23 : D2 ≠ D3 := by have := HDL3.out D2 (by simp); omega
        have n13 : D1 ≠ D3 := by have := HDL3.out D1 (by simp); omega
        have hwD1 : w.heap.size ≤ D1 := by have := hw1.size; omega
        have hwD2 : w.heap.size ≤ D2 := by have := hw2.size; omega
        have hwD3 : w.heap.size ≤ D3 := by have := hw3.size; omega
        have g7 := grownBy_putObj' V3 D3 (.deferred none)
        have hD2' := (g7.block D2 (Array.getElem?_eq_some_iff.1 hD2).1 (fun e => n23 (by injection e))).trans hD2
        have hD1' := (g7.block D1 l1 (fun e => n13 (by injection e))).trans hD1
        have g8 := grownBy_putObj' (V3.putObj D3 (.deferred none)) D2 (.deferred none)
        have hD1'' := (g8.block D1 (Array.getElem?_eq_some_iff.1 hD1').1 (fun e => n12 (by injection e))).trans hD1'
        have g9 := grownBy_putObj' ((V3.putObj D3 (.deferred none)).putObj D2 (.deferred none)) D1 (.deferred none)
        have o9 := ownsRow_putObj (ownsRow_putObj (ownsRow_putObj hrow (.deferred none) HHK3.out rfl) (.deferred none) hD2' rfl) (.deferred none) hD1'' rfl
        have b9 := ((hw.grown g7 hw.size (fun k e => by cases e; omega)).grown g8 (Nat.le_trans hw.size g7.size) (fun k e => by cases e; omega)).grown g9 (Nat.le_trans (Nat.le_trans hw.size g7.size) g8.size) (fun k e => by cases e; omega)
        gi_wp2_with fail
        rw [roundsIn_succ]
        gi_wp2_with fail
        refine ⟨by simp, .inl ⟨_, _, rfl, run_takeDeferred HHK3.out, ?_⟩⟩
        refine ⟨by simp, .inl ⟨_, _, rfl, run_takeDeferred hD2', ?_⟩⟩
        refine ⟨by simp, .inl ⟨_, _, rfl, run_takeDeferred hD1'', ?_⟩⟩
        refine ⟨_, results_tmp rfl _ _ _, ?_⟩
        exact ⟨A', c', rfl, ⟨o9, fun g hg => (o9.lt g hg).2⟩, b9⟩

set_option maxHeartbeats 1000000 in
theorem wordMustBe_any (word kind : Int) (counts : List Int) (gc cc : Nat) (w : World) (hc : ∀ j, j < 64 → w.cell? ⟨gc, j, none⟩ = some (.int .i64 (counts.getD j 0))) (ht : targetOf word ≠ 0 → 0 ≤ targetOf word ∧ targetOf word < 64) :
    Calls Tryz.prog 69 #[.int .i64 word, .int .i64 kind, .slice (some ⟨gc, 0, none⟩) 64 cc] w fun e w' => e = .returned (.int .i64 (wordMust word kind counts)) ∧ w = w' := by
  have HW : Hid (wordMust word kind counts = entryOf (targetOf word) (!(targetOf word == 0) && (!(kind == 3) && counts.getD (targetOf word).toNat 0 == 1))) := rfl
  generalize wordMust word kind counts = r at *
  by_cases h0 : targetOf word = 0
  · rw [h0] at HW
    have HE : Hid (r = entryOf 0 false) := by rw [HW.out]; exact rfl
    go_enter Tryz.func69, Tryz.ntmps69
    go_wp2_with fail
    refine (implTarget_any _ _).mono ?_
    rintro e w' ⟨rfl, rfl⟩
    rw [h0]
    go_wp2_with fail
    refine (implEntry_any _ _ _).mono ?_
    rintro e w' ⟨rfl, rfl⟩
    go_wp2_with fail
    go_ret
    exact ⟨by rw [HE.out]; rfl, rfl⟩
  · obtain ⟨t0, t1⟩ := ht h0
    clear ht
    generalize hte : targetOf word = t at *
    have HTE := Lib.hid hte
    clear hte
    obtain ⟨τ, rfl⟩ := Int.eq_ofNat_of_zero_le t0
    have hτ : τ < 64 := by omega
    have d0 : ((τ : Int) != 0) = true := by simpa using h0
    have d1 : ((τ : Int) == 0) = false := by simpa using h0
    have hcc := hc τ hτ
    clear hc h0
    rw [Int.toNat_natCast, d1] at HW
    generalize counts.getD τ 0 = y at *
    by_cases hk : kind = 3
    · subst hk
      have HE : Hid (r = entryOf τ false) := by rw [HW.out]; exact rfl
      go_enter Tryz.func69, Tryz.ntmps69
      go_wp2_with fail
      refine (implTarget_any _ _).mono ?_
      rintro e w' ⟨rfl, rfl⟩
      rw [HTE.out]
      go_wp2_with fail
      refine (implEntry_any _ _ _).mono ?_
      rintro e w' ⟨rfl, rfl⟩
      go_wp2_with fail
      go_ret
      exact ⟨by rw [HE.out]; rfl, rfl⟩
    · have dk : (kind != 3) = true := by simpa using hk
      have dk2 : (kind == 3) = false := by simpa using hk
      have HE : Hid (r = entryOf τ (y == 1)) := by rw [HW.out, dk2]; exact rfl
      go_enter Tryz.func69, Tryz.ntmps69
      go_wp2_with fail
      refine (implTarget_any _ _).mono ?_
      rintro e w' ⟨rfl, rfl⟩
      rw [HTE.out]
      go_wp2_with fail
      refine (implEntry_any _ _ _).mono ?_
      rintro e w' ⟨rfl, rfl⟩
      go_wp2_with fail
      go_ret
      exact ⟨by rw [HE.out]; rfl, rfl⟩

theorem grown_step {A B C : World} {r s : Option Nat} (h : A.grownBy B r) (k : B.grownBy C s) (hs : s = r ∨ ∀ g, s = some g → A.heap.size ≤ g) : A.grownBy C r :=
  ⟨k.os.trans h.os, k.tape.trans h.tape, k.output.trans h.output, Nat.le_trans h.size k.size, fun j hj hne => (k.block j (Nat.lt_of_lt_of_le hj h.size) (fun e => by
    rcases hs with rfl | hs
    · exact hne e
    · have := hs j e.symm; omega)).trans (h.block j hj hne)⟩

/-- append of a new block that lies behind all onto a row of one's own, nil or not: and where what comes out lies. -/
theorem wpList_append_t {P : Program} {w : World} {ops : Array Oper} {rest : List Oper} {o : Oper} {a : Act} {Q : Exit → Act → World → Prop} (hgd : o.guard = none) (s x : Operand) (t : TypeId)
    (ho : o.op = .call { callee := .builtin .append, args := #[s, x], argTypes := #[t, t] })
    (e : TypeId) (sz by_ : Nat) (z : Value) (i : TypeInfo) (ht : P.underlying t = some (.slice e)) (hi : P.info? e = some i) (hz : i.zero = some z) (hsize : i.size = sz) (hby : i.bytes = by_) (hzs : z.cells.size = sz) (hsz : 0 < sz) (hb8 : by_ ≤ 1000)
    (lo hi' n c : Nat) (A : Option Addr) (cs : List Value) (hs : a.eval s = .slice A n c) (hown : OwR e sz w lo hi' A n c cs)
    (news : Array Value) (m c' q : Nat) (hq : w.heap.size = q) (hx : a.eval x = .slice (some ⟨q, 0, none⟩) m c') (hm : 0 < m) (hl : news.size = m * sz) (h1 : ∀ u ∈ news.toList, u.oneCell' = true)
    (hnm : n + m ≤ 16777216) (hlo : lo ≤ w.heap.size)
    (h : ∀ (g' cd : Nat) (w' : World), OwR e sz w' lo w'.heap.size (some ⟨g', 0, none⟩) (n + m) cd (cs ++ news.toList) → w.grownBy w' (Value.ownBlock (.slice A n c)) → (Value.ownBlock (.slice A n c) = some g' ∨ w.heap.size ≤ g') → wpList P ops Q rest (a.put o.dst (.slice (some ⟨g', 0, none⟩) (n + m) cd)) w') :
    wpList P ops Q (o :: rest) a (w.alloc (.cells news e)) := by
  subst hq
  have hal : w.grownBy (w.alloc (.cells news e)) none := ⟨rfl, rfl, rfl, by simp, fun k hk _ => Below.heap_alloc _ _ _ hk⟩
  have hown' := hown.grown hal (fun _ h => by cases h)
  obtain ⟨g', cd, w', hr, h2, h3, h4⟩ := run_append_t (P := P) (w.alloc (.cells news e)) t o.type e sz by_ z i ht hi hz hsize hby hzs hsz hb8 lo n c A cs hown'.own ⟨w.heap.size, 0, none⟩ m c' news.toList hm (by simpa using hl) (by
    intro j u hj
    rw [Addr.add_lit, Nat.zero_add, World.cell?_alloc_new]
    simpa using hj) h1 hnm (by simp; omega)
  have hg : w.grownBy w' (Value.ownBlock (.slice A n c)) :=
    ⟨h3.os.trans hal.os, h3.tape.trans hal.tape, h3.output.trans hal.output, Nat.le_trans hal.size h3.size, fun j hj hne => (h3.block j (Nat.lt_of_lt_of_le hj hal.size) hne).trans (hal.block j hj (by simp))⟩
  refine wpList_plain hgd fun K hK => ?_
  unfold Oper.wp execOp
  simp only [ho, resolve, invoke, builtin, Sem.run_bind, Sem.run_pure, Result.andThen_ok, List.map_toArray, List.map_cons, List.map_nil, hs, hx, hr]
  exact hK _ _ (h g' cd w' ⟨h2, fun g hg => (h2.lt g hg).2⟩ hg (h4.imp id (fun h => by simp at h; omega)))

theorem od_take (xs : List Int) (loose : List Cm) (counts : List Int) (l : List Cm) (k : Nat) (hk : k < l.length) : (l.take (k + 1)).foldl (odRound xs loose counts) [] = odRound xs loose counts ((l.take k).foldl (odRound xs loose counts) []) (l.getD k cm0) := by
  rw [List.take_succ_eq_append_getElem hk, List.foldl_append, show l.getD k cm0 = l[k] by simp [List.getD_eq_getElem?_getD, hk]]
  rfl
theorem odRound_length (xs : List Int) (loose : List Cm) (counts : List Int) (o : List Dc) (to : Cm) : (odRound xs loose counts o to).length ≤ o.length + 8 := by
  have := foldl_length (odStep xs loose counts to) 1 (odStep_length xs loose counts to) (List.range 8) o
  unfold odRound; simp at this; omega

set_option maxRecDepth 100000 in
set_option maxHeartbeats 8000000 in
theorem wrongWords_any (hC : ClaimsC) (hL : LooseC) (hCo : CountsC) (hT : TableC) {aN aM aG : Addr} (A : Option Addr) (n c : Nat) (xs : List Int) (w : World) (hG : GlE w aN aM aG) (hr : Rd w w.heap.size A n xs) (hn : n ≤ 2097152) (hnc : n ≤ c) (hh : hasHead xs = true) :
    Calls Tryz.prog 41 #[.slice A n c] w (RetE aM aG w (ownDefs xs)) := by
  obtain ⟨i0, hi0, hz0, hz1, hz2⟩ := info_parts infoEr
  have HH := Lib.hid hh
  clear hh
  go_enter Tryz.func41, Tryz.ntmps41
  go_wp2_with fail
  refine (hL A n c xs w hr hn hnc).mono ?_
  rintro e w2 ⟨G, cg, rfl, oG, b2⟩
  go_wp2_with fail
  refine (hCo A n c xs w2 ((hr.below b2).more b2.size) hn hnc).mono ?_
  rintro e w3 ⟨C, nc, c3, rfl, oc, b3⟩
  have hce : countsL xs = countsC (claimsC xs) := by unfold countsL; rw [HH.out]; rfl
  rw [hce] at oc
  obtain rfl : 64 = nc := by have := oc.len; rw [counts_length] at this; exact this
  rcases oc.form with ⟨_, h0, _⟩ | ⟨gc, rfl, k1, k2, k3, k4⟩
  · omega
  have b03 := below_more b2 b3 b2.size
  go_wp2_with fail
  refine (tablesGone_any hC A n c xs w3 ((hr.below b03).more b03.size) hn hnc).mono ?_
  rintro e w4 ⟨X, cx, rfl, oX, b4⟩
  have hcl : claimsL xs = claimsC xs := by unfold claimsL; rw [HH.out]; rfl
  rw [hcl] at oX ⊢
  have b04 := below_more b03 b4 b03.size
  have hs2 := b2.size
  have hs3 := b3.size
  have hs4 := b4.size
  have HB := Lib.hid b04
  have HGL := Lib.hid ((oG.below b3 (Nat.le_refl _)).below b4 hs3)
  have HCC := Lib.hid (fun (j : Nat) (hj : j < 64) => (oc.below b4 (Nat.le_refl _)).cell hj)
  have HX := Lib.hid oX
  have HR := Lib.hid ((hr.below b04).more b04.size)
  have hG4 := hG.below b04 hG.size
  have hGB := hG4.size
  have hll := looseL_length xs
  have htl := tg_length xs
  have HTM := Lib.hid (fun (t : Cm) (h : t ∈ tgL (claimsC xs)) => tg_mem h)
  have HOW := Lib.hid (fun (t : Cm) (h : t ∈ tgL (claimsC xs)) (i : Nat) (hi : i < 8) => own_word HH.out (countsC (claimsC xs)) h i hi _ rfl)
  have HTH := Lib.hid (fun (t : Cm) (h : t ∈ tgL (claimsC xs)) => tables_there (xs := xs) (by rw [← tg_tables]; exact List.mem_map_of_mem h))
  have HD : Hid (ownDefs xs = (tgL (claimsC xs)).foldl (odRound xs (looseL xs) (countsC (claimsC xs))) []) := rfl
  clear oG oc oX b2 b3 b4 b03 b04 hr hG hce hcl
  generalize ownDefs xs = dd at *
  generalize tgL (claimsC xs) = tl at *
  generalize countsC (claimsC xs) = counts at *
  generalize looseL xs = loose at *
  generalize hw4 : w4.heap.size = B at *
  go_wp2_with fail
  go_loopw [3, 17] (fun v i wr => ∃ (k : Nat) (A' : Option Addr) (c' : Nat), k ≤ tl.length ∧ i = .int .i64 k ∧ v = .slice A' ((tl.take k).foldl (odRound xs loose counts) []).length c' ∧
    OwR 48 1 wr B wr.heap.size A' ((tl.take k).foldl (odRound xs loose counts) []).length c' (((tl.take k).foldl (odRound xs loose counts) []).map (erV aM aG)) ∧ Below B w4 wr) (fun _ i _ => tl.length - (intOf i).toNat)
  case atStart => exact ⟨0, none, 0, Nat.zero_le _, rfl, rfl, OwR.nil _ _ _ _ _, Below.refl _ _⟩
  case round =>
    obtain ⟨k, A', c', hk, rfl, rfl, hok, hg⟩ := hrel
    have sr := hg.size
    by_cases hlt : k < tl.length
    · obtain ⟨gt, rfl, hg1, hg2, hg3, hce⟩ := cmr_cells HX.out hlt
      have hce := hce wr (hg.block gt (by omega))
      have HS := Lib.hid (od_take xs loose counts tl k hlt)
      have HLe : Hid (((tl.take k).foldl (odRound xs loose counts) []).length ≤ 32000) := by
        have h1 := foldl_length (odRound xs loose counts) 8 (odRound_length xs loose counts) (tl.take k) []
        have h2 : (tl.take k).length ≤ k := List.length_take_le _ _
        simp at h1
        show _ ≤ _
        omega
      have hkm : tl.getD k cm0 ∈ tl := by rw [show tl.getD k cm0 = tl[k] by simp [List.getD_eq_getElem?_getD, hlt]]; exact List.getElem_mem hlt
      have HO8 := Lib.hid (HOW.out _ hkm)
      have hth := HTH.out _ hkm
      clear hkm
      generalize (tl.take k).foldl (odRound xs loose counts) [] = ok at *
      generalize hxe : tl.getD k cm0 = x at *
      have HXE := Lib.hid hxe
      clear hxe
      have HOD : Hid (odRound xs loose counts ok x = (List.range 8).foldl (odStep xs loose counts x) ok) := rfl
      have HST : Hid (∀ (o : List Dc) (i : Nat), odStep xs loose counts x o i = if standB loose x.target i = false ∧ (cl xs x.target.toNat).getD i 0 ≠ wordMust ((cl xs x.target.toNat).getD i 0) x.kind counts then o ++ [⟨7, x.target, i⟩] else o) := fun _ _ => rfl
      have hsl := odStep_length xs loose counts x
      generalize odStep xs loose counts x = F at *
      obtain ⟨xk, xf, xs', xp, xt, xg⟩ := x
      simp only at hth HO8 HST
      have e0 : wr.cell? ⟨gt, k * 6, none⟩ = some (.int .i64 xk) := hce 0 (by omega)
      have e1 : wr.cell? ⟨gt, k * 6 + 1, none⟩ = some (.int .i64 xf) := hce 1 (by omega)
      have e2 : wr.cell? ⟨gt, k * 6 + 2, none⟩ = some (.int .i64 xs') := hce 2 (by omega)
      have e3 : wr.cell? ⟨gt, k * 6 + 3, none⟩ = some (.int .i64 xp) := hce 3 (by omega)
      have e4 : wr.cell? ⟨gt, k * 6 + 4, none⟩ = some (.int .i64 xt) := hce 4 (by omega)
      have e5 : wr.cell? ⟨gt, k * 6 + 5, none⟩ = some (.bool xg) := hce 5 (by omega)
      clear hce
      have b1 := hg.alloc (by omega) (.cells #[.int .i64 xk, .int .i64 xf, .int .i64 xs', .int .i64 xp, .int .i64 xt, .bool xg] 40)
      have q1 := (Below.refl wr.heap.size wr).alloc (Nat.le_refl _) (.cells #[.int .i64 xk, .int .i64 xf, .int .i64 xs', .int .i64 xp, .int .i64 xt, .bool xg] 40)
      have n1 : (wr.alloc (.cells #[.int .i64 xk, .int .i64 xf, .int .i64 xs', .int .i64 xp, .int .i64 xt, .bool xg] 40)).heap[wr.heap.size]? = some (.cells #[.int .i64 xk, .int .i64 xf, .int .i64 xs', .int .i64 xp, .int .i64 xt, .bool xg] 40 (0, 0)) := World.alloc_heap_new wr _
      have z1 : (wr.alloc (.cells #[.int .i64 xk, .int .i64 xf, .int .i64 xs', .int .i64 xp, .int .i64 xt, .bool xg] 40)).heap.size = wr.heap.size + 1 := by simp
      have hTb := hT A n c xs xt _ ((HR.out.below b1).more (by omega)) hn hnc
      have HTb := Lib.hid hTb
      have HTL := Lib.hid (tableL_in HH.out hth)
      clear hTb
      go_wp2_with fail
      refine HTb.out.mono ?_
      rintro e w5 ⟨Y, ny, cy, rfl, oY, b5⟩
      rw [HTL.out] at oY
      obtain rfl : 8 = ny := by have := oY.len; rw [cl_length] at this; exact this
      rcases oY.form with ⟨_, h0, _⟩ | ⟨gy, rfl, y1, y2, y3, y4⟩
      · omega
      have s5 := b5.size
      have ok5 := (hok.below q1 (Nat.le_refl _)).below b5 (by omega)
      have B5 := Below.trans b1 (b5.mono (by omega))
      have N5 := Lib.hid ((b5.block wr.heap.size (by omega)).trans n1)
      have HY := Lib.hid (fun (j : Nat) (hj : j < 8) => oY.cell hj)
      have hA0 := hok.row
      have HA0 := Lib.hid hA0
      clear b5 oY n1 q1 b1 hok e0 e1 e2 e3 e4 e5 HTb hA0
      generalize hqe : wr.heap.size = q at *
      generalize hr0 : Value.ownBlock (.slice A' ok.length c') = r0 at *
      have HR0 := Lib.hid hr0
      clear hr0
      have hokl := HLe.out
      go_wp2_with fail
      go_loopw [3, 26] (fun v i wr => ∃ (j : Nat) (A2 : Option Addr) (c2 : Nat), j ≤ 8 ∧ i = .int .i64 j ∧ v = .slice A2 ((List.range j).foldl F ok).length c2 ∧
        OwR 48 1 wr B wr.heap.size A2 ((List.range j).foldl F ok).length c2 (((List.range j).foldl F ok).map (erV aM aG)) ∧ w5.grownBy wr r0 ∧ (Value.ownBlock (.slice A2 ((List.range j).foldl F ok).length c2) = r0 ∨ ∀ g, Value.ownBlock (.slice A2 ((List.range j).foldl F ok).length c2) = some g → w5.heap.size ≤ g)) (fun _ i _ => 8 - (intOf i).toNat)
      case atStart => exact ⟨0, A', c', Nat.zero_le _, rfl, rfl, ok5.more (Nat.le_refl _) (by omega), grown_refl _ _, .inl HR0.out⟩
      case round =>
        obtain ⟨j, A2, c2, hj, rfl, rfl, ho2, hg2, hat⟩ := hrel
        have AT := Lib.hid hat
        clear hat
        have sr2 := hg2.size
        have hq0 : some q ≠ r0 := fun e => by have := (HA0.out q e.symm).2.2; omega
        have hy0 : some gy ≠ r0 := fun e => by have := (HA0.out gy e.symm).2.2; omega
        have nb := (hg2.block q (by omega) hq0).trans N5.out
        have BL : Below B w4 wr := B5.grown hg2 (by omega) (fun g e => (HA0.out g e).1)
        by_cases hj8 : j < 8
        · have HRF := Lib.hid (range_fold F ok j)
          have HL2 : Hid (((List.range j).foldl F ok).length ≤ 32008) := by
            have h1 := foldl_length F 1 hsl (List.range j) ok
            simp at h1
            show _ ≤ _
            omega
          have hl2 := HL2.out
          generalize (List.range j).foldl F ok = oj at *
          have hcy : wr.cell? ⟨gy, j, none⟩ = some (.int .i64 ((cl xs xt.toNat).getD j 0)) := (World.cell?_of_block (hg2.block gy (by omega) hy0)).trans (HY.out j hj8)
          have f0 : wr.cell? ⟨q, 0, none⟩ = some (.int .i64 xk) := by simp [World.cell?, nb]
          have f4 : wr.cell? ⟨q, 4, none⟩ = some (.int .i64 xt) := by simp [World.cell?, nb]
          have HO9 := Lib.hid (HO8.out j hj8).2
          have HS9 := Lib.hid (HST.out oj j)
          have hSt := standsIn_any G cg w.heap.size w2.heap.size loose xt j wr (by omega) (HGL.out.below BL (by omega)) (by omega)
          have HSt := Lib.hid hSt
          clear hSt
          generalize (cl xs xt.toNat).getD j 0 = wd at *
          go_wp2_with fail
          refine HSt.out.mono ?_
          rintro e w6 ⟨rfl, b6⟩
          have s6 := b6.size
          have G6 : w5.grownBy w6 r0 := grown_step hg2 (below_grownBy b6) (.inr (fun _ e => by cases e))
          have o6 := ho2.below b6 (Nat.le_refl _)
          have f46 : w6.cell? ⟨q, 4, none⟩ = some (.int .i64 xt) := (b6.cell (p := ⟨q, 4, none⟩) (by show q < _; omega)).trans f4
          have f06 : w6.cell? ⟨q, 0, none⟩ = some (.int .i64 xk) := (b6.cell (p := ⟨q, 0, none⟩) (by show q < _; omega)).trans f0
          have BL6 := Below.trans BL (b6.mono (by omega))
          cases hst : standB loose xt j
          · obtain ⟨_, hbd⟩ := HO9.out hst
            have hM := wordMustBe_any wd xk counts gc c3 w6 (fun i hi => (World.cell?_of_block (BL6.block gc (by omega))).trans (HCC.out i hi)) hbd
            have HM := Lib.hid hM
            clear hM hbd
            go_wp2_with fail
            refine HM.out.mono ?_
            rintro e w' ⟨rfl, rfl⟩
            generalize wordMust wd xk counts = mu at *
            by_cases hne : wd = mu
            · have HE : Hid (F oj j = oj) := by rw [HS9.out, if_neg (fun h => h.2 hne)]; exact rfl
              have dn : (wd != mu) = false := by simpa using hne
              clear hne
              go_wp2_with fail
              go_roundw
              case rel =>
                refine ⟨j + 1, A2, c2, by omega, by go_num, by rw [HRF.out, HE.out], ?_, G6, ?_⟩
                · rw [HRF.out, HE.out]; exact o6.more (Nat.le_refl _) s6
                · rw [HRF.out, HE.out]; exact AT.out
              case measure => simp [intOf]; omega
            · have HE : Hid (F oj j = oj ++ [⟨7, xt, j⟩]) := by rw [HS9.out, if_pos ⟨hst, hne⟩]; exact rfl
              have dn : (wd != mu) = true := by simpa using hne
              clear hne
              have hG6 := hG4.below BL6 hGB
              go_wp2_with fail
              refine (wrongBy_any _ _ _ _ hG6).mono ?_
              rintro e w' ⟨rfl, rfl⟩
              unfold erV
              go_wp2_with (at_builtin; refine wpList_append_t rfl (.tmp 46) (.tmp 51) 45 rfl 48 1 16 _ i0 Tryz.underlying45 hi0 hz0 hz1 hz2 rfl (by omega) (by omega) B wr.heap.size oj.length c2 A2 _ rfl o6 #[erV aM aG ⟨7, xt, j⟩] 1 1 w6.heap.size rfl rfl (by omega) rfl (by simp [Value.oneCell', erV]) (by omega) (by omega) ?_; intro g7 cd w7 ho7 hg7 hat7)
              go_roundw
              case rel =>
                refine ⟨j + 1, some ⟨g7, 0, none⟩, cd, by omega, by go_num, by rw [HRF.out, HE.out]; simp, ?_, grown_step G6 hg7 (AT.out.imp id (fun h g e => h g e)), ?_⟩
                · rw [HRF.out, HE.out, List.map_append, List.length_append]; exact ho7
                · rcases hat7 with h | h
                  · rcases AT.out with h2 | h2
                    · exact .inl (h.symm.trans h2 ▸ rfl)
                    · exact .inr (fun g e => by have := h2 g7 h; simp [Value.ownBlock] at e; omega)
                  · exact .inr (fun g e => by simp [Value.ownBlock] at e; omega)
              case measure => simp [intOf]; omega
          · have HE : Hid (F oj j = oj) := by rw [HS9.out, if_neg (fun h => by rw [hst] at h; cases h.1)]; exact rfl
            go_wp2_with fail
            go_roundw
            case rel =>
              refine ⟨j + 1, A2, c2, by omega, by go_num, by rw [HRF.out, HE.out], ?_, G6, ?_⟩
              · rw [HRF.out, HE.out]; exact o6.more (Nat.le_refl _) s6
              · rw [HRF.out, HE.out]; exact AT.out
            case measure => simp [intOf]; omega
        · obtain rfl : j = 8 := by omega
          go_wp2_with fail
          go_roundw
          case rel => exact ⟨k + 1, A2, c2, by omega, by go_num, by rw [HS.out, HOD.out], by rw [HS.out, HOD.out]; exact ho2, BL⟩
          case measure => simp [intOf]; omega
    · obtain rfl : k = tl.length := by omega
      rw [List.take_length] at hok ⊢
      go_wp2_with fail
      go_ret
      rw [HD.out]
      exact ⟨A', c', rfl, hok.more (by have := HB.out.size; omega) (Nat.le_refl _), HB.out.trans (hg.mono (by have := HB.out.size; omega))⟩

/-- append(nil, make(T, n)...): the run. -/
theorem run_append_mk_nil {P : Program} (w : World) (t u ty e : TypeId) (i : TypeInfo) (z : Value) (ht : P.underlying t = some (.slice e)) (hu : P.underlying u = some (.int .i64)) (hi : P.info? e = some i) (hz : i.zero = some z)
    (n : Nat) (hn0 : n * i.size ≠ 0) (hnb : (n : Int) * i.bytes ≤ 281474976710656) (hn9 : n ≤ 1000000) (hn1 : 0 < n) (hfit : Builtin.nextslicecap n 0 * i.bytes ≤ 281474976710656) :
    (Builtin.append_ #[t, u] ty #[.slice none 0 0, .int .i64 n]).run P w =
      .ok (.slice (some ⟨w.heap.size, 0, none⟩) n (grownCap w n 0 e))
        (w.drew.alloc (.cells (Builtin.zeroCells z.cells n ++ Builtin.zeroCells z.cells (grownCap w n 0 e - n)) e)) := by
  have hn : ¬ (n ≤ 0) := by omega
  have h63' : ¬ (9223372036854775807 < (n : Int)) := by omega
  have h48' : ¬ (281474976710656 < Builtin.nextslicecap n 0 * i.bytes) := by omega
  have hw : IntKind.i64.wrap (n : Int) = n := IntWalk.i64_in _ (by omega)
  have hneg : ¬ ((n : Int) < 0) := by omega
  have hnb' : ¬ (281474976710656 < (n : Int) * i.bytes) := by omega
  have hne : ¬ (n = 0) := by omega
  simp [Builtin.append_, run_underlying ht, run_underlying hu, sizeOf, typeInfo, zeroValue, hi, hz, Builtin.lenOf, hne, h63', h48', Question.forced, newRow, grownCap, asInt, asIntOf, hw, hneg, hnb', Builtin.firstCells]
  intro h; exact absurd h hn0

theorem wpList_append_mk_nil {P : Program} {w : World} {ops : Array Oper} {rest : List Oper} {o : Oper} {a : Act} {Q : Exit → Act → World → Prop} (hgd : o.guard = none) (s x : Operand) (t u : TypeId)
    (ho : o.op = .call { callee := .builtin .append, args := #[s, x], argTypes := #[t, u] })
    (e : TypeId) (by_ : Nat) (z : Value) (i : TypeInfo) (ht : P.underlying t = some (.slice e)) (hu : P.underlying u = some (.int .i64)) (hi : P.info? e = some i) (hz : i.zero = some z) (hsize : i.size = 1) (hby : i.bytes = by_) (hzs : z.cells.size = 1) (hb8 : by_ ≤ 1000)
    (lo : Nat) (hs : a.eval s = .slice none 0 0) (m : Nat) (hx : a.eval x = .int .i64 m) (hm : 0 < m) (hm2 : m ≤ 1000000) (hlo : lo ≤ w.heap.size)
    (h : ∀ (cd : Nat) (w' : World), m ≤ cd → OwR e 1 w' lo w'.heap.size (some ⟨w.heap.size, 0, none⟩) 0 cd [] → w.grownBy w' none → wpList P ops Q rest (a.put o.dst (.slice (some ⟨w.heap.size, 0, none⟩) m cd)) w') :
    wpList P ops Q (o :: rest) a w := by
  have hbytes : m * i.bytes ≤ 140737488355328 := by
    rw [hby]
    have : m * by_ ≤ 1000000 * 1000 := Nat.mul_le_mul hm2 hb8
    omega
  have hr := run_append_mk_nil (P := P) w t u o.type e i z ht hu hi hz m (by rw [hsize]; omega) (by have : ((m * i.bytes : Nat) : Int) ≤ 281474976710656 := by omega
                                                                                                    simpa using this) hm2 hm (growslice_fits (by omega) hbytes)
  have hge := grownCap_ge w m 0 e
  have hcm : grownCap w m 0 e ≤ maxLen := grownCap_le_maxLen w m 0 e (by simp only [maxLen]; omega)
  generalize hcap : grownCap w m 0 e = cap at *
  have hsz : (Builtin.zeroCells z.cells m ++ Builtin.zeroCells z.cells (cap - m)).size = cap * 1 := by
    simp only [Array.size_append, size_zeroCells, hzs]
    omega
  have ho2 : (w.drew.alloc (.cells (Builtin.zeroCells z.cells m ++ Builtin.zeroCells z.cells (cap - m)) e)).ownsRow lo e 1 (.slice (some ⟨w.heap.size, 0, none⟩) 0 cap) 0 [] :=
    ⟨by simp, .inr ⟨w.heap.size, cap, _, rfl, hlo, heap_alloc_new w.drew _, by omega, hcm, hsz, by simp⟩⟩
  refine wpList_plain hgd fun K hK => ?_
  unfold Oper.wp execOp
  simp only [ho, resolve, invoke, builtin, Sem.run_bind, Sem.run_pure, Result.andThen_ok, List.map_toArray, List.map_cons, List.map_nil, hs, hx, hr]
  exact hK _ _ (h cap _ hge ⟨ho2, fun g hg => (ho2.lt g hg).2⟩ ⟨rfl, rfl, rfl, by simp, fun k hk _ => Below.heap_alloc _ _ _ hk⟩)

set_option maxRecDepth 100000 in
set_option maxHeartbeats 1000000 in
theorem grow_any (N : Nat) (w : World) (hN : N ≤ 1000000) : Calls Tryz.prog 62 #[.slice none 0 0, .int .i64 N] w (RetR 48 1 w 0 []) := by
  obtain ⟨i0, hi0, hz0, hz1, hz2⟩ := info_parts infoEr
  have d0 : decide ((N : Int) < 0) = false := by simp
  by_cases h0 : N = 0
  · subst h0
    go_enter Tryz.func62, Tryz.ntmps62
    go_wp2_with fail
    go_ret
    exact ⟨none, 0, rfl, OwR.nil _ _ _ _ _, Below.refl _ _⟩
  · have d1 : decide ((0 : Int) < (N : Int)) = true := by simp; omega
    go_enter Tryz.func62, Tryz.ntmps62
    go_wp2_with (at_builtin; refine wpList_append_mk_nil rfl (.tmp 20) (.tmp 21) 45 3 rfl 48 16 _ i0 Tryz.underlying45 Tryz.underlying3 hi0 hz0 hz1 hz2 rfl (by omega) w.heap.size rfl N rfl (by omega) hN (Nat.le_refl _) ?_; intro cd w2 hcd ho2 hg2)
    go_ret
    exact ⟨_, cd, rfl, ho2, below_grown hg2 (Nat.le_refl _) (fun _ e => by cases e)⟩

theorem own_form {W : World} {base e size k : Nat} {v : Value} {xs : List Value} (h : W.ownsRow base e size v k xs) : ∃ A c, v = .slice A k c := by
  rcases h.2 with ⟨rfl, rfl⟩ | ⟨g, cap, cur, rfl, _⟩
  · exact ⟨none, 0, rfl⟩
  · exact ⟨_, cap, rfl⟩

/-- A row that is a part. -/
structure Pt where
  a : Option Addr
  n : Nat
  c : Nat
  l : List Value
def pt0 : Pt := ⟨none, 0, 0, []⟩
def pts (ps : List Pt) : List Value := ps.flatMap (·.l)
theorem pts_take (ps : List Pt) (k : Nat) (hk : k < ps.length) : pts (ps.take (k + 1)) = pts (ps.take k) ++ (ps.getD k pt0).l := by
  unfold pts
  rw [List.take_succ_eq_append_getElem hk, List.flatMap_append, show ps.getD k pt0 = ps[k] by simp [List.getD_eq_getElem?_getD, hk]]
  simp

set_option maxRecDepth 100000 in
set_option maxHeartbeats 4000000 in
theorem concat_any (ps : List Pt) (S lo : Nat) (w : World) (hps : ps.length ≤ 8) (hS : ∀ k, k < ps.length → w.cell? ⟨S, k, none⟩ = some (.slice (ps.getD k pt0).a (ps.getD k pt0).n (ps.getD k pt0).c)) (hSl : S < w.heap.size)
    (hP : ∀ p ∈ ps, OwR 48 1 w lo w.heap.size p.a p.n p.c p.l ∧ p.n ≤ 40000 ∧ ∀ u ∈ p.l, u.oneCell' = true) :
    Calls Tryz.prog 36 #[.slice (some ⟨S, 0, none⟩) ps.length ps.length] w (RetR 48 1 w (pts ps).length (pts ps)) := by
  obtain ⟨i0, hi0, hz0, hz1, hz2⟩ := info_parts infoEr
  have HP : Hid (∀ k, k < ps.length → OwR 48 1 w lo w.heap.size (ps.getD k pt0).a (ps.getD k pt0).n (ps.getD k pt0).c (ps.getD k pt0).l ∧ (ps.getD k pt0).n ≤ 40000 ∧ ∀ u ∈ (ps.getD k pt0).l, u.oneCell' = true) := fun k hk => by
    rw [show ps.getD k pt0 = ps[k] by simp [List.getD_eq_getElem?_getD, hk]]; exact hP _ (List.getElem_mem hk)
  have HLen : Hid (∀ k, k ≤ ps.length → (pts (ps.take k)).length ≤ 40000 * k) := fun k => by
    induction k with
    | zero => intro _; simp [pts]
    | succ k ih =>
      intro hk
      have h1 := ih (by omega)
      obtain ⟨h2, h3, _⟩ := HP.out k (by omega)
      have h4 := h2.len
      rw [pts_take ps k (by omega), List.length_append]
      omega
  have HS := Lib.hid hS
  clear hP hS
  go_enter Tryz.func36, Tryz.ntmps36
  go_wp2_with fail
  go_loopw [3, 11] (fun s i wr => ∃ k : Nat, k ≤ ps.length ∧ i = .int .i64 k ∧ s = .int .i64 ((pts (ps.take k)).length : Nat) ∧ wr = w) (fun _ i _ => ps.length - (intOf i).toNat)
  case atStart => exact ⟨0, Nat.zero_le _, rfl, by simp [pts], rfl⟩
  case round =>
    obtain ⟨k, hk, rfl, rfl, rfl⟩ := hrel
    by_cases hlt : k < ps.length
    · have hc := HS.out k hlt
      have HT := Lib.hid (pts_take ps k hlt)
      have hl1 := HLen.out k (by omega)
      obtain ⟨o1, o2, _⟩ := HP.out k hlt
      have HO := Lib.hid o1.len
      clear o1
      generalize pts (ps.take k) = L at *
      generalize ps.getD k pt0 = p at *
      obtain ⟨pa, pn, pc, pl⟩ := p
      simp only at hc o2 HO HT
      generalize hll : L.length = ll at *
      have d1 : decide ((ll : Int) + (pn : Int) < 0) = false := by simp; omega
      go_wp2_with fail
      go_roundw
      case rel =>
        refine ⟨k + 1, by omega, by go_num, ?_, by first | rfl | trivial⟩
        rw [HT.out, List.length_append, HO.out, hll]
        go_num
      case measure => simp [intOf]; omega
    · obtain rfl : k = ps.length := by omega
      rw [List.take_length]
      have hlT := HLen.out ps.length (Nat.le_refl _)
      rw [List.take_length] at hlT
      obtain ⟨wb, rfl⟩ : ∃ wb, wb = wr := ⟨_, rfl⟩
      go_wp2_with fail
      refine (grow_any (pts ps).length wb (by omega)).mono ?_
      rintro e w2 ⟨A2, c2, rfl, o2, b2⟩
      have hs2 := b2.size
      go_wp2_with fail
      go_loopw [6, 27] (fun v i wz => ∃ (k : Nat) (A' : Option Addr) (c' : Nat), k ≤ ps.length ∧ i = .int .i64 k ∧ v = .slice A' (pts (ps.take k)).length c' ∧ OwR 48 1 wz wb.heap.size wz.heap.size A' (pts (ps.take k)).length c' (pts (ps.take k)) ∧ Below wb.heap.size wb wz) (fun _ i _ => ps.length - (intOf i).toNat)
      case atStart => exact ⟨0, A2, c2, Nat.zero_le _, rfl, by simp [pts], by simpa [pts] using o2, b2⟩
      case round =>
        obtain ⟨k, A', c', hk, rfl, rfl, hok, hg⟩ := hrel
        have sr := hg.size
        by_cases hlt : k < ps.length
        · have hc := (World.cell?_of_block (a := ⟨S, k, none⟩) (hg.block S hSl)).trans (HS.out k hlt)
          have HT := Lib.hid (pts_take ps k hlt)
          have hl1 := HLen.out k (by omega)
          obtain ⟨p1, p2, p3⟩ := HP.out k hlt
          have HO := Lib.hid p1.len
          have q1 := p1.below hg (Nat.le_refl _)
          have H3 := Lib.hid p3
          clear p1 p3
          generalize pts (ps.take k) = L at *
          generalize ps.getD k pt0 = p at *
          obtain ⟨pa, pn, pc, pl⟩ := p
          simp only at hc p2 HO HT q1 H3
          rcases q1.form with ⟨rfl, rfl, rfl⟩ | ⟨gp, rfl, g1, g2, g3, g4⟩
          · obtain rfl : pl = [] := List.eq_nil_of_length_eq_zero (by simpa using HO.out)
            go_wp2_with (at_builtin; refine wpList_append_own_none rfl (.tmp 31) (.tmp 32) 45 rfl wb.heap.size 48 i0 1 Tryz.underlying45 hi0 _ L.length L rfl hok.own rfl ?_)
            go_roundw
            case rel => exact ⟨k + 1, A', c', by omega, by go_num, by rw [HT.out]; simp, by rw [HT.out]; simpa using hok, hg⟩
            case measure => simp [intOf]; omega
          · have hcp := q1.own.cells (g := gp) rfl
            have HCP := Lib.hid hcp
            clear hcp
            go_wp2_with (at_builtin; refine wpList_append_own _ rfl (.tmp 31) (.tmp 32) 45 rfl wb.heap.size 48 i0 _ 1 16 Tryz.underlying45 hi0 hz0 hz1 hz2 rfl (by omega) _ L.length L rfl hok.own ⟨gp, 0, none⟩ pn pc pl rfl HO.out HCP.out H3.out (by simp only [maxLen]; omega) (by omega) (by omega) ?_; intro v5 w5 ho5 hg5 hi5; obtain ⟨A5, c5, rfl⟩ := own_form ho5)
            go_roundw
            case rel =>
              refine ⟨k + 1, A5, c5, by omega, by go_num, ?_, ?_, hg.grown hg5 hg.size (fun g e => (hok.row g e).1)⟩
              · rw [HT.out, List.length_append, HO.out, Nat.mul_one]
              · rw [HT.out, List.length_append, HO.out, Nat.mul_one]; exact ⟨ho5, fun g hg => (ho5.lt g hg).2⟩
            case measure => simp [intOf]; omega
        · obtain rfl : k = ps.length := by omega
          rw [List.take_length] at hok ⊢
          go_wp2_with fail
          go_ret
          exact ⟨A', c', rfl, hok, hg⟩

theorem concat5_any {aM aG : Addr} (l1 l2 l3 l4 l5 : List Dc) (A1 A2 A3 A4 A5 : Option Addr) (c1 c2 c3 c4 c5 lo : Nat) (w : World)
    (o1 : OwR 48 1 w lo w.heap.size A1 l1.length c1 (l1.map (erV aM aG))) (o2 : OwR 48 1 w lo w.heap.size A2 l2.length c2 (l2.map (erV aM aG))) (o3 : OwR 48 1 w lo w.heap.size A3 l3.length c3 (l3.map (erV aM aG))) (o4 : OwR 48 1 w lo w.heap.size A4 l4.length c4 (l4.map (erV aM aG))) (o5 : OwR 48 1 w lo w.heap.size A5 l5.length c5 (l5.map (erV aM aG)))
    (h1 : l1.length ≤ 40000) (h2 : l2.length ≤ 40000) (h3 : l3.length ≤ 40000) (h4 : l4.length ≤ 40000) (h5 : l5.length ≤ 40000) :
    Calls Tryz.prog 36 #[.slice (some ⟨w.heap.size, 0, none⟩) 5 5] (w.alloc (.cells #[.slice A1 l1.length c1, .slice A2 l2.length c2, .slice A3 l3.length c3, .slice A4 l4.length c4, .slice A5 l5.length c5] 45))
      (RetE aM aG (w.alloc (.cells #[.slice A1 l1.length c1, .slice A2 l2.length c2, .slice A3 l3.length c3, .slice A4 l4.length c4, .slice A5 l5.length c5] 45)) ((((l1 ++ l2) ++ l3) ++ l4) ++ l5)) := by
  have q := (Below.refl w.heap.size w).alloc (Nat.le_refl _) (.cells #[.slice A1 l1.length c1, .slice A2 l2.length c2, .slice A3 l3.length c3, .slice A4 l4.length c4, .slice A5 l5.length c5] 45)
  have hb : (w.alloc (.cells #[.slice A1 l1.length c1, .slice A2 l2.length c2, .slice A3 l3.length c3, .slice A4 l4.length c4, .slice A5 l5.length c5] 45)).heap[w.heap.size]? = some (.cells #[.slice A1 l1.length c1, .slice A2 l2.length c2, .slice A3 l3.length c3, .slice A4 l4.length c4, .slice A5 l5.length c5] 45 (0, 0)) := World.alloc_heap_new w _
  have hs : (w.alloc (.cells #[.slice A1 l1.length c1, .slice A2 l2.length c2, .slice A3 l3.length c3, .slice A4 l4.length c4, .slice A5 l5.length c5] 45)).heap.size = w.heap.size + 1 := by simp
  generalize w.alloc (.cells #[.slice A1 l1.length c1, .slice A2 l2.length c2, .slice A3 l3.length c3, .slice A4 l4.length c4, .slice A5 l5.length c5] 45) = W at *
  have key := concat_any [⟨A1, l1.length, c1, l1.map (erV aM aG)⟩, ⟨A2, l2.length, c2, l2.map (erV aM aG)⟩, ⟨A3, l3.length, c3, l3.map (erV aM aG)⟩, ⟨A4, l4.length, c4, l4.map (erV aM aG)⟩, ⟨A5, l5.length, c5, l5.map (erV aM aG)⟩] w.heap.size lo W (by simp)
    (fun k hk => by
      have hk5 : k < 5 := hk
      rcases (show k = 0 ∨ k = 1 ∨ k = 2 ∨ k = 3 ∨ k = 4 by omega) with rfl | rfl | rfl | rfl | rfl <;> simp [World.cell?, hb])
    (by omega)
    (fun p hp => by
      simp only [List.mem_cons, List.not_mem_nil, or_false] at hp
      rcases hp with rfl | rfl | rfl | rfl | rfl
      · exact ⟨(o1.below q (Nat.le_refl _)).more (Nat.le_refl _) (by omega), h1, ers_one aM aG l1⟩
      · exact ⟨(o2.below q (Nat.le_refl _)).more (Nat.le_refl _) (by omega), h2, ers_one aM aG l2⟩
      · exact ⟨(o3.below q (Nat.le_refl _)).more (Nat.le_refl _) (by omega), h3, ers_one aM aG l3⟩
      · exact ⟨(o4.below q (Nat.le_refl _)).more (Nat.le_refl _) (by omega), h4, ers_one aM aG l4⟩
      · exact ⟨(o5.below q (Nat.le_refl _)).more (Nat.le_refl _) (by omega), h5, ers_one aM aG l5⟩)
  have e : pts [⟨A1, l1.length, c1, l1.map (erV aM aG)⟩, ⟨A2, l2.length, c2, l2.map (erV aM aG)⟩, ⟨A3, l3.length, c3, l3.map (erV aM aG)⟩, ⟨A4, l4.length, c4, l4.map (erV aM aG)⟩, ⟨A5, l5.length, c5, l5.map (erV aM aG)⟩] = ((((l1 ++ l2) ++ l3) ++ l4) ++ l5).map (erV aM aG) := by simp [pts]
  rw [e, List.length_map] at key
  exact key

theorem d5_parts {xs : List Int} (hh : hasHead xs = true) : d5L xs = (((d1L xs ++ (looseL xs).map looseD) ++ shotD (headOf xs)) ++ cntDefs (storedL xs) (countsC (claimsC xs))) ++ ownDefs xs := by
  rw [own_defs hh]
  unfold d5L d4L d3L d2L shotD
  split <;> simp

/-- What allWrong answers. -/
def errsL (aN aM aG : Addr) (xs : List Int) : List Value := if imgB xs = true then (defectsL xs).map (erV aM aG) else [.iface 138 (.pointer (some aN))]

theorem box5 {w w' : World} {q : Nat} {B : Nat} (b : Below B w w') (hq : q < B) {v0 v1 v2 v3 v4 : Value} (h0 : w.cell? ⟨q, 0, none⟩ = some v0) (h1 : w.cell? ⟨q, 1, none⟩ = some v1) (h2 : w.cell? ⟨q, 2, none⟩ = some v2) (h3 : w.cell? ⟨q, 3, none⟩ = some v3) (h4 : w.cell? ⟨q, 4, none⟩ = some v4) :
    w'.cell? ⟨q, 0, none⟩ = some v0 ∧ w'.cell? ⟨q, 1, none⟩ = some v1 ∧ w'.cell? ⟨q, 2, none⟩ = some v2 ∧ w'.cell? ⟨q, 3, none⟩ = some v3 ∧ w'.cell? ⟨q, 4, none⟩ = some v4 :=
  ⟨(b.cell (p := ⟨q, 0, none⟩) hq).trans h0, (b.cell (p := ⟨q, 1, none⟩) hq).trans h1, (b.cell (p := ⟨q, 2, none⟩) hq).trans h2, (b.cell (p := ⟨q, 3, none⟩) hq).trans h3, (b.cell (p := ⟨q, 4, none⟩) hq).trans h4⟩

set_option maxRecDepth 100000 in
set_option maxHeartbeats 8000000 in
theorem allWrong_any (hC : ClaimsC) (hL : LooseC) (hCo : CountsC) (hSt : StoredC) (hT : TableC) {aN aM aG : Addr} (A : Option Addr) (n c : Nat) (xs : List Int) (w : World) (hG : GlE w aN aM aG) (hr : Rd w w.heap.size A n xs) (hn : n ≤ 2097152) (hnc : n ≤ c) :
    Calls Tryz.prog 20 #[.slice A n c] w (RetR 48 1 w (errsL aN aM aG xs).length (errsL aN aM aG xs)) := by
  have g0 := hG.noImg
  cases hi : imgB xs
  · have HE : Hid (errsL aN aM aG xs = [.iface 138 (.pointer (some aN))]) := by unfold errsL; rw [hi]; exact rfl
    have HR1 := Lib.hid (madeV 48 1 w #[.iface 138 (.pointer (some aN))] 1 w.heap.size (w.heap.size + 1) w.heap.size (Nat.le_refl _) rfl (by omega) (by omega) rfl)
    go_enter Tryz.func20, Tryz.ntmps20
    go_wp2_with fail
    refine (implImg_any A n c xs _ _ hr hn).mono ?_
    rintro e w' ⟨rfl, rfl⟩
    rw [hi]
    go_wp2_with fail
    go_ret
    rw [HE.out]
    exact ⟨_, 1, rfl, HR1.out.toR.more (Nat.le_refl _) (by simp), (Below.refl _ w).alloc (Nat.le_refl _) _⟩
  · have HE : Hid (errsL aN aM aG xs = (defectsL xs).map (erV aM aG)) := by unfold errsL; rw [hi]; exact rfl
    go_enter Tryz.func20, Tryz.ntmps20
    go_wp2_with fail
    refine (implImg_any A n c xs _ _ hr hn).mono ?_
    rintro e w' ⟨rfl, rfl⟩
    rw [hi]
    go_wp2_with fail
    refine (implHeadIn_any A n c xs w hr hn).mono ?_
    rintro e w1 ⟨rfl, b1⟩
    generalize hhd : headIn xs = r
    obtain ⟨⟨s, f, r, u, m⟩, is⟩ := r
    have HR := Lib.hid hhd
    clear hhd
    unfold hdV
    have b2 := b1.alloc b1.size (.cells #[.int .i64 s, .int .i64 f, .int .i64 r, .int .i64 u, .int .i64 m] 32)
    have hG2 := hG.below b2 hG.size
    have hGz := hG2.size
    have n2 := World.alloc_heap_new w1 (.cells #[.int .i64 s, .int .i64 f, .int .i64 r, .int .i64 u, .int .i64 m] 32)
    have s2 : (w1.alloc (.cells #[.int .i64 s, .int .i64 f, .int .i64 r, .int .i64 u, .int .i64 m] 32)).heap.size = w1.heap.size + 1 := by simp
    cases is
    · have HN : Hid (defectsL xs = [⟨1, 0, 0⟩]) := by unfold defectsL; rw [hi, (headIn_false HR.out).1]; exact rfl
      go_wp2_with fail
      refine (wrongBy_any _ _ _ _ hG2).mono ?_
      rintro e w' ⟨rfl, rfl⟩
      have hR := RetE.one aM aG w _ ⟨1, 0, 0⟩ b2
      unfold erV at hR ⊢
      go_wp2_with fail
      go_ret
      rw [HE.out, HN.out]
      unfold RetE at hR
      simpa [erV] using hR
    · have hh := (headIn_true HR.out).1
      have hho : headOf xs = ⟨s, f, r, u, m⟩ := (headIn_true HR.out).2
      have HN : Hid (defectsL xs = (((d1L xs ++ (looseL xs).map looseD) ++ shotD ⟨s, f, r, u, m⟩) ++ cntDefs (storedL xs) (countsC (claimsC xs))) ++ ownDefs xs) := by
        unfold defectsL; rw [hi, if_pos rfl, if_pos hh, d5_parts hh, hho]; exact rfl
      have K1 := Lib.hid (fun (W : World) (h : GlE W aN aM aG) (_ : Rd W W.heap.size A n xs) => wrongLength_any A n c xs W h hr.len hn)
      have K2 := Lib.hid (fun (W : World) (h : GlE W aN aM aG) (h' : Rd W W.heap.size A n xs) => wrongClaims_any hL A n c xs W h h' hn hnc)
      have K3 := Lib.hid (fun (W : World) (h : GlE W aN aM aG) => wrongShots_any s f r u m W h)
      have K4 := Lib.hid (fun (W : World) (h : GlE W aN aM aG) (h' : Rd W W.heap.size A n xs) => wrongCounts_any hSt hCo A n c xs W h h' hn hnc hh)
      have K5 := Lib.hid (fun (W : World) (h : GlE W aN aM aG) (h' : Rd W W.heap.size A n xs) => wrongWords_any hC hL hCo hT A n c xs W h h' hn hnc hh)
      have y1 : (d1L xs).length ≤ 40000 := by unfold d1L; split <;> simp
      have y2 : ((looseL xs).map looseD).length ≤ 40000 := by have := looseL_length xs; rw [List.length_map]; omega
      have y3 : (shotD ⟨s, f, r, u, m⟩).length ≤ 40000 := by unfold shotD; split <;> simp
      have y4 : (cntDefs (storedL xs) (countsC (claimsC xs))).length ≤ 40000 := by have := cntDefs_length (storedL xs) (countsC (claimsC xs)); omega
      have y5 : (ownDefs xs).length ≤ 40000 := by have := wrongs_length xs; rw [own_defs hh, List.length_map]; omega
      have r2 := (hr.below b2).more b2.size
      have HB2 := Lib.hid b2
      clear hho hh HR hi
      generalize d1L xs = l1 at *
      generalize (looseL xs).map looseD = l2 at *
      generalize shotD ⟨s, f, r, u, m⟩ = l3 at *
      generalize cntDefs (storedL xs) (countsC (claimsC xs)) = l4 at *
      generalize ownDefs xs = l5 at *
      go_wp2_with fail
      generalize w1.alloc (.cells #[.int .i64 s, .int .i64 f, .int .i64 r, .int .i64 u, .int .i64 m] 32) = v2 at *
      generalize w1.heap.size = q at *
      have p0 : v2.cell? ⟨q, 0, none⟩ = some (.int .i64 s) := by simp [World.cell?, n2]
      have p1 : v2.cell? ⟨q, 1, none⟩ = some (.int .i64 f) := by simp [World.cell?, n2]
      have p2 : v2.cell? ⟨q, 2, none⟩ = some (.int .i64 r) := by simp [World.cell?, n2]
      have p3 : v2.cell? ⟨q, 3, none⟩ = some (.int .i64 u) := by simp [World.cell?, n2]
      have p4 : v2.cell? ⟨q, 4, none⟩ = some (.int .i64 m) := by simp [World.cell?, n2]
      have hql : q < v2.heap.size := by omega
      have hGd : GlE v2.drew aN aM aG := ⟨hG2.size, hG2.noImg, hG2.mild, hG2.grave⟩
      have hrd : Rd v2.drew v2.heap.size A n xs := r2
      clear n2 s2 hG2 r2 b2 b1 g0 hr hG
      go_region_held3 (fun w' => w'.cell? ⟨q, 0, none⟩ = some (.int .i64 s) ∧ w'.cell? ⟨q, 1, none⟩ = some (.int .i64 f) ∧ w'.cell? ⟨q, 2, none⟩ = some (.int .i64 r) ∧ w'.cell? ⟨q, 3, none⟩ = some (.int .i64 u) ∧ w'.cell? ⟨q, 4, none⟩ = some (.int .i64 m))
        (first
          | (go_split_ands; exact box5 bF (by simp; omega) (by assumption) (by assumption) (by assumption) (by assumption) (by assumption))
          | (go_split_ands; exact box5 bE (by omega) (by assumption) (by assumption) (by assumption) (by assumption) (by assumption))
          | (go_split_ands; exact box5 bD (by omega) (by assumption) (by assumption) (by assumption) (by assumption) (by assumption))
          | (go_split_ands; exact box5 bC (by omega) (by assumption) (by assumption) (by assumption) (by assumption) (by assumption))
          | (go_split_ands; exact box5 bB (by omega) (by assumption) (by assumption) (by assumption) (by assumption) (by assumption))
          | (go_split_ands; exact box5 bA hql (by assumption) (by assumption) (by assumption) (by assumption) (by assumption))
          | (go_split_ands; exact box5 ((Below.refl _ wE).alloc (Nat.le_refl _) _) (by omega) (by assumption) (by assumption) (by assumption) (by assumption) (by assumption))
          | (go_split_ands; exact ⟨by assumption, by assumption, by assumption, by assumption, by assumption⟩)
          | go_keep)
        (first
          | (go_at_call 37; refine (K1.out v2.drew hGd hrd).mono ?_; rintro e wA ⟨A1, c1, rfl, o1, bA⟩; have hzA : v2.heap.size ≤ wA.heap.size := bA.size)
          | (go_at_call 38; refine (K2.out wA (hGd.below bA hGz) ((hrd.below bA).more bA.size)).mono ?_; rintro e wB ⟨A2, c2, rfl, o2, bB⟩; have szB := bB.size; have hzB : v2.heap.size ≤ wB.heap.size := Nat.le_trans hzA bB.size)
          | (go_at_call 39; refine (K3.out wB ((hGd.below bA hGz).below bB (Nat.le_trans hGz hzA))).mono ?_; rintro e wC ⟨A3, c3, rfl, o3, bC⟩; have szC := bC.size; have hzC : v2.heap.size ≤ wC.heap.size := Nat.le_trans hzB bC.size)
          | (go_at_call 40; refine (K4.out wC (((hGd.below bA hGz).below bB (Nat.le_trans hGz hzA)).below bC (Nat.le_trans hGz hzB)) ((((((hrd.below bA).more bA.size).below bB).more bB.size).below bC).more bC.size)).mono ?_; rintro e wD ⟨A4, c4, rfl, o4, bD⟩; have szD := bD.size; have hzD : v2.heap.size ≤ wD.heap.size := Nat.le_trans hzC bD.size)
          | (go_at_call 41; refine (K5.out wD ((((hGd.below bA hGz).below bB (Nat.le_trans hGz hzA)).below bC (Nat.le_trans hGz hzB)).below bD (Nat.le_trans hGz hzC)) ((((((((hrd.below bA).more bA.size).below bB).more bB.size).below bC).more bC.size).below bD).more bD.size)).mono ?_; rintro e wE ⟨A5, c5, rfl, o5, bE⟩; have szE := bE.size; have hzE : v2.heap.size ≤ wE.heap.size := Nat.le_trans hzD bE.size)
          | (go_at_call 36; refine (concat5_any (aM := aM) (aG := aG) l1 l2 l3 l4 l5 A1 A2 A3 A4 A5 c1 c2 c3 c4 c5 v2.heap.size wE ?_ ?_ ?_ ?_ ?_ y1 y2 y3 y4 y5).mono ?_; exact ((((o1.below bB (Nat.le_refl _)).below bC (by omega)).below bD (by omega)).below bE (by omega)).more (Nat.le_refl _) (by omega); exact (((o2.below bC (Nat.le_refl _)).below bD (by omega)).below bE (by omega)).more (by omega) (by omega); exact ((o3.below bD (Nat.le_refl _)).below bE (by omega)).more (by omega) (by omega); exact (o4.below bE (Nat.le_refl _)).more (by omega) (by omega); exact o5.more (by omega) (Nat.le_refl _); rintro e wF ⟨A6, c6, rfl, o6, bF⟩))
      go_wp2_with fail
      go_ret
      rw [HE.out, HN.out, List.length_map]
      have e1 : Below v2.heap.size v2 wA := below_more (Below.refl v2.heap.size v2).drew bA (Nat.le_refl _)
      have e2 := below_more e1 bB e1.size
      have e3 := below_more e2 bC e2.size
      have e4 := below_more e3 bD e3.size
      have e5 := below_more e4 bE e4.size
      have e6 := e5.alloc e5.size (.cells #[.slice A1 l1.length c1, .slice A2 l2.length c2, .slice A3 l3.length c3, .slice A4 l4.length c4, .slice A5 l5.length c5] 45)
      have e7 := below_more e6 bF e6.size
      exact ⟨A6, c6, by simp, o6.more (Nat.le_trans HB2.out.size e6.size) (Nat.le_refl _), below_more HB2.out e7 HB2.out.size⟩

end Go.Proofs.YtbilgjloeobbmaaGreatDoor
