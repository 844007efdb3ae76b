/- Counts (chapter 8): the program's side: CountsIn ranges over a function (an iterator), given what ClaimsIn answers. -/
import Derived.Test.YtfolbhjljpnjlaaLawCo
import Derived.Test.YtfolbhjljpnjlaaGdi
namespace Go.Proofs.Ytfolbhjljpnjlaa
open Go.RowKit Go.Shelf

attribute [local go_sem] Oper.semAt_some

/-- A claim whose target has a count. -/
abbrev Gc := Gq (fun c => 0 ≤ c.target ∧ c.target < 64 ∧ c.good = true)

theorem fold_good : ∀ (l : List Cm) (o : List Int), (l.filter (fun c => c.good)).foldl cntStep o = l.foldl cntStep o
  | [], _ => rfl
  | c :: l, o => by
    rw [List.foldl_cons]
    cases h : c.good
    · rw [List.filter_cons_of_neg (by simp [h]), fold_good l o]
      congr 1
      unfold cntStep
      rw [if_neg (by simp [h])]
    · rw [List.filter_cons_of_pos (by simp [h]), List.foldl_cons]
      exact fold_good l _

theorem cnt_snoc (pre : List Gc) (x : Gc) (o : List Int) : ((pre ++ [x]).map Subtype.val).foldl cntStep o = ((pre.map Subtype.val).foldl cntStep o).set x.1.target.toNat (((pre.map Subtype.val).foldl cntStep o).getD x.1.target.toNat 0 + 1) := by
  rw [List.map_append, List.foldl_append]
  exact if_pos x.2.2.2

/-- Between two rounds: the counts of those that have come. -/
def CoI (w : World) (Bb gv : Nat) (pre : List Gc) (W : World) : Prop :=
  Boxed W Bb 22 (.slice (some ⟨gv, 0, none⟩) 64 64) ∧ Ow W gv (gv + 1) (some ⟨gv, 0, none⟩) 64 64 ((pre.map Subtype.val).foldl cntStep (List.replicate 64 0)) ∧ Below w.heap.size w W
/-- The round's claim lies in a box of its own. -/
def CoX (Bb gv : Nat) (tm : Gc → Nat → Array Value) (x : Gc) (a : Act) (W : World) : Prop :=
  ∃ Bx, Bb < Bx ∧ gv < Bx ∧ W.heap[Bx]? = some (.cells #[.int .i64 x.1.kind, .int .i64 x.1.frm, .int .i64 x.1.slot, .int .i64 x.1.place, .int .i64 x.1.target, .bool x.1.good] 42 (0, 0)) ∧ a = { tmps := tm x Bx, defers := [] }

theorem CoI.own {w : World} {Bb gv B : Nat} (h1 : w.heap.size ≤ B) (h2 : gv < B) (h3 : Bb < B) : OwnFrom B (CoI w Bb gv) := fun s X Y row hs hg hr => by
  obtain ⟨b, o, l⟩ := hs
  exact ⟨b.kept hg (fun e => by have := (hr _ e.symm).1; omega), o.grown hg (fun g e => by have := (hr _ e).1; omega), l.grown hg l.size (fun k e => by have := (hr _ e).1; omega)⟩
theorem CoX.own {Bb gv B : Nat} {tm : Gc → Nat → Array Value} {x : Gc} {a : Act} : OwnFrom B (fun (_ : Unit) W => CoX Bb gv tm x a W) := fun _ X Y row hs hg hr => by
  obtain ⟨Bx, h1, h2, h3, h4⟩ := hs
  refine ⟨Bx, h1, h2, ?_, h4⟩
  refine (hg.block Bx (Array.getElem?_eq_some_iff.1 h3).1 (fun e => ?_)).trans h3
  obtain ⟨_, o, ho, hc⟩ := hr _ e.symm
  rw [h3] at ho
  cases ho
  cases hc

set_option maxRecDepth 100000 in
set_option maxHeartbeats 4000000 in
theorem implCounts_any (hC : ClaimsC) : CountsC := by
  intro A n c xs w hr hn hnc
  obtain ⟨i0, hi0, hz0, hz1, hz2⟩ := info_parts info2
  refine (callsIn_wide (n := 5)).1 ?_
  refine callsIn_of_wp_marks Try.func32 rfl trivial ?_ rfl
  simp only [Try.ntmps32, List.size_toArray, List.length_cons, List.length_nil, Nat.reduceAdd, Nat.reduceSub, Array.replicate_succ, Array.replicate_zero, List.push_toArray, List.append_toArray, List.nil_append, List.cons_append]
  have hhi := (callsIn_wide (n := 4)).2 (implHeadIn_any A n c xs w hr hn)
  have HHI := Lib.hid hhi
  clear hhi
  cases hh : hasHead xs
  · have HN : Hid (countsL xs = []) := by unfold countsL; rw [hh]; exact rfl
    gi_wp2_with (refine ⟨trivial, ?_⟩; gi_at_call 36; refine HHI.out.mono ?_; rintro e w1 ⟨rfl, b1⟩; rw [headIn_no hh]; unfold hdV hd0)
    exact ⟨_, results_tmp rfl _ _ _, by rw [HN.out]; exact Ret.nil _ _ (b1.alloc b1.size _)⟩
  · have HN : Hid (countsL xs = countsC (claimsC xs)) := by unfold countsL; rw [hh]; exact rfl
    have HCL : Hid (claimsL xs = claimsC xs) := by unfold claimsL; rw [hh]; exact rfl
    have HH := Lib.hid hh
    have HT : ∀ c ∈ claimsL xs, c.good = true → 0 ≤ c.target ∧ c.target < 64 ∧ c.good = true := by
      intro c hc hg
      rw [HCL.out] at hc
      have := good_target hh hc hg
      have := manyN_le (hasHead_img hh)
      exact ⟨by omega, by omega, hg⟩
    obtain ⟨⟨s, f, r, u, m⟩, hhd⟩ : ∃ q, headIn xs = (q, true) := ⟨_, headIn_yes hh⟩
    have HT := Lib.hid HT
    have HHD := Lib.hid hhd
    clear hh hhd
    gi_wp2_with (first
      | (refine ⟨trivial, ?_⟩; gi_at_call 36; refine HHI.out.mono ?_; rintro e w1 ⟨rfl, b1⟩; rw [HHD.out]; unfold hdV; have b2 := b1.alloc b1.size (.cells #[.int .i64 s, .int .i64 f, .int .i64 r, .int .i64 u, .int .i64 m] 28))
      | (gi_at_make; generalize (w1.alloc (.cells #[.int .i64 s, .int .i64 f, .int .i64 r, .int .i64 u, .int .i64 m] 28)) = v1 at *; refine wpListIn_make_full _ rfl _ _ 22 rfl _ 2 i0 (.int .i64 0) 1 Try.underlying22 hi0 hz0 hz1 .i64 .i64 _ _ 64 rfl rfl rfl rfl (by rw [hz2]; omega) (by simp only [maxLen]; omega) (Nat.le_refl _) ?_; intro w2 hown hg; rw [made_iv] at hown)
      | (refine ⟨trivial, ?_⟩; gi_at_call 33; refine (good_in A n c _ _).mono ?_; rintro e w' ⟨rfl, rfl⟩))
    have hb2 : Below v1.heap.size v1 w2 := below_grown hg (Nat.le_refl _) (fun _ h => by cases h)
    have ho1 := zeros_ow hown
    have hlt1 := ow_lt ho1
    have b3 := below_more b2 hb2 b2.size
    have s1 := b1.size
    have s2 := b2.size
    have s3 := hb2.size
    clear hown hg hi0 hz0 hz1 hz2 b1 hb2
    generalize v1.heap.size = gv at *
    have b4 := b3.alloc b3.size (.cells #[.slice (some ⟨gv, 0, none⟩) 64 64] 22)
    have b5 := b4.alloc b4.size (.cells #[.slice A n c] 22)
    have x4 : Boxed (w2.alloc (.cells #[.slice (some ⟨gv, 0, none⟩) 64 64] 22)) w2.heap.size 22 (.slice (some ⟨gv, 0, none⟩) 64 64) := Boxed.new _ _ _
    have x5 := x4.alloc (.cells #[.slice A n c] 22)
    have y5 := Boxed.new (w2.alloc (.cells #[.slice (some ⟨gv, 0, none⟩) 64 64] 22)) 22 (.slice A n c)
    have o5 := (ho1.grown (World.grownBy_alloc _ (.cells #[.slice (some ⟨gv, 0, none⟩) 64 64] 22) none) (fun _ h => by cases h)).grown (World.grownBy_alloc _ (.cells #[.slice A n c] 22) none) (fun _ h => by cases h)
    have z5 : ((w2.alloc (.cells #[.slice (some ⟨gv, 0, none⟩) 64 64] 22)).alloc (.cells #[.slice A n c] 22)).heap.size = w2.heap.size + 2 := by simp
    rw [World.size_alloc] at y5
    generalize (w2.alloc (.cells #[.slice (some ⟨gv, 0, none⟩) 64 64] 22)).alloc (.cells #[.slice A n c] 22) = w5 at *
    refine wpIn_rangeFunc_ownH rfl (by omega) (gf := 46) (lb := #[.pointer (some ⟨w2.heap.size + 1, 0, none⟩)]) rfl trivial (enters_of Try.func46 (by kernel_rfl) rfl)
      (good_stops hC 4 (w2.heap.size + 1) gv (by omega) A n c xs w5 (by omega) y5.cell ((hr.below b5).more b5.size) hn hnc (by omega) HT.out) KpC.trans (fun W l o o' _ h ho _ => KpC.put o' h ho) (Below.refl _ _) (fun _ => rfl)
      (CoI w w2.heap.size gv) (fun _ _ _ => False) (CoI.own (by omega) (by omega) (by omega)) (fun _ _ _ _ _ hs _ _ => hs) ⟨x5, o5, b5⟩
      (CoX w2.heap.size gv (fun x Bx => #[.slice A n c, undef, .slice none 0 0, .pointer (some ⟨w1.heap.size, 0, none⟩), .bool true, .pointer (some ⟨w2.heap.size, 0, none⟩), .pointer (some ⟨Bx, 0, none⟩),
        .tuple #[.agg #[.int .i64 s, .int .i64 f, .int .i64 r, .int .i64 u, .int .i64 m], .bool true], .slice A n c, .tuple #[.agg #[.int .i64 s, .int .i64 f, .int .i64 r, .int .i64 u, .int .i64 m], .bool true],
        .agg #[.int .i64 s, .int .i64 f, .int .i64 r, .int .i64 u, .int .i64 m], .bool true, .bool true, .bool false, .slice (some ⟨gv, 0, none⟩) 64 64, .slice A n c, .func (.func 46) #[] #[.pointer (some ⟨w2.heap.size + 1, 0, none⟩)],
        .agg #[.int .i64 x.1.kind, .int .i64 x.1.frm, .int .i64 x.1.slot, .int .i64 x.1.place, .int .i64 x.1.target, .bool x.1.good], undef, undef, undef, undef, undef, undef, undef, undef])) (fun _ _ => CoX.own) ?assign ?body ?done ?stop
    case assign =>
      rintro l pre x W K ⟨hb, ho, hw⟩ hK
      gi_wp2
      exact hK _ _ ((KeepsOthers.alloc _ _).from _) ((KpC.refl _ _).alloc _) ⟨hb.alloc _, ho.grown (World.grownBy_alloc _ _ none) (fun _ h => by cases h), hw.alloc hw.size _⟩ ⟨W.heap.size, hb.lt, ow_lt ho, World.alloc_heap_new W _, rfl⟩
    case body =>
      rintro l pre x a' W hl _ ⟨hb, ho, hw⟩ ⟨Bx, h1, h2, h3, rfl⟩ hlt
      obtain ⟨⟨xk, xf, xs', xp, xt, xg⟩, t0, t1, tg⟩ := x
      simp only at t0 t1 tg h3
      subst tg
      obtain ⟨τ, rfl⟩ := Int.eq_ofNat_of_zero_le t0
      have hτ : τ < 64 := by omega
      obtain ⟨_, hbd⟩ := cnt_take (pre.map Subtype.val) pre.length
      rw [List.take_of_length_le (by simp)] at hbd
      obtain ⟨v0, v1⟩ := hbd τ
      have HS := Lib.hid (cnt_snoc pre ⟨⟨xk, xf, xs', xp, (τ : Int), true⟩, t0, t1, rfl⟩ (List.replicate 64 0))
      rw [show (⟨xk, xf, xs', xp, (τ : Int), true⟩ : Cm).target.toNat = τ from Int.toNat_natCast τ] at HS
      have c1 := hb.cell
      have f1 := hb.frozen
      have e4 : W.cell? ⟨Bx, 4, none⟩ = some (.int .i64 (τ : Int)) := by simp [World.cell?, h3]
      have hco := ho.cell hτ
      have hfo := ho.free τ
      have HSt := Lib.hid (ho.set τ (((pre.map Subtype.val).foldl cntStep (List.replicate 64 0)).getD τ 0 + 1))
      clear hbd
      generalize ((pre.map Subtype.val).foldl cntStep (List.replicate 64 0)) = fs at *
      generalize fs.getD τ 0 = v at *
      gi_wp2
      obtain ⟨o6, g6⟩ := HSt.out
      exact ⟨KeepsFrom.of_grownBy g6 (fun j e => by cases e; omega), KpC.grown g6, hb.kept g6 (fun e => by cases e; omega), by rw [HS.out]; exact o6, hw.grown g6 hw.size (fun k e => by cases e; omega)⟩
    case done =>
      rintro D ys W hD hS ⟨hb, ho, hw⟩ hK
      have c1 := hb.cell
      gi_wp2
      refine ⟨by simp, .inl ⟨_, _, rfl, run_takeDeferred hK, ?_⟩⟩
      refine ⟨_, results_tmp rfl _ _ _, ?_⟩
      rw [hS, fold_good, HCL.out] at ho
      rw [HN.out]
      have g7 := grownBy_putObj' W D (.deferred none)
      have sw := hw.size
      have lw := ow_lt ho
      exact ⟨some ⟨gv, 0, none⟩, 64, 64, rfl, (ho.grown g7 (fun g e => by cases e; omega)).more (by omega) (by have := g7.size; omega), hw.grown g7 hw.size (fun k e => by cases e; omega)⟩
    case stop =>
      rintro D c pre W _ _ h _
      exact h.elim
end Go.Proofs.Ytfolbhjljpnjlaa
