/- Counts (chapter 8): the program's side: CountsIn ranges over a function (an iterator), given what ClaimsIn answers. Counts (chapter 8): what the program's own function answers. Roles (chapter 7): the program's side: takenIn (a map), RolesIn, LooseIn, given what ClaimsIn answers. Roles (chapter 7): what the program's own functions answer. -/
import Derived.Test.YtibokhkohanoaaaGreatY2
import Derived.Test.YtibokhkohanoaaaGreatGdi
import Derived.Test.YtibokhkohanoaaaGreatX1
import Derived.Test.YtibokhkohanoaaaGreatH0
import Derived.Maps.OwnSet
namespace Go.Proofs.YtibokhkohanoaaaGreat
open Go.RowKit Go.Shelf
open Go.RowKit
open Go.RowKit Go.Maps

attribute [local go_sem] Oper.semAt_some

/-- A claim whose target has a count. -/
abbrev Gc := Gq (fun c => 0 ≤ c.target ∧ c.target < 64 ∧ c.good = true)

theorem fold_good : ∀ (l : List Cm) (o : List Int), (l.filter (fun c => c.good)).foldl cntStep o = l.foldl cntStep o
  | [], _ => rfl
  | c :: l, o => by
    rw [List.foldl_cons]
    cases h : c.good
    · rw [List.filter_cons_of_neg (by simp [h]), fold_good l o]
      congr 1
      unfold cntStep
      rw [if_neg (by simp [h])]
    · rw [List.filter_cons_of_pos (by simp [h]), List.foldl_cons]
      exact fold_good l _

theorem cnt_snoc (pre : List Gc) (x : Gc) (o : List Int) : ((pre ++ [x]).map Subtype.val).foldl cntStep o = ((pre.map Subtype.val).foldl cntStep o).set x.1.target.toNat (((pre.map Subtype.val).foldl cntStep o).getD x.1.target.toNat 0 + 1) := by
  rw [List.map_append, List.foldl_append]
  exact if_pos x.2.2.2

/-- Between two rounds: the counts of those that have come. -/
def CoI (w : World) (Bb gv : Nat) (pre : List Gc) (W : World) : Prop :=
  Boxed W Bb 22 (.slice (some ⟨gv, 0, none⟩) 64 64) ∧ Ow W gv (gv + 1) (some ⟨gv, 0, none⟩) 64 64 ((pre.map Subtype.val).foldl cntStep (List.replicate 64 0)) ∧ Below w.heap.size w W
/-- The round's claim lies in a box of its own. -/
def CoX (Bb gv : Nat) (tm : Gc → Nat → Array Value) (x : Gc) (a : Act) (W : World) : Prop :=
  ∃ Bx, Bb < Bx ∧ gv < Bx ∧ W.heap[Bx]? = some (.cells #[.int .i64 x.1.kind, .int .i64 x.1.frm, .int .i64 x.1.slot, .int .i64 x.1.place, .int .i64 x.1.target, .bool x.1.good] 62 (0, 0)) ∧ a = { tmps := tm x Bx, defers := [] }

theorem CoI.own {w : World} {Bb gv B : Nat} (h1 : w.heap.size ≤ B) (h2 : gv < B) (h3 : Bb < B) : OwnFrom B (CoI w Bb gv) := fun s X Y row hs hg hr => by
  obtain ⟨b, o, l⟩ := hs
  exact ⟨b.kept hg (fun e => by have := (hr _ e.symm).1; omega), o.grown hg (fun g e => by have := (hr _ e).1; omega), l.grown hg l.size (fun k e => by have := (hr _ e).1; omega)⟩
theorem CoX.own {Bb gv B : Nat} {tm : Gc → Nat → Array Value} {x : Gc} {a : Act} : OwnFrom B (fun (_ : Unit) W => CoX Bb gv tm x a W) := fun _ X Y row hs hg hr => by
  obtain ⟨Bx, h1, h2, h3, h4⟩ := hs
  refine ⟨Bx, h1, h2, ?_, h4⟩
  refine (hg.block Bx (Array.getElem?_eq_some_iff.1 h3).1 (fun e => ?_)).trans h3
  obtain ⟨_, o, ho, hc⟩ := hr _ e.symm
  rw [h3] at ho
  cases ho
  cases hc

set_option maxRecDepth 100000 in
set_option maxHeartbeats 4000000 in
theorem implCounts_any (hC : ClaimsC) : CountsC := by
  intro A n c xs w hr hn hnc
  obtain ⟨i0, hi0, hz0, hz1, hz2⟩ := info_parts info2
  refine (callsIn_wide (n := 5)).1 ?_
  refine callsIn_of_wp_marks Tryz.func101 rfl trivial ?_ rfl
  simp only [Tryz.ntmps101, List.size_toArray, List.length_cons, List.length_nil, Nat.reduceAdd, Nat.reduceSub, Array.replicate_succ, Array.replicate_zero, List.push_toArray, List.append_toArray, List.nil_append, List.cons_append]
  have hhi := (callsIn_wide (n := 4)).2 (implHeadIn_any A n c xs w hr hn)
  have HHI := Lib.hid hhi
  clear hhi
  cases hh : hasHead xs
  · have HN : Hid (countsL xs = []) := by unfold countsL; rw [hh]; exact rfl
    gi_wp2_with (refine ⟨trivial, ?_⟩; gi_at_call 17; refine HHI.out.mono ?_; rintro e w1 ⟨rfl, b1⟩; rw [headIn_no hh]; unfold hdV hd0)
    exact ⟨_, results_tmp rfl _ _ _, by rw [HN.out]; exact Ret.nil _ _ (b1.alloc b1.size _)⟩
  · have HN : Hid (countsL xs = countsC (claimsC xs)) := by unfold countsL; rw [hh]; exact rfl
    have HCL : Hid (claimsL xs = claimsC xs) := by unfold claimsL; rw [hh]; exact rfl
    have HH := Lib.hid hh
    have HT : ∀ c ∈ claimsL xs, c.good = true → 0 ≤ c.target ∧ c.target < 64 ∧ c.good = true := by
      intro c hc hg
      rw [HCL.out] at hc
      have := good_target hh hc hg
      have := manyN_le (hasHead_img hh)
      exact ⟨by omega, by omega, hg⟩
    obtain ⟨⟨s, f, r, u, m⟩, hhd⟩ : ∃ q, headIn xs = (q, true) := ⟨_, headIn_yes hh⟩
    have HT := Lib.hid HT
    have HHD := Lib.hid hhd
    clear hh hhd
    gi_wp2_with (first
      | (refine ⟨trivial, ?_⟩; gi_at_call 17; refine HHI.out.mono ?_; rintro e w1 ⟨rfl, b1⟩; rw [HHD.out]; unfold hdV; have b2 := b1.alloc b1.size (.cells #[.int .i64 s, .int .i64 f, .int .i64 r, .int .i64 u, .int .i64 m] 30))
      | (gi_at_make; generalize (w1.alloc (.cells #[.int .i64 s, .int .i64 f, .int .i64 r, .int .i64 u, .int .i64 m] 30)) = v1 at *; refine wpListIn_make_full _ rfl _ _ 22 rfl _ 2 i0 (.int .i64 0) 1 Tryz.underlying22 hi0 hz0 hz1 .i64 .i64 _ _ 64 rfl rfl rfl rfl (by rw [hz2]; omega) (by simp only [maxLen]; omega) (Nat.le_refl _) ?_; intro w2 hown hg; rw [made_iv] at hown)
      | (refine ⟨trivial, ?_⟩; gi_at_call 102; refine (good_in A n c _ _).mono ?_; rintro e w' ⟨rfl, rfl⟩))
    have hb2 : Below v1.heap.size v1 w2 := below_grown hg (Nat.le_refl _) (fun _ h => by cases h)
    have ho1 := zeros_ow hown
    have hlt1 := ow_lt ho1
    have b3 := below_more b2 hb2 b2.size
    have s1 := b1.size
    have s2 := b2.size
    have s3 := hb2.size
    clear hown hg hi0 hz0 hz1 hz2 b1 hb2
    generalize v1.heap.size = gv at *
    have b4 := b3.alloc b3.size (.cells #[.slice (some ⟨gv, 0, none⟩) 64 64] 22)
    have b5 := b4.alloc b4.size (.cells #[.slice A n c] 22)
    have x4 : Boxed (w2.alloc (.cells #[.slice (some ⟨gv, 0, none⟩) 64 64] 22)) w2.heap.size 22 (.slice (some ⟨gv, 0, none⟩) 64 64) := Boxed.new _ _ _
    have x5 := x4.alloc (.cells #[.slice A n c] 22)
    have y5 := Boxed.new (w2.alloc (.cells #[.slice (some ⟨gv, 0, none⟩) 64 64] 22)) 22 (.slice A n c)
    have o5 := (ho1.grown (World.grownBy_alloc _ (.cells #[.slice (some ⟨gv, 0, none⟩) 64 64] 22) none) (fun _ h => by cases h)).grown (World.grownBy_alloc _ (.cells #[.slice A n c] 22) none) (fun _ h => by cases h)
    have z5 : ((w2.alloc (.cells #[.slice (some ⟨gv, 0, none⟩) 64 64] 22)).alloc (.cells #[.slice A n c] 22)).heap.size = w2.heap.size + 2 := by simp
    rw [World.size_alloc] at y5
    generalize (w2.alloc (.cells #[.slice (some ⟨gv, 0, none⟩) 64 64] 22)).alloc (.cells #[.slice A n c] 22) = w5 at *
    refine wpIn_rangeFunc_ownH rfl (by omega) (gf := 125) (lb := #[.pointer (some ⟨w2.heap.size + 1, 0, none⟩)]) rfl trivial (enters_of Tryz.func125 (by kernel_rfl) rfl)
      (good_stops hC 4 (w2.heap.size + 1) gv (by omega) A n c xs w5 (by omega) y5.cell ((hr.below b5).more b5.size) hn hnc (by omega) HT.out) KpC.trans (fun W l o o' _ h ho _ => KpC.put o' h ho) (Below.refl _ _) (fun _ => rfl)
      (CoI w w2.heap.size gv) (fun _ _ _ => False) (CoI.own (by omega) (by omega) (by omega)) (fun _ _ _ _ _ hs _ _ => hs) ⟨x5, o5, b5⟩
      (CoX w2.heap.size gv (fun x Bx => #[.slice A n c, undef, .slice none 0 0, .pointer (some ⟨w1.heap.size, 0, none⟩), .bool true, .pointer (some ⟨w2.heap.size, 0, none⟩), .pointer (some ⟨Bx, 0, none⟩),
        .tuple #[.agg #[.int .i64 s, .int .i64 f, .int .i64 r, .int .i64 u, .int .i64 m], .bool true], .slice A n c, .tuple #[.agg #[.int .i64 s, .int .i64 f, .int .i64 r, .int .i64 u, .int .i64 m], .bool true],
        .agg #[.int .i64 s, .int .i64 f, .int .i64 r, .int .i64 u, .int .i64 m], .bool true, .bool true, .bool false, .slice (some ⟨gv, 0, none⟩) 64 64, .slice A n c, .func (.func 125) #[] #[.pointer (some ⟨w2.heap.size + 1, 0, none⟩)],
        .agg #[.int .i64 x.1.kind, .int .i64 x.1.frm, .int .i64 x.1.slot, .int .i64 x.1.place, .int .i64 x.1.target, .bool x.1.good], undef, undef, undef, undef, undef, undef, undef, undef])) (fun _ _ => CoX.own) ?assign ?body ?done ?stop
    case assign =>
      rintro l pre x W K ⟨hb, ho, hw⟩ hK
      gi_wp2
      exact hK _ _ ((KeepsOthers.alloc _ _).from _) ((KpC.refl _ _).alloc _) ⟨hb.alloc _, ho.grown (World.grownBy_alloc _ _ none) (fun _ h => by cases h), hw.alloc hw.size _⟩ ⟨W.heap.size, hb.lt, ow_lt ho, World.alloc_heap_new W _, rfl⟩
    case body =>
      rintro l pre x a' W hl _ ⟨hb, ho, hw⟩ ⟨Bx, h1, h2, h3, rfl⟩ hlt
      obtain ⟨⟨xk, xf, xs', xp, xt, xg⟩, t0, t1, tg⟩ := x
      simp only at t0 t1 tg h3
      subst tg
      obtain ⟨τ, rfl⟩ := Int.eq_ofNat_of_zero_le t0
      have hτ : τ < 64 := by omega
      obtain ⟨_, hbd⟩ := cnt_take (pre.map Subtype.val) pre.length
      rw [List.take_of_length_le (by simp)] at hbd
      obtain ⟨v0, v1⟩ := hbd τ
      have HS := Lib.hid (cnt_snoc pre ⟨⟨xk, xf, xs', xp, (τ : Int), true⟩, t0, t1, rfl⟩ (List.replicate 64 0))
      rw [show (⟨xk, xf, xs', xp, (τ : Int), true⟩ : Cm).target.toNat = τ from Int.toNat_natCast τ] at HS
      have c1 := hb.cell
      have f1 := hb.frozen
      have e4 : W.cell? ⟨Bx, 4, none⟩ = some (.int .i64 (τ : Int)) := by simp [World.cell?, h3]
      have hco := ho.cell hτ
      have hfo := ho.free τ
      have HSt := Lib.hid (ho.set τ (((pre.map Subtype.val).foldl cntStep (List.replicate 64 0)).getD τ 0 + 1))
      clear hbd
      generalize ((pre.map Subtype.val).foldl cntStep (List.replicate 64 0)) = fs at *
      generalize fs.getD τ 0 = v at *
      gi_wp2
      obtain ⟨o6, g6⟩ := HSt.out
      exact ⟨KeepsFrom.of_grownBy g6 (fun j e => by cases e; omega), KpC.grown g6, hb.kept g6 (fun e => by cases e; omega), by rw [HS.out]; exact o6, hw.grown g6 hw.size (fun k e => by cases e; omega)⟩
    case done =>
      rintro D ys W hD hS ⟨hb, ho, hw⟩ hK
      have c1 := hb.cell
      gi_wp2
      refine ⟨by simp, .inl ⟨_, _, rfl, run_takeDeferred hK, ?_⟩⟩
      refine ⟨_, results_tmp rfl _ _ _, ?_⟩
      rw [hS, fold_good, HCL.out] at ho
      rw [HN.out]
      have g7 := grownBy_putObj' W D (.deferred none)
      have sw := hw.size
      have lw := ow_lt ho
      exact ⟨some ⟨gv, 0, none⟩, 64, 64, rfl, (ho.grown g7 (fun g e => by cases e; omega)).more (by omega) (by have := g7.size; omega), hw.grown g7 hw.size (fun k e => by cases e; omega)⟩
    case stop =>
      rintro D c pre W _ _ h _
      exact h.elim

theorem implCounts_all : CountsC := implCounts_any implClaims_any

theorem lawI : Keyed Tryz.prog 2 := int_keyed Tryz.underlying2
theorem zeroI (w : World) : (zeroValue 2).run Tryz.prog w = .ok (.int .i64 0) w := by kernel_rfl

/-- Block b is a map from numbers to numbers, of at most n entries, that reads as D. -/
def MapAt (w : World) (b n : Nat) (D : DataW Unit) : Prop := w.ownsMap Tryz.prog 2 (plainElem (H := Unit) Tryz.prog 2) b n D
theorem MapAt.keep {w w' : World} {b n : Nat} {D : DataW Unit} (h : MapAt w b n D) (hk : w'.heap[b]? = w.heap[b]?) : MapAt w' b n D := by
  obtain ⟨es, cl, h1, r⟩ := h
  exact ⟨es, cl, hk.trans h1, r⟩
theorem MapAt.below {B : Nat} {w w' : World} {b n : Nat} {D : DataW Unit} (h : MapAt w b n D) (hb : Below B w w') (hlt : b < B) : MapAt w' b n D := h.keep (hb.block b hlt)

/-- What is taken: the kind at each target. -/
def takStep (D : DataW Unit) (c : Cm) : DataW Unit := if c.good = true then D.put (.int .i64 c.target) (.lit (.int .i64 c.kind)) else D

/-- The map holds what the roles say. -/
theorem tak_roles (M : Nat) : ∀ (l : List Cm) (D : DataW Unit) (o : List Int), IsMap D → o.length = M → (∀ c ∈ l, c.good = true → 0 ≤ c.target ∧ c.target < M) →
    (∀ τ : Nat, D.atKey (.int .i64 τ) (.lit (.int .i64 0)) = .lit (.int .i64 (o.getD τ 0))) → ∀ τ : Nat, (l.foldl takStep D).atKey (.int .i64 τ) (.lit (.int .i64 0)) = .lit (.int .i64 ((l.foldl roleStep o).getD τ 0))
  | [], _, _, _, _, _, h => h
  | c :: l, D, o, hD, ho, hb, h => by
    rw [List.foldl_cons, List.foldl_cons]
    by_cases hc : c.good = true
    · have e1 : takStep D c = D.put (.int .i64 c.target) (.lit (.int .i64 c.kind)) := if_pos hc
      have e2 : roleStep o c = o.set c.target.toNat c.kind := if_pos hc
      rw [e1, e2]
      obtain ⟨b0, b1⟩ := hb c (by simp) hc
      obtain ⟨t, ht⟩ := Int.eq_ofNat_of_zero_le b0
      refine tak_roles M l _ _ (hD.put _ _) (by simp [ho]) (fun x hx => hb x (by simp [hx])) (fun τ => ?_)
      rw [getD_set, ht, Int.toNat_natCast]
      by_cases e : t = τ
      · subst e
        rw [if_pos ⟨rfl, by omega⟩]
        exact atKey_put_same (k := .int .i64 _) hD trivial _ _
      · rw [if_neg (fun h => e h.1)]
        exact (atKey_put_other (fun hh => e (by injection hh with _ hh; omega)) _ _).trans (h τ)
    · have e1 : takStep D c = D := if_neg hc
      have e2 : roleStep o c = o := if_neg hc
      rw [e1, e2]
      exact tak_roles M l D o hD ho (fun x hx => hb x (by simp [hx])) h
theorem tak_has (k : Lit) : ∀ (l : List Cm) (D : DataW Unit), IsMap D → has D k = true → has (l.foldl takStep D) k = true
  | [], _, _, h => h
  | c :: l, D, hD, h => by
    rw [List.foldl_cons]
    unfold takStep
    split
    · refine tak_has k l _ (hD.put _ _) ?_
      by_cases e : k = .int .i64 c.target
      · subst e
        exact has_put_same (k := .int .i64 _) hD trivial _
      · rw [has_put_other e]
        exact h
    · exact tak_has k l D hD h
theorem tak_some : ∀ (l : List Cm) (D : DataW Unit), IsMap D → (∃ c ∈ l, c.good = true) → ∃ k, has (l.foldl takStep D) k = true
  | [], _, _, ⟨_, h, _⟩ => by cases h
  | c :: l, D, hD, ⟨x, hx, hg⟩ => by
    rw [List.foldl_cons]
    by_cases hc : c.good = true
    · have e1 : takStep D c = D.put (.int .i64 c.target) (.lit (.int .i64 c.kind)) := if_pos hc
      rw [e1]
      exact ⟨_, tak_has (.int .i64 c.target) l _ (hD.put _ _) (has_put_same (k := .int .i64 _) hD trivial _)⟩
    · have e1 : takStep D c = D := if_neg hc
      rw [e1]
      refine tak_some l D hD ⟨x, ?_, hg⟩
      rcases List.mem_cons.1 hx with rfl | h
      · exact absurd hg hc
      · exact h
theorem size_of_has {D : DataW Unit} {k : Lit} (hD : IsMap D) (h : has D k = true) : Maps.size D ≠ 0 := by
  obtain ⟨es, rfl⟩ := hD
  rw [has_eq] at h
  rw [size_eq]
  intro e
  rw [List.length_eq_zero_iff.1 e] at h
  simp at h
theorem none_of_size {D : DataW Unit} (hD : IsMap D) (h : Maps.size D = 0) (k : Lit) (z : DataW Unit) : D.atKey k z = z := by
  obtain ⟨es, rfl⟩ := hD
  rw [size_eq] at h
  rw [List.length_eq_zero_iff.1 h]
  exact atKey_of_not_has (by rw [has_eq]; rfl) z
theorem claims_good (xs : List Int) : ∃ c ∈ claimsC xs, c.good = true :=
  Steady.all (P := fun l => ∃ c ∈ l, c.good = true) ⟨fun _ _ _ _ h => by
    obtain ⟨c, h1, h2⟩ := h
    exact ⟨c, by unfold addC; rw [List.mem_append]; exact .inl h1, h2⟩⟩ ⟨⟨1, 0, 0, 0, 0, true⟩, by simp, rfl⟩ xs

/-- The first k roles told, the others nought. -/
def toldR (o : List Int) (k : Nat) : List Int := o.take k ++ List.replicate (o.length - k) 0
theorem told_zero (o : List Int) : toldR o 0 = List.replicate o.length 0 := by simp [toldR]
theorem told_all (o : List Int) : toldR o o.length = o := by simp [toldR]
theorem told_step {o : List Int} {k : Nat} (hk : k < o.length) : (toldR o k).set k (o.getD k 0) = toldR o (k + 1) := by
  have e1 : o.length - k = (o.length - (k + 1)) + 1 := by omega
  have e2 : o.getD k 0 = o[k] := by simp [List.getD_eq_getElem?_getD, hk]
  unfold toldR
  have hl : (o.take k).length = k := by simp; omega
  rw [e1, List.replicate_succ, e2, List.take_succ_eq_append_getElem hk, List.set_append, if_neg (by omega), hl, Nat.sub_self, List.set_cons_zero, List.append_assoc]
  rfl
theorem told_rest {o : List Int} {k : Nat} (h : ∀ τ : Nat, k ≤ τ → o.getD τ 0 = 0) : toldR o k = o := by
  unfold toldR
  conv => rhs; rw [← List.take_append_drop k o]
  congr 1
  apply List.ext_getElem?
  intro j
  rw [List.getElem?_replicate, List.getElem?_drop]
  by_cases hj : k + j < o.length
  · have := h (k + j) (by omega)
    rw [List.getD_eq_getElem?_getD, List.getElem?_eq_getElem hj] at this
    rw [if_pos (by omega), List.getElem?_eq_getElem hj]
    simp at this
    rw [this]
  · rw [if_neg (by omega), List.getElem?_eq_none (by omega)]

/-- append of a new block that lies behind all onto a row of one's own, nil or not. -/
theorem wpList_append_r {P : Program} {w : World} {ops : Array Oper} {rest : List Oper} {o : Oper} {a : Act} {Q : Exit → Act → World → Prop} (hgd : o.guard = none) (s x : Operand) (t : TypeId)
    (ho : o.op = .call { callee := .builtin .append, args := #[s, x], argTypes := #[t, t] })
    (e : TypeId) (sz by_ : Nat) (z : Value) (i : TypeInfo) (ht : P.underlying t = some (.slice e)) (hi : P.info? e = some i) (hz : i.zero = some z) (hsize : i.size = sz) (hby : i.bytes = by_) (hzs : z.cells.size = sz) (hsz : 0 < sz) (hb8 : by_ ≤ 1000)
    (lo hi' n c : Nat) (A : Option Addr) (cs : List Value) (hs : a.eval s = .slice A n c) (hown : OwR e sz w lo hi' A n c cs)
    (news : Array Value) (m c' q : Nat) (hq : w.heap.size = q) (hx : a.eval x = .slice (some ⟨q, 0, none⟩) m c') (hm : 0 < m) (hl : news.size = m * sz) (h1 : ∀ u ∈ news.toList, u.oneCell' = true)
    (hnm : n + m ≤ 16777216) (hlo : lo ≤ w.heap.size)
    (h : ∀ (g' cd : Nat) (w' : World), OwR e sz w' lo w'.heap.size (some ⟨g', 0, none⟩) (n + m) cd (cs ++ news.toList) → Below lo w w' → wpList P ops Q rest (a.put o.dst (.slice (some ⟨g', 0, none⟩) (n + m) cd)) w') :
    wpList P ops Q (o :: rest) a (w.alloc (.cells news e)) := by
  subst hq
  have hal : w.grownBy (w.alloc (.cells news e)) none := ⟨rfl, rfl, rfl, by simp, fun k hk _ => Below.heap_alloc _ _ _ hk⟩
  have hown' := hown.grown hal (fun _ h => by cases h)
  have hbytes : (n + m) * by_ ≤ 140737488355328 := by
    have : (n + m) * by_ ≤ 16777216 * 1000 := Nat.mul_le_mul hnm hb8
    omega
  have h63 : n + m ≤ maxLen := by simp only [maxLen]; omega
  obtain ⟨v', w', hr, h2, h3, h4⟩ := run_append_own (P := P) (w.alloc (.cells news e)) lo t o.type e i z sz by_ ht hi hz hsize hby hzs hsz (.slice A n c) n cs hown'.own ⟨w.heap.size, 0, none⟩ m c' news.toList (by simpa using hl) (by
    intro j u hj
    rw [Addr.add_lit, Nat.zero_add, World.cell?_alloc_new]
    simpa using hj) h1 h63 hbytes (by simp; omega)
  obtain ⟨g', cd, rfl, ho5⟩ := OwV.of h2 (fun e => by have := (h4.1 e).2; omega)
  have hb : Below lo w w' := ((Below.refl lo w).alloc hlo (.cells news e)).grown h3 (by simp; omega) (fun g hg => (hown'.row g hg).1)
  refine wpList_plain hgd fun K hK => ?_
  unfold Oper.wp execOp
  simp only [ho, resolve, invoke, builtin, Sem.run_bind, Sem.run_pure, Result.andThen_ok, List.map_toArray, List.map_cons, List.map_nil, hs, hx, hr]
  exact hK _ _ (h g' cd w' ho5.toR hb)

/-- The cells of claim k of a row. -/
theorem cmr_cells {w : World} {lo hi : Nat} {A : Option Addr} {cg : Nat} {l : List Cm} (h : OwR 62 6 w lo hi A l.length cg (l.flatMap cmV)) {k : Nat} (hk : k < l.length) :
    ∃ g, A = some ⟨g, 0, none⟩ ∧ lo ≤ g ∧ g < hi ∧ g < w.heap.size ∧ ∀ w' : World, w'.heap[g]? = w.heap[g]? → ∀ j, j < 6 → w'.cell? ⟨g, k * 6 + j, none⟩ = (cmV (l.getD k cm0))[j]? := by
  rcases h.form with ⟨_, h0, _⟩ | ⟨g, rfl, h1, h2, h3, _⟩
  · omega
  · exact ⟨g, rfl, h1, h2, h3, fun w' hw j hj => (World.cell?_of_block (a := ⟨g, k * 6 + j, none⟩) hw).trans (cm_cells h.rd hk j hj)⟩

set_option maxRecDepth 100000 in
set_option maxHeartbeats 4000000 in
theorem implLoose_any (hC : ClaimsC) : LooseC := by
  intro A n c xs w hr hn hnc
  obtain ⟨i0, hi0, hz0, hz1, hz2⟩ := info_parts infoCm
  go_enter Tryz.func77, Tryz.ntmps77
  go_wp2_with fail
  refine (hC A n c xs w hr hn hnc).mono ?_
  rintro e w2 ⟨G, cg, rfl, oG, b2⟩
  have HL : Hid (looseL xs = (claimsL xs).filter (fun c => !c.good)) := rfl
  have hll := claimsL_length xs
  have HG := Lib.hid oG
  have HB := Lib.hid b2
  have sb2 := b2.size
  clear oG b2 hr
  generalize claimsL xs = l at *
  generalize hw2 : w2.heap.size = B at *
  go_wp2_with fail
  go_loopw [3, 9] (fun v i wr => ∃ (k : Nat) (A' : Option Addr) (c' : Nat), k ≤ l.length ∧ i = .int .i64 k ∧ v = .slice A' ((l.take k).filter (fun c => !c.good)).length c' ∧
    OwR 62 6 wr B wr.heap.size A' ((l.take k).filter (fun c => !c.good)).length c' (((l.take k).filter (fun c => !c.good)).flatMap cmV) ∧ Below B w2 wr) (fun _ i _ => l.length - (intOf i).toNat)
  case atStart => exact ⟨0, none, 0, Nat.zero_le _, rfl, rfl, OwR.nil _ _ _ _ _, Below.refl _ _⟩
  case round =>
    obtain ⟨k, A', c', hk, rfl, rfl, hok, hg⟩ := hrel
    have sr := hg.size
    by_cases hlt : k < l.length
    · obtain ⟨g, rfl, hg1, hg2, hg3, hce⟩ := cmr_cells HG.out hlt
      have hce := hce wr (hg.block g (by omega))
      have HS := Lib.hid (loose_step l k hlt)
      have HLe := Lib.hid (show ((l.take k).filter (fun c => !c.good)).length ≤ 1296 by
        have h1 := List.length_filter_le (fun c : Cm => !c.good) (l.take k)
        have h2 : (l.take k).length ≤ k := List.length_take_le _ _
        omega)
      have hfl := HLe.out
      generalize (l.take k).filter (fun c => !c.good) = fs at *
      generalize l.getD k cm0 = x at *
      obtain ⟨xk, xf, xs', xp, xt, xg⟩ := x
      have e0 : wr.cell? ⟨g, k * 6, none⟩ = some (.int .i64 xk) := hce 0 (by omega)
      have e1 : wr.cell? ⟨g, k * 6 + 1, none⟩ = some (.int .i64 xf) := hce 1 (by omega)
      have e2 : wr.cell? ⟨g, k * 6 + 2, none⟩ = some (.int .i64 xs') := hce 2 (by omega)
      have e3 : wr.cell? ⟨g, k * 6 + 3, none⟩ = some (.int .i64 xp) := hce 3 (by omega)
      have e4 : wr.cell? ⟨g, k * 6 + 4, none⟩ = some (.int .i64 xt) := hce 4 (by omega)
      have e5 : wr.cell? ⟨g, k * 6 + 5, none⟩ = some (.bool xg) := hce 5 (by omega)
      clear hce
      cases xg
      · have HE : Hid ((l.take (k + 1)).filter (fun c => !c.good) = fs ++ [⟨xk, xf, xs', xp, xt, false⟩]) := by rw [HS.out]; simp [Hid]
        clear HS
        have hok1 := hok.grown (World.grownBy_alloc wr (.cells #[.int .i64 xk, .int .i64 xf, .int .i64 xs', .int .i64 xp, .int .i64 xt, .bool false] 62) none) (fun _ h => by cases h)
        have hg1' := hg.alloc (by omega) (.cells #[.int .i64 xk, .int .i64 xf, .int .i64 xs', .int .i64 xp, .int .i64 xt, .bool false] 62)
        go_wp2_with (at_builtin; refine wpList_append_r rfl (.tmp 16) (.tmp 18) 59 rfl 62 6 48 _ i0 Tryz.underlying59 hi0 hz0 hz1 hz2 rfl (by omega) (by omega) B wr.heap.size fs.length c' A' _ rfl hok1 #[.int .i64 xk, .int .i64 xf, .int .i64 xs', .int .i64 xp, .int .i64 xt, .bool false] 1 1 (wr.heap.size + 1) (by simp) rfl (by omega) rfl (by simp [Value.oneCell']) (by omega) (by simp; omega) ?_; intro g2 cd w5 ho5 hb5)
        go_roundw
        case rel =>
          refine ⟨k + 1, some ⟨g2, 0, none⟩, cd, by omega, by go_num, by rw [HE.out]; simp, ?_, hg1'.trans hb5⟩
          rw [HE.out, List.flatMap_append, List.length_append]
          exact ho5
        case measure => simp [intOf]; omega
      · have HE : Hid ((l.take (k + 1)).filter (fun c => !c.good) = fs) := by rw [HS.out]; simp [Hid]
        clear HS
        go_wp2_with fail
        go_roundw
        case rel => exact ⟨k + 1, A', c', by omega, by go_num, by rw [HE.out], by rw [HE.out]; exact (hok.grown (World.grownBy_alloc _ _ none) (fun _ h => by cases h)).more (Nat.le_refl _) (by simp), hg.alloc (by omega) _⟩
        case measure => simp [intOf]; omega
    · obtain rfl : k = l.length := by omega
      go_wp2_with fail
      go_ret
      rw [List.take_length] at hok ⊢
      rw [HL.out]
      exact ⟨A', c', rfl, hok.more (by omega) (Nat.le_refl _), HB.out.trans (hg.mono (by omega))⟩

set_option maxRecDepth 100000 in
set_option maxHeartbeats 4000000 in
theorem taken_any (hC : ClaimsC) (A : Option Addr) (n c : Nat) (xs : List Int) (w : World) (hr : Rd w w.heap.size A n xs) (hn : n ≤ 2097152) (hnc : n ≤ c) (hT : ∀ c ∈ claimsL xs, (c.good = true → 0 ≤ c.target ∧ c.target < 64) ∧ 1 ≤ c.kind ∧ c.kind ≤ 8) :
    Calls Tryz.prog 118 #[.slice A n c] w fun e w' => e = .returned (.map (some w.heap.size)) ∧ MapAt w' w.heap.size (claimsL xs).length ((claimsL xs).foldl takStep (.map [])) ∧ Below w.heap.size w w' := by
  have hmm := @run_makeMap Tryz.prog
  have b1 := (Below.refl w.heap.size w).alloc (Nat.le_refl _) (.map #[] 0)
  have o1 : MapAt (w.alloc (.map #[] 0)) w.heap.size 0 (.map []) := World.ownsMap_made w Tryz.prog 2 (plainElem (H := Unit) Tryz.prog 2)
  go_enter Tryz.func118, Tryz.ntmps118
  go_wp2_with fail
  refine (hC A n c xs _ ((hr.below b1).more b1.size) hn hnc).mono ?_
  rintro e w2 ⟨G, cg, rfl, oG, b2⟩
  have sb2 := b2.size
  have hsz : (w.alloc (.map #[] 0)).heap.size = w.heap.size + 1 := by simp
  rw [hsz] at sb2
  have o2 := o1.below b2 (by omega)
  have hll := claimsL_length xs
  have HG := Lib.hid oG
  have HB := Lib.hid (below_more b1 b2 b1.size)
  have HT := Lib.hid hT
  have HO := Lib.hid o2
  have HZ := Lib.hid hsz
  clear oG b2 hr b1 o1 o2 hmm hT hsz
  generalize hl : claimsL xs = l at *
  have HLL := Lib.hid hl
  clear hl
  generalize hbb : w.heap.size = B at *
  go_wp2_with fail
  go_loopw [10] (fun i wr => ∃ k : Nat, k ≤ l.length ∧ i = .int .i64 k ∧ MapAt wr B k ((l.take k).foldl takStep (.map [])) ∧ w2.grownBy wr (some B)) (fun i _ => l.length - (intOf i).toNat)
  case atStart => exact ⟨0, Nat.zero_le _, rfl, HO.out, grown_refl _ _⟩
  case round =>
    obtain ⟨k, hk, rfl, hok, hg⟩ := hrel
    have sr := hg.size
    by_cases hlt : k < l.length
    · obtain ⟨g, rfl, hg1, hg2, hg3, hce⟩ := cmr_cells HG.out hlt
      have hgB : B + 1 ≤ g := by rw [← HZ.out]; exact hg1
      have hce := hce wr (hg.block g hg3 (fun e => by injection e with e; omega))
      have HS := Lib.hid (take_fold takStep l (.map []) k hlt)
      have hgd : l.getD k cm0 = l[k] := by simp [List.getD_eq_getElem?_getD, hlt]
      have HTk := Lib.hid (HT.out _ (List.getElem_mem hlt))
      rw [hgd] at hce
      clear hgd
      generalize (l.take k).foldl takStep (.map []) = D at *
      generalize l[k] = x at *
      obtain ⟨xk, xf, xs', xp, xt, xg⟩ := x
      have e0 : wr.cell? ⟨g, k * 6, none⟩ = some (.int .i64 xk) := hce 0 (by omega)
      have e1 : wr.cell? ⟨g, k * 6 + 1, none⟩ = some (.int .i64 xf) := hce 1 (by omega)
      have e2 : wr.cell? ⟨g, k * 6 + 2, none⟩ = some (.int .i64 xs') := hce 2 (by omega)
      have e3 : wr.cell? ⟨g, k * 6 + 3, none⟩ = some (.int .i64 xp) := hce 3 (by omega)
      have e4 : wr.cell? ⟨g, k * 6 + 4, none⟩ = some (.int .i64 xt) := hce 4 (by omega)
      have e5 : wr.cell? ⟨g, k * 6 + 5, none⟩ = some (.bool xg) := hce 5 (by omega)
      clear hce
      have hal := World.grownBy_alloc wr (.cells #[.int .i64 xk, .int .i64 xf, .int .i64 xs', .int .i64 xp, .int .i64 xt, .bool xg] 62) (some B)
      have hok1 := hok.keep (w' := wr.alloc (.cells #[.int .i64 xk, .int .i64 xf, .int .i64 xs', .int .i64 xp, .int .i64 xt, .bool xg] 62)) (Below.heap_alloc _ _ _ (by omega))
      have hgal := grown_trans hg hal
      cases xg
      · have HE : Hid ((l.take (k + 1)).foldl takStep (.map []) = D) := by rw [HS.out]; simp [takStep, Hid]
        clear HS
        go_wp2_with fail
        go_roundw
        case rel => exact ⟨k + 1, by omega, by go_num, by rw [HE.out]; exact World.ownsMap.mono hok1 (by omega), hgal⟩
        case measure => simp [intOf]; omega
      · have HE : Hid ((l.take (k + 1)).foldl takStep (.map []) = D.put (.int .i64 xt) (.lit (.int .i64 xk))) := by rw [HS.out]; simp [takStep, Hid]
        clear HS
        obtain ⟨ht, hk0, hk1⟩ := HTk.out
        obtain ⟨t0, t1⟩ := ht rfl
        simp only at t0 t1 hk0 hk1
        have hkey : keyOf Tryz.prog 2 (.int .i64 xt) = some (.int .i64 xt) := keyOf_int_mk Tryz.underlying2 (WalkArith.wf_i64 (by omega))
        go_wp2_with (first | (at_mapUpdate; refine wpList_mapUpdate_own _ rfl _ _ _ 118 rfl 2 2 lawI Tryz.underlying118 _ B k _ rfl hok1 (by unfold maxLen; omega) _ _ _ rfl rfl hkey _ [] (plainElem_int Tryz.underlying2 (WalkArith.wf_i64 (by omega))) ?_; intro w5 ho5 hg5))
        go_roundw
        case rel => exact ⟨k + 1, by omega, by go_num, by rw [HE.out]; exact ho5, grown_trans hgal hg5⟩
        case measure => simp [intOf]; omega
    · obtain rfl : k = l.length := by omega
      go_wp2_with fail
      go_ret
      rw [List.take_length] at hok
      rw [HLL.out, hbb]
      exact ⟨rfl, hok, HB.out.grown hg (by omega) (fun j hj => by cases hj; omega)⟩

set_option maxRecDepth 100000 in
set_option maxHeartbeats 4000000 in
theorem implRoles_any (hC : ClaimsC) : RolesC := by
  intro A n c xs w hr hn hnc
  obtain ⟨i0, hi0, hz0, hz1, hz2⟩ := info_parts info2
  have hT : ∀ c ∈ claimsL xs, (c.good = true → 0 ≤ c.target ∧ c.target < 64) ∧ 1 ≤ c.kind ∧ c.kind ≤ 8 := by
    intro c hc
    unfold claimsL at hc
    split at hc
    · rename_i hh
      have hm := manyN_le (hasHead_img hh)
      refine ⟨fun hg => ?_, (claims_ok xs c hc).kind0, (claims_ok xs c hc).kind1⟩
      have := good_target hh hc hg
      omega
    · simp at hc
  go_enter Tryz.func97, Tryz.ntmps97
  go_wp2_with fail
  refine (taken_any hC A n c xs w hr hn hnc hT).mono ?_
  rintro e w1 ⟨rfl, hown, b1⟩
  clear hT
  have sb1 := b1.size
  have hll := claimsL_length xs
  cases hh : hasHead xs
  · have HN : Hid (rolesL xs = []) := by unfold rolesL; rw [hh]; rfl
    have hcl : claimsL xs = [] := by unfold claimsL; rw [hh]; rfl
    rw [hcl] at hown
    have hz : Maps.size (.map [] : DataW Unit) = 0 := rfl
    go_wp2_with (first | (at_len; refine wpList_len_own _ rfl _ 118 rfl 2 2 Tryz.underlying118 _ w.heap.size _ _ rfl hown ?_))
    go_ret
    rw [HN.out]
    exact Ret.nil _ _ b1
  · have HH := Lib.hid hh
    clear hh
    have hcl : claimsL xs = claimsC xs := by unfold claimsL; rw [HH.out]; rfl
    rw [hcl] at hown hll
    obtain ⟨kk, hkk⟩ := tak_some (claimsC xs) (.map []) isMap_empty (claims_good xs)
    have hz := size_of_has (World.ownsMap.isMap hown) hkk
    have HR := Lib.hid (tak_roles (manyN xs) (claimsC xs) (.map []) (List.replicate (manyN xs) 0) isMap_empty (by simp) (fun c hc hg => good_target HH.out hc hg) (fun τ => by rw [zeros_get]; exact atKey_of_not_has (by rw [has_eq]; rfl) _))
    have HN : Hid (rolesL xs = (claimsC xs).foldl roleStep (List.replicate (manyN xs) 0)) := by unfold rolesL; rw [HH.out]; exact rfl
    have HO := Lib.hid (rolesC_length xs)
    unfold rolesC at HO
    have hm := manyN_le (hasHead_img HH.out)
    have hmI : manyI xs = (manyN xs : Int) := by unfold manyI; rw [if_pos (hasHead_img HH.out)]
    clear hkk hcl
    generalize (claimsC xs).foldl roleStep (List.replicate (manyN xs) 0) = o at *
    generalize (claimsC xs).foldl takStep (.map []) = D at *
    generalize (claimsC xs).length = N at *
    obtain ⟨M, hM⟩ : ∃ M, M = manyN xs := ⟨_, rfl⟩
    rw [← hM] at HO hm hmI
    clear hM
    obtain ⟨z, hzz⟩ : ∃ z, Maps.size D = z := ⟨_, rfl⟩
    have hz' : ((z : Int) == 0) = false := by simp; omega
    go_wp2_with (first | (at_len; refine wpList_len_own _ rfl _ 118 rfl 2 2 Tryz.underlying118 _ w.heap.size _ _ rfl hown ?_; rw [hzz]))
    refine (implClin_any A n c xs w1 ((hr.below b1).more b1.size) hn).mono ?_
    rintro e w2 ⟨rfl, b2⟩
    rw [hmI]
    have hlt1 := World.ownsMap.lt hown
    have oM2 := MapAt.below hown b2 hlt1
    have B2 := below_more b1 b2 b1.size
    have sb2 := b2.size
    clear hr hown b1 b2
    go_wp2_with (at_make; refine wpList_make_full _ rfl _ _ 22 rfl w2.heap.size 2 i0 (.int .i64 0) 1 Tryz.underlying22 hi0 hz0 hz1 .i64 .i64 _ _ M rfl rfl rfl rfl (by rw [hz2]; omega) (by simp only [maxLen]; omega) (Nat.le_refl _) ?_; intro w3 hown3 hg3; rw [made_iv] at hown3)
    have hb3 : Below w2.heap.size w2 w3 := below_grown hg3 (Nat.le_refl _) (fun _ h => by cases h)
    have ho3 := zeros_ow hown3
    have hlt3 := ow_lt ho3
    have oM3 := oM2.below hb3 (by omega)
    have B3 := below_more B2 hb3 B2.size
    have hgb : w.heap.size < w2.heap.size := by omega
    have sb3 := hb3.size
    clear hown3 hg3 hi0 hz0 hz1 hz2 oM2 B2 hb3 hz hz' hzz hlt1
    generalize w2.heap.size = gv at *
    generalize hbb : w.heap.size = mb at *
    have HS0 := Lib.hid (told_zero o)
    have HSA := Lib.hid (told_all o)
    rw [HO.out] at HS0 HSA
    go_loopw [16] (fun i wr => ∃ (k : Nat) (D' : DataW Unit), k ≤ M ∧ i = .int .i64 k ∧ MapAt wr mb N D' ∧ (∀ τ : Nat, k ≤ τ → D'.atKey (.int .i64 τ) (.lit (.int .i64 0)) = .lit (.int .i64 (o.getD τ 0))) ∧
      Ow wr gv (gv + 1) (some ⟨gv, 0, none⟩) M M (toldR o k) ∧ Below mb w wr) (fun i _ => M - (intOf i).toNat)
    case atStart => exact ⟨0, D, Nat.zero_le _, rfl, oM3, fun τ _ => HR.out τ, by rw [HS0.out]; exact ho3, B3⟩
    case round =>
      obtain ⟨k, D', hk, rfl, hmk, hat', hok, hbk⟩ := hrel
      have HA := Lib.hid hat'
      have HB := Lib.hid hbk
      have sr := hbk.size
      clear hat' hbk
      by_cases hlt : k < M
      · have hkey : keyOf Tryz.prog 2 (.int .i64 k) = some (.int .i64 k) := keyOf_int_mk Tryz.underlying2 (WalkArith.wf_i64 (by omega))
        have hco := hok.cell hlt
        have hfo := hok.free k
        generalize (toldR o k).getD k 0 = v0 at *
        have hne : mb ≠ gv := by omega
        have hlw := ow_lt hok
        have HK := Lib.hid hok
        clear hok
        go_wp2_with (first
          | (at_lookup; refine wpList_lookup_own_int _ rfl _ _ 118 rfl 2 2 .i64 lawI Tryz.underlying118 Tryz.underlying2 (zeroI _) mb N D' rfl hmk _ _ rfl hkey ?_; intro cv hcv hwc; have hmk1 := World.ownsMap.setCell (a := ⟨gv, k, none⟩) hmk hne (.int .i64 cv))
          | (at_delete; refine wpList_delete_own _ rfl _ _ 118 2 rfl 2 lawI Tryz.underlying118 _ mb N D' rfl hmk1 _ _ rfl hkey ?_; intro w5 hm5 ht5)
          | (at_len; refine wpList_len_own _ rfl _ 118 rfl 2 2 Tryz.underlying118 _ mb N _ rfl hm5 ?_; obtain ⟨z5, hz5⟩ : ∃ z5, Maps.size (D'.del (.int .i64 k)) = z5 := ⟨_, rfl⟩; rw [hz5]))
        · have HCV : Hid (cv = o.getD k 0) := by
            have := hcv.symm.trans (HA.out k (Nat.le_refl _))
            injection this with this
            injection this with _ this
          obtain ⟨h1, h2⟩ := HK.out.set k cv
          have ho5 := h1.grown ht5.grown (fun g e => by cases e; omega)
          have hb5 := (HB.out.grown h2 (by omega) (fun g e => by cases e; omega)).grown ht5.grown (by simp; omega) (fun g e => by cases e; omega)
          rw [HCV.out, told_step (by rw [HO.out]; omega), told_rest (fun τ hτ => by
            have e1 := none_of_size (World.ownsMap.isMap hm5) (by rw [hz5]; simp at *; omega) (.int .i64 τ) (.lit (.int .i64 0))
            rw [atKey_del_other (fun e => by injection e with _ e; omega), HA.out τ (by omega)] at e1
            injection e1 with e1
            injection e1 with _ e1)] at ho5
          go_wp2_with fail
          go_ret
          rw [HN.out]
          exact ⟨_, M, M, rfl, ho5.more (by omega) (by have := ow_lt ho5; omega), by rw [hbb]; exact hb5⟩
        · have HCV : Hid (cv = o.getD k 0) := by
            have := hcv.symm.trans (HA.out k (Nat.le_refl _))
            injection this with this
            injection this with _ this
          obtain ⟨h1, h2⟩ := HK.out.set k cv
          have ho5 := h1.grown ht5.grown (fun g e => by cases e; omega)
          have hb5 := (HB.out.grown h2 (by omega) (fun g e => by cases e; omega)).grown ht5.grown (by simp; omega) (fun g e => by cases e; omega)
          rw [HCV.out, told_step (by rw [HO.out]; omega)] at ho5
          go_roundw
          case rel => exact ⟨k + 1, _, by omega, by go_num, hm5, fun τ hτ => by rw [atKey_del_other (fun e => by injection e with _ e; omega), HA.out τ (by omega)], ho5, hb5⟩
          case measure => simp [intOf]; omega
      · obtain rfl : k = M := by omega
        have hlw := ow_lt hok
        go_wp2_with fail
        go_ret
        rw [HN.out]
        rw [HSA.out] at hok
        exact ⟨_, k, k, rfl, hok.more (by omega) (by omega), by rw [hbb]; exact HB.out⟩

/-- Function 97. -/
theorem implRoles_all : RolesC := implRoles_any implClaims_any

/-- Function 77. -/
theorem implLoose_all : LooseC := implLoose_any implClaims_any

end Go.Proofs.YtibokhkohanoaaaGreat
