/- Counts (chapter 8): the program's side: CountsIn ranges over a function (an iterator), given what ClaimsIn answers. -/
import Derived.Test.YtadbbmbilhjghabLawCo
import Derived.Test.YtadbbmbilhjghabLawCm
import Derived.Test.YtadbbmbilhjghabHdj
import Derived.RangeFuncNested
import Derived.RangeFuncBound
import Derived.RangeFuncCalls
import Derived.RangeFuncLeaves
import Derived.Shelf.Abstract
import Derived.Shelf.RegionOpen
import Derived.WalkKit
import Derived.OwnWalkIn
import Derived.TacticsInMore
import Derived.LoopNIn
import Derived.LoopIn
namespace Go.Proofs.Ytadbbmbilhjghab
open Go.RowKit Go.Shelf

attribute [local go_sem] Oper.semAt_some

/-- What a round keeps: each cell but those of block g. -/
def KpC (g : Nat) (W W' : World) : Prop := W.heap.size ≤ W'.heap.size ∧ ∀ (p : Addr) (v : Value), p.block ≠ g → W.cell? p = some v → W'.cell? p = some v
theorem KpC.refl (g : Nat) (W : World) : KpC g W W := ⟨Nat.le_refl _, fun _ _ _ h => h⟩
theorem KpC.trans {g : Nat} {A B C : World} (h : KpC g A B) (k : KpC g B C) : KpC g A C := ⟨Nat.le_trans h.1 k.1, fun p v hp hc => k.2 p v hp (h.2 p v hp hc)⟩
theorem KpC.alloc {g : Nat} {A B : World} (h : KpC g A B) (o : Obj) : KpC g A (B.alloc o) :=
  h.trans ⟨by simp, fun _ _ _ hc => cell_kept hc (World.grownBy_alloc B o none) (fun _ e => by cases e)⟩
theorem KpC.put {g : Nat} {W : World} {l : Nat} {o : Obj} (o' : Obj) (h : W.heap[l]? = some o) (ho : o.isCells = false) : KpC g W (W.putObj l o') :=
  ⟨(grownBy_putObj' W l o').size, fun _ _ _ hc => cell_kept hc (grownBy_putObj' W l o') (fun _ e => by cases e; exact ⟨o, h, ho⟩)⟩

theorem KpC.grown {g : Nat} {W W' : World} (h : W.grownBy W' (some g)) : KpC g W W' :=
  ⟨h.size, fun p v hp hc => by
    obtain ⟨o, ho, _⟩ := cells_of_cell hc
    exact (World.cell?_of_block (h.block p.block (Array.getElem?_eq_some_iff.1 ho).1 (fun e => hp (by injection e)))).trans hc⟩

/-- A claim whose target has a count. -/
abbrev Gc := { c : Cm // 0 ≤ c.target ∧ c.target < 64 ∧ c.good = true }

theorem below_grownBy {W W' : World} (h : Below W.heap.size W W') : W.grownBy W' none := ⟨h.os, h.tape, h.output, h.size, fun k hk _ => h.block k hk⟩

/-- The cells of claim k of a row. -/
theorem cmr_cells8 {w : World} {lo hi : Nat} {A : Option Addr} {cg : Nat} {l : List Cm} (h : OwR 39 6 w lo hi A l.length cg (l.flatMap cmV)) {k : Nat} (hk : k < l.length) :
    ∃ g, A = some ⟨g, 0, none⟩ ∧ lo ≤ g ∧ g < hi ∧ g < w.heap.size ∧ ∀ j, j < 6 → w.cell? ⟨g, k * 6 + j, none⟩ = (cmV (l.getD k cm0))[j]? := by
  rcases h.form with ⟨_, h0, _⟩ | ⟨g, rfl, h1, h2, h3, _⟩
  · omega
  · exact ⟨g, rfl, h1, h2, h3, fun j hj => cm_cells h.rd hk j hj⟩

theorem filt_step (l : List Cm) (k : Nat) (hk : k < l.length) : (l.take (k + 1)).filter (fun c => c.good) = (l.take k).filter (fun c => c.good) ++ if (l.getD k cm0).good then [l.getD k cm0] else [] := by
  have e : l.getD k cm0 = l[k] := by simp [List.getD_eq_getElem?_getD, hk]
  rw [List.take_succ_eq_append_getElem hk, List.filter_append, e]
  cases h : l[k].good <;> simp [h]

set_option maxRecDepth 100000 in
set_option maxHeartbeats 4000000 in
theorem good1_in (hC : ClaimsC) (nn l Bs gv : Nat) (hnn : 1 ≤ nn) (A : Option Addr) (n c : Nat) (xs : List Int) (W : World) (hbox : W.cell? ⟨Bs, 0, none⟩ = some (.slice A n c)) (hr : Rd W W.heap.size A n xs) (hn : n ≤ 2097152) (hnc : n ≤ c) (hgv : gv < W.heap.size)
    (hT : ∀ c ∈ claimsL xs, c.good = true → 0 ≤ c.target ∧ c.target < 64) (J Jx : List Gc → World → Prop) (hJ : AbidesFrom W.heap.size J)
    (hY : ∀ pre (x : Gc) W1, J pre W1 → pre.length < 1296 → YieldAt Fence.wide (nn - 1) Try.prog l #[.agg #[.int .i64 x.1.kind, .int .i64 x.1.frm, .int .i64 x.1.slot, .int .i64 x.1.place, .int .i64 x.1.target, .bool x.1.good]] W1 fun e W' =>
      (e = .returned (.bool true) ∧ J (pre ++ [x]) W' ∧ KpC gv W1 W') ∨ (e = .returned (.bool false) ∧ Jx (pre ++ [x]) W')) (h0 : J [] W) :
    CallsIn Fence.wide nn Try.prog 28 #[.func (.yield l) #[] #[], .pointer (some ⟨Bs, 0, none⟩)] W fun e W' => (∃ v, e = .returned v) ∧
      ((∃ ys : List Gc, ys.map Subtype.val = (claimsL xs).filter (fun c => c.good) ∧ J ys W') ∨ (∃ pre, True ∧ Jx pre W')) := by
  refine callsIn_of_wp Try.func28 rfl trivial ?_ rfl
  simp only [Try.ntmps28, List.size_toArray, List.length_cons, List.length_nil, Nat.reduceAdd, Nat.reduceSub, Array.replicate_succ, Array.replicate_zero, List.push_toArray, List.append_toArray, List.nil_append, List.cons_append]
  have hz : ∀ s W1 W2, J s W1 → Below W1.heap.size W1 W2 → J s W2 := fun s W1 W2 h b => hJ s W1 W2 none h (below_grownBy b) (fun _ e => by cases e)
  have HZ := Lib.hid hz
  have HT := Lib.hid hT
  have HY := Lib.hid hY
  have HJ := Lib.hid hJ
  clear hT hY hJ hz
  gi_wp2_with (refine ⟨trivial, ?_⟩; gi_at_call 29; refine (callsIn_wide.2 (hC A n c xs _ hr hn hnc)).mono ?_; rintro e w2 ⟨G, cg, rfl, oG, b2⟩)
  have hll := claimsL_length xs
  have sb2 := b2.size
  have hJ0 := HZ.out _ _ _ h0 b2
  have HG := Lib.hid oG
  clear oG hr h0 b2 hbox
  generalize hL : claimsL xs = L at *
  have HL := Lib.hid hL
  clear hL
  gi_wp2
  gi_loopw [8] (fun i wr => ∃ (k : Nat) (pre : List Gc), k ≤ L.length ∧ i = .int .i64 k ∧ pre.map Subtype.val = (L.take k).filter (fun c => c.good) ∧ J pre wr ∧ KpC gv w2 wr) (fun i _ => L.length - (intOf i).toNat)
  case atStart => exact ⟨0, [], Nat.zero_le _, rfl, by simp, hJ0, KpC.refl _ _⟩
  case round =>
    obtain ⟨k, pre, hk, rfl, hpre, hJs, hkp⟩ := hrel
    have HP := Lib.hid hpre
    have HK := Lib.hid hkp
    clear hpre hkp hJ0
    by_cases hlt : k < L.length
    · obtain ⟨g, rfl, hg1, hg2, hg3, hce⟩ := cmr_cells8 HG.out hlt
      have hce : ∀ j v, j < 6 → (cmV (L.getD k cm0))[j]? = some v → wr.cell? ⟨g, k * 6 + j, none⟩ = some v := fun j v hj hv => HK.out.2 _ _ (by show g ≠ gv; omega) ((hce j hj).trans hv)
      have HS := Lib.hid (filt_step L k hlt)
      have HTk := Lib.hid (HT.out (L.getD k cm0) (by rw [show L.getD k cm0 = L[k] by simp [List.getD_eq_getElem?_getD, hlt]]; exact List.getElem_mem hlt))
      have hpl : pre.length < 1296 := by
        have h1 : pre.length = ((L.take k).filter (fun c => c.good)).length := by rw [← HP.out]; simp
        have h2 := List.length_filter_le (fun c : Cm => c.good) (L.take k)
        have h3 : (L.take k).length ≤ k := List.length_take_le _ _
        omega
      generalize L.getD k cm0 = x at *
      obtain ⟨xk, xf, xs', xp, xt, xg⟩ := x
      have e0 : wr.cell? ⟨g, k * 6, none⟩ = some (.int .i64 xk) := hce 0 _ (by omega) rfl
      have e1 : wr.cell? ⟨g, k * 6 + 1, none⟩ = some (.int .i64 xf) := hce 1 _ (by omega) rfl
      have e2 : wr.cell? ⟨g, k * 6 + 2, none⟩ = some (.int .i64 xs') := hce 2 _ (by omega) rfl
      have e3 : wr.cell? ⟨g, k * 6 + 3, none⟩ = some (.int .i64 xp) := hce 3 _ (by omega) rfl
      have e4 : wr.cell? ⟨g, k * 6 + 4, none⟩ = some (.int .i64 xt) := hce 4 _ (by omega) rfl
      have e5 : wr.cell? ⟨g, k * 6 + 5, none⟩ = some (.bool xg) := hce 5 _ (by omega) rfl
      clear hce
      have hJ1 := HZ.out _ _ _ hJs ((Below.refl _ wr).alloc (Nat.le_refl _) (.cells #[.int .i64 xk, .int .i64 xf, .int .i64 xs', .int .i64 xp, .int .i64 xt, .bool xg] 39))
      cases xg
      · gi_wp2
        refine ⟨fun _ h => (by cases h), ?_⟩
        gi_wp2
        go_roundw
        case rel => exact ⟨k + 1, pre, by omega, by go_num, by rw [HS.out, HP.out]; simp, hJ1, HK.out.alloc _⟩
        case measure => simp [intOf]; omega
      · obtain ⟨t0, t1⟩ := HTk.out rfl
        obtain ⟨fn, tmps, assign, body, hy, hR⟩ := HY.out pre ⟨⟨xk, xf, xs', xp, xt, true⟩, t0, t1, rfl⟩ _ hJ1 hpl
        dsimp only at hy
        gi_wp2
        refine hR.mono ?_
        rintro e W3 (⟨rfl, hJ3, hk3⟩ | ⟨rfl, hJx3⟩)
        · have hk3 := (HK.out.alloc _).trans hk3
          gi_wp2
          go_roundw
          case rel => exact ⟨k + 1, pre ++ [⟨⟨xk, xf, xs', xp, xt, true⟩, t0, t1, rfl⟩], by omega, by go_num, by rw [HS.out, List.map_append, HP.out]; simp, hJ3, hk3⟩
          case measure => simp [intOf]; omega
        · gi_wp2
          refine bodyPost_ret (results_none rfl _ _ _) rfl ?_
          exact ⟨⟨_, rfl⟩, .inr ⟨_, trivial, hJx3⟩⟩
    · obtain rfl : k = L.length := by omega
      gi_wp2
      go_end0
      refine ⟨⟨_, rfl⟩, .inl ⟨pre, ?_, hJs⟩⟩
      rw [HP.out, List.take_length, HL.out]

/-- The claims' iterator. -/
theorem good_in (A : Option Addr) (n c : Nat) (nn : Nat) (w : World) :
    CallsIn Fence.wide nn Try.prog 13 #[.slice A n c] w fun e w' => e = .returned (.func (.func 28) #[] #[.pointer (some ⟨w.heap.size, 0, none⟩)]) ∧ w' = w.alloc (.cells #[.slice A n c] 24) := by
  refine callsIn_of_wp Try.func13 rfl trivial ?_ rfl
  simp only [Try.ntmps13, List.size_toArray, List.length_cons, List.length_nil, Nat.reduceAdd, Nat.reduceSub, Array.replicate_succ, Array.replicate_zero, List.push_toArray, List.append_toArray, List.nil_append, List.cons_append]
  gi_wp2
  go_ret
  exact ⟨rfl, rfl⟩

theorem good_stops (hC : ClaimsC) (nn Bs gv : Nat) (hnn : 1 ≤ nn) (A : Option Addr) (n c : Nat) (xs : List Int) (w : World) (hbs : Bs < w.heap.size) (hbox : w.cell? ⟨Bs, 0, none⟩ = some (.slice A n c)) (hr : Rd w w.heap.size A n xs) (hn : n ≤ 2097152) (hnc : n ≤ c) (hgv : gv < w.heap.size)
    (hT : ∀ c ∈ claimsL xs, c.good = true → 0 ≤ c.target ∧ c.target < 64) :
    SeqStopsK Fence.wide nn Try.prog 28 #[.pointer (some ⟨Bs, 0, none⟩)] (fun x : Gc => #[Value.agg #[.int .i64 x.1.kind, .int .i64 x.1.frm, .int .i64 x.1.slot, .int .i64 x.1.place, .int .i64 x.1.target, .bool x.1.good]]) (KpC gv)
      (fun ys => ys.map Subtype.val = (claimsL xs).filter (fun c => c.good)) (fun _ => True) 1296 w := fun l J Jx W hW hJ _ hY h0 =>
  good1_in hC nn l Bs gv hnn A n c xs W ((hW.cell (p := ⟨Bs, 0, none⟩) hbs).trans hbox) ((hr.below hW).more hW.size) hn hnc (by have := hW.size; omega) hT J Jx hJ hY h0

theorem wpListIn_make_full {F : Fence} {nf : Nat} {P : Program} (w : World) {ops : Array Oper} {rest : List Oper} {o : Oper} {a : Act} {Q : Exit → Act → World → Prop}
    (hg : o.guard = none) (l c : Operand) (t : TypeId) (hop : o.op = Op.makeSlice t l c)
    (base : Nat) (e : TypeId) (i : TypeInfo) (z : Value) (size : Nat) (h1 : P.underlying t = some (.slice e)) (h2 : P.info? e = some i) (h3 : i.zero = some z) (h4 : i.size = size)
    (kl kc : IntKind) (L C : Int) (n : Nat) (hl : a.eval l = .int kl L) (hc : a.eval c = .int kc C) (hL : L = (n : Int)) (hC : C = (n : Int)) (b2 : i.bytes * n ≤ 281474976710656) (b3 : n ≤ maxLen) (b4 : base ≤ w.heap.size)
    (hK : ∀ w', w'.ownsRow base e size (.slice (some ⟨w.heap.size, 0, none⟩) n n) n (madeCells z.cells (n * size)).toList → w.grownBy w' none → wpListIn F nf P ops Q rest (a.put o.dst (.slice (some ⟨w.heap.size, 0, none⟩) n n)) w') :
    wpListIn F nf P ops Q (o :: rest) a w := by
  refine wpListIn_plain hg fun K hK' => ?_
  obtain ⟨w', hrun, r1, r2⟩ := run_make_full (P := P) w base t e i z size h1 h2 h3 h4 kl kc n b2 b3 b4
  subst hL
  subst hC
  unfold Oper.wpIn
  refine ⟨?_, ?_⟩
  · simp [Oper.about, hop]
  · rw [Oper.semAt_plain F _ _ (by rw [hop]; intro c hc'; cases hc')]
    simp [execOp, hop, hl, hc, hrun, Result.andThen]
    exact hK' _ _ (hK w' r1 r2)

theorem fold_good : ∀ (l : List Cm) (o : List Int), (l.filter (fun c => c.good)).foldl cntStep o = l.foldl cntStep o
  | [], _ => rfl
  | c :: l, o => by
    rw [List.foldl_cons]
    cases h : c.good
    · rw [List.filter_cons_of_neg (by simp [h]), fold_good l o]
      congr 1
      unfold cntStep
      rw [if_neg (by simp [h])]
    · rw [List.filter_cons_of_pos (by simp [h]), List.foldl_cons]
      exact fold_good l _

theorem cnt_snoc (pre : List Gc) (x : Gc) (o : List Int) : ((pre ++ [x]).map Subtype.val).foldl cntStep o = ((pre.map Subtype.val).foldl cntStep o).set x.1.target.toNat (((pre.map Subtype.val).foldl cntStep o).getD x.1.target.toNat 0 + 1) := by
  rw [List.map_append, List.foldl_append]
  exact if_pos x.2.2.2

/-- Between two rounds: the counts of those that have come. -/
def CoI (w : World) (Bb gv : Nat) (pre : List Gc) (W : World) : Prop :=
  Boxed W Bb 24 (.slice (some ⟨gv, 0, none⟩) 64 64) ∧ Ow W gv (gv + 1) (some ⟨gv, 0, none⟩) 64 64 ((pre.map Subtype.val).foldl cntStep (List.replicate 64 0)) ∧ Below w.heap.size w W
/-- The round's claim lies in a box of its own. -/
def CoX (Bb gv : Nat) (tm : Gc → Nat → Array Value) (x : Gc) (a : Act) (W : World) : Prop :=
  ∃ Bx, Bb < Bx ∧ gv < Bx ∧ W.heap[Bx]? = some (.cells #[.int .i64 x.1.kind, .int .i64 x.1.frm, .int .i64 x.1.slot, .int .i64 x.1.place, .int .i64 x.1.target, .bool x.1.good] 39 (0, 0)) ∧ a = { tmps := tm x Bx, defers := [] }

theorem CoI.own {w : World} {Bb gv B : Nat} (h1 : w.heap.size ≤ B) (h2 : gv < B) (h3 : Bb < B) : OwnFrom B (CoI w Bb gv) := fun s X Y row hs hg hr => by
  obtain ⟨b, o, l⟩ := hs
  exact ⟨b.kept hg (fun e => by have := (hr _ e.symm).1; omega), o.grown hg (fun g e => by have := (hr _ e).1; omega), l.grown hg l.size (fun k e => by have := (hr _ e).1; omega)⟩
theorem CoX.own {Bb gv B : Nat} {tm : Gc → Nat → Array Value} {x : Gc} {a : Act} : OwnFrom B (fun (_ : Unit) W => CoX Bb gv tm x a W) := fun _ X Y row hs hg hr => by
  obtain ⟨Bx, h1, h2, h3, h4⟩ := hs
  refine ⟨Bx, h1, h2, ?_, h4⟩
  refine (hg.block Bx (Array.getElem?_eq_some_iff.1 h3).1 (fun e => ?_)).trans h3
  obtain ⟨_, o, ho, hc⟩ := hr _ e.symm
  rw [h3] at ho
  cases ho
  cases hc

set_option maxRecDepth 100000 in
set_option maxHeartbeats 4000000 in
theorem implCounts_any (hC : ClaimsC) : CountsC := by
  intro A n c xs w hr hn hnc
  obtain ⟨i0, hi0, hz0, hz1, hz2⟩ := info_parts info2
  refine (callsIn_wide (n := 5)).1 ?_
  refine callsIn_of_wp_marks Try.func6 rfl trivial ?_ rfl
  simp only [Try.ntmps6, List.size_toArray, List.length_cons, List.length_nil, Nat.reduceAdd, Nat.reduceSub, Array.replicate_succ, Array.replicate_zero, List.push_toArray, List.append_toArray, List.nil_append, List.cons_append]
  have hhi := (callsIn_wide (n := 4)).2 (implHeadIn_any A n c xs w hr hn)
  have HHI := Lib.hid hhi
  clear hhi
  cases hh : hasHead xs
  · have HN : Hid (countsL xs = []) := by unfold countsL; rw [hh]; exact rfl
    gi_wp2_with (refine ⟨trivial, ?_⟩; gi_at_call 12; refine HHI.out.mono ?_; rintro e w1 ⟨rfl, b1⟩; rw [headIn_no hh]; unfold hdV hd0)
    exact ⟨_, results_tmp rfl _ _ _, by rw [HN.out]; exact Ret.nil _ _ (b1.alloc b1.size _)⟩
  · have HN : Hid (countsL xs = countsC (claimsC xs)) := by unfold countsL; rw [hh]; exact rfl
    have HCL : Hid (claimsL xs = claimsC xs) := by unfold claimsL; rw [hh]; exact rfl
    have HH := Lib.hid hh
    have HT : ∀ c ∈ claimsL xs, c.good = true → 0 ≤ c.target ∧ c.target < 64 := by
      intro c hc hg
      rw [HCL.out] at hc
      have := good_target hh hc hg
      have := manyN_le (hasHead_img hh)
      omega
    obtain ⟨⟨s, f, r, u, m⟩, hhd⟩ : ∃ q, headIn xs = (q, true) := ⟨_, headIn_yes hh⟩
    have HT := Lib.hid HT
    have HHD := Lib.hid hhd
    clear hh hhd
    gi_wp2_with (first
      | (refine ⟨trivial, ?_⟩; gi_at_call 12; refine HHI.out.mono ?_; rintro e w1 ⟨rfl, b1⟩; rw [HHD.out]; unfold hdV; have b2 := b1.alloc b1.size (.cells #[.int .i64 s, .int .i64 f, .int .i64 r, .int .i64 u, .int .i64 m] 32))
      | (gi_at_make; generalize (w1.alloc (.cells #[.int .i64 s, .int .i64 f, .int .i64 r, .int .i64 u, .int .i64 m] 32)) = v1 at *; refine wpListIn_make_full _ rfl _ _ 24 rfl _ 2 i0 (.int .i64 0) 1 Try.underlying24 hi0 hz0 hz1 .i64 .i64 _ _ 64 rfl rfl rfl rfl (by rw [hz2]; omega) (by simp only [maxLen]; omega) (Nat.le_refl _) ?_; intro w2 hown hg; rw [made_iv] at hown)
      | (refine ⟨trivial, ?_⟩; gi_at_call 13; refine (good_in A n c _ _).mono ?_; rintro e w' ⟨rfl, rfl⟩))
    have hb2 : Below v1.heap.size v1 w2 := below_grown hg (Nat.le_refl _) (fun _ h => by cases h)
    have ho1 := zeros_ow hown
    have hlt1 := ow_lt ho1
    have b3 := below_more b2 hb2 b2.size
    have s1 := b1.size
    have s2 := b2.size
    have s3 := hb2.size
    clear hown hg hi0 hz0 hz1 hz2 b1 hb2
    generalize v1.heap.size = gv at *
    have b4 := b3.alloc b3.size (.cells #[.slice (some ⟨gv, 0, none⟩) 64 64] 24)
    have b5 := b4.alloc b4.size (.cells #[.slice A n c] 24)
    have x4 : Boxed (w2.alloc (.cells #[.slice (some ⟨gv, 0, none⟩) 64 64] 24)) w2.heap.size 24 (.slice (some ⟨gv, 0, none⟩) 64 64) := Boxed.new _ _ _
    have x5 := x4.alloc (.cells #[.slice A n c] 24)
    have y5 := Boxed.new (w2.alloc (.cells #[.slice (some ⟨gv, 0, none⟩) 64 64] 24)) 24 (.slice A n c)
    have o5 := (ho1.grown (World.grownBy_alloc _ (.cells #[.slice (some ⟨gv, 0, none⟩) 64 64] 24) none) (fun _ h => by cases h)).grown (World.grownBy_alloc _ (.cells #[.slice A n c] 24) none) (fun _ h => by cases h)
    have z5 : ((w2.alloc (.cells #[.slice (some ⟨gv, 0, none⟩) 64 64] 24)).alloc (.cells #[.slice A n c] 24)).heap.size = w2.heap.size + 2 := by simp
    rw [World.size_alloc] at y5
    generalize (w2.alloc (.cells #[.slice (some ⟨gv, 0, none⟩) 64 64] 24)).alloc (.cells #[.slice A n c] 24) = w5 at *
    refine wpIn_rangeFunc_ownH rfl (by omega) (gf := 28) (lb := #[.pointer (some ⟨w2.heap.size + 1, 0, none⟩)]) rfl trivial (enters_of Try.func28 (by kernel_rfl) rfl)
      (good_stops hC 4 (w2.heap.size + 1) gv (by omega) A n c xs w5 (by omega) y5.cell ((hr.below b5).more b5.size) hn hnc (by omega) HT.out) KpC.trans (fun W l o o' _ h ho _ => KpC.put o' h ho) (Below.refl _ _) (fun _ => rfl)
      (CoI w w2.heap.size gv) (fun _ _ _ => False) (CoI.own (by omega) (by omega) (by omega)) (fun _ _ _ _ _ hs _ _ => hs) ⟨x5, o5, b5⟩
      (CoX w2.heap.size gv (fun x Bx => #[.slice A n c, undef, .slice none 0 0, .pointer (some ⟨w1.heap.size, 0, none⟩), .bool true, .pointer (some ⟨w2.heap.size, 0, none⟩), .pointer (some ⟨Bx, 0, none⟩),
        .tuple #[.agg #[.int .i64 s, .int .i64 f, .int .i64 r, .int .i64 u, .int .i64 m], .bool true], .slice A n c, .tuple #[.agg #[.int .i64 s, .int .i64 f, .int .i64 r, .int .i64 u, .int .i64 m], .bool true],
        .agg #[.int .i64 s, .int .i64 f, .int .i64 r, .int .i64 u, .int .i64 m], .bool true, .bool true, .bool false, .slice (some ⟨gv, 0, none⟩) 64 64, .slice A n c, .func (.func 28) #[] #[.pointer (some ⟨w2.heap.size + 1, 0, none⟩)],
        .agg #[.int .i64 x.1.kind, .int .i64 x.1.frm, .int .i64 x.1.slot, .int .i64 x.1.place, .int .i64 x.1.target, .bool x.1.good], undef, undef, undef, undef, undef, undef, undef, undef])) (fun _ _ => CoX.own) ?assign ?body ?done ?stop
    case assign =>
      rintro l pre x W K ⟨hb, ho, hw⟩ hK
      gi_wp2
      exact hK _ _ ((KeepsOthers.alloc _ _).from _) ((KpC.refl _ _).alloc _) ⟨hb.alloc _, ho.grown (World.grownBy_alloc _ _ none) (fun _ h => by cases h), hw.alloc hw.size _⟩ ⟨W.heap.size, hb.lt, ow_lt ho, World.alloc_heap_new W _, rfl⟩
    case body =>
      rintro l pre x a' W hl _ ⟨hb, ho, hw⟩ ⟨Bx, h1, h2, h3, rfl⟩ hlt
      obtain ⟨⟨xk, xf, xs', xp, xt, xg⟩, t0, t1, tg⟩ := x
      simp only at t0 t1 tg h3
      subst tg
      obtain ⟨τ, rfl⟩ := Int.eq_ofNat_of_zero_le t0
      have hτ : τ < 64 := by omega
      obtain ⟨_, hbd⟩ := cnt_take (pre.map Subtype.val) pre.length
      rw [List.take_of_length_le (by simp)] at hbd
      obtain ⟨v0, v1⟩ := hbd τ
      have HS := Lib.hid (cnt_snoc pre ⟨⟨xk, xf, xs', xp, (τ : Int), true⟩, t0, t1, rfl⟩ (List.replicate 64 0))
      rw [show (⟨xk, xf, xs', xp, (τ : Int), true⟩ : Cm).target.toNat = τ from Int.toNat_natCast τ] at HS
      have c1 := hb.cell
      have f1 := hb.frozen
      have e4 : W.cell? ⟨Bx, 4, none⟩ = some (.int .i64 (τ : Int)) := by simp [World.cell?, h3]
      have hco := ho.cell hτ
      have hfo := ho.free τ
      have HSt := Lib.hid (ho.set τ (((pre.map Subtype.val).foldl cntStep (List.replicate 64 0)).getD τ 0 + 1))
      clear hbd
      generalize ((pre.map Subtype.val).foldl cntStep (List.replicate 64 0)) = fs at *
      generalize fs.getD τ 0 = v at *
      gi_wp2
      obtain ⟨o6, g6⟩ := HSt.out
      exact ⟨KeepsFrom.of_grownBy g6 (fun j e => by cases e; omega), KpC.grown g6, hb.kept g6 (fun e => by cases e; omega), by rw [HS.out]; exact o6, hw.grown g6 hw.size (fun k e => by cases e; omega)⟩
    case done =>
      rintro D ys W hD hS ⟨hb, ho, hw⟩ hK
      have c1 := hb.cell
      gi_wp2
      refine ⟨by simp, .inl ⟨_, _, rfl, run_takeDeferred hK, ?_⟩⟩
      refine ⟨_, results_tmp rfl _ _ _, ?_⟩
      rw [hS, fold_good, HCL.out] at ho
      rw [HN.out]
      have g7 := grownBy_putObj' W D (.deferred none)
      have sw := hw.size
      have lw := ow_lt ho
      exact ⟨some ⟨gv, 0, none⟩, 64, 64, rfl, (ho.grown g7 (fun g e => by cases e; omega)).more (by omega) (by have := g7.size; omega), hw.grown g7 hw.size (fun k e => by cases e; omega)⟩
    case stop =>
      rintro D c pre W _ _ h _
      exact h.elim
end Go.Proofs.Ytadbbmbilhjghab
