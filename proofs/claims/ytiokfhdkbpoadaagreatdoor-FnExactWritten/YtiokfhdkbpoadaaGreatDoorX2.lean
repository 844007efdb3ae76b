/- The iterator over the good claims (goodClaims), the program's side, given what ClaimsIn answers. Roles (chapter 7): the program's side: takenIn (a map), RolesIn, LooseIn, given what ClaimsIn answers. Roles (chapter 7): what the program's own functions answer. Counts (chapter 8): the program's side: CountsIn ranges over a function (an iterator), given what ClaimsIn answers. Counts (chapter 8): what the program's own function answers. A region that draws its order, in a round of a range over a function: its operations one by one. copy and clear in a block that is known whole: of no program. What is stored (chapter 9): the program's side: StoredIn asks a closure that keeps the blocks, given what ClaimsIn and TableAt answer. What is stored (chapter 9): what the program's own function answers. -/
import Derived.Test.YtiokfhdkbpoadaaGreatDoorY5
import Derived.Test.YtiokfhdkbpoadaaGreatDoorQ7
import Derived.RangeFuncNested
import Derived.RangeFuncBound
import Derived.RangeFuncCalls
import Derived.RangeFuncLeaves
import Derived.Shelf.Abstract
import Derived.Shelf.RegionOpen
import Derived.WalkKit
import Derived.OwnWalkIn
import Derived.TacticsInMore
import Derived.LoopNIn
import Derived.LoopIn
import Derived.Test.YtiokfhdkbpoadaaGreatDoorY2
import Derived.Test.YtiokfhdkbpoadaaGreatDoorH0
import Derived.Maps.OwnSet
import Derived.Test.YtiokfhdkbpoadaaGreatDoorX1
import Derived.Deep.RegionHeld3
import Derived.Test.YtiokfhdkbpoadaaGreatDoorG0
import Derived.Laws.CopyOwn
import Derived.Laws.CopyRow
import Derived.Lib.SliceRun
namespace Go.Proofs.YtiokfhdkbpoadaaGreatDoor
open Go.RowKit Go.Shelf
open Go.RowKit Go.Maps
open Go.RowKit

attribute [local go_sem] Oper.semAt_some

/-- What a round keeps: each cell but those of block g. -/
def KpC (g : Nat) (W W' : World) : Prop := W.heap.size ≤ W'.heap.size ∧ ∀ (p : Addr) (v : Value), p.block ≠ g → W.cell? p = some v → W'.cell? p = some v
theorem KpC.refl (g : Nat) (W : World) : KpC g W W := ⟨Nat.le_refl _, fun _ _ _ h => h⟩
theorem KpC.trans {g : Nat} {A B C : World} (h : KpC g A B) (k : KpC g B C) : KpC g A C := ⟨Nat.le_trans h.1 k.1, fun p v hp hc => k.2 p v hp (h.2 p v hp hc)⟩
theorem KpC.alloc {g : Nat} {A B : World} (h : KpC g A B) (o : Obj) : KpC g A (B.alloc o) :=
  h.trans ⟨by simp, fun _ _ _ hc => cell_kept hc (World.grownBy_alloc B o none) (fun _ e => by cases e)⟩
theorem KpC.put {g : Nat} {W : World} {l : Nat} {o : Obj} (o' : Obj) (h : W.heap[l]? = some o) (ho : o.isCells = false) : KpC g W (W.putObj l o') :=
  ⟨(grownBy_putObj' W l o').size, fun _ _ _ hc => cell_kept hc (grownBy_putObj' W l o') (fun _ e => by cases e; exact ⟨o, h, ho⟩)⟩

theorem KpC.grown {g : Nat} {W W' : World} (h : W.grownBy W' (some g)) : KpC g W W' :=
  ⟨h.size, fun p v hp hc => by
    obtain ⟨o, ho, _⟩ := cells_of_cell hc
    exact (World.cell?_of_block (h.block p.block (Array.getElem?_eq_some_iff.1 ho).1 (fun e => hp (by injection e)))).trans hc⟩

/-- A claim of which p is known. -/
abbrev Gq (p : Cm → Prop) := { c : Cm // p c }

theorem below_grownBy {W W' : World} (h : Below W.heap.size W W') : W.grownBy W' none := ⟨h.os, h.tape, h.output, h.size, fun k hk _ => h.block k hk⟩

/-- The cells of claim k of a row. -/
theorem cmr_cells8 {w : World} {lo hi : Nat} {A : Option Addr} {cg : Nat} {l : List Cm} (h : OwR 80 6 w lo hi A l.length cg (l.flatMap cmV)) {k : Nat} (hk : k < l.length) :
    ∃ g, A = some ⟨g, 0, none⟩ ∧ lo ≤ g ∧ g < hi ∧ g < w.heap.size ∧ ∀ j, j < 6 → w.cell? ⟨g, k * 6 + j, none⟩ = (cmV (l.getD k cm0))[j]? := by
  rcases h.form with ⟨_, h0, _⟩ | ⟨g, rfl, h1, h2, h3, _⟩
  · omega
  · exact ⟨g, rfl, h1, h2, h3, fun j hj => cm_cells h.rd hk j hj⟩

theorem filt_step (l : List Cm) (k : Nat) (hk : k < l.length) : (l.take (k + 1)).filter (fun c => c.good) = (l.take k).filter (fun c => c.good) ++ if (l.getD k cm0).good then [l.getD k cm0] else [] := by
  have e : l.getD k cm0 = l[k] := by simp [List.getD_eq_getElem?_getD, hk]
  rw [List.take_succ_eq_append_getElem hk, List.filter_append, e]
  cases h : l[k].good <;> simp [h]

set_option maxRecDepth 100000 in
set_option maxHeartbeats 4000000 in
theorem good1_in {p : Cm → Prop} (hC : ClaimsC) (nn l Bs gv : Nat) (hnn : 1 ≤ nn) (A : Option Addr) (n c : Nat) (xs : List Int) (W : World) (hbox : W.cell? ⟨Bs, 0, none⟩ = some (.slice A n c)) (hr : Rd W W.heap.size A n xs) (hn : n ≤ 2097152) (hnc : n ≤ c) (hgv : gv < W.heap.size)
    (hT : ∀ c ∈ claimsL xs, c.good = true → p c) (J Jx : List (Gq p) → World → Prop) (hJ : AbidesFrom W.heap.size J)
    (hY : ∀ pre (x : Gq p) W1, J pre W1 → pre.length < 1296 → YieldAt Fence.wide (nn - 1) Tryz.prog l #[.agg #[.int .i64 x.1.kind, .int .i64 x.1.frm, .int .i64 x.1.slot, .int .i64 x.1.place, .int .i64 x.1.target, .bool x.1.good]] W1 fun e W' =>
      (e = .returned (.bool true) ∧ J (pre ++ [x]) W' ∧ KpC gv W1 W') ∨ (e = .returned (.bool false) ∧ Jx (pre ++ [x]) W')) (h0 : J [] W) :
    CallsIn Fence.wide nn Tryz.prog 140 #[.func (.yield l) #[] #[], .pointer (some ⟨Bs, 0, none⟩)] W fun e W' => (∃ v, e = .returned v) ∧
      ((∃ ys : List (Gq p), ys.map Subtype.val = (claimsL xs).filter (fun c => c.good) ∧ J ys W') ∨ (∃ pre, True ∧ Jx pre W')) := by
  refine callsIn_of_wp Tryz.func140 rfl trivial ?_ rfl
  simp only [Tryz.ntmps140, List.size_toArray, List.length_cons, List.length_nil, Nat.reduceAdd, Nat.reduceSub, Array.replicate_succ, Array.replicate_zero, List.push_toArray, List.append_toArray, List.nil_append, List.cons_append]
  have hz : ∀ s W1 W2, J s W1 → Below W1.heap.size W1 W2 → J s W2 := fun s W1 W2 h b => hJ s W1 W2 none h (below_grownBy b) (fun _ e => by cases e)
  have HZ := Lib.hid hz
  have HT := Lib.hid hT
  have HY := Lib.hid hY
  have HJ := Lib.hid hJ
  clear hT hY hJ hz
  gi_wp2_with (refine ⟨trivial, ?_⟩; gi_at_call 133; refine (callsIn_wide.2 (hC A n c xs _ hr hn hnc)).mono ?_; rintro e w2 ⟨G, cg, rfl, oG, b2⟩)
  have hll := claimsL_length xs
  have sb2 := b2.size
  have hJ0 := HZ.out _ _ _ h0 b2
  have HG := Lib.hid oG
  clear oG hr h0 b2 hbox
  generalize hL : claimsL xs = L at *
  have HL := Lib.hid hL
  clear hL
  gi_wp2
  gi_loopw [8] (fun i wr => ∃ (k : Nat) (pre : List (Gq p)), k ≤ L.length ∧ i = .int .i64 k ∧ pre.map Subtype.val = (L.take k).filter (fun c => c.good) ∧ J pre wr ∧ KpC gv w2 wr) (fun i _ => L.length - (intOf i).toNat)
  case atStart => exact ⟨0, [], Nat.zero_le _, rfl, by simp, hJ0, KpC.refl _ _⟩
  case round =>
    obtain ⟨k, pre, hk, rfl, hpre, hJs, hkp⟩ := hrel
    have HP := Lib.hid hpre
    have HK := Lib.hid hkp
    clear hpre hkp hJ0
    by_cases hlt : k < L.length
    · obtain ⟨g, rfl, hg1, hg2, hg3, hce⟩ := cmr_cells8 HG.out hlt
      have hce : ∀ j v, j < 6 → (cmV (L.getD k cm0))[j]? = some v → wr.cell? ⟨g, k * 6 + j, none⟩ = some v := fun j v hj hv => HK.out.2 _ _ (by show g ≠ gv; omega) ((hce j hj).trans hv)
      have HS := Lib.hid (filt_step L k hlt)
      have HTk := Lib.hid (HT.out (L.getD k cm0) (by rw [show L.getD k cm0 = L[k] by simp [List.getD_eq_getElem?_getD, hlt]]; exact List.getElem_mem hlt))
      have hpl : pre.length < 1296 := by
        have h1 : pre.length = ((L.take k).filter (fun c => c.good)).length := by rw [← HP.out]; simp
        have h2 := List.length_filter_le (fun c : Cm => c.good) (L.take k)
        have h3 : (L.take k).length ≤ k := List.length_take_le _ _
        omega
      generalize L.getD k cm0 = x at *
      obtain ⟨xk, xf, xs', xp, xt, xg⟩ := x
      have e0 : wr.cell? ⟨g, k * 6, none⟩ = some (.int .i64 xk) := hce 0 _ (by omega) rfl
      have e1 : wr.cell? ⟨g, k * 6 + 1, none⟩ = some (.int .i64 xf) := hce 1 _ (by omega) rfl
      have e2 : wr.cell? ⟨g, k * 6 + 2, none⟩ = some (.int .i64 xs') := hce 2 _ (by omega) rfl
      have e3 : wr.cell? ⟨g, k * 6 + 3, none⟩ = some (.int .i64 xp) := hce 3 _ (by omega) rfl
      have e4 : wr.cell? ⟨g, k * 6 + 4, none⟩ = some (.int .i64 xt) := hce 4 _ (by omega) rfl
      have e5 : wr.cell? ⟨g, k * 6 + 5, none⟩ = some (.bool xg) := hce 5 _ (by omega) rfl
      clear hce
      have hJ1 := HZ.out _ _ _ hJs ((Below.refl _ wr).alloc (Nat.le_refl _) (.cells #[.int .i64 xk, .int .i64 xf, .int .i64 xs', .int .i64 xp, .int .i64 xt, .bool xg] 80))
      cases xg
      · gi_wp2
        refine ⟨fun _ h => (by cases h), ?_⟩
        gi_wp2
        go_roundw
        case rel => exact ⟨k + 1, pre, by omega, by go_num, by rw [HS.out, HP.out]; simp, hJ1, HK.out.alloc _⟩
        case measure => simp [intOf]; omega
      · have hpx := HTk.out rfl
        obtain ⟨fn, tmps, assign, body, hy, hR⟩ := HY.out pre ⟨⟨xk, xf, xs', xp, xt, true⟩, hpx⟩ _ hJ1 hpl
        dsimp only at hy
        gi_wp2
        refine hR.mono ?_
        rintro e W3 (⟨rfl, hJ3, hk3⟩ | ⟨rfl, hJx3⟩)
        · have hk3 := (HK.out.alloc _).trans hk3
          gi_wp2
          go_roundw
          case rel => exact ⟨k + 1, pre ++ [⟨⟨xk, xf, xs', xp, xt, true⟩, hpx⟩], by omega, by go_num, by rw [HS.out, List.map_append, HP.out]; simp, hJ3, hk3⟩
          case measure => simp [intOf]; omega
        · gi_wp2
          refine bodyPost_ret (results_none rfl _ _ _) rfl ?_
          exact ⟨⟨_, rfl⟩, .inr ⟨_, trivial, hJx3⟩⟩
    · obtain rfl : k = L.length := by omega
      gi_wp2
      go_end0
      refine ⟨⟨_, rfl⟩, .inl ⟨pre, ?_, hJs⟩⟩
      rw [HP.out, List.take_length, HL.out]

/-- The claims' iterator. -/
theorem good_in (A : Option Addr) (n c : Nat) (nn : Nat) (w : World) :
    CallsIn Fence.wide nn Tryz.prog 123 #[.slice A n c] w fun e w' => e = .returned (.func (.func 140) #[] #[.pointer (some ⟨w.heap.size, 0, none⟩)]) ∧ w' = w.alloc (.cells #[.slice A n c] 22) := by
  refine callsIn_of_wp Tryz.func123 rfl trivial ?_ rfl
  simp only [Tryz.ntmps123, List.size_toArray, List.length_cons, List.length_nil, Nat.reduceAdd, Nat.reduceSub, Array.replicate_succ, Array.replicate_zero, List.push_toArray, List.append_toArray, List.nil_append, List.cons_append]
  gi_wp2
  go_ret
  exact ⟨rfl, rfl⟩

theorem good_stops {p : Cm → Prop} (hC : ClaimsC) (nn Bs gv : Nat) (hnn : 1 ≤ nn) (A : Option Addr) (n c : Nat) (xs : List Int) (w : World) (hbs : Bs < w.heap.size) (hbox : w.cell? ⟨Bs, 0, none⟩ = some (.slice A n c)) (hr : Rd w w.heap.size A n xs) (hn : n ≤ 2097152) (hnc : n ≤ c) (hgv : gv < w.heap.size)
    (hT : ∀ c ∈ claimsL xs, c.good = true → p c) :
    SeqStopsK Fence.wide nn Tryz.prog 140 #[.pointer (some ⟨Bs, 0, none⟩)] (fun x : Gq p => #[Value.agg #[.int .i64 x.1.kind, .int .i64 x.1.frm, .int .i64 x.1.slot, .int .i64 x.1.place, .int .i64 x.1.target, .bool x.1.good]]) (KpC gv)
      (fun ys => ys.map Subtype.val = (claimsL xs).filter (fun c => c.good)) (fun _ => True) 1296 w := fun l J Jx W hW hJ _ hY h0 =>
  good1_in hC nn l Bs gv hnn A n c xs W ((hW.cell (p := ⟨Bs, 0, none⟩) hbs).trans hbox) ((hr.below hW).more hW.size) hn hnc (by have := hW.size; omega) hT J Jx hJ hY h0

theorem wpListIn_make_full {F : Fence} {nf : Nat} {P : Program} (w : World) {ops : Array Oper} {rest : List Oper} {o : Oper} {a : Act} {Q : Exit → Act → World → Prop}
    (hg : o.guard = none) (l c : Operand) (t : TypeId) (hop : o.op = Op.makeSlice t l c)
    (base : Nat) (e : TypeId) (i : TypeInfo) (z : Value) (size : Nat) (h1 : P.underlying t = some (.slice e)) (h2 : P.info? e = some i) (h3 : i.zero = some z) (h4 : i.size = size)
    (kl kc : IntKind) (L C : Int) (n : Nat) (hl : a.eval l = .int kl L) (hc : a.eval c = .int kc C) (hL : L = (n : Int)) (hC : C = (n : Int)) (b2 : i.bytes * n ≤ 281474976710656) (b3 : n ≤ maxLen) (b4 : base ≤ w.heap.size)
    (hK : ∀ w', w'.ownsRow base e size (.slice (some ⟨w.heap.size, 0, none⟩) n n) n (madeCells z.cells (n * size)).toList → w.grownBy w' none → wpListIn F nf P ops Q rest (a.put o.dst (.slice (some ⟨w.heap.size, 0, none⟩) n n)) w') :
    wpListIn F nf P ops Q (o :: rest) a w := by
  refine wpListIn_plain hg fun K hK' => ?_
  obtain ⟨w', hrun, r1, r2⟩ := run_make_full (P := P) w base t e i z size h1 h2 h3 h4 kl kc n b2 b3 b4
  subst hL
  subst hC
  unfold Oper.wpIn
  refine ⟨?_, ?_⟩
  · simp [Oper.about, hop]
  · rw [Oper.semAt_plain F _ _ (by rw [hop]; intro c hc'; cases hc')]
    simp [execOp, hop, hl, hc, hrun, Result.andThen]
    exact hK' _ _ (hK w' r1 r2)

theorem lawI : Keyed Tryz.prog 2 := int_keyed Tryz.underlying2
theorem zeroI (w : World) : (zeroValue 2).run Tryz.prog w = .ok (.int .i64 0) w := by kernel_rfl

/-- Block b is a map from numbers to numbers, of at most n entries, that reads as D. -/
def MapAt (w : World) (b n : Nat) (D : DataW Unit) : Prop := w.ownsMap Tryz.prog 2 (plainElem (H := Unit) Tryz.prog 2) b n D
theorem MapAt.keep {w w' : World} {b n : Nat} {D : DataW Unit} (h : MapAt w b n D) (hk : w'.heap[b]? = w.heap[b]?) : MapAt w' b n D := by
  obtain ⟨es, cl, h1, r⟩ := h
  exact ⟨es, cl, hk.trans h1, r⟩
theorem MapAt.below {B : Nat} {w w' : World} {b n : Nat} {D : DataW Unit} (h : MapAt w b n D) (hb : Below B w w') (hlt : b < B) : MapAt w' b n D := h.keep (hb.block b hlt)

/-- What is taken: the kind at each target. -/
def takStep (D : DataW Unit) (c : Cm) : DataW Unit := if c.good = true then D.put (.int .i64 c.target) (.lit (.int .i64 c.kind)) else D

/-- The map holds what the roles say. -/
theorem tak_roles (M : Nat) : ∀ (l : List Cm) (D : DataW Unit) (o : List Int), IsMap D → o.length = M → (∀ c ∈ l, c.good = true → 0 ≤ c.target ∧ c.target < M) →
    (∀ τ : Nat, D.atKey (.int .i64 τ) (.lit (.int .i64 0)) = .lit (.int .i64 (o.getD τ 0))) → ∀ τ : Nat, (l.foldl takStep D).atKey (.int .i64 τ) (.lit (.int .i64 0)) = .lit (.int .i64 ((l.foldl roleStep o).getD τ 0))
  | [], _, _, _, _, _, h => h
  | c :: l, D, o, hD, ho, hb, h => by
    rw [List.foldl_cons, List.foldl_cons]
    by_cases hc : c.good = true
    · have e1 : takStep D c = D.put (.int .i64 c.target) (.lit (.int .i64 c.kind)) := if_pos hc
      have e2 : roleStep o c = o.set c.target.toNat c.kind := if_pos hc
      rw [e1, e2]
      obtain ⟨b0, b1⟩ := hb c (by simp) hc
      obtain ⟨t, ht⟩ := Int.eq_ofNat_of_zero_le b0
      refine tak_roles M l _ _ (hD.put _ _) (by simp [ho]) (fun x hx => hb x (by simp [hx])) (fun τ => ?_)
      rw [getD_set, ht, Int.toNat_natCast]
      by_cases e : t = τ
      · subst e
        rw [if_pos ⟨rfl, by omega⟩]
        exact atKey_put_same (k := .int .i64 _) hD trivial _ _
      · rw [if_neg (fun h => e h.1)]
        exact (atKey_put_other (fun hh => e (by injection hh with _ hh; omega)) _ _).trans (h τ)
    · have e1 : takStep D c = D := if_neg hc
      have e2 : roleStep o c = o := if_neg hc
      rw [e1, e2]
      exact tak_roles M l D o hD ho (fun x hx => hb x (by simp [hx])) h
theorem tak_has (k : Lit) : ∀ (l : List Cm) (D : DataW Unit), IsMap D → has D k = true → has (l.foldl takStep D) k = true
  | [], _, _, h => h
  | c :: l, D, hD, h => by
    rw [List.foldl_cons]
    unfold takStep
    split
    · refine tak_has k l _ (hD.put _ _) ?_
      by_cases e : k = .int .i64 c.target
      · subst e
        exact has_put_same (k := .int .i64 _) hD trivial _
      · rw [has_put_other e]
        exact h
    · exact tak_has k l D hD h
theorem tak_some : ∀ (l : List Cm) (D : DataW Unit), IsMap D → (∃ c ∈ l, c.good = true) → ∃ k, has (l.foldl takStep D) k = true
  | [], _, _, ⟨_, h, _⟩ => by cases h
  | c :: l, D, hD, ⟨x, hx, hg⟩ => by
    rw [List.foldl_cons]
    by_cases hc : c.good = true
    · have e1 : takStep D c = D.put (.int .i64 c.target) (.lit (.int .i64 c.kind)) := if_pos hc
      rw [e1]
      exact ⟨_, tak_has (.int .i64 c.target) l _ (hD.put _ _) (has_put_same (k := .int .i64 _) hD trivial _)⟩
    · have e1 : takStep D c = D := if_neg hc
      rw [e1]
      refine tak_some l D hD ⟨x, ?_, hg⟩
      rcases List.mem_cons.1 hx with rfl | h
      · exact absurd hg hc
      · exact h
theorem size_of_has {D : DataW Unit} {k : Lit} (hD : IsMap D) (h : has D k = true) : Maps.size D ≠ 0 := by
  obtain ⟨es, rfl⟩ := hD
  rw [has_eq] at h
  rw [size_eq]
  intro e
  rw [List.length_eq_zero_iff.1 e] at h
  simp at h
theorem none_of_size {D : DataW Unit} (hD : IsMap D) (h : Maps.size D = 0) (k : Lit) (z : DataW Unit) : D.atKey k z = z := by
  obtain ⟨es, rfl⟩ := hD
  rw [size_eq] at h
  rw [List.length_eq_zero_iff.1 h]
  exact atKey_of_not_has (by rw [has_eq]; rfl) z
theorem claims_good (xs : List Int) : ∃ c ∈ claimsC xs, c.good = true :=
  Steady.all (P := fun l => ∃ c ∈ l, c.good = true) ⟨fun _ _ _ _ h => by
    obtain ⟨c, h1, h2⟩ := h
    exact ⟨c, by unfold addC; rw [List.mem_append]; exact .inl h1, h2⟩⟩ ⟨⟨1, 0, 0, 0, 0, true⟩, by simp, rfl⟩ xs

/-- The first k roles told, the others nought. -/
def toldR (o : List Int) (k : Nat) : List Int := o.take k ++ List.replicate (o.length - k) 0
theorem told_zero (o : List Int) : toldR o 0 = List.replicate o.length 0 := by simp [toldR]
theorem told_all (o : List Int) : toldR o o.length = o := by simp [toldR]
theorem told_step {o : List Int} {k : Nat} (hk : k < o.length) : (toldR o k).set k (o.getD k 0) = toldR o (k + 1) := by
  have e1 : o.length - k = (o.length - (k + 1)) + 1 := by omega
  have e2 : o.getD k 0 = o[k] := by simp [List.getD_eq_getElem?_getD, hk]
  unfold toldR
  have hl : (o.take k).length = k := by simp; omega
  rw [e1, List.replicate_succ, e2, List.take_succ_eq_append_getElem hk, List.set_append, if_neg (by omega), hl, Nat.sub_self, List.set_cons_zero, List.append_assoc]
  rfl
theorem told_rest {o : List Int} {k : Nat} (h : ∀ τ : Nat, k ≤ τ → o.getD τ 0 = 0) : toldR o k = o := by
  unfold toldR
  conv => rhs; rw [← List.take_append_drop k o]
  congr 1
  apply List.ext_getElem?
  intro j
  rw [List.getElem?_replicate, List.getElem?_drop]
  by_cases hj : k + j < o.length
  · have := h (k + j) (by omega)
    rw [List.getD_eq_getElem?_getD, List.getElem?_eq_getElem hj] at this
    rw [if_pos (by omega), List.getElem?_eq_getElem hj]
    simp at this
    rw [this]
  · rw [if_neg (by omega), List.getElem?_eq_none (by omega)]

/-- append of a new block that lies behind all onto a row of one's own, nil or not. -/
theorem wpList_append_r {P : Program} {w : World} {ops : Array Oper} {rest : List Oper} {o : Oper} {a : Act} {Q : Exit → Act → World → Prop} (hgd : o.guard = none) (s x : Operand) (t : TypeId)
    (ho : o.op = .call { callee := .builtin .append, args := #[s, x], argTypes := #[t, t] })
    (e : TypeId) (sz by_ : Nat) (z : Value) (i : TypeInfo) (ht : P.underlying t = some (.slice e)) (hi : P.info? e = some i) (hz : i.zero = some z) (hsize : i.size = sz) (hby : i.bytes = by_) (hzs : z.cells.size = sz) (hsz : 0 < sz) (hb8 : by_ ≤ 1000)
    (lo hi' n c : Nat) (A : Option Addr) (cs : List Value) (hs : a.eval s = .slice A n c) (hown : OwR e sz w lo hi' A n c cs)
    (news : Array Value) (m c' q : Nat) (hq : w.heap.size = q) (hx : a.eval x = .slice (some ⟨q, 0, none⟩) m c') (hm : 0 < m) (hl : news.size = m * sz) (h1 : ∀ u ∈ news.toList, u.oneCell' = true)
    (hnm : n + m ≤ 16777216) (hlo : lo ≤ w.heap.size)
    (h : ∀ (g' cd : Nat) (w' : World), OwR e sz w' lo w'.heap.size (some ⟨g', 0, none⟩) (n + m) cd (cs ++ news.toList) → Below lo w w' → wpList P ops Q rest (a.put o.dst (.slice (some ⟨g', 0, none⟩) (n + m) cd)) w') :
    wpList P ops Q (o :: rest) a (w.alloc (.cells news e)) := by
  subst hq
  have hal : w.grownBy (w.alloc (.cells news e)) none := ⟨rfl, rfl, rfl, by simp, fun k hk _ => Below.heap_alloc _ _ _ hk⟩
  have hown' := hown.grown hal (fun _ h => by cases h)
  have hbytes : (n + m) * by_ ≤ 140737488355328 := by
    have : (n + m) * by_ ≤ 16777216 * 1000 := Nat.mul_le_mul hnm hb8
    omega
  have h63 : n + m ≤ maxLen := by simp only [maxLen]; omega
  obtain ⟨v', w', hr, h2, h3, h4⟩ := run_append_own (P := P) (w.alloc (.cells news e)) lo t o.type e i z sz by_ ht hi hz hsize hby hzs hsz (.slice A n c) n cs hown'.own ⟨w.heap.size, 0, none⟩ m c' news.toList (by simpa using hl) (by
    intro j u hj
    rw [Addr.add_lit, Nat.zero_add, World.cell?_alloc_new]
    simpa using hj) h1 h63 hbytes (by simp; omega)
  obtain ⟨g', cd, rfl, ho5⟩ := OwV.of h2 (fun e => by have := (h4.1 e).2; omega)
  have hb : Below lo w w' := ((Below.refl lo w).alloc hlo (.cells news e)).grown h3 (by simp; omega) (fun g hg => (hown'.row g hg).1)
  refine wpList_plain hgd fun K hK => ?_
  unfold Oper.wp execOp
  simp only [ho, resolve, invoke, builtin, Sem.run_bind, Sem.run_pure, Result.andThen_ok, List.map_toArray, List.map_cons, List.map_nil, hs, hx, hr]
  exact hK _ _ (h g' cd w' ho5.toR hb)

/-- The cells of claim k of a row. -/
theorem cmr_cells {w : World} {lo hi : Nat} {A : Option Addr} {cg : Nat} {l : List Cm} (h : OwR 80 6 w lo hi A l.length cg (l.flatMap cmV)) {k : Nat} (hk : k < l.length) :
    ∃ g, A = some ⟨g, 0, none⟩ ∧ lo ≤ g ∧ g < hi ∧ g < w.heap.size ∧ ∀ w' : World, w'.heap[g]? = w.heap[g]? → ∀ j, j < 6 → w'.cell? ⟨g, k * 6 + j, none⟩ = (cmV (l.getD k cm0))[j]? := by
  rcases h.form with ⟨_, h0, _⟩ | ⟨g, rfl, h1, h2, h3, _⟩
  · omega
  · exact ⟨g, rfl, h1, h2, h3, fun w' hw j hj => (World.cell?_of_block (a := ⟨g, k * 6 + j, none⟩) hw).trans (cm_cells h.rd hk j hj)⟩

set_option maxRecDepth 100000 in
set_option maxHeartbeats 4000000 in
theorem implLoose_any (hC : ClaimsC) : LooseC := by
  intro A n c xs w hr hn hnc
  obtain ⟨i0, hi0, hz0, hz1, hz2⟩ := info_parts infoCm
  go_enter Tryz.func115, Tryz.ntmps115
  go_wp2_with fail
  refine (hC A n c xs w hr hn hnc).mono ?_
  rintro e w2 ⟨G, cg, rfl, oG, b2⟩
  have HL : Hid (looseL xs = (claimsL xs).filter (fun c => !c.good)) := rfl
  have hll := claimsL_length xs
  have HG := Lib.hid oG
  have HB := Lib.hid b2
  have sb2 := b2.size
  clear oG b2 hr
  generalize claimsL xs = l at *
  generalize hw2 : w2.heap.size = B at *
  go_wp2_with fail
  go_loopw [3, 9] (fun v i wr => ∃ (k : Nat) (A' : Option Addr) (c' : Nat), k ≤ l.length ∧ i = .int .i64 k ∧ v = .slice A' ((l.take k).filter (fun c => !c.good)).length c' ∧
    OwR 80 6 wr B wr.heap.size A' ((l.take k).filter (fun c => !c.good)).length c' (((l.take k).filter (fun c => !c.good)).flatMap cmV) ∧ Below B w2 wr) (fun _ i _ => l.length - (intOf i).toNat)
  case atStart => exact ⟨0, none, 0, Nat.zero_le _, rfl, rfl, OwR.nil _ _ _ _ _, Below.refl _ _⟩
  case round =>
    obtain ⟨k, A', c', hk, rfl, rfl, hok, hg⟩ := hrel
    have sr := hg.size
    by_cases hlt : k < l.length
    · obtain ⟨g, rfl, hg1, hg2, hg3, hce⟩ := cmr_cells HG.out hlt
      have hce := hce wr (hg.block g (by omega))
      have HS := Lib.hid (loose_step l k hlt)
      have HLe := Lib.hid (show ((l.take k).filter (fun c => !c.good)).length ≤ 1296 by
        have h1 := List.length_filter_le (fun c : Cm => !c.good) (l.take k)
        have h2 : (l.take k).length ≤ k := List.length_take_le _ _
        omega)
      have hfl := HLe.out
      generalize (l.take k).filter (fun c => !c.good) = fs at *
      generalize l.getD k cm0 = x at *
      obtain ⟨xk, xf, xs', xp, xt, xg⟩ := x
      have e0 : wr.cell? ⟨g, k * 6, none⟩ = some (.int .i64 xk) := hce 0 (by omega)
      have e1 : wr.cell? ⟨g, k * 6 + 1, none⟩ = some (.int .i64 xf) := hce 1 (by omega)
      have e2 : wr.cell? ⟨g, k * 6 + 2, none⟩ = some (.int .i64 xs') := hce 2 (by omega)
      have e3 : wr.cell? ⟨g, k * 6 + 3, none⟩ = some (.int .i64 xp) := hce 3 (by omega)
      have e4 : wr.cell? ⟨g, k * 6 + 4, none⟩ = some (.int .i64 xt) := hce 4 (by omega)
      have e5 : wr.cell? ⟨g, k * 6 + 5, none⟩ = some (.bool xg) := hce 5 (by omega)
      clear hce
      cases xg
      · have HE : Hid ((l.take (k + 1)).filter (fun c => !c.good) = fs ++ [⟨xk, xf, xs', xp, xt, false⟩]) := by rw [HS.out]; simp [Hid]
        clear HS
        have hok1 := hok.grown (World.grownBy_alloc wr (.cells #[.int .i64 xk, .int .i64 xf, .int .i64 xs', .int .i64 xp, .int .i64 xt, .bool false] 80) none) (fun _ h => by cases h)
        have hg1' := hg.alloc (by omega) (.cells #[.int .i64 xk, .int .i64 xf, .int .i64 xs', .int .i64 xp, .int .i64 xt, .bool false] 80)
        go_wp2_with (at_builtin; refine wpList_append_r rfl (.tmp 16) (.tmp 18) 77 rfl 80 6 48 _ i0 Tryz.underlying77 hi0 hz0 hz1 hz2 rfl (by omega) (by omega) B wr.heap.size fs.length c' A' _ rfl hok1 #[.int .i64 xk, .int .i64 xf, .int .i64 xs', .int .i64 xp, .int .i64 xt, .bool false] 1 1 (wr.heap.size + 1) (by simp) rfl (by omega) rfl (by simp [Value.oneCell']) (by omega) (by simp; omega) ?_; intro g2 cd w5 ho5 hb5)
        go_roundw
        case rel =>
          refine ⟨k + 1, some ⟨g2, 0, none⟩, cd, by omega, by go_num, by rw [HE.out]; simp, ?_, hg1'.trans hb5⟩
          rw [HE.out, List.flatMap_append, List.length_append]
          exact ho5
        case measure => simp [intOf]; omega
      · have HE : Hid ((l.take (k + 1)).filter (fun c => !c.good) = fs) := by rw [HS.out]; simp [Hid]
        clear HS
        go_wp2_with fail
        go_roundw
        case rel => exact ⟨k + 1, A', c', by omega, by go_num, by rw [HE.out], by rw [HE.out]; exact (hok.grown (World.grownBy_alloc _ _ none) (fun _ h => by cases h)).more (Nat.le_refl _) (by simp), hg.alloc (by omega) _⟩
        case measure => simp [intOf]; omega
    · obtain rfl : k = l.length := by omega
      go_wp2_with fail
      go_ret
      rw [List.take_length] at hok ⊢
      rw [HL.out]
      exact ⟨A', c', rfl, hok.more (by omega) (Nat.le_refl _), HB.out.trans (hg.mono (by omega))⟩

/-- Function 115. -/
theorem implLoose_all : LooseC := implLoose_any implClaims_any

attribute [local go_sem] Oper.semAt_some

/-- A claim whose target has a count. -/
abbrev Gc := Gq (fun c => 0 ≤ c.target ∧ c.target < 64 ∧ c.good = true)

theorem fold_good : ∀ (l : List Cm) (o : List Int), (l.filter (fun c => c.good)).foldl cntStep o = l.foldl cntStep o
  | [], _ => rfl
  | c :: l, o => by
    rw [List.foldl_cons]
    cases h : c.good
    · rw [List.filter_cons_of_neg (by simp [h]), fold_good l o]
      congr 1
      unfold cntStep
      rw [if_neg (by simp [h])]
    · rw [List.filter_cons_of_pos (by simp [h]), List.foldl_cons]
      exact fold_good l _

theorem cnt_snoc (pre : List Gc) (x : Gc) (o : List Int) : ((pre ++ [x]).map Subtype.val).foldl cntStep o = ((pre.map Subtype.val).foldl cntStep o).set x.1.target.toNat (((pre.map Subtype.val).foldl cntStep o).getD x.1.target.toNat 0 + 1) := by
  rw [List.map_append, List.foldl_append]
  exact if_pos x.2.2.2

/-- Between two rounds: the counts of those that have come. -/
def CoI (w : World) (Bb gv : Nat) (pre : List Gc) (W : World) : Prop :=
  Boxed W Bb 22 (.slice (some ⟨gv, 0, none⟩) 64 64) ∧ Ow W gv (gv + 1) (some ⟨gv, 0, none⟩) 64 64 ((pre.map Subtype.val).foldl cntStep (List.replicate 64 0)) ∧ Below w.heap.size w W
/-- The round's claim lies in a box of its own. -/
def CoX (Bb gv : Nat) (tm : Gc → Nat → Array Value) (x : Gc) (a : Act) (W : World) : Prop :=
  ∃ Bx, Bb < Bx ∧ gv < Bx ∧ W.heap[Bx]? = some (.cells #[.int .i64 x.1.kind, .int .i64 x.1.frm, .int .i64 x.1.slot, .int .i64 x.1.place, .int .i64 x.1.target, .bool x.1.good] 80 (0, 0)) ∧ a = { tmps := tm x Bx, defers := [] }

theorem CoI.own {w : World} {Bb gv B : Nat} (h1 : w.heap.size ≤ B) (h2 : gv < B) (h3 : Bb < B) : OwnFrom B (CoI w Bb gv) := fun s X Y row hs hg hr => by
  obtain ⟨b, o, l⟩ := hs
  exact ⟨b.kept hg (fun e => by have := (hr _ e.symm).1; omega), o.grown hg (fun g e => by have := (hr _ e).1; omega), l.grown hg l.size (fun k e => by have := (hr _ e).1; omega)⟩
theorem CoX.own {Bb gv B : Nat} {tm : Gc → Nat → Array Value} {x : Gc} {a : Act} : OwnFrom B (fun (_ : Unit) W => CoX Bb gv tm x a W) := fun _ X Y row hs hg hr => by
  obtain ⟨Bx, h1, h2, h3, h4⟩ := hs
  refine ⟨Bx, h1, h2, ?_, h4⟩
  refine (hg.block Bx (Array.getElem?_eq_some_iff.1 h3).1 (fun e => ?_)).trans h3
  obtain ⟨_, o, ho, hc⟩ := hr _ e.symm
  rw [h3] at ho
  cases ho
  cases hc

set_option maxRecDepth 100000 in
set_option maxHeartbeats 4000000 in
theorem implCounts_any (hC : ClaimsC) : CountsC := by
  intro A n c xs w hr hn hnc
  obtain ⟨i0, hi0, hz0, hz1, hz2⟩ := info_parts info2
  refine (callsIn_wide (n := 5)).1 ?_
  refine callsIn_of_wp_marks Tryz.func117 rfl trivial ?_ rfl
  simp only [Tryz.ntmps117, List.size_toArray, List.length_cons, List.length_nil, Nat.reduceAdd, Nat.reduceSub, Array.replicate_succ, Array.replicate_zero, List.push_toArray, List.append_toArray, List.nil_append, List.cons_append]
  have hhi := (callsIn_wide (n := 4)).2 (implHeadIn_any A n c xs w hr hn)
  have HHI := Lib.hid hhi
  clear hhi
  cases hh : hasHead xs
  · have HN : Hid (countsL xs = []) := by unfold countsL; rw [hh]; exact rfl
    gi_wp2_with (refine ⟨trivial, ?_⟩; gi_at_call 25; refine HHI.out.mono ?_; rintro e w1 ⟨rfl, b1⟩; rw [headIn_no hh]; unfold hdV hd0)
    exact ⟨_, results_tmp rfl _ _ _, by rw [HN.out]; exact Ret.nil _ _ (b1.alloc b1.size _)⟩
  · have HN : Hid (countsL xs = countsC (claimsC xs)) := by unfold countsL; rw [hh]; exact rfl
    have HCL : Hid (claimsL xs = claimsC xs) := by unfold claimsL; rw [hh]; exact rfl
    have HH := Lib.hid hh
    have HT : ∀ c ∈ claimsL xs, c.good = true → 0 ≤ c.target ∧ c.target < 64 ∧ c.good = true := by
      intro c hc hg
      rw [HCL.out] at hc
      have := good_target hh hc hg
      have := manyN_le (hasHead_img hh)
      exact ⟨by omega, by omega, hg⟩
    obtain ⟨⟨s, f, r, u, m⟩, hhd⟩ : ∃ q, headIn xs = (q, true) := ⟨_, headIn_yes hh⟩
    have HT := Lib.hid HT
    have HHD := Lib.hid hhd
    clear hh hhd
    gi_wp2_with (first
      | (refine ⟨trivial, ?_⟩; gi_at_call 25; refine HHI.out.mono ?_; rintro e w1 ⟨rfl, b1⟩; rw [HHD.out]; unfold hdV; have b2 := b1.alloc b1.size (.cells #[.int .i64 s, .int .i64 f, .int .i64 r, .int .i64 u, .int .i64 m] 31))
      | (gi_at_make; generalize (w1.alloc (.cells #[.int .i64 s, .int .i64 f, .int .i64 r, .int .i64 u, .int .i64 m] 31)) = v1 at *; refine wpListIn_make_full _ rfl _ _ 22 rfl _ 2 i0 (.int .i64 0) 1 Tryz.underlying22 hi0 hz0 hz1 .i64 .i64 _ _ 64 rfl rfl rfl rfl (by rw [hz2]; omega) (by simp only [maxLen]; omega) (Nat.le_refl _) ?_; intro w2 hown hg; rw [made_iv] at hown)
      | (refine ⟨trivial, ?_⟩; gi_at_call 123; refine (good_in A n c _ _).mono ?_; rintro e w' ⟨rfl, rfl⟩))
    have hb2 : Below v1.heap.size v1 w2 := below_grown hg (Nat.le_refl _) (fun _ h => by cases h)
    have ho1 := zeros_ow hown
    have hlt1 := ow_lt ho1
    have b3 := below_more b2 hb2 b2.size
    have s1 := b1.size
    have s2 := b2.size
    have s3 := hb2.size
    clear hown hg hi0 hz0 hz1 hz2 b1 hb2
    generalize v1.heap.size = gv at *
    have b4 := b3.alloc b3.size (.cells #[.slice (some ⟨gv, 0, none⟩) 64 64] 22)
    have b5 := b4.alloc b4.size (.cells #[.slice A n c] 22)
    have x4 : Boxed (w2.alloc (.cells #[.slice (some ⟨gv, 0, none⟩) 64 64] 22)) w2.heap.size 22 (.slice (some ⟨gv, 0, none⟩) 64 64) := Boxed.new _ _ _
    have x5 := x4.alloc (.cells #[.slice A n c] 22)
    have y5 := Boxed.new (w2.alloc (.cells #[.slice (some ⟨gv, 0, none⟩) 64 64] 22)) 22 (.slice A n c)
    have o5 := (ho1.grown (World.grownBy_alloc _ (.cells #[.slice (some ⟨gv, 0, none⟩) 64 64] 22) none) (fun _ h => by cases h)).grown (World.grownBy_alloc _ (.cells #[.slice A n c] 22) none) (fun _ h => by cases h)
    have z5 : ((w2.alloc (.cells #[.slice (some ⟨gv, 0, none⟩) 64 64] 22)).alloc (.cells #[.slice A n c] 22)).heap.size = w2.heap.size + 2 := by simp
    rw [World.size_alloc] at y5
    generalize (w2.alloc (.cells #[.slice (some ⟨gv, 0, none⟩) 64 64] 22)).alloc (.cells #[.slice A n c] 22) = w5 at *
    refine wpIn_rangeFunc_ownH rfl (by omega) (gf := 140) (lb := #[.pointer (some ⟨w2.heap.size + 1, 0, none⟩)]) rfl trivial (enters_of Tryz.func140 (by kernel_rfl) rfl)
      (good_stops hC 4 (w2.heap.size + 1) gv (by omega) A n c xs w5 (by omega) y5.cell ((hr.below b5).more b5.size) hn hnc (by omega) HT.out) KpC.trans (fun W l o o' _ h ho _ => KpC.put o' h ho) (Below.refl _ _) (fun _ => rfl)
      (CoI w w2.heap.size gv) (fun _ _ _ => False) (CoI.own (by omega) (by omega) (by omega)) (fun _ _ _ _ _ hs _ _ => hs) ⟨x5, o5, b5⟩
      (CoX w2.heap.size gv (fun x Bx => #[.slice A n c, undef, .slice none 0 0, .pointer (some ⟨w1.heap.size, 0, none⟩), .bool true, .pointer (some ⟨w2.heap.size, 0, none⟩), .pointer (some ⟨Bx, 0, none⟩),
        .tuple #[.agg #[.int .i64 s, .int .i64 f, .int .i64 r, .int .i64 u, .int .i64 m], .bool true], .slice A n c, .tuple #[.agg #[.int .i64 s, .int .i64 f, .int .i64 r, .int .i64 u, .int .i64 m], .bool true],
        .agg #[.int .i64 s, .int .i64 f, .int .i64 r, .int .i64 u, .int .i64 m], .bool true, .bool true, .bool false, .slice (some ⟨gv, 0, none⟩) 64 64, .slice A n c, .func (.func 140) #[] #[.pointer (some ⟨w2.heap.size + 1, 0, none⟩)],
        .agg #[.int .i64 x.1.kind, .int .i64 x.1.frm, .int .i64 x.1.slot, .int .i64 x.1.place, .int .i64 x.1.target, .bool x.1.good], undef, undef, undef, undef, undef, undef, undef, undef])) (fun _ _ => CoX.own) ?assign ?body ?done ?stop
    case assign =>
      rintro l pre x W K ⟨hb, ho, hw⟩ hK
      gi_wp2
      exact hK _ _ ((KeepsOthers.alloc _ _).from _) ((KpC.refl _ _).alloc _) ⟨hb.alloc _, ho.grown (World.grownBy_alloc _ _ none) (fun _ h => by cases h), hw.alloc hw.size _⟩ ⟨W.heap.size, hb.lt, ow_lt ho, World.alloc_heap_new W _, rfl⟩
    case body =>
      rintro l pre x a' W hl _ ⟨hb, ho, hw⟩ ⟨Bx, h1, h2, h3, rfl⟩ hlt
      obtain ⟨⟨xk, xf, xs', xp, xt, xg⟩, t0, t1, tg⟩ := x
      simp only at t0 t1 tg h3
      subst tg
      obtain ⟨τ, rfl⟩ := Int.eq_ofNat_of_zero_le t0
      have hτ : τ < 64 := by omega
      obtain ⟨_, hbd⟩ := cnt_take (pre.map Subtype.val) pre.length
      rw [List.take_of_length_le (by simp)] at hbd
      obtain ⟨v0, v1⟩ := hbd τ
      have HS := Lib.hid (cnt_snoc pre ⟨⟨xk, xf, xs', xp, (τ : Int), true⟩, t0, t1, rfl⟩ (List.replicate 64 0))
      rw [show (⟨xk, xf, xs', xp, (τ : Int), true⟩ : Cm).target.toNat = τ from Int.toNat_natCast τ] at HS
      have c1 := hb.cell
      have f1 := hb.frozen
      have e4 : W.cell? ⟨Bx, 4, none⟩ = some (.int .i64 (τ : Int)) := by simp [World.cell?, h3]
      have hco := ho.cell hτ
      have hfo := ho.free τ
      have HSt := Lib.hid (ho.set τ (((pre.map Subtype.val).foldl cntStep (List.replicate 64 0)).getD τ 0 + 1))
      clear hbd
      generalize ((pre.map Subtype.val).foldl cntStep (List.replicate 64 0)) = fs at *
      generalize fs.getD τ 0 = v at *
      gi_wp2
      obtain ⟨o6, g6⟩ := HSt.out
      exact ⟨KeepsFrom.of_grownBy g6 (fun j e => by cases e; omega), KpC.grown g6, hb.kept g6 (fun e => by cases e; omega), by rw [HS.out]; exact o6, hw.grown g6 hw.size (fun k e => by cases e; omega)⟩
    case done =>
      rintro D ys W hD hS ⟨hb, ho, hw⟩ hK
      have c1 := hb.cell
      gi_wp2
      refine ⟨by simp, .inl ⟨_, _, rfl, run_takeDeferred hK, ?_⟩⟩
      refine ⟨_, results_tmp rfl _ _ _, ?_⟩
      rw [hS, fold_good, HCL.out] at ho
      rw [HN.out]
      have g7 := grownBy_putObj' W D (.deferred none)
      have sw := hw.size
      have lw := ow_lt ho
      exact ⟨some ⟨gv, 0, none⟩, 64, 64, rfl, (ho.grown g7 (fun g e => by cases e; omega)).more (by omega) (by have := g7.size; omega), hw.grown g7 hw.size (fun k e => by cases e; omega)⟩
    case stop =>
      rintro D c pre W _ _ h _
      exact h.elim

theorem implCounts_all : CountsC := implCounts_any implClaims_any

attribute [local go_sem] Oper.semAt_some

/-- An operation that is carried out anywhere is carried out in a round of a loop, too. -/
theorem wpOpIn_round {l n : Nat} {P : Program} {ops : Array Oper} {Q : Exit → Act → World → Prop} (hd : ∀ (i : Nat) (o : Oper) c, ops[i]? = some o → o.op ≠ .defer c) (hl : ¬ LetsOut Q) {i : Nat} {K : Act → World → Prop} {a : Act} {w : World}
    (h : wpOp P ops Q i K a w) : wpOpIn (Fence.wide.inRound l) n P ops Q i K a w := by
  unfold wpOp at h
  unfold wpOpIn
  cases ho : ops[i]? with
  | none => simp only [ho] at h ⊢; exact h
  | some o =>
    simp only [ho] at h ⊢
    split
    · rename_i hw
      rw [if_pos hw] at h
      rcases h with h | h
      · refine ⟨fun _ _ => trivial, ?_⟩
        unfold Oper.wp at h
        rw [Fence.inRound_round, Oper.semAt_some l _ _ (fun c => hd i o c ho)]
        generalize (execOp a.eval o).run P w = r at *
        cases r with
        | ok x w' =>
          cases x <;> simp only [Oper.upon, Oper.uponIn] at h ⊢
          case value => exact h
          case skip => exact h
          case defer => exact h
          case enter f args => exact ⟨fun h0 => (by cases h0), CallsIn.inRound l (callsIn_wide.2 h)⟩
          case row row args => exact ⟨fun h0 => (by cases h0), fun c cs _ => by obtain ⟨v, w2, r, s⟩ := h c cs; exact ⟨v, w2, r, stepsIn_wide.2 s⟩⟩
        | halt x w' => cases x <;> simp only [Oper.upon, Oper.uponIn] at h ⊢ <;> exact h
      · exact absurd h.2 hl
    · rename_i hw
      rw [if_neg hw] at h
      exact ⟨fun _ _ => trivial, h⟩

theorem wpAnyIn_round {l n : Nat} {P : Program} {md : Region.Mode} {ops : Array Oper} {Q : Exit → Act → World → Prop} (hd : ∀ (i : Nat) (o : Oper) c, ops[i]? = some o → o.op ≠ .defer c) (hl : ¬ LetsOut Q) :
    ∀ (fuel : Nat) (listed : Array Bool) (a : Act) (w : World), wpAny P md ops Q fuel listed a w → wpAnyIn (Fence.wide.inRound l) n P md ops Q fuel listed a w
  | 0, _, _, _, h => h
  | fuel + 1, _, _, _, h => ⟨h.1, fun i hi => wpOpIn_mono (fun a' w' h' => wpAnyIn_round hd hl fuel _ a' w' h') (wpOpIn_round hd hl (h.2 i hi))⟩

/-- Has the operation no defer? -/
def noDefer (o : Oper) : Bool := match o.op with | .defer _ => false | _ => true
theorem noDefer_spec {ops : Array Oper} (h : ops.all noDefer = true) (i : Nat) (o : Oper) (c) (ho : ops[i]? = some o) : o.op ≠ .defer c := fun e => by
  rw [Array.all_eq_true'] at h
  have := h o (Array.mem_of_getElem? ho)
  simp [noDefer, e] at this

/-- The beginning of a region that draws its order, in a round. -/
theorem wpIn_region_round {id l n : Nat} {P : Program} {ops : Array Oper} {Q : Exit → Act → World → Prop} {S : World → Prop} {a : Act} {w : World} (hm : P.follows .mixedOrders = true) (hd : ops.all noDefer = true) (hl : ¬ LetsOut Q) (hS : S w.drew)
    (h : S w.drew → wpAnyH P .any ops Q S ops.size (Array.replicate ops.size false) a w.drew) : (Code.region id ops true).wpIn (Fence.wide.inRound l) n P Q a w :=
  wpIn_region_any hm (wpAnyIn_round (noDefer_spec hd) hl _ _ _ _ (wpAny_of_held _ _ _ _ (h hS)))

/-- One operation is taken first; its temporary is typed out. -/
theorem wpAnyH_take_to {P : Program} {ops : Array Oper} {Q : Exit → Act → World → Prop} {md : Region.Mode} {S : World → Prop} {i : Nat} {oi : Oper} {d : Option Tmp} {v : Value} {fuel : Nat} {listed : Array Bool} {a : Act} {w : World} (hi : ops[i]? = some oi) (hd : oi.dst = d)
    (hs : Region.noSelect ops = true) (hf : Region.free md ops listed i = true) (hr : (Region.ready md ops listed).contains i = true)
    (hQ : ∀ c a w, Q (.panic c) (a.put d v) w → Q (.panic c) a w) (hy : YieldsIf P ops S oi v a) (hS : S w)
    (h : wpAnyH P md ops Q S fuel (listed.setIfInBounds i true) (a.put d v) w) : wpAnyH P md ops Q S (fuel + 1) listed a w := by
  subst hd
  exact wpAnyH_take hi hs hf hr hQ hy hS h

theorem KpC.below {g : Nat} {W W' : World} (h : Below W.heap.size W W') : KpC g W W' :=
  ⟨h.size, fun p v _ hc => by
    obtain ⟨o, ho, _⟩ := cells_of_cell hc
    exact (h.cell (p := p) (Array.getElem?_eq_some_iff.1 ho).1).trans hc⟩

/-- copy into a block that is known whole, as one step of such a region; all other blocks stay. -/
theorem step_copy_block {P : Program} {ops : Array Oper} {o : Oper} {a : Act} {w : World} {K : Act → World → Prop} {Q : Exit → Act → World → Prop} {E : Prop} (hgd : o.guard = none) (d s : Operand) (dT sT : TypeId)
    (ho : o.op = .call { callee := .builtin .copy, args := #[d, s], argTypes := #[dT, sT] }) (elem : TypeId) (hu : P.underlying dT = some (.slice elem)) (hsz : (P.info? elem).map (·.size) = some 1)
    (g off : Nat) (ad : Addr) (dLen dCap sLen sCap : Nat) (hd : a.eval d = .slice (some ⟨g, off, none⟩) dLen dCap) (hs : a.eval s = .slice (some ad) sLen sCap)
    (cur : List Value) (t : TypeId) (hg : w.heap[g]? = some (.cells cur.toArray t (0, 0))) (cs : List Value) (hn : cs.length = Nat.min sLen dLen)
    (hsrc : ∀ j v, cs[j]? = some v → w.cell? (ad.add j) = some v) (hfit : off + cs.length ≤ cur.length) (h1 : ∀ v ∈ cs, v.oneCell' = true)
    (h : ∀ w', w'.heap[g]? = some (.cells (splice cur off cs).toArray t (0, 0)) → w.grownBy w' (some g) → K (a.put o.dst (goInt cs.length)) w') :
    if Region.wanted o (yielded ops a.tmps) = true then Oper.wp P o a w K Q else E := by
  have hw : Region.wanted o (yielded ops a.tmps) = true := by simp [Region.wanted, hgd]
  rw [if_pos hw]
  have hrun := run_copy_row (P := P) w dT sT o.type elem g off dLen dCap ad sLen sCap cur.toArray t cs hu hsz hg hn hsrc (by simpa using hfit) h1
  unfold Oper.wp
  simp [execOp, ho, resolve, invoke, builtin, hd, hs, hrun, Result.andThen]
  refine h _ (show _ = _ by simpa [splice] using setRow_heap w g _ _ t _ hg) ⟨rfl, rfl, rfl, by simp [World.setRow], fun k _ hk => setRow_other w g k _ (fun e => hk (by rw [e]))⟩


theorem splice_cons {α : Type} (cur : List α) (o : Nat) (v : α) (vs : List α) (h : o < cur.length) : Go.splice (cur.set o v) (o + 1) vs = Go.splice cur o (v :: vs) := by
  unfold Go.splice
  have e1 : (cur.set o v).take (o + 1) = cur.take o ++ [v] := by
    rw [List.take_succ_eq_append_getElem (by simpa using h), List.take_set_of_le (Nat.le_refl _)]
    simp
  have e2 : (cur.set o v).drop (o + 1 + vs.length) = cur.drop (o + 1 + vs.length) := by
    rw [List.drop_set]
    split
    · rfl
    · omega
  rw [e1, e2, List.length_cons, show o + (vs.length + 1) = o + 1 + vs.length by omega]
  simp
/-- Cells stored one behind the other in a block that is known whole. -/
theorem setCells_block (b : Nat) (t : TypeId) : ∀ (vs : List Value) (o : Nat) (w : World) (cur : List Value), w.heap[b]? = some (.cells cur.toArray t (0, 0)) → o + vs.length ≤ cur.length →
    (w.setCells b o vs).heap[b]? = some (.cells (Go.splice cur o vs).toArray t (0, 0)) ∧ w.grownBy (w.setCells b o vs) (some b)
  | [], o, w, cur, h, _ => ⟨by simpa [Go.splice, World.setCells] using h, grown_refl _ _⟩
  | v :: vs, o, w, cur, h, hl => by
    rw [List.length_cons] at hl
    have h1 : (w.setCell ⟨b, o, none⟩ v).heap[b]? = some (.cells (cur.set o v).toArray t (0, 0)) := by
      simp only [World.setCell, Array.getElem?_modify]
      simp [h]
    have g1 : w.grownBy (w.setCell ⟨b, o, none⟩ v) (some b) := by
      refine ⟨rfl, rfl, rfl, by simp [World.setCell], fun k hk hn => ?_⟩
      simp only [World.setCell, Array.getElem?_modify]
      rw [if_neg (fun e => hn (by rw [e]))]
    obtain ⟨h2, g2⟩ := setCells_block b t vs (o + 1) _ _ h1 (by simp; omega)
    rw [splice_cons cur o v vs (by omega)] at h2
    exact ⟨h2, grown_trans g1 g2⟩

/-- clear of int64 numbers within a block that is known whole. -/
theorem wpList_clear_block {P : Program} {w : World} {ops : Array Oper} {rest : List Oper} {o : Oper} {a : Act} {Q : Exit → Act → World → Prop} (hgd : o.guard = none) (s : Operand) (T : TypeId)
    (ho : o.op = .call { callee := .builtin .clear, args := #[s], argTypes := #[T] }) (e : TypeId) (i : TypeInfo) (hu : P.underlying T = some (.slice e)) (hi : P.info? e = some i) (hz : i.zero = some (.int .i64 0))
    (g off n c : Nat) (hs : a.eval s = .slice (some ⟨g, off, none⟩) n c) (hn : 0 < n) (cur : List Value) (t : TypeId) (hg : w.heap[g]? = some (.cells cur.toArray t (0, 0))) (hfit : off + n ≤ cur.length)
    (h : ∀ w', w'.heap[g]? = some (.cells (Go.splice cur off (List.replicate n (.int .i64 0))).toArray t (0, 0)) → w.grownBy w' (some g) → wpList P ops Q rest (a.put o.dst (.tuple #[])) w') :
    wpList P ops Q (o :: rest) a w := by
  refine wpList_plain hgd fun K hK => ?_
  have hv : ∀ w, (zeroValue e).run P w = .ok (.int .i64 0) w := fun w => by simp [zeroValue, typeInfo, hi, hz]
  have hc : ∀ j, j < n → w.cell? ⟨g, off + j, none⟩ = cur[off + j]? := fun j hj => by simp [World.cell?, hg]
  have hrun := Lib.run_clear_slice (P := P) w T e o.type (.int .i64 0) hu hv rfl rfl g off n c hn (fun j hj => by rw [hc j hj, List.getElem?_eq_getElem (by omega)]; rfl) (fun j _ => frozen_of_row w g (off + j) _ _ hg)
  obtain ⟨h1, h2⟩ := setCells_block g t (List.replicate n (.int .i64 0)) off w cur hg (by simpa using hfit)
  unfold Oper.wp
  simp [execOp, ho, resolve, invoke, builtin, hs, hrun, Result.andThen]
  exact hK _ _ (h _ h1 h2)

attribute [local go_sem] Oper.semAt_some

/-- What is kept of a good claim. -/
abbrev Gs (xs : List Int) := Gq (fun c => c.good = true ∧ (c.kind = 4 → 0 ≤ c.slot ∧ c.slot < 8 ∧ thereB xs c.target = true))

theorem blk_good : ∀ (l : List Cm) (o : List Int), (l.filter (fun c => c.good)).foldl blkStep o = l.foldl blkStep o
  | [], _ => rfl
  | c :: l, o => by
    rw [List.foldl_cons]
    cases h : c.good
    · rw [List.filter_cons_of_neg (by simp [h]), blk_good l o]
      congr 1
      unfold blkStep
      rw [if_neg (by simp [h])]
    · rw [List.filter_cons_of_pos (by simp [h]), List.foldl_cons]
      exact blk_good l _

theorem blk_snoc {xs : List Int} (pre : List (Gs xs)) (x : Gs xs) (o : List Int) : ((pre ++ [x]).map Subtype.val).foldl blkStep o = if x.1.kind = 4 then ((pre.map Subtype.val).foldl blkStep o).set x.1.slot.toNat x.1.target else (pre.map Subtype.val).foldl blkStep o := by
  rw [List.map_append, List.foldl_append]
  have hg := x.2.1
  show blkStep _ x.1 = _
  unfold blkStep
  by_cases h : x.1.kind = 4
  · rw [if_pos ⟨hg, h⟩, if_pos h]
  · rw [if_neg (fun hh => h hh.2), if_neg h]

theorem storedC_zero (xs : List Int) : storedC xs (List.replicate 8 0) = List.replicate 64 0 := by
  apply List.ext_getElem
  · simp [storedC]
  · intro i h1 h2
    simp only [storedC, List.getElem_map, List.getElem_range, List.getElem_replicate]
    rw [if_neg]
    rw [List.getD_eq_getElem?_getD, List.getElem?_replicate]
    split <;> simp

theorem stored_splice (xs bs : List Int) (s t : Nat) (hs : s < 8) (ht : t ≠ 0) (hb : bs.length = 8) : Go.splice (iv (storedC xs bs)) (s * 8) (iv (cl xs t)) = iv (storedC xs (bs.set s (t : Int))) := by
  have hl : ∀ b, (storedC xs b).length = 64 := fun b => by simp [storedC]
  have e : (storedC xs bs).take (s * 8) ++ (cl xs t ++ (storedC xs bs).drop (s * 8 + 8)) = storedC xs (bs.set s (t : Int)) := by
    apply List.ext_getElem
    · simp [hl, cl_length]; omega
    · intro i h1 h2
      rw [hl] at h2
      have hg : ∀ b, ∀ (h : i < (storedC xs b).length), (storedC xs b)[i] = stored_at xs b i := fun b h => by simp [storedC, stored_at]
      rw [hg]
      have hsd : (bs.set s (t : Int)).getD (i / 8) 0 = if i / 8 = s then (t : Int) else bs.getD (i / 8) 0 := by
        rw [List.getD_eq_getElem?_getD, List.getElem?_set, hb]
        by_cases h : s = i / 8
        · rw [if_pos h, if_pos (by omega), if_pos h.symm]; rfl
        · rw [if_neg h, if_neg (fun e => h e.symm), List.getD_eq_getElem?_getD]
      rw [List.getElem_append]
      split
      · rename_i h3
        simp [hl] at h3
        rw [List.getElem_take, hg]
        unfold stored_at
        rw [hsd]
        simp only [if_neg (show ¬ i / 8 = s by omega)]
      · rename_i h3
        simp [hl] at h3
        rw [List.getElem_append]
        split
        · rename_i h4
          simp [hl, cl_length] at h4
          unfold stored_at
          rw [hsd, if_pos (by omega), if_pos (by omega), Int.toNat_natCast, List.getD_eq_getElem?_getD, List.getElem?_eq_getElem (by rw [cl_length]; omega), Option.getD_some]
          congr 1
          simp [hl]
          omega
        · rename_i h4
          simp [hl, cl_length] at h4
          rw [List.getElem_drop]
          have h5 : s * 8 + 8 + (i - (List.take (s * 8) (storedC xs bs)).length - (cl xs t).length) = i := by simp [hl, cl_length]; omega
          simp only [h5]
          rw [hg]
          unfold stored_at
          rw [hsd]
          simp only [if_neg (show ¬ i / 8 = s by omega)]
  rw [← e, Go.splice, iv_append, iv_append, iv_length, cl_length]
  simp [iv, List.map_take, List.map_drop]

/-- The blocks, kept whole. -/
def Blk (xs : List Int) (gv : Nat) (bs : List Int) (W : World) : Prop := W.heap[gv]? = some (.cells (iv (storedC xs bs)).toArray 132 (0, 0))
theorem Blk.lt {xs : List Int} {gv : Nat} {bs : List Int} {W : World} (h : Blk xs gv bs W) : gv < W.heap.size := (Array.getElem?_eq_some_iff.1 h).1
theorem Blk.kept {xs : List Int} {gv : Nat} {bs : List Int} {W W' : World} {row : Option Nat} (h : Blk xs gv bs W) (hg : W.grownBy W' row) (hne : some gv ≠ row) : Blk xs gv bs W' := (hg.block gv h.lt hne).trans h
theorem Blk.below {xs : List Int} {gv : Nat} {bs : List Int} {W W' : World} (h : Blk xs gv bs W) (hg : Below W.heap.size W W') : Blk xs gv bs W' := (hg.block gv h.lt).trans h
theorem Blk.cell {xs : List Int} {gv : Nat} {bs : List Int} {W : World} (h : Blk xs gv bs W) {j : Nat} (hj : j < 64) : W.cell? ⟨gv, j, none⟩ = some (.int .i64 (stored_at xs bs j)) := by
  have hl : (storedC xs bs).length = 64 := by simp [storedC]
  have hg : (storedC xs bs).getD j 0 = stored_at xs bs j := by rw [List.getD_eq_getElem?_getD, List.getElem?_eq_getElem (by omega)]; simp [storedC, stored_at]
  have := iv_get (storedC xs bs) j (by omega)
  rw [hg] at this
  simp [World.cell?, show W.heap[gv]? = _ from h, this]

/-- Between two rounds: the blocks of those that have come. -/
def StI (w : World) (A : Option Addr) (n c Bb gv : Nat) (xs : List Int) (pre : List (Gs xs)) (W : World) : Prop :=
  Boxed W Bb 22 (.slice A n c) ∧ Blk xs gv ((pre.map Subtype.val).foldl blkStep (List.replicate 8 0)) W ∧ Below w.heap.size w W
/-- The round's claim lies in a box of its own. -/
def StX {xs : List Int} (Bb gv : Nat) (tm : Gs xs → Nat → Array Value) (x : Gs xs) (a : Act) (W : World) : Prop :=
  ∃ Bx, Bb < Bx ∧ gv < Bx ∧ W.heap[Bx]? = some (.cells #[.int .i64 x.1.kind, .int .i64 x.1.frm, .int .i64 x.1.slot, .int .i64 x.1.place, .int .i64 x.1.target, .bool x.1.good] 80 (0, 0)) ∧ a = { tmps := tm x Bx, defers := [] }

theorem StI.own {w : World} {A : Option Addr} {n c Bb gv B : Nat} {xs : List Int} (h1 : w.heap.size ≤ B) (h2 : gv < B) (h3 : Bb < B) : OwnFrom B (StI w A n c Bb gv xs) := fun s X Y row hs hg hr => by
  obtain ⟨b, o, l⟩ := hs
  exact ⟨b.kept hg (fun e => by have := (hr _ e.symm).1; omega), o.kept hg (fun e => by have := (hr _ e.symm).1; omega), l.grown hg l.size (fun k e => by have := (hr _ e).1; omega)⟩
theorem StX.own {xs : List Int} {Bb gv B : Nat} {tm : Gs xs → Nat → Array Value} {x : Gs xs} {a : Act} : OwnFrom B (fun (_ : Unit) W => StX Bb gv tm x a W) := fun _ X Y row hs hg hr => by
  obtain ⟨Bx, h1, h2, h3, h4⟩ := hs
  refine ⟨Bx, h1, h2, ?_, h4⟩
  refine (hg.block Bx (Array.getElem?_eq_some_iff.1 h3).1 (fun e => ?_)).trans h3
  obtain ⟨_, o, ho, hc⟩ := hr _ e.symm
  rw [h3] at ho
  cases ho
  cases hc

/-- What the closure is asked. -/
theorem stored1_any (xs bs : List Int) (gv k : Nat) (hk : k < 64) (w : World) (h : Blk xs gv bs w) :
    Calls Tryz.prog 146 #[.int .i64 (k : Int), .pointer (some ⟨gv, 0, none⟩)] w fun e w' => e = .returned (.int .i64 (stored_at xs bs k)) ∧ w' = w := by
  have hc : w.cell? ⟨gv, k / 8 * 8 + k % 8, none⟩ = some (.int .i64 (stored_at xs bs k)) := by rw [show k / 8 * 8 + k % 8 = k by omega]; exact h.cell hk
  clear h
  generalize stored_at xs bs k = v at *
  go_enter Tryz.func146, Tryz.ntmps146
  go_wp2
  go_ret
  exact ⟨rfl, rfl⟩

set_option maxRecDepth 100000 in
set_option maxHeartbeats 4000000 in
theorem storedBy_any (hC : ClaimsC) (hT : TableC) (A : Option Addr) (n c : Nat) (xs : List Int) (w : World) (hr : Rd w w.heap.size A n xs) (hn : n ≤ 2097152) (hnc : n ≤ c) (hh : hasHead xs = true) :
    Calls Tryz.prog 134 #[.slice A n c] w fun e w' => ∃ gv, e = .returned (.func (.func 146) #[] #[.pointer (some ⟨gv, 0, none⟩)]) ∧ w.heap.size ≤ gv ∧ Blk xs gv (blocksC (claimsC xs)) w' ∧ Below w.heap.size w w' := by
  refine (callsIn_wide (n := 5)).1 ?_
  refine callsIn_of_wp_marks Tryz.func134 rfl trivial ?_ rfl
  simp only [Tryz.ntmps134, List.size_toArray, List.length_cons, List.length_nil, Nat.reduceAdd, Nat.reduceSub, Array.replicate_succ, Array.replicate_zero, List.push_toArray, List.append_toArray, List.nil_append, List.cons_append]
  have HCL : Hid (claimsL xs = claimsC xs) := by unfold claimsL; rw [hh]; exact rfl
  have HT : ∀ c ∈ claimsL xs, c.good = true → (c.good = true ∧ (c.kind = 4 → 0 ≤ c.slot ∧ c.slot < 8 ∧ thereB xs c.target = true)) := by
    intro c hc hg
    rw [HCL.out] at hc
    have ok := claims_ok xs c hc
    have := ok.slot1
    refine ⟨hg, fun hk => ⟨ok.slot0, by omega, ?_⟩⟩
    rcases ok.lead hg with h | h
    · omega
    · exact h
  have HT := Lib.hid HT
  have HH := Lib.hid hh
  clear hh
  gi_wp2_with (refine ⟨trivial, ?_⟩; gi_at_call 123; refine (good_in A n c _ _).mono ?_; rintro e w' ⟨rfl, rfl⟩)
  generalize hob : Obj.cells #[.int .i64 0, .int .i64 0, .int .i64 0, .int .i64 0, .int .i64 0, .int .i64 0, .int .i64 0, .int .i64 0, .int .i64 0, .int .i64 0, .int .i64 0, .int .i64 0, .int .i64 0, .int .i64 0, .int .i64 0, .int .i64 0, .int .i64 0, .int .i64 0, .int .i64 0, .int .i64 0, .int .i64 0, .int .i64 0, .int .i64 0, .int .i64 0, .int .i64 0, .int .i64 0, .int .i64 0, .int .i64 0, .int .i64 0, .int .i64 0, .int .i64 0, .int .i64 0, .int .i64 0, .int .i64 0, .int .i64 0, .int .i64 0, .int .i64 0, .int .i64 0, .int .i64 0, .int .i64 0, .int .i64 0, .int .i64 0, .int .i64 0, .int .i64 0, .int .i64 0, .int .i64 0, .int .i64 0, .int .i64 0, .int .i64 0, .int .i64 0, .int .i64 0, .int .i64 0, .int .i64 0, .int .i64 0, .int .i64 0, .int .i64 0, .int .i64 0, .int .i64 0, .int .i64 0, .int .i64 0, .int .i64 0, .int .i64 0, .int .i64 0, .int .i64 0] 132 = ob at *
  have hob2 : ob = .cells (iv (storedC xs (List.replicate 8 0))).toArray 132 (0, 0) := by rw [storedC_zero]; exact hob.symm
  clear hob
  have b1 := (Below.refl w.heap.size w).alloc (Nat.le_refl _) (.cells #[.slice A n c] 22)
  have b2 := b1.alloc b1.size ob
  have b5 := b2.alloc b2.size (.cells #[.slice A n c] 22)
  have x1 : Boxed (w.alloc (.cells #[.slice A n c] 22)) w.heap.size 22 (.slice A n c) := Boxed.new _ _ _
  have x5 := (x1.alloc ob).alloc (.cells #[.slice A n c] 22)
  have y5 := Boxed.new ((w.alloc (.cells #[.slice A n c] 22)).alloc ob) 22 (.slice A n c)
  rw [World.size_alloc, World.size_alloc] at y5
  have o5 : Blk xs (w.heap.size + 1) (List.replicate 8 0) (((w.alloc (.cells #[.slice A n c] 22)).alloc ob).alloc (.cells #[.slice A n c] 22)) := by
    have hk := World.alloc_heap_new (w.alloc (.cells #[.slice A n c] 22)) ob
    rw [World.size_alloc] at hk
    have hB : Blk xs (w.heap.size + 1) (List.replicate 8 0) ((w.alloc (.cells #[.slice A n c] 22)).alloc ob) := by unfold Blk; rw [hk, hob2]
    exact hB.kept (World.grownBy_alloc _ _ none) (by simp)
  have z5 : (((w.alloc (.cells #[.slice A n c] 22)).alloc ob).alloc (.cells #[.slice A n c] 22)).heap.size = w.heap.size + 3 := by simp
  generalize ((w.alloc (.cells #[.slice A n c] 22)).alloc ob).alloc (.cells #[.slice A n c] 22) = w5 at *
  clear b1 b2 x1 hob2
  refine wpIn_rangeFunc_ownH rfl (by omega) (gf := 140) (lb := #[.pointer (some ⟨w.heap.size + 1 + 1, 0, none⟩)]) rfl trivial (enters_of Tryz.func140 (by kernel_rfl) rfl)
    (good_stops hC 4 (w.heap.size + 1 + 1) (w.heap.size + 1) (by omega) A n c xs w5 (by omega) y5.cell ((hr.below b5).more b5.size) hn hnc (by omega) HT.out) KpC.trans (fun W l o o' _ h ho _ => KpC.put o' h ho) (Below.refl _ _) (fun _ => rfl)
    (StI w A n c w.heap.size (w.heap.size + 1) xs) (fun _ _ _ => False) (StI.own (by omega) (by omega) (by omega)) (fun _ _ _ _ _ hs _ _ => hs) ⟨x5, o5, b5⟩
    (StX w.heap.size (w.heap.size + 1) (fun x Bx => #[.slice A n c, .pointer (some ⟨w.heap.size, 0, none⟩), .nilFunc, .pointer (some ⟨w.heap.size + 1, 0, none⟩), .pointer (some ⟨Bx, 0, none⟩), .slice A n c, .func (.func 140) #[] #[.pointer (some ⟨w.heap.size + 1 + 1, 0, none⟩)],
      .agg #[.int .i64 x.1.kind, .int .i64 x.1.frm, .int .i64 x.1.slot, .int .i64 x.1.place, .int .i64 x.1.target, .bool x.1.good], undef, undef, undef, undef, undef, undef, undef, undef, undef, undef, undef, undef, undef])) (fun _ _ => StX.own) ?assign ?body ?done ?stop
  case assign =>
    rintro l pre x W K ⟨hb, ho, hw⟩ hK
    gi_wp2
    exact hK _ _ ((KeepsOthers.alloc _ _).from _) ((KpC.refl _ _).alloc _) ⟨hb.alloc _, ho.kept (World.grownBy_alloc _ _ none) (by simp), hw.alloc hw.size _⟩ ⟨W.heap.size, hb.lt, ho.lt, World.alloc_heap_new W _, rfl⟩
  case body =>
    rintro l pre x a' W hl _ ⟨hb, ho, hw⟩ ⟨Bx, h1, h2, h3, rfl⟩ hlt
    have HS := Lib.hid (blk_snoc pre x (List.replicate 8 0))
    have HL := Lib.hid (blk_len (pre.map Subtype.val) (List.replicate 8 0))
    obtain ⟨⟨xk, xf, xs', xp, xt, xg⟩, tg, t4⟩ := x
    simp only at tg t4 h3 HS
    subst tg
    have e0 : W.cell? ⟨Bx, 0, none⟩ = some (.int .i64 xk) := by simp [World.cell?, h3]
    have e2 : W.cell? ⟨Bx, 2, none⟩ = some (.int .i64 xs') := by simp [World.cell?, h3]
    have e4 : W.cell? ⟨Bx, 4, none⟩ = some (.int .i64 xt) := by simp [World.cell?, h3]
    have c1 := hb.cell
    have lx := (Array.getElem?_eq_some_iff.1 h3).1
    have lb := hb.lt
    have lo := ho.lt
    have HO := Lib.hid ho
    clear h3 ho
    generalize ((pre.map Subtype.val).foldl blkStep (List.replicate 8 0)) = bs at *
    by_cases hk : xk = 4
    · subst hk
      obtain ⟨s0, s1, ht⟩ := t4 rfl
      obtain ⟨t0, t1⟩ := there_lt ht
      have HTL := Lib.hid (tableL_in HH.out ht)
      clear ht
      obtain ⟨σ, rfl⟩ := Int.eq_ofNat_of_zero_le s0
      obtain ⟨τ, rfl⟩ := Int.eq_ofNat_of_zero_le (show 0 ≤ xt by omega)
      have hσ : σ < 8 := by omega
      have s2 : (0 : Int) ≤ (σ : Int) := s0
      have HTb := Lib.hid (hT A n c xs (τ : Int) W.drew ((hr.below hw).more hw.size) hn hnc)
      have hd4 : ((4 : Int) == 4) = true := rfl
      gi_wp2_with fail
      refine wpIn_region_round (S := fun w' => w'.cell? ⟨Bx, 2, none⟩ = some (.int .i64 (σ : Int)) ∧ w'.cell? ⟨Bx, 4, none⟩ = some (.int .i64 (τ : Int)) ∧ w'.cell? ⟨w.heap.size, 0, none⟩ = some (.slice A n c)) (by kernel_rfl) (by kernel_rfl) (by rintro ⟨_, _, h⟩; exact h) ⟨e2, e4, c1⟩ (fun hHeld => ?_)
      refine wpAnyH_take_to (i := 0) (d := some 11) (v := ?_) rfl rfl (by kernel_rfl) (by kernel_rfl) (by kernel_rfl) (fun _ _ _ h => h) (Or.inl ⟨by rfl, ?_⟩) (by assumption) ?_
      rotate_left 1
      · intro w hSw
        (try dsimp only at hSw)
        go_simp <;> with_reducible rfl
      simp only [Act.put, List.setIfInBounds_toArray, List.set_cons_zero, List.set_cons_succ]
      refine wpAnyH_take_to (i := 1) (d := some 12) (v := ?_) rfl rfl (by kernel_rfl) (by kernel_rfl) (by kernel_rfl) (fun _ _ _ h => h) (Or.inl ⟨by rfl, ?_⟩) (by assumption) ?_
      rotate_left 1
      · intro w hSw
        (try dsimp only at hSw)
        go_simp <;> with_reducible rfl
      simp only [Act.put, List.setIfInBounds_toArray, List.set_cons_zero, List.set_cons_succ]
      refine wpAnyH_take_to (i := 2) (d := some 13) (v := ?_) rfl rfl (by kernel_rfl) (by kernel_rfl) (by kernel_rfl) (fun _ _ _ h => h) (Or.inl ⟨by rfl, ?_⟩) (by assumption) ?_
      rotate_left 1
      · intro w hSw
        (try dsimp only at hSw)
        go_simp <;> with_reducible rfl
      simp only [Act.put, List.setIfInBounds_toArray, List.set_cons_zero, List.set_cons_succ]
      refine wpAnyH_take_to (i := 3) (d := some 14) (v := ?_) rfl rfl (by kernel_rfl) (by kernel_rfl) (by kernel_rfl) (fun _ _ _ h => h) (Or.inl ⟨by rfl, ?_⟩) (by assumption) ?_
      rotate_left 1
      · intro w hSw
        (try dsimp only at hSw)
        go_simp <;> with_reducible rfl
      simp only [Act.put, List.setIfInBounds_toArray, List.set_cons_zero, List.set_cons_succ]
      refine wpAnyH_take_to (i := 4) (d := some 15) (v := ?_) rfl rfl (by kernel_rfl) (by kernel_rfl) (by kernel_rfl) (fun _ _ _ h => h) (Or.inl ⟨by rfl, ?_⟩) (by assumption) ?_
      rotate_left 1
      · intro w hSw
        (try dsimp only at hSw)
        go_simp <;> with_reducible rfl
      simp only [Act.put, List.setIfInBounds_toArray, List.set_cons_zero, List.set_cons_succ]
      refine wpAnyH_take_to (i := 5) (d := some 16) (v := ?_) rfl rfl (by kernel_rfl) (by kernel_rfl) (by kernel_rfl) (fun _ _ _ h => h) (Or.inl ⟨by rfl, ?_⟩) (by assumption) ?_
      rotate_left 1
      · intro w hSw
        (try dsimp only at hSw)
        go_simp <;> with_reducible rfl
      simp only [Act.put, List.setIfInBounds_toArray, List.set_cons_zero, List.set_cons_succ]
      refine wpAnyH_take_to (i := 6) (d := some 17) (v := ?_) rfl rfl (by kernel_rfl) (by kernel_rfl) (by kernel_rfl) (fun _ _ _ h => h) (Or.inl ⟨by rfl, ?_⟩) (by assumption) ?_
      rotate_left 1
      · intro w hSw
        (try dsimp only at hSw)
        go_simp <;> with_reducible rfl
      simp only [Act.put, List.setIfInBounds_toArray, List.set_cons_zero, List.set_cons_succ]
      refine wpAnyH_ready (rs := [7]) (by kernel_rfl) (by simp) ?_
      refine AllReadyH.cons rfl (fun K hK => ?_) AllReadyH.nil
      rw [if_pos (by rfl)]
      go_simp
      refine HTb.out.mono ?_
      rintro e w2 ⟨X, nx, cx, rfl, oX, b2⟩
      rw [HTL.out, Int.toNat_natCast] at oX
      obtain rfl : 8 = nx := by have := oX.len; rw [cl_length] at this; exact this
      rcases oX.form with ⟨_, h0, _⟩ | ⟨g, rfl, g1, g2, g3, g4⟩
      · omega
      obtain ⟨ad, ead, hsrc⟩ := rd_src oX.rd
      have HSR := Lib.hid hsrc
      have b2' : Below W.heap.size W w2 := Below.trans (Below.refl _ W).drew b2
      have ho2 := Lib.hid (HO.out.below b2')
      have hS2 : w2.cell? ⟨Bx, 2, none⟩ = some (.int .i64 (σ : Int)) ∧ w2.cell? ⟨Bx, 4, none⟩ = some (.int .i64 (τ : Int)) ∧ w2.cell? ⟨w.heap.size, 0, none⟩ = some (.slice A n c) := ⟨(b2'.cell (p := ⟨Bx, 2, none⟩) lx).trans e2, (b2'.cell (p := ⟨Bx, 4, none⟩) lx).trans e4, (b2'.cell (p := ⟨w.heap.size, 0, none⟩) lb).trans c1⟩
      refine hK.out _ _ hS2 (fun hHeld2 => ?_)
      refine wpAnyH_ready (rs := [8]) (by kernel_rfl) (by simp) ?_
      refine AllReadyH.cons rfl (fun K2 hK2 => ?_) AllReadyH.nil
      refine step_copy_block rfl (.tmp 14) (.tmp 18) 22 22 rfl 2 Tryz.underlying22 info2s (w.heap.size + 1) (σ * 8) ad 8 8 8 cx (by rfl) (by rw [← ead]; rfl) (iv (storedC xs bs)) 132 ho2.out (iv (cl xs τ)) (by rw [iv_length, cl_length]; rfl) HSR.out (by rw [iv_length, iv_length, cl_length]; simp [storedC]; omega) (int_one _) ?_
      intro w3 h3 gr3
      rw [stored_splice xs bs σ τ hσ (by omega) (by have := HL.out; simpa using this)] at h3
      refine hK2.out _ _ ⟨gr3.cell hS2.1 (fun e => by injection e with e; have : Bx = w.heap.size + 1 := e; omega), gr3.cell hS2.2.1 (fun e => by injection e with e; have : Bx = w.heap.size + 1 := e; omega), gr3.cell hS2.2.2 (fun e => by injection e with e; have : w.heap.size = w.heap.size + 1 := e; omega)⟩ (fun _ => ?_)
      refine wpAnyH_done (by kernel_rfl) ?_ _
      refine ⟨?_, ?_, ?_, ?_, ?_⟩
      · exact (KeepsFrom.of_grownBy (below_grownBy b2') (fun _ e => by cases e)).trans (KeepsFrom.of_grownBy gr3 (fun j e => by cases e; omega))
      · exact (KpC.below b2').trans (KpC.grown gr3)
      · exact (hb.kept (below_grownBy b2') (by simp)).kept gr3 (fun e => by injection e with e; omega)
      · rw [HS.out, if_pos trivial, Int.toNat_natCast]
        exact h3
      · exact (below_more hw b2' hw.size).grown gr3 (Nat.le_trans hw.size b2'.size) (fun k e => by cases e; omega)
    · have hd4 : (xk == 4) = false := by simpa using hk
      gi_wp2
      exact ⟨KeepsFrom.refl _ _, KpC.refl _ _, hb, by rw [HS.out, if_neg hk]; exact HO.out, hw⟩
  case done =>
    rintro D ys W hD hS ⟨hb, ho, hw⟩ hK
    gi_wp2
    refine ⟨by simp, .inl ⟨_, _, rfl, run_takeDeferred hK, ?_⟩⟩
    refine ⟨_, results_tmp rfl _ _ _, ?_⟩
    rw [hS, blk_good, HCL.out] at ho
    have g7 := grownBy_putObj' W D (.deferred none)
    have lw := ho.lt
    exact ⟨w.heap.size + 1, rfl, by omega, ho.kept g7 (fun e => by cases e; omega), hw.grown g7 hw.size (fun k e => by cases e; omega)⟩
  case stop =>
    rintro D c pre W _ _ h _
    exact h.elim

set_option maxRecDepth 100000 in
set_option maxHeartbeats 4000000 in
theorem implStored_any (hC : ClaimsC) (hT : TableC) : StoredC := by
  intro A n c xs w hr hn hnc
  obtain ⟨i0, hi0, hz0, hz1, hz2⟩ := info_parts info2
  go_enter Tryz.func116, Tryz.ntmps116
  go_wp2_with fail
  refine (implHeadIn_any _ _ _ xs _ hr hn).mono ?_
  rintro e w1 ⟨rfl, b1⟩
  generalize hh : headIn xs = r
  obtain ⟨⟨s, f, r, u, m⟩, is⟩ := r
  have HR := Lib.hid hh
  clear hh
  unfold hdV
  have b2 := b1.alloc b1.size (.cells #[.int .i64 s, .int .i64 f, .int .i64 r, .int .i64 u, .int .i64 m] 31)
  cases is
  · have HN : Hid (storedL xs = []) := by unfold storedL; rw [(headIn_false HR.out).1]; exact rfl
    go_wp2_with fail
    go_ret
    rw [HN.out]
    exact Ret.nil _ _ b2
  · have HH := Lib.hid (headIn_true HR.out).1
    have HN : Hid (storedL xs = storedC xs (blocksC (claimsC xs))) := by unfold storedL; rw [HH.out]; exact rfl
    go_wp2_with fail
    refine (storedBy_any hC hT A n c xs _ ((hr.below b2).more b2.size) hn hnc HH.out).mono ?_
    rintro e w3 ⟨gv, rfl, hgv, hB, b3⟩
    have B3 := below_more b2 b3 b2.size
    have s2 := b2.size
    have lB := hB.lt
    clear b3
    go_wp2_with (at_make; refine wpList_make_full _ rfl _ _ 22 rfl w3.heap.size 2 i0 (.int .i64 0) 1 Tryz.underlying22 hi0 hz0 hz1 .i64 .i64 _ _ 64 rfl rfl rfl rfl (by rw [hz2]; omega) (by simp only [maxLen]; omega) (Nat.le_refl _) ?_; intro w4 hown hg; rw [made_iv] at hown)
    have o4 := zeros_ow hown
    have lo := ow_lt o4
    have b4 : Below w3.heap.size w3 w4 := below_grown hg (Nat.le_refl _) (fun _ h => by cases h)
    have B4 := below_more B3 b4 B3.size
    have HB4 := Lib.hid (hB.below b4)
    have s3 := B3.size
    clear hown hg hi0 hz0 hz1 hz2 b1 b2 b4 hB B3
    generalize w3.heap.size = g at *
    generalize hbs : blocksC (claimsC xs) = bs at *
    have HBS := Lib.hid hbs
    clear hbs
    go_loopw [20] (fun i wr => ∃ k : Nat, k ≤ 64 ∧ i = .int .i64 k ∧ Ow wr g (g + 1) (some ⟨g, 0, none⟩) 64 64 (storedTo xs bs k) ∧ w4.grownBy wr (some g)) (fun i _ => 64 - (intOf i).toNat)
    case atStart => exact ⟨0, by omega, rfl, o4, grown_refl _ _⟩
    case round =>
      obtain ⟨k, hk, rfl, hok, hg⟩ := hrel
      by_cases hlt : k < 64
      · have HBk := Lib.hid (HB4.out.kept hg (fun e => by injection e with e; omega))
        have HE := Lib.hid (storedTo_step xs bs k hlt)
        have hco := hok.cell hlt
        have hfo := hok.free k
        have HSt := Lib.hid (hok.set k (stored_at xs bs k))
        go_wp2_with fail
        refine (stored1_any xs bs gv k hlt wr HBk.out).mono ?_
        rintro e w' ⟨rfl, rfl⟩
        generalize stored_at xs bs k = y at *
        go_wp2_with fail
        go_roundw
        case rel =>
          obtain ⟨h1, h2⟩ := HSt.out
          exact ⟨k + 1, by omega, by go_num, by rw [← HE.out]; exact h1, grown_trans hg h2⟩
        case measure => simp [intOf]; omega
      · obtain rfl : k = 64 := by omega
        go_wp2_with fail
        go_ret
        rw [storedTo_all] at hok
        rw [HN.out]
        have sg := hg.size
        exact ⟨_, 64, 64, rfl, hok.more (by omega) (by omega), below_of_grown B4 hg (by omega)⟩

theorem implStored_all : StoredC := implStored_any implClaims_any implTable_any

end Go.Proofs.YtiokfhdkbpoadaaGreatDoor
