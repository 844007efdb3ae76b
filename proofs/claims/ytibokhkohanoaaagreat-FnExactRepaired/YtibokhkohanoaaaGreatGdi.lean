/- The iterator over the good claims (goodClaims), the program's side, given what ClaimsIn answers. -/
import Derived.Test.YtibokhkohanoaaaGreatY5
import Derived.Test.YtibokhkohanoaaaGreatQ7
import Derived.RangeFuncNested
import Derived.RangeFuncBound
import Derived.RangeFuncCalls
import Derived.RangeFuncLeaves
import Derived.Shelf.Abstract
import Derived.Shelf.RegionOpen
import Derived.WalkKit
import Derived.OwnWalkIn
import Derived.TacticsInMore
import Derived.LoopNIn
import Derived.LoopIn
namespace Go.Proofs.YtibokhkohanoaaaGreat
open Go.RowKit Go.Shelf

attribute [local go_sem] Oper.semAt_some

/-- What a round keeps: each cell but those of block g. -/
def KpC (g : Nat) (W W' : World) : Prop := W.heap.size ≤ W'.heap.size ∧ ∀ (p : Addr) (v : Value), p.block ≠ g → W.cell? p = some v → W'.cell? p = some v
theorem KpC.refl (g : Nat) (W : World) : KpC g W W := ⟨Nat.le_refl _, fun _ _ _ h => h⟩
theorem KpC.trans {g : Nat} {A B C : World} (h : KpC g A B) (k : KpC g B C) : KpC g A C := ⟨Nat.le_trans h.1 k.1, fun p v hp hc => k.2 p v hp (h.2 p v hp hc)⟩
theorem KpC.alloc {g : Nat} {A B : World} (h : KpC g A B) (o : Obj) : KpC g A (B.alloc o) :=
  h.trans ⟨by simp, fun _ _ _ hc => cell_kept hc (World.grownBy_alloc B o none) (fun _ e => by cases e)⟩
theorem KpC.put {g : Nat} {W : World} {l : Nat} {o : Obj} (o' : Obj) (h : W.heap[l]? = some o) (ho : o.isCells = false) : KpC g W (W.putObj l o') :=
  ⟨(grownBy_putObj' W l o').size, fun _ _ _ hc => cell_kept hc (grownBy_putObj' W l o') (fun _ e => by cases e; exact ⟨o, h, ho⟩)⟩

theorem KpC.grown {g : Nat} {W W' : World} (h : W.grownBy W' (some g)) : KpC g W W' :=
  ⟨h.size, fun p v hp hc => by
    obtain ⟨o, ho, _⟩ := cells_of_cell hc
    exact (World.cell?_of_block (h.block p.block (Array.getElem?_eq_some_iff.1 ho).1 (fun e => hp (by injection e)))).trans hc⟩

/-- A claim of which p is known. -/
abbrev Gq (p : Cm → Prop) := { c : Cm // p c }

theorem below_grownBy {W W' : World} (h : Below W.heap.size W W') : W.grownBy W' none := ⟨h.os, h.tape, h.output, h.size, fun k hk _ => h.block k hk⟩

/-- The cells of claim k of a row. -/
theorem cmr_cells8 {w : World} {lo hi : Nat} {A : Option Addr} {cg : Nat} {l : List Cm} (h : OwR 62 6 w lo hi A l.length cg (l.flatMap cmV)) {k : Nat} (hk : k < l.length) :
    ∃ g, A = some ⟨g, 0, none⟩ ∧ lo ≤ g ∧ g < hi ∧ g < w.heap.size ∧ ∀ j, j < 6 → w.cell? ⟨g, k * 6 + j, none⟩ = (cmV (l.getD k cm0))[j]? := by
  rcases h.form with ⟨_, h0, _⟩ | ⟨g, rfl, h1, h2, h3, _⟩
  · omega
  · exact ⟨g, rfl, h1, h2, h3, fun j hj => cm_cells h.rd hk j hj⟩

theorem filt_step (l : List Cm) (k : Nat) (hk : k < l.length) : (l.take (k + 1)).filter (fun c => c.good) = (l.take k).filter (fun c => c.good) ++ if (l.getD k cm0).good then [l.getD k cm0] else [] := by
  have e : l.getD k cm0 = l[k] := by simp [List.getD_eq_getElem?_getD, hk]
  rw [List.take_succ_eq_append_getElem hk, List.filter_append, e]
  cases h : l[k].good <;> simp [h]

set_option maxRecDepth 100000 in
set_option maxHeartbeats 4000000 in
theorem good1_in {p : Cm → Prop} (hC : ClaimsC) (nn l Bs gv : Nat) (hnn : 1 ≤ nn) (A : Option Addr) (n c : Nat) (xs : List Int) (W : World) (hbox : W.cell? ⟨Bs, 0, none⟩ = some (.slice A n c)) (hr : Rd W W.heap.size A n xs) (hn : n ≤ 2097152) (hnc : n ≤ c) (hgv : gv < W.heap.size)
    (hT : ∀ c ∈ claimsL xs, c.good = true → p c) (J Jx : List (Gq p) → World → Prop) (hJ : AbidesFrom W.heap.size J)
    (hY : ∀ pre (x : Gq p) W1, J pre W1 → pre.length < 1296 → YieldAt Fence.wide (nn - 1) Tryz.prog l #[.agg #[.int .i64 x.1.kind, .int .i64 x.1.frm, .int .i64 x.1.slot, .int .i64 x.1.place, .int .i64 x.1.target, .bool x.1.good]] W1 fun e W' =>
      (e = .returned (.bool true) ∧ J (pre ++ [x]) W' ∧ KpC gv W1 W') ∨ (e = .returned (.bool false) ∧ Jx (pre ++ [x]) W')) (h0 : J [] W) :
    CallsIn Fence.wide nn Tryz.prog 125 #[.func (.yield l) #[] #[], .pointer (some ⟨Bs, 0, none⟩)] W fun e W' => (∃ v, e = .returned v) ∧
      ((∃ ys : List (Gq p), ys.map Subtype.val = (claimsL xs).filter (fun c => c.good) ∧ J ys W') ∨ (∃ pre, True ∧ Jx pre W')) := by
  refine callsIn_of_wp Tryz.func125 rfl trivial ?_ rfl
  simp only [Tryz.ntmps125, List.size_toArray, List.length_cons, List.length_nil, Nat.reduceAdd, Nat.reduceSub, Array.replicate_succ, Array.replicate_zero, List.push_toArray, List.append_toArray, List.nil_append, List.cons_append]
  have hz : ∀ s W1 W2, J s W1 → Below W1.heap.size W1 W2 → J s W2 := fun s W1 W2 h b => hJ s W1 W2 none h (below_grownBy b) (fun _ e => by cases e)
  have HZ := Lib.hid hz
  have HT := Lib.hid hT
  have HY := Lib.hid hY
  have HJ := Lib.hid hJ
  clear hT hY hJ hz
  gi_wp2_with (refine ⟨trivial, ?_⟩; gi_at_call 96; refine (callsIn_wide.2 (hC A n c xs _ hr hn hnc)).mono ?_; rintro e w2 ⟨G, cg, rfl, oG, b2⟩)
  have hll := claimsL_length xs
  have sb2 := b2.size
  have hJ0 := HZ.out _ _ _ h0 b2
  have HG := Lib.hid oG
  clear oG hr h0 b2 hbox
  generalize hL : claimsL xs = L at *
  have HL := Lib.hid hL
  clear hL
  gi_wp2
  gi_loopw [8] (fun i wr => ∃ (k : Nat) (pre : List (Gq p)), k ≤ L.length ∧ i = .int .i64 k ∧ pre.map Subtype.val = (L.take k).filter (fun c => c.good) ∧ J pre wr ∧ KpC gv w2 wr) (fun i _ => L.length - (intOf i).toNat)
  case atStart => exact ⟨0, [], Nat.zero_le _, rfl, by simp, hJ0, KpC.refl _ _⟩
  case round =>
    obtain ⟨k, pre, hk, rfl, hpre, hJs, hkp⟩ := hrel
    have HP := Lib.hid hpre
    have HK := Lib.hid hkp
    clear hpre hkp hJ0
    by_cases hlt : k < L.length
    · obtain ⟨g, rfl, hg1, hg2, hg3, hce⟩ := cmr_cells8 HG.out hlt
      have hce : ∀ j v, j < 6 → (cmV (L.getD k cm0))[j]? = some v → wr.cell? ⟨g, k * 6 + j, none⟩ = some v := fun j v hj hv => HK.out.2 _ _ (by show g ≠ gv; omega) ((hce j hj).trans hv)
      have HS := Lib.hid (filt_step L k hlt)
      have HTk := Lib.hid (HT.out (L.getD k cm0) (by rw [show L.getD k cm0 = L[k] by simp [List.getD_eq_getElem?_getD, hlt]]; exact List.getElem_mem hlt))
      have hpl : pre.length < 1296 := by
        have h1 : pre.length = ((L.take k).filter (fun c => c.good)).length := by rw [← HP.out]; simp
        have h2 := List.length_filter_le (fun c : Cm => c.good) (L.take k)
        have h3 : (L.take k).length ≤ k := List.length_take_le _ _
        omega
      generalize L.getD k cm0 = x at *
      obtain ⟨xk, xf, xs', xp, xt, xg⟩ := x
      have e0 : wr.cell? ⟨g, k * 6, none⟩ = some (.int .i64 xk) := hce 0 _ (by omega) rfl
      have e1 : wr.cell? ⟨g, k * 6 + 1, none⟩ = some (.int .i64 xf) := hce 1 _ (by omega) rfl
      have e2 : wr.cell? ⟨g, k * 6 + 2, none⟩ = some (.int .i64 xs') := hce 2 _ (by omega) rfl
      have e3 : wr.cell? ⟨g, k * 6 + 3, none⟩ = some (.int .i64 xp) := hce 3 _ (by omega) rfl
      have e4 : wr.cell? ⟨g, k * 6 + 4, none⟩ = some (.int .i64 xt) := hce 4 _ (by omega) rfl
      have e5 : wr.cell? ⟨g, k * 6 + 5, none⟩ = some (.bool xg) := hce 5 _ (by omega) rfl
      clear hce
      have hJ1 := HZ.out _ _ _ hJs ((Below.refl _ wr).alloc (Nat.le_refl _) (.cells #[.int .i64 xk, .int .i64 xf, .int .i64 xs', .int .i64 xp, .int .i64 xt, .bool xg] 62))
      cases xg
      · gi_wp2
        refine ⟨fun _ h => (by cases h), ?_⟩
        gi_wp2
        go_roundw
        case rel => exact ⟨k + 1, pre, by omega, by go_num, by rw [HS.out, HP.out]; simp, hJ1, HK.out.alloc _⟩
        case measure => simp [intOf]; omega
      · have hpx := HTk.out rfl
        obtain ⟨fn, tmps, assign, body, hy, hR⟩ := HY.out pre ⟨⟨xk, xf, xs', xp, xt, true⟩, hpx⟩ _ hJ1 hpl
        dsimp only at hy
        gi_wp2
        refine hR.mono ?_
        rintro e W3 (⟨rfl, hJ3, hk3⟩ | ⟨rfl, hJx3⟩)
        · have hk3 := (HK.out.alloc _).trans hk3
          gi_wp2
          go_roundw
          case rel => exact ⟨k + 1, pre ++ [⟨⟨xk, xf, xs', xp, xt, true⟩, hpx⟩], by omega, by go_num, by rw [HS.out, List.map_append, HP.out]; simp, hJ3, hk3⟩
          case measure => simp [intOf]; omega
        · gi_wp2
          refine bodyPost_ret (results_none rfl _ _ _) rfl ?_
          exact ⟨⟨_, rfl⟩, .inr ⟨_, trivial, hJx3⟩⟩
    · obtain rfl : k = L.length := by omega
      gi_wp2
      go_end0
      refine ⟨⟨_, rfl⟩, .inl ⟨pre, ?_, hJs⟩⟩
      rw [HP.out, List.take_length, HL.out]

/-- The claims' iterator. -/
theorem good_in (A : Option Addr) (n c : Nat) (nn : Nat) (w : World) :
    CallsIn Fence.wide nn Tryz.prog 102 #[.slice A n c] w fun e w' => e = .returned (.func (.func 125) #[] #[.pointer (some ⟨w.heap.size, 0, none⟩)]) ∧ w' = w.alloc (.cells #[.slice A n c] 22) := by
  refine callsIn_of_wp Tryz.func102 rfl trivial ?_ rfl
  simp only [Tryz.ntmps102, List.size_toArray, List.length_cons, List.length_nil, Nat.reduceAdd, Nat.reduceSub, Array.replicate_succ, Array.replicate_zero, List.push_toArray, List.append_toArray, List.nil_append, List.cons_append]
  gi_wp2
  go_ret
  exact ⟨rfl, rfl⟩

theorem good_stops {p : Cm → Prop} (hC : ClaimsC) (nn Bs gv : Nat) (hnn : 1 ≤ nn) (A : Option Addr) (n c : Nat) (xs : List Int) (w : World) (hbs : Bs < w.heap.size) (hbox : w.cell? ⟨Bs, 0, none⟩ = some (.slice A n c)) (hr : Rd w w.heap.size A n xs) (hn : n ≤ 2097152) (hnc : n ≤ c) (hgv : gv < w.heap.size)
    (hT : ∀ c ∈ claimsL xs, c.good = true → p c) :
    SeqStopsK Fence.wide nn Tryz.prog 125 #[.pointer (some ⟨Bs, 0, none⟩)] (fun x : Gq p => #[Value.agg #[.int .i64 x.1.kind, .int .i64 x.1.frm, .int .i64 x.1.slot, .int .i64 x.1.place, .int .i64 x.1.target, .bool x.1.good]]) (KpC gv)
      (fun ys => ys.map Subtype.val = (claimsL xs).filter (fun c => c.good)) (fun _ => True) 1296 w := fun l J Jx W hW hJ _ hY h0 =>
  good1_in hC nn l Bs gv hnn A n c xs W ((hW.cell (p := ⟨Bs, 0, none⟩) hbs).trans hbox) ((hr.below hW).more hW.size) hn hnc (by have := hW.size; omega) hT J Jx hJ hY h0

theorem wpListIn_make_full {F : Fence} {nf : Nat} {P : Program} (w : World) {ops : Array Oper} {rest : List Oper} {o : Oper} {a : Act} {Q : Exit → Act → World → Prop}
    (hg : o.guard = none) (l c : Operand) (t : TypeId) (hop : o.op = Op.makeSlice t l c)
    (base : Nat) (e : TypeId) (i : TypeInfo) (z : Value) (size : Nat) (h1 : P.underlying t = some (.slice e)) (h2 : P.info? e = some i) (h3 : i.zero = some z) (h4 : i.size = size)
    (kl kc : IntKind) (L C : Int) (n : Nat) (hl : a.eval l = .int kl L) (hc : a.eval c = .int kc C) (hL : L = (n : Int)) (hC : C = (n : Int)) (b2 : i.bytes * n ≤ 281474976710656) (b3 : n ≤ maxLen) (b4 : base ≤ w.heap.size)
    (hK : ∀ w', w'.ownsRow base e size (.slice (some ⟨w.heap.size, 0, none⟩) n n) n (madeCells z.cells (n * size)).toList → w.grownBy w' none → wpListIn F nf P ops Q rest (a.put o.dst (.slice (some ⟨w.heap.size, 0, none⟩) n n)) w') :
    wpListIn F nf P ops Q (o :: rest) a w := by
  refine wpListIn_plain hg fun K hK' => ?_
  obtain ⟨w', hrun, r1, r2⟩ := run_make_full (P := P) w base t e i z size h1 h2 h3 h4 kl kc n b2 b3 b4
  subst hL
  subst hC
  unfold Oper.wpIn
  refine ⟨?_, ?_⟩
  · simp [Oper.about, hop]
  · rw [Oper.semAt_plain F _ _ (by rw [hop]; intro c hc'; cases hc')]
    simp [execOp, hop, hl, hc, hrun, Result.andThen]
    exact hK' _ _ (hK w' r1 r2)

end Go.Proofs.YtibokhkohanoaaaGreat
