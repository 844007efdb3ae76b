/- The iterator over the good claims, ahead of a body that appends to a row in a box: each cell stays but those of the box and of the row. Words that are not as they must be, as the program tells them (pure). Whether a list of claims has one that a function asks for (slices.ContainsFunc), for the two functions that the program asks with. -/
import Derived.Test.YtibokhkohanoaaaGreatGdi
import Derived.Test.YtibokhkohanoaaaGreatX2
import Derived.RangeFuncBox
import Derived.Test.YtibokhkohanoaaaGreatH1
import Derived.Test.YtibokhkohanoaaaGreatX1
import Derived.Test.YtibokhkohanoaaaGreatQ1
namespace Go.Proofs.YtibokhkohanoaaaGreat
open Go.RowKit Go.Shelf
open Go.RowKit

attribute [local go_sem] Oper.semAt_some

/-- Block b is neither the box gv nor the row that lies in it. -/
def SpT (gv : Nat) (v : Value) (b : Nat) : Prop := b ≠ gv ∧ v.ownBlock ≠ some b
/-- What a round keeps: each cell but those of the box gv and of the row in it. -/
def KpT (gv : Nat) (W W' : World) : Prop :=
  W.heap.size ≤ W'.heap.size ∧ ∀ v0, W.cell? ⟨gv, 0, none⟩ = some v0 → ∃ v1, W'.cell? ⟨gv, 0, none⟩ = some v1 ∧ ∀ b, b < W.heap.size → SpT gv v0 b → SpT gv v1 b ∧ ∀ o v, W.cell? ⟨b, o, none⟩ = some v → W'.cell? ⟨b, o, none⟩ = some v
theorem KpT.keep {gv : Nat} {W W' : World} (hs : W.heap.size ≤ W'.heap.size) (hc : ∀ p v, W.cell? p = some v → W'.cell? p = some v) : KpT gv W W' :=
  ⟨hs, fun v0 h => ⟨v0, hc _ _ h, fun _ _ hsp => ⟨hsp, fun _ _ h => hc _ _ h⟩⟩⟩
theorem KpT.refl (gv : Nat) (W : World) : KpT gv W W := KpT.keep (Nat.le_refl _) fun _ _ h => h
theorem KpT.trans {gv : Nat} {A B C : World} (h : KpT gv A B) (k : KpT gv B C) : KpT gv A C :=
  ⟨Nat.le_trans h.1 k.1, fun v0 hv => by
    obtain ⟨v1, h1, h2⟩ := h.2 v0 hv
    obtain ⟨v2, k1, k2⟩ := k.2 v1 h1
    refine ⟨v2, k1, fun b hb hs => ?_⟩
    obtain ⟨s1, c1⟩ := h2 b hb hs
    obtain ⟨s2, c2⟩ := k2 b (Nat.lt_of_lt_of_le hb h.1) s1
    exact ⟨s2, fun o v hc => c2 o v (c1 o v hc)⟩⟩
theorem KpT.alloc {gv : Nat} {A B : World} (h : KpT gv A B) (o : Obj) : KpT gv A (B.alloc o) :=
  h.trans (KpT.keep (by simp) fun _ _ hc => cell_kept hc (World.grownBy_alloc B o none) (fun _ e => by cases e))
theorem KpT.put {gv : Nat} {W : World} {l : Nat} {o : Obj} (o' : Obj) (h : W.heap[l]? = some o) (ho : o.isCells = false) : KpT gv W (W.putObj l o') :=
  KpT.keep (grownBy_putObj' W l o').size fun _ _ hc => cell_kept hc (grownBy_putObj' W l o') (fun _ e => by cases e; exact ⟨o, h, ho⟩)
theorem KpT.below {gv : Nat} {W W' : World} (h : Below W.heap.size W W') : KpT gv W W' := KpT.keep h.size fun _ _ hc => cell_kept hc (below_grownBy h) (fun _ e => by cases e)
/-- The row in the box grew, and the box holds the new one. -/
theorem KpT.append {gv : Nat} {W W1 : World} {v0 v1 : Value} (h0 : W.cell? ⟨gv, 0, none⟩ = some v0) (hg : W.grownBy W1 v0.ownBlock) (hat : v1.ownBlock = v0.ownBlock ∨ ∀ g, v1.ownBlock = some g → W.heap.size ≤ g) (hne : v0.ownBlock ≠ some gv) : KpT gv W (W1.setCell ⟨gv, 0, none⟩ v1) := by
  have hgv := World.block_lt_of_cell? W _ h0
  have hb : W1.heap[gv]? = W.heap[gv]? := hg.block gv hgv (fun e => hne e.symm)
  have c1 : W1.cell? ⟨gv, 0, none⟩ = some v0 := (World.cell?_of_block hb).trans h0
  have hgs := grownBy_setCell' W1 gv v1
  refine ⟨Nat.le_trans hg.size hgs.size, fun v hv => ?_⟩
  obtain rfl : v0 = v := Option.some.inj (h0.symm.trans hv)
  refine ⟨v1, World.cell?_setCell_same _ _ _ c1, fun b hlt hsp => ⟨⟨hsp.1, ?_⟩, fun o v hc => ?_⟩⟩
  · rcases hat with hat | hat
    · rw [hat]; exact hsp.2
    · intro e; have := hat b e; omega
  · have e1 : W1.heap[b]? = W.heap[b]? := hg.block b hlt (fun e => hsp.2 e.symm)
    have e2 : (W1.setCell ⟨gv, 0, none⟩ v1).heap[b]? = W1.heap[b]? := hgs.block b (by have := hg.size; omega) (fun e => hsp.1 (by injection e))
    exact (World.cell?_of_block (a := ⟨b, o, none⟩) (e2.trans e1)).trans hc

/-- append onto a row, nil or not: the run, and where what comes out lies. -/
theorem run_append_t {P : Program} (w : World) (t ty e : TypeId) (sz by_ : Nat) (z : Value) (i : TypeInfo) (ht : P.underlying t = some (.slice e)) (hi : P.info? e = some i) (hz : i.zero = some z) (hsize : i.size = sz) (hby : i.bytes = by_) (hzs : z.cells.size = sz) (hsz : 0 < sz) (hb8 : by_ ≤ 1000)
    (lo n c : Nat) (A : Option Addr) (cs : List Value) (hown : w.ownsRow lo e sz (.slice A n c) n cs)
    (ad : Addr) (m c' : Nat) (news : List Value) (hm : 0 < m) (hl : news.length = m * sz) (hnews : ∀ j u, news[j]? = some u → w.cell? (ad.add j) = some u) (h1 : ∀ u ∈ news, u.oneCell' = true)
    (hnm : n + m ≤ 16777216) (hlo : lo ≤ w.heap.size) :
    ∃ g' cd w', (Builtin.append_ #[t, t] ty #[.slice A n c, .slice (some ad) m c']).run P w = .ok (.slice (some ⟨g', 0, none⟩) (n + m) cd) w' ∧ w'.ownsRow lo e sz (.slice (some ⟨g', 0, none⟩) (n + m) cd) (n + m) (cs ++ news) ∧ w.grownBy w' (Value.ownBlock (.slice A n c)) ∧ (Value.ownBlock (.slice A n c) = some g' ∨ w.heap.size ≤ g') := by
  have hbytes : (n + m) * by_ ≤ 140737488355328 := by
    have : (n + m) * by_ ≤ 16777216 * 1000 := Nat.mul_le_mul hnm hb8
    omega
  have h63 : n + m ≤ maxLen := by simp only [maxLen]; omega
  rcases hown.2 with ⟨hv, hn⟩ | ⟨g, cap, cur, hv, hbg, hg, _⟩
  · injection hv with e1 e2 e3
    subst e1; subst hn; subst e3
    have hx : cs = [] := List.eq_nil_of_length_eq_zero (by simpa using hown.1)
    subst hx
    obtain ⟨v', w', hr, h2, h3, h4⟩ := run_append_own (P := P) w w.heap.size t ty e i z sz by_ ht hi hz hsize hby hzs hsz (.slice none 0 0) 0 [] (World.ownsRow_nil _ _ _ _) ad m c' news hl hnews h1 h63 hbytes (Nat.le_refl _)
    rcases h2.2 with ⟨hv', hn'⟩ | ⟨g', cd, cur, hv', hb', rest⟩
    · omega
    · subst hv'
      exact ⟨g', cd, w', hr, ⟨h2.1, .inr ⟨g', cd, cur, rfl, by omega, rest⟩⟩, h3, .inr hb'⟩
  · injection hv with e1 e2 e3
    subst e1; subst e3
    obtain ⟨v', w', hr, h2, h3, h4⟩ := run_append_own (P := P) w lo t ty e i z sz by_ ht hi hz hsize hby hzs hsz _ n cs hown ad m c' news hl hnews h1 h63 hbytes hlo
    obtain ⟨g', cd, rfl, hw⟩ := run_append_where (P := P) w t ty e i z sz by_ ht hi hz hsize hby lo g n c cs hown ad m c' news hl hnews h1 h63 hbytes v' w' hr
    refine ⟨g', cd, w', hr, h2, h3, ?_⟩
    rcases hw with rfl | ⟨h, _⟩
    · exact .inl rfl
    · exact .inr (by omega)

/-- The same as a step of a walk behind a fence. -/
theorem wpListIn_append_t {F : Fence} {nf : Nat} {P : Program} {w : World} {ops : Array Oper} {rest : List Oper} {o : Oper} {a : Act} {Q : Exit → Act → World → Prop} (hgd : o.guard = none) (s x : Operand) (t : TypeId)
    (ho : o.op = .call { callee := .builtin .append, args := #[s, x], argTypes := #[t, t] })
    (e : TypeId) (sz by_ : Nat) (z : Value) (i : TypeInfo) (ht : P.underlying t = some (.slice e)) (hi : P.info? e = some i) (hz : i.zero = some z) (hsize : i.size = sz) (hby : i.bytes = by_) (hzs : z.cells.size = sz) (hsz : 0 < sz) (hb8 : by_ ≤ 1000)
    (lo n c : Nat) (A : Option Addr) (cs : List Value) (hs : a.eval s = .slice A n c) (hown : w.ownsRow lo e sz (.slice A n c) n cs)
    (ad : Addr) (m c' : Nat) (news : List Value) (hx : a.eval x = .slice (some ad) m c') (hm : 0 < m) (hl : news.length = m * sz) (hnews : ∀ j u, news[j]? = some u → w.cell? (ad.add j) = some u) (h1 : ∀ u ∈ news, u.oneCell' = true)
    (hnm : n + m ≤ 16777216) (hlo : lo ≤ w.heap.size)
    (h : ∀ (g' cd : Nat) (w' : World), w'.ownsRow lo e sz (.slice (some ⟨g', 0, none⟩) (n + m) cd) (n + m) (cs ++ news) → w.grownBy w' (Value.ownBlock (.slice A n c)) → (Value.ownBlock (.slice A n c) = some g' ∨ w.heap.size ≤ g') → wpListIn F nf P ops Q rest (a.put o.dst (.slice (some ⟨g', 0, none⟩) (n + m) cd)) w') :
    wpListIn F nf P ops Q (o :: rest) a w := by
  obtain ⟨g', cd, w', hr, h2, h3, h4⟩ := run_append_t (P := P) w t o.type e sz by_ z i ht hi hz hsize hby hzs hsz hb8 lo n c A cs hown ad m c' news hm hl hnews h1 hnm hlo
  refine wpListIn_plain hgd fun K hK' => ?_
  unfold Oper.wpIn
  refine ⟨?_, ?_⟩
  · simp [Oper.about, ho, resolve, Target.leads, Sem.run_pure]
  · rw [Oper.semAt_plain F _ _ (by rw [ho]; intro c hc'; cases hc')]
    simp [execOp, ho, resolve, invoke, builtin, hs, hx, hr, Result.andThen]
    exact hK' _ _ (h g' cd w' h2 h3 h4)

set_option maxRecDepth 100000 in
set_option maxHeartbeats 4000000 in
theorem good1t_in {p : Cm → Prop} (hC : ClaimsC) (nn l Bs gv : Nat) (hnn : 1 ≤ nn) (A : Option Addr) (n c : Nat) (xs : List Int) (W : World) (hbox : W.cell? ⟨Bs, 0, none⟩ = some (.slice A n c)) (hr : Rd W W.heap.size A n xs) (hn : n ≤ 2097152) (hnc : n ≤ c) (v0 : Value) (hv0 : W.cell? ⟨gv, 0, none⟩ = some v0) (hsp : ∀ b, W.heap.size ≤ b → SpT gv v0 b)
    (hT : ∀ c ∈ claimsL xs, c.good = true → p c) (J Jx : List (Gq p) → World → Prop) (hJ : AbidesFrom W.heap.size J)
    (hY : ∀ pre (x : Gq p) W1, J pre W1 → pre.length < 1296 → YieldAt Fence.wide (nn - 1) Tryz.prog l #[.agg #[.int .i64 x.1.kind, .int .i64 x.1.frm, .int .i64 x.1.slot, .int .i64 x.1.place, .int .i64 x.1.target, .bool x.1.good]] W1 fun e W' =>
      (e = .returned (.bool true) ∧ J (pre ++ [x]) W' ∧ KpT gv W1 W') ∨ (e = .returned (.bool false) ∧ Jx (pre ++ [x]) W')) (h0 : J [] W) :
    CallsIn Fence.wide nn Tryz.prog 125 #[.func (.yield l) #[] #[], .pointer (some ⟨Bs, 0, none⟩)] W fun e W' => (∃ v, e = .returned v) ∧
      ((∃ ys : List (Gq p), ys.map Subtype.val = (claimsL xs).filter (fun c => c.good) ∧ J ys W') ∨ (∃ pre, True ∧ Jx pre W')) := by
  refine callsIn_of_wp Tryz.func125 rfl trivial ?_ rfl
  simp only [Tryz.ntmps125, List.size_toArray, List.length_cons, List.length_nil, Nat.reduceAdd, Nat.reduceSub, Array.replicate_succ, Array.replicate_zero, List.push_toArray, List.append_toArray, List.nil_append, List.cons_append]
  have hz : ∀ s W1 W2, J s W1 → Below W1.heap.size W1 W2 → J s W2 := fun s W1 W2 h b => hJ s W1 W2 none h (below_grownBy b) (fun _ e => by cases e)
  have HZ := Lib.hid hz
  have HT := Lib.hid hT
  have HY := Lib.hid hY
  have HJ := Lib.hid hJ
  clear hT hY hJ hz
  gi_wp2_with (refine ⟨trivial, ?_⟩; gi_at_call 96; refine (callsIn_wide.2 (hC A n c xs _ hr hn hnc)).mono ?_; rintro e w2 ⟨G, cg, rfl, oG, b2⟩)
  have hll := claimsL_length xs
  have sb2 := b2.size
  have hJ0 := HZ.out _ _ _ h0 b2
  have HV2 := Lib.hid ((World.cell?_of_block (a := ⟨gv, 0, none⟩) (b2.block gv (World.block_lt_of_cell? W _ hv0))).trans hv0)
  have HSP := Lib.hid hsp
  have HG := Lib.hid oG
  clear oG hr h0 b2 hbox hv0 hsp
  generalize hL : claimsL xs = L at *
  have HL := Lib.hid hL
  clear hL
  gi_wp2
  gi_loopw [8] (fun i wr => ∃ (k : Nat) (pre : List (Gq p)), k ≤ L.length ∧ i = .int .i64 k ∧ pre.map Subtype.val = (L.take k).filter (fun c => c.good) ∧ J pre wr ∧ KpT gv w2 wr) (fun i _ => L.length - (intOf i).toNat)
  case atStart => exact ⟨0, [], Nat.zero_le _, rfl, by simp, hJ0, KpT.refl _ _⟩
  case round =>
    obtain ⟨k, pre, hk, rfl, hpre, hJs, hkp⟩ := hrel
    have HP := Lib.hid hpre
    have HK := Lib.hid hkp
    clear hpre hkp hJ0
    by_cases hlt : k < L.length
    · obtain ⟨g, rfl, hg1, hg2, hg3, hce⟩ := cmr_cells8 HG.out hlt
      obtain ⟨_, _, hk2⟩ := HK.out.2 _ HV2.out
      have hk3 := (hk2 g hg3 (HSP.out g hg1)).2
      have hce : ∀ j v, j < 6 → (cmV (L.getD k cm0))[j]? = some v → wr.cell? ⟨g, k * 6 + j, none⟩ = some v := fun j v hj hv => hk3 _ _ ((hce j hj).trans hv)
      clear hk2 hk3
      have HS := Lib.hid (filt_step L k hlt)
      have HTk := Lib.hid (HT.out (L.getD k cm0) (by rw [show L.getD k cm0 = L[k] by simp [List.getD_eq_getElem?_getD, hlt]]; exact List.getElem_mem hlt))
      have hpl : pre.length < 1296 := by
        have h1 : pre.length = ((L.take k).filter (fun c => c.good)).length := by rw [← HP.out]; simp
        have h2 := List.length_filter_le (fun c : Cm => c.good) (L.take k)
        have h3 : (L.take k).length ≤ k := List.length_take_le _ _
        omega
      generalize L.getD k cm0 = x at *
      obtain ⟨xk, xf, xs', xp, xt, xg⟩ := x
      have e0 : wr.cell? ⟨g, k * 6, none⟩ = some (.int .i64 xk) := hce 0 _ (by omega) rfl
      have e1 : wr.cell? ⟨g, k * 6 + 1, none⟩ = some (.int .i64 xf) := hce 1 _ (by omega) rfl
      have e2 : wr.cell? ⟨g, k * 6 + 2, none⟩ = some (.int .i64 xs') := hce 2 _ (by omega) rfl
      have e3 : wr.cell? ⟨g, k * 6 + 3, none⟩ = some (.int .i64 xp) := hce 3 _ (by omega) rfl
      have e4 : wr.cell? ⟨g, k * 6 + 4, none⟩ = some (.int .i64 xt) := hce 4 _ (by omega) rfl
      have e5 : wr.cell? ⟨g, k * 6 + 5, none⟩ = some (.bool xg) := hce 5 _ (by omega) rfl
      clear hce
      have hJ1 := HZ.out _ _ _ hJs ((Below.refl _ wr).alloc (Nat.le_refl _) (.cells #[.int .i64 xk, .int .i64 xf, .int .i64 xs', .int .i64 xp, .int .i64 xt, .bool xg] 62))
      cases xg
      · gi_wp2
        refine ⟨fun _ h => (by cases h), ?_⟩
        gi_wp2
        go_roundw
        case rel => exact ⟨k + 1, pre, by omega, by go_num, by rw [HS.out, HP.out]; simp, hJ1, HK.out.alloc _⟩
        case measure => simp [intOf]; omega
      · have hpx := HTk.out rfl
        obtain ⟨fn, tmps, assign, body, hy, hR⟩ := HY.out pre ⟨⟨xk, xf, xs', xp, xt, true⟩, hpx⟩ _ hJ1 hpl
        dsimp only at hy
        gi_wp2
        refine hR.mono ?_
        rintro e W3 (⟨rfl, hJ3, hk3⟩ | ⟨rfl, hJx3⟩)
        · have hk3 := (HK.out.alloc _).trans hk3
          gi_wp2
          go_roundw
          case rel => exact ⟨k + 1, pre ++ [⟨⟨xk, xf, xs', xp, xt, true⟩, hpx⟩], by omega, by go_num, by rw [HS.out, List.map_append, HP.out]; simp, hJ3, hk3⟩
          case measure => simp [intOf]; omega
        · gi_wp2
          refine bodyPost_ret (results_none rfl _ _ _) rfl ?_
          exact ⟨⟨_, rfl⟩, .inr ⟨_, trivial, hJx3⟩⟩
    · obtain rfl : k = L.length := by omega
      gi_wp2
      go_end0
      refine ⟨⟨_, rfl⟩, .inl ⟨pre, ?_, hJs⟩⟩
      rw [HP.out, List.take_length, HL.out]

theorem goodt_stops {p : Cm → Prop} (hC : ClaimsC) (nn Bs gv : Nat) (hnn : 1 ≤ nn) (A : Option Addr) (n c : Nat) (xs : List Int) (w : World) (hbs : Bs < w.heap.size) (hbox : w.cell? ⟨Bs, 0, none⟩ = some (.slice A n c)) (hr : Rd w w.heap.size A n xs) (hn : n ≤ 2097152) (hnc : n ≤ c) (v0 : Value) (hv0 : w.cell? ⟨gv, 0, none⟩ = some v0) (hsp : ∀ b, w.heap.size ≤ b → SpT gv v0 b)
    (hT : ∀ c ∈ claimsL xs, c.good = true → p c) :
    SeqStopsK Fence.wide nn Tryz.prog 125 #[.pointer (some ⟨Bs, 0, none⟩)] (fun x : Gq p => #[Value.agg #[.int .i64 x.1.kind, .int .i64 x.1.frm, .int .i64 x.1.slot, .int .i64 x.1.place, .int .i64 x.1.target, .bool x.1.good]]) (KpT gv)
      (fun ys => ys.map Subtype.val = (claimsL xs).filter (fun c => c.good)) (fun _ => True) 1296 w := fun l J Jx W hW hJ _ hY h0 =>
  good1t_in hC nn l Bs gv hnn A n c xs W ((hW.cell (p := ⟨Bs, 0, none⟩) hbs).trans hbox) ((hr.below hW).more hW.size) hn hnc v0 ((hW.cell (p := ⟨gv, 0, none⟩) (World.block_lt_of_cell? w _ hv0)).trans hv0) (fun b hb => hsp b (Nat.le_trans hW.size hb)) hT J Jx hJ hY h0

def tgStep (ins : Int) (o : List Cm) (c : Cm) : List Cm := if kindIn c.kind = ins ∧ (o.any fun t => t.target == c.target) = false then o ++ [c] else o
def tgRound (l : List Cm) (o : List Cm) (ins : Int) : List Cm := (l.filter fun c => c.good).foldl (tgStep ins) o
/-- The tables that are gone into, told by the claims that lead to them. -/
def tgL (l : List Cm) : List Cm := ([4, 7, 8] : List Int).foldl (tgRound l) []

theorem any_has (o : List Cm) (x : Int) : (o.any fun t => t.target == x) = hasB (o.map (·.target)) x := by
  unfold hasB
  induction o with
  | nil => rfl
  | cons c o ih => rw [List.any_cons, ih, List.map_cons, List.contains_cons, BEq.comm]
theorem ins_tab (k : Nat) (ins : Int) (h : (k = 0 ∧ ins = 4) ∨ (k = 1 ∧ ins = 7) ∨ (k = 2 ∧ ins = 8)) (c : Cm) : inTab k c = true ↔ kindIn c.kind = ins := by
  unfold inTab kindIn
  rcases h with ⟨rfl, rfl⟩ | ⟨rfl, rfl⟩ | ⟨rfl, rfl⟩ <;> simp <;> constructor <;> intro h
  all_goals first | omega | (split at h <;> try omega) | skip
  all_goals first | omega | (split at h <;> try omega) | skip
  all_goals first | omega | (split at h <;> omega) | skip
  all_goals (split <;> first | omega | (split <;> first | omega | (split <;> omega)))
theorem tg_step (k : Nat) (ins : Int) (h : (k = 0 ∧ ins = 4) ∨ (k = 1 ∧ ins = 7) ∨ (k = 2 ∧ ins = 8)) (o : List Cm) (c : Cm) (hg : c.good = true) : (tgStep ins o c).map (·.target) = tblStep k (o.map (·.target)) c := by
  unfold tgStep tblStep
  rw [any_has]
  have e := ins_tab k ins h c
  by_cases h1 : kindIn c.kind = ins ∧ hasB (o.map (·.target)) c.target = false
  · rw [if_pos h1, if_pos ⟨by rw [Bool.and_eq_true]; exact ⟨e.2 h1.1, hg⟩, h1.2⟩]; simp
  · rw [if_neg h1, if_neg (fun h2 => h1 ⟨e.1 (Bool.and_eq_true_iff.1 h2.1).1, h2.2⟩)]
theorem tg_fold (k : Nat) (ins : Int) (h : (k = 0 ∧ ins = 4) ∨ (k = 1 ∧ ins = 7) ∨ (k = 2 ∧ ins = 8)) (l : List Cm) : ∀ o : List Cm, (tgRound l o ins).map (·.target) = tblRound l (o.map (·.target)) k := by
  unfold tgRound tblRound
  induction l with
  | nil => intro o; rfl
  | cons c l ih =>
    intro o
    cases hg : c.good
    · rw [List.filter_cons_of_neg (by simp [hg]), List.foldl_cons, ih]
      congr 1
      unfold tblStep
      rw [if_neg (by simp [hg])]
    · rw [List.filter_cons_of_pos (by simp [hg]), List.foldl_cons, List.foldl_cons, ih, tg_step k ins h o c hg]
theorem tg_tables (l : List Cm) : (tgL l).map (·.target) = tablesC l := by
  have e : tgL l = tgRound l (tgRound l (tgRound l [] 4) 7) 8 := rfl
  have e2 : tablesC l = tblRound l (tblRound l (tblRound l [] 0) 1) 2 := rfl
  rw [e, e2, tg_fold 2 8 (by simp), tg_fold 1 7 (by simp), tg_fold 0 4 (by simp)]
  rfl
theorem tgStep_mem {ins : Int} {o : List Cm} {c x : Cm} (h : x ∈ tgStep ins o c) : x ∈ o ∨ (x = c ∧ kindIn c.kind = ins) := by
  unfold tgStep at h
  split at h
  · rename_i h1
    rw [List.mem_append, List.mem_singleton] at h
    rcases h with h | h
    · exact .inl h
    · exact .inr ⟨h, h1.1⟩
  · exact .inl h
theorem tgFold_mem (ins : Int) {x : Cm} : ∀ (l o : List Cm), x ∈ l.foldl (tgStep ins) o → x ∈ o ∨ (x ∈ l ∧ kindIn x.kind = ins)
  | [], _, h => .inl h
  | c :: l, o, h => by
    rw [List.foldl_cons] at h
    rcases tgFold_mem ins l _ h with h | h
    · rcases tgStep_mem h with h | ⟨rfl, h⟩
      · exact .inl h
      · exact .inr ⟨by simp, h⟩
    · exact .inr ⟨by simp [h.1], h.2⟩
theorem tg_mem {l : List Cm} {x : Cm} (h : x ∈ tgL l) : x ∈ l ∧ x.good = true ∧ (kindIn x.kind = 4 ∨ kindIn x.kind = 7 ∨ kindIn x.kind = 8) := by
  have e : tgL l = tgRound l (tgRound l (tgRound l [] 4) 7) 8 := rfl
  rw [e] at h
  unfold tgRound at h
  rcases tgFold_mem 8 _ _ h with h | ⟨h, hk⟩
  · rcases tgFold_mem 7 _ _ h with h | ⟨h, hk⟩
    · rcases tgFold_mem 4 _ _ h with h | ⟨h, hk⟩
      · cases h
      · rw [List.mem_filter] at h; exact ⟨h.1, h.2, .inl hk⟩
    · rw [List.mem_filter] at h; exact ⟨h.1, h.2, .inr (.inl hk)⟩
  · rw [List.mem_filter] at h; exact ⟨h.1, h.2, .inr (.inr hk)⟩
theorem tgStep_length (ins : Int) (o : List Cm) (c : Cm) : (tgStep ins o c).length ≤ o.length + 1 := by unfold tgStep; split <;> simp
theorem tg_length (xs : List Int) : (tgL (claimsC xs)).length ≤ 4000 := by
  have := tables_length xs
  rw [← tg_tables, List.length_map] at this
  exact this

theorem kindIn_four {k : Int} : kindIn k = 4 ↔ k = 3 := by unfold kindIn; split <;> (try split) <;> (try split) <;> omega
theorem kindIn_seven {k : Int} : kindIn k = 7 ↔ (k = 2 ∨ k = 6) := by unfold kindIn; split <;> (try split) <;> (try split) <;> omega
theorem kindIn_eight {k : Int} : kindIn k = 8 ↔ k = 7 := by unfold kindIn; split <;> (try split) <;> (try split) <;> omega

/-- The refs' claim. -/
theorem claim_refs {b : List Int} {c : Cm} (hc : c ∈ claimsC b) (hk : c.kind = 3) : c.target = (headOf b).refs ∧ c.good = goodB b (headOf b).size (c1C b (headOf b)) ⟨3, 0, 0, 0, (headOf b).refs, false⟩ := by
  obtain ⟨J3, J4, J5, J6, P⟩ := claims_parts b
  rcases P.mem.1 hc with h | h | h | h | h
  · unfold c2C at h
    have h1 : c ∈ c1C b (headOf b) ∨ c = ⟨3, 0, 0, 0, (headOf b).refs, goodB b (headOf b).size (c1C b (headOf b)) ⟨3, 0, 0, 0, (headOf b).refs, false⟩⟩ := by
      rw [addC, List.mem_append, List.mem_singleton] at h; exact h
    rcases h1 with h1 | rfl
    · exfalso
      unfold c1C addC at h1
      simp at h1
      rcases h1 with rfl | rfl <;> simp at hk
    · exact ⟨rfl, rfl⟩
  · obtain ⟨d, _, h, _⟩ := P.of3 h; omega
  · rcases P.of4 h with h | h <;> omega
  · obtain ⟨d, _, h, _⟩ := P.of5 h; omega
  · obtain ⟨d, _, h, _⟩ := P.of6 h; omega
theorem claim_c4 {b : List Int} {c : Cm} (hc : c ∈ claimsC b) (hk : c.kind = 2 ∨ c.kind = 6) : c ∈ c4C b (headOf b) := by
  obtain ⟨J3, J4, J5, J6, P⟩ := claims_parts b
  rcases P.mem.1 hc with h | h | h | h | h
  · rw [P.c4, P.c3]; simp [h]
  · obtain ⟨d, _, h, _⟩ := P.of3 h; omega
  · rw [P.c4]; simp [h]
  · obtain ⟨d, _, h, _⟩ := P.of5 h; omega
  · obtain ⟨d, _, h, _⟩ := P.of6 h; omega
theorem claim_c5 {b : List Int} {c : Cm} (hc : c ∈ claimsC b) (hk : c.kind = 7) : c ∈ c5C b (headOf b) := by
  obtain ⟨J3, J4, J5, J6, P⟩ := claims_parts b
  have h := P.kind7 hc hk
  rw [P.c5]; simp [h]

/-- Each word of a table that leads somewhere has its claim. -/
theorem inside_claim {b : List Int} {to : Cm} (hto : to ∈ claimsC b) (hg : to.good = true) (hk : kindIn to.kind = 4 ∨ kindIn to.kind = 7 ∨ kindIn to.kind = 8) (i : Nat) (hi : i < 8) (ht : targetOf ((cl b to.target.toNat).getD i 0) ≠ 0) :
    ∃ c ∈ claimsC b, c.kind = kindIn to.kind ∧ c.frm = to.target ∧ c.slot = i := by
  have hk1 : to.kind ≠ 1 := by
    rcases hk with h | h | h
    · rw [kindIn_four] at h; omega
    · rw [kindIn_seven] at h; omega
    · rw [kindIn_eight] at h; omega
  have hth : 1 ≤ to.target := (there_lt (good_there hto hg hk1)).1
  have hnat : ((to.target.toNat : Nat) : Int) = to.target := by omega
  rcases hk with h | h | h
  · rw [h]
    rw [kindIn_four] at h
    obtain ⟨h1, h2⟩ := claim_refs hto h
    rw [hg] at h2
    obtain ⟨g, hm⟩ := tab_mem b (headOf b).size 4 to.target.toNat 0 0 (c2C b (headOf b)) i hi ht
    refine ⟨⟨4, to.target.toNat, i, 0 + 0 * i, targetOf ((cl b to.target.toNat).getD i 0), g⟩, c3_sub b _ ?_, rfl, hnat, rfl⟩
    unfold c3C
    rw [if_pos h2.symm, ← h1]
    exact hm
  · rw [h]
    rw [kindIn_seven] at h
    have hf : to.target ∈ firstsC (c4C b (headOf b)) := by
      unfold firstsC
      rw [List.mem_map]
      refine ⟨to, List.mem_filter.2 ⟨claim_c4 hto h, ?_⟩, rfl⟩
      rcases h with h | h <;> simp [hg, h]
    obtain ⟨c, hc, k1, k2, k3, _, _⟩ := second_claim hf i hi ht
    exact ⟨c, c5_sub b c hc, k1, by rw [k2, hnat], k3⟩
  · rw [h]
    rw [kindIn_eight] at h
    obtain ⟨c, hc, k1, k2, k3, _⟩ := data_claim (claim_c5 hto h) h hg i hi ht
    exact ⟨c, hc, k1, by rw [k2, hnat], k3⟩

/-- What claims from within a table that is gone into is a claim of its words. -/
theorem frm_table {b : List Int} {to c : Cm} (hto : to ∈ claimsC b) (hg : to.good = true) (hk : kindIn to.kind = 4 ∨ kindIn to.kind = 7 ∨ kindIn to.kind = 8) (hc : c ∈ claimsC b) (hf : c.frm = to.target) :
    c.kind = kindIn to.kind ∧ 0 ≤ c.slot ∧ c.slot < 8 ∧ c.target = targetOf ((cl b to.target.toNat).getD c.slot.toNat 0) ∧ c.target ≠ 0 := by
  have hk' : to.kind = 3 ∨ (to.kind = 2 ∨ to.kind = 6) ∨ to.kind = 7 := by
    rcases hk with h | h | h
    · exact .inl (kindIn_four.1 h)
    · exact .inr (.inl (kindIn_seven.1 h))
    · exact .inr (.inr (kindIn_eight.1 h))
  have hth : 1 ≤ to.target := (there_lt (good_there hto hg (by omega))).1
  by_cases h4 : c.kind = 4 ∨ c.kind = 7 ∨ c.kind = 8
  · obtain ⟨d, hd, hdk⟩ := claim_tab hc h4
    have ht : d.target = to.target := by rw [← hd.frm, hf]
    have hone := (good_one hd.mem hto hd.good hg ht).1
    refine ⟨?_, hd.slot0, hd.slot1, by rw [hd.word, ht], hd.some⟩
    rcases hdk with ⟨e1, e2⟩ | ⟨e1, e2, _⟩ | ⟨e1, e2, _⟩
    · rw [e1, kindIn_four.2 (by omega)]
    · rw [e1, kindIn_seven.2 (by omega)]
    · rw [e1, kindIn_eight.2 (by omega)]
  · exfalso
    obtain ⟨J3, J4, J5, J6, P⟩ := claims_parts b
    rcases P.mem.1 hc with h | h | h | h | h
    · unfold c2C c1C addC at h
      simp at h
      rcases h with rfl | rfl | rfl <;> simp at hf <;> omega
    · obtain ⟨d, _, h, _⟩ := P.of3 h; omega
    · have hsub : ∀ x ∈ J4, x ∈ claimsC b := fun x hx => P.mem.2 (.inr (.inr (.inl hx)))
      rcases P.e4 with ⟨g, h1, _⟩ | h1 | ⟨J, h1, h2⟩
      · rw [h1, List.mem_singleton] at h; subst h; simp at hf; omega
      · rw [h1] at h; cases h
      · have h5 := hsub ⟨5, 0, 0, 0, (headOf b).shots, true⟩ (by rw [h1]; simp)
        rw [h1, List.mem_cons] at h
        rcases h with rfl | h
        · simp at hf; omega
        · obtain ⟨d, hd, he⟩ := er_mem h2 h
          obtain ⟨_, k2, _, _, _⟩ := er_eq he
          have := (shotT_kind hd).2.2.2
          have h6 := (good_one h5 hto rfl hg (by show (headOf b).shots = _; rw [← hf, k2, this])).1
          simp only at h6
          omega
    · obtain ⟨d, _, h, _⟩ := P.of5 h; omega
    · obtain ⟨d, _, h, _⟩ := P.of6 h; omega

def standB (l : List Cm) (t s : Int) : Bool := l.any fun c => c.frm == t && c.slot == s
def wordMust (word kind : Int) (counts : List Int) : Int := entryOf (targetOf word) (!(targetOf word == 0) && (!(kind == 3) && counts.getD (targetOf word).toNat 0 == 1))

theorem stand_false {l : List Cm} {t s : Int} (h : standB l t s = false) {c : Cm} (hc : c ∈ l) (h1 : c.frm = t) (h2 : c.slot = s) : False := by
  unfold standB at h
  rw [List.any_eq_false] at h
  exact h c hc (by simp [h1, h2])
theorem looseC_mem {xs : List Int} (hh : hasHead xs = true) {c : Cm} : c ∈ looseL xs ↔ c ∈ claimsC xs ∧ c.good = false := by
  unfold looseL claimsL
  rw [if_pos hh, List.mem_filter]
  simp

/-- A word of a table: it is told as the model tells it, and its count is asked for only where there is one. -/
theorem own_word {xs : List Int} (hh : hasHead xs = true) (counts : List Int) {to : Cm} (hto : to ∈ tgL (claimsC xs)) (i : Nat) (hi : i < 8) (word : Int) (hw : word = (cl xs to.target.toNat).getD i 0) :
    (standB (looseL xs) to.target i = true → mustC (claimsC xs) counts to.target i word = word) ∧
    (standB (looseL xs) to.target i = false → mustC (claimsC xs) counts to.target i word = wordMust word to.kind counts ∧ (targetOf word ≠ 0 → 0 ≤ targetOf word ∧ targetOf word < 64)) := by
  obtain ⟨hm, hg, hk⟩ := tg_mem hto
  by_cases h0 : targetOf word = 0
  · refine ⟨fun hs => ?_, fun _ => ⟨?_, fun h => absurd h0 h⟩⟩
    · exfalso
      unfold standB at hs
      rw [List.any_eq_true] at hs
      obtain ⟨c, hc, hcc⟩ := hs
      simp at hcc
      obtain ⟨_, _, _, h3, h4⟩ := frm_table hm hg hk ((looseC_mem hh).1 hc).1 hcc.1
      rw [hcc.2, Int.toNat_natCast, ← hw] at h3
      omega
    · unfold mustC wordMust
      rw [if_pos h0, h0]
      rfl
  · have hcl := inside_claim hm hg hk i hi (by rw [← hw]; exact h0)
    obtain ⟨c0, hc0, k1, k2, k3⟩ := hcl
    have hp0 : mustP to.target i c0 = true := by
      unfold mustP
      rw [k1]
      rcases hk with h | h | h <;> rw [h] <;> simp [k2, k3]
    obtain ⟨c, hf⟩ : ∃ c, (claimsC xs).find? (mustP to.target i) = some c := by
      cases h : (claimsC xs).find? (mustP to.target i) with
      | none => rw [List.find?_eq_none] at h; exact absurd hp0 (h c0 hc0)
      | some c => exact ⟨c, rfl⟩
    have hc : c ∈ claimsC xs := List.mem_of_find?_eq_some hf
    have hp : mustP to.target i c = true := List.find?_some hf
    have hpp : (c.frm = to.target ∧ c.slot = i) ∧ (c.kind = 4 ∨ c.kind = 7 ∨ c.kind = 8) := by
      unfold mustP at hp
      simp at hp
      exact hp
    obtain ⟨⟨hcf, hcs⟩, hck⟩ := hpp
    obtain ⟨e1, _, _, e4, _⟩ := frm_table hm hg hk hc hcf
    rw [hcs, Int.toNat_natCast, ← hw] at e4
    have hM : mustC (claimsC xs) counts to.target i word = mustOf counts word (some c) := by unfold mustC; rw [if_neg h0, hf]
    cases hcg : c.good
    · have hN : mustC (claimsC xs) counts to.target i word = word := by rw [hM]; unfold mustOf; simp [hcg]
      refine ⟨fun _ => hN, fun hs => ?_⟩
      exact (stand_false hs ((looseC_mem hh).2 ⟨hc, hcg⟩) hcf hcs).elim
    · refine ⟨fun hs => ?_, fun _ => ⟨?_, fun _ => ?_⟩⟩
      · exfalso
        unfold standB at hs
        rw [List.any_eq_true] at hs
        obtain ⟨d, hd, hdd⟩ := hs
        simp at hdd
        obtain ⟨hd1, hd2⟩ := (looseC_mem hh).1 hd
        have hdk := (frm_table hm hg hk hd1 hdd.1).1
        have := word_one hc hd1 hck (by rw [hdk]; exact hk) (by rw [hcf, hdd.1]) (by rw [hcs, hdd.2])
        rw [hcg, hd2] at this
        cases this
      · rw [hM]
        unfold mustOf wordMust
        simp only [hcg, if_true]
        rw [e4]
        congr 1
        have h1 : (targetOf word == 0) = false := by simpa using h0
        have h2 : (c.kind != 4) = !(to.kind == 3) := by
          rw [e1]
          by_cases h3 : to.kind = 3
          · rw [kindIn_four.2 h3]; simp [h3]
          · have : kindIn to.kind ≠ 4 := fun h => h3 (kindIn_four.1 h)
            have a1 : (to.kind == 3) = false := by simpa using h3
            rw [a1]
            simpa using this
        rw [h1, h2]
        rfl
      · have hl := there_lt (good_there hc hcg (by omega))
        have := manyN_le (hasHead_img hh)
        rw [e4] at hl
        omega

/-- tablesGoneInto's function: is it the target of the claim in the box Bx? -/
theorem sameTarget_any (Bx : Nat) (t : Int) (x : Cm) (w : World) (h4 : w.cell? ⟨Bx, 4, none⟩ = some (.int .i64 t)) :
    Calls Tryz.prog 129 #[.agg #[.int .i64 x.kind, .int .i64 x.frm, .int .i64 x.slot, .int .i64 x.place, .int .i64 x.target, .bool x.good], .pointer (some ⟨Bx, 0, none⟩)] w
      fun e w' => e = .returned (.bool (x.target == t)) ∧ w' = w.alloc (.cells #[.int .i64 x.kind, .int .i64 x.frm, .int .i64 x.slot, .int .i64 x.place, .int .i64 x.target, .bool x.good] 62) := by
  obtain ⟨xk, xf, xs', xp, xt, xg⟩ := x
  have hB := World.block_lt_of_cell? w _ h4
  have h5 : (w.alloc (.cells #[.int .i64 xk, .int .i64 xf, .int .i64 xs', .int .i64 xp, .int .i64 xt, .bool xg] 62)).cell? ⟨Bx, 4, none⟩ = some (.int .i64 t) := by
    rw [World.cell?_alloc_lt _ _ ⟨Bx, 4, none⟩ hB]; exact h4
  go_enter Tryz.func129, Tryz.ntmps129
  go_wp2
  go_ret
  exact ⟨rfl, rfl⟩

/-- standsIn's function: does it stand in that slot of that table? -/
theorem standsAt_any (B1 B2 : Nat) (t s : Int) (x : Cm) (w : World) (h1 : w.cell? ⟨B1, 0, none⟩ = some (.int .i64 t)) (h2 : w.cell? ⟨B2, 0, none⟩ = some (.int .i64 s)) :
    Calls Tryz.prog 131 #[.agg #[.int .i64 x.kind, .int .i64 x.frm, .int .i64 x.slot, .int .i64 x.place, .int .i64 x.target, .bool x.good], .pointer (some ⟨B1, 0, none⟩), .pointer (some ⟨B2, 0, none⟩)] w
      fun e w' => e = .returned (.bool (x.frm == t && x.slot == s)) ∧ w' = w.alloc (.cells #[.int .i64 x.kind, .int .i64 x.frm, .int .i64 x.slot, .int .i64 x.place, .int .i64 x.target, .bool x.good] 62) := by
  obtain ⟨xk, xf, xs', xp, xt, xg⟩ := x
  have hB1 := World.block_lt_of_cell? w _ h1
  have hB2 := World.block_lt_of_cell? w _ h2
  have h3 : (w.alloc (.cells #[.int .i64 xk, .int .i64 xf, .int .i64 xs', .int .i64 xp, .int .i64 xt, .bool xg] 62)).cell? ⟨B1, 0, none⟩ = some (.int .i64 t) := by
    rw [World.cell?_alloc_lt _ _ ⟨B1, 0, none⟩ hB1]; exact h1
  have h4 : (w.alloc (.cells #[.int .i64 xk, .int .i64 xf, .int .i64 xs', .int .i64 xp, .int .i64 xt, .bool xg] 62)).cell? ⟨B2, 0, none⟩ = some (.int .i64 s) := by
    rw [World.cell?_alloc_lt _ _ ⟨B2, 0, none⟩ hB2]; exact h2
  cases hd : (xf == t)
  · go_enter Tryz.func131, Tryz.ntmps131
    go_wp2
    go_ret
    exact ⟨by simp, rfl⟩
  · go_enter Tryz.func131, Tryz.ntmps131
    go_wp2
    go_ret
    exact ⟨by simp, rfl⟩

theorem any_take_succ (l : List Cm) (p : Cm → Bool) (k : Nat) (hk : k < l.length) : (l.take (k + 1)).any p = ((l.take k).any p || p (l.getD k cm0)) := by
  rw [List.take_succ_eq_append_getElem hk, List.any_append, show l.getD k cm0 = l[k] by simp [List.getD_eq_getElem?_getD, hk]]
  simp
theorem any_at (l : List Cm) (p : Cm → Bool) (k : Nat) (hk : k < l.length) (h : p (l.getD k cm0) = true) : l.any p = true := by
  rw [List.any_eq_true]
  exact ⟨l[k], List.getElem_mem hk, by rw [show l.getD k cm0 = l[k] by simp [List.getD_eq_getElem?_getD, hk]] at h; exact h⟩

set_option maxRecDepth 100000 in
set_option maxHeartbeats 4000000 in
theorem hasTarget_any (Bx : Nat) (t : Int) (G : Option Addr) (cg lo hi : Nat) (l : List Cm) (w : World) (hl : l.length ≤ 10000) (h4 : w.cell? ⟨Bx, 4, none⟩ = some (.int .i64 t)) (oG : OwR 62 6 w lo hi G l.length cg (l.flatMap cmV)) :
    Calls Tryz.prog 128 #[.slice G l.length cg, .func (.func 129) #[] #[.pointer (some ⟨Bx, 0, none⟩)]] w (RetB w (l.any fun x => x.target == t)) := by
  have hB := World.block_lt_of_cell? w _ h4
  have hI : Calls Tryz.prog 135 #[.slice G l.length cg, .func (.func 129) #[] #[.pointer (some ⟨Bx, 0, none⟩)]] w fun e w' => ∃ v : Int, e = .returned (.int .i64 v) ∧ decide (0 ≤ v) = (l.any fun x => x.target == t) ∧ Below w.heap.size w w' := by
    have HG := Lib.hid oG
    have H4 := Lib.hid h4
    clear oG h4
    go_enter Tryz.func135, Tryz.ntmps135
    go_wp2_with fail
    go_loopw [8] (fun i wr => ∃ k : Nat, k ≤ l.length ∧ i = .int .i64 k ∧ ((l.take k).any fun x => x.target == t) = false ∧ Below w.heap.size w wr) (fun i _ => l.length - (intOf i).toNat)
    case atStart => exact ⟨0, Nat.zero_le _, rfl, rfl, Below.refl _ _⟩
    case round =>
      obtain ⟨k, hk, rfl, hf, hb⟩ := hrel
      have sr := hb.size
      by_cases hlt : k < l.length
      · obtain ⟨g, rfl, hg1, hg2, hg3, hce⟩ := cmr_cells HG.out hlt
        have hce := hce wr (hb.block g (by omega))
        have h4 : wr.cell? ⟨Bx, 4, none⟩ = some (.int .i64 t) := (World.cell?_of_block (hb.block Bx hB)).trans H4.out
        have HS := Lib.hid (any_take_succ l (fun x => x.target == t) k hlt)
        have HA := Lib.hid (any_at l (fun x => x.target == t) k hlt)
        have HF := Lib.hid hf
        clear hf
        generalize l.getD k cm0 = x at *
        obtain ⟨xk, xf, xs', xp, xt, xg⟩ := x
        have e0 : wr.cell? ⟨g, k * 6, none⟩ = some (.int .i64 xk) := hce 0 (by omega)
        have e1 : wr.cell? ⟨g, k * 6 + 1, none⟩ = some (.int .i64 xf) := hce 1 (by omega)
        have e2 : wr.cell? ⟨g, k * 6 + 2, none⟩ = some (.int .i64 xs') := hce 2 (by omega)
        have e3 : wr.cell? ⟨g, k * 6 + 3, none⟩ = some (.int .i64 xp) := hce 3 (by omega)
        have e4 : wr.cell? ⟨g, k * 6 + 4, none⟩ = some (.int .i64 xt) := hce 4 (by omega)
        have e5 : wr.cell? ⟨g, k * 6 + 5, none⟩ = some (.bool xg) := hce 5 (by omega)
        clear hce
        go_wp2_with fail
        refine (sameTarget_any Bx t ⟨xk, xf, xs', xp, xt, xg⟩ _ h4).mono ?_
        rintro e w' ⟨rfl, rfl⟩
        dsimp only
        cases hd : (xt == t)
        · go_wp2_with fail
          go_roundw
          case rel => exact ⟨k + 1, by omega, by go_num, by rw [HS.out, HF.out]; simp [hd], hb.alloc hb.size _⟩
          case measure => simp [intOf]; omega
        · go_wp2_with fail
          go_ret
          exact ⟨k, rfl, by rw [HA.out hd]; simp, hb.alloc hb.size _⟩
      · obtain rfl : k = l.length := by omega
        rw [List.take_length] at hf
        go_wp2_with fail
        go_ret
        exact ⟨-1, rfl, by rw [hf]; decide, hb⟩
  go_enter Tryz.func128, Tryz.ntmps128
  go_wp2_with fail
  refine hI.mono ?_
  rintro e w' ⟨v, rfl, hv, hb⟩
  have HV := Lib.hid hv
  clear hv
  go_wp2_with fail
  go_ret
  exact ⟨ret_bool (by rw [← HV.out]), hb⟩

set_option maxRecDepth 100000 in
set_option maxHeartbeats 4000000 in
theorem hasSlot_any (B1 B2 : Nat) (t s : Int) (G : Option Addr) (cg lo hi : Nat) (l : List Cm) (w : World) (hl : l.length ≤ 10000) (h1 : w.cell? ⟨B1, 0, none⟩ = some (.int .i64 t)) (h2 : w.cell? ⟨B2, 0, none⟩ = some (.int .i64 s)) (oG : OwR 62 6 w lo hi G l.length cg (l.flatMap cmV)) :
    Calls Tryz.prog 128 #[.slice G l.length cg, .func (.func 131) #[] #[.pointer (some ⟨B1, 0, none⟩), .pointer (some ⟨B2, 0, none⟩)]] w (RetB w (l.any fun x => x.frm == t && x.slot == s)) := by
  have hB1 := World.block_lt_of_cell? w _ h1
  have hB2 := World.block_lt_of_cell? w _ h2
  have hI : Calls Tryz.prog 135 #[.slice G l.length cg, .func (.func 131) #[] #[.pointer (some ⟨B1, 0, none⟩), .pointer (some ⟨B2, 0, none⟩)]] w fun e w' => ∃ v : Int, e = .returned (.int .i64 v) ∧ decide (0 ≤ v) = (l.any fun x => x.frm == t && x.slot == s) ∧ Below w.heap.size w w' := by
    have HG := Lib.hid oG
    have H1 := Lib.hid h1
    have H2 := Lib.hid h2
    clear oG h1 h2
    go_enter Tryz.func135, Tryz.ntmps135
    go_wp2_with fail
    go_loopw [8] (fun i wr => ∃ k : Nat, k ≤ l.length ∧ i = .int .i64 k ∧ ((l.take k).any fun x => x.frm == t && x.slot == s) = false ∧ Below w.heap.size w wr) (fun i _ => l.length - (intOf i).toNat)
    case atStart => exact ⟨0, Nat.zero_le _, rfl, rfl, Below.refl _ _⟩
    case round =>
      obtain ⟨k, hk, rfl, hf, hb⟩ := hrel
      have sr := hb.size
      by_cases hlt : k < l.length
      · obtain ⟨g, rfl, hg1, hg2, hg3, hce⟩ := cmr_cells HG.out hlt
        have hce := hce wr (hb.block g (by omega))
        have h1 : wr.cell? ⟨B1, 0, none⟩ = some (.int .i64 t) := (World.cell?_of_block (hb.block B1 hB1)).trans H1.out
        have h2 : wr.cell? ⟨B2, 0, none⟩ = some (.int .i64 s) := (World.cell?_of_block (hb.block B2 hB2)).trans H2.out
        have HS := Lib.hid (any_take_succ l (fun x => x.frm == t && x.slot == s) k hlt)
        have HA := Lib.hid (any_at l (fun x => x.frm == t && x.slot == s) k hlt)
        have HF := Lib.hid hf
        clear hf
        generalize l.getD k cm0 = x at *
        obtain ⟨xk, xf, xs', xp, xt, xg⟩ := x
        have e0 : wr.cell? ⟨g, k * 6, none⟩ = some (.int .i64 xk) := hce 0 (by omega)
        have e1 : wr.cell? ⟨g, k * 6 + 1, none⟩ = some (.int .i64 xf) := hce 1 (by omega)
        have e2 : wr.cell? ⟨g, k * 6 + 2, none⟩ = some (.int .i64 xs') := hce 2 (by omega)
        have e3 : wr.cell? ⟨g, k * 6 + 3, none⟩ = some (.int .i64 xp) := hce 3 (by omega)
        have e4 : wr.cell? ⟨g, k * 6 + 4, none⟩ = some (.int .i64 xt) := hce 4 (by omega)
        have e5 : wr.cell? ⟨g, k * 6 + 5, none⟩ = some (.bool xg) := hce 5 (by omega)
        clear hce
        go_wp2_with fail
        refine (standsAt_any B1 B2 t s ⟨xk, xf, xs', xp, xt, xg⟩ _ h1 h2).mono ?_
        rintro e w' ⟨rfl, rfl⟩
        dsimp only
        cases hd : (xf == t && xs' == s)
        · go_wp2_with fail
          go_roundw
          case rel => exact ⟨k + 1, by omega, by go_num, by rw [HS.out, HF.out]; simp [hd], hb.alloc hb.size _⟩
          case measure => simp [intOf]; omega
        · go_wp2_with fail
          go_ret
          exact ⟨k, rfl, by rw [HA.out hd]; simp, hb.alloc hb.size _⟩
      · obtain rfl : k = l.length := by omega
        rw [List.take_length] at hf
        go_wp2_with fail
        go_ret
        exact ⟨-1, rfl, by rw [hf]; decide, hb⟩
  go_enter Tryz.func128, Tryz.ntmps128
  go_wp2_with fail
  refine hI.mono ?_
  rintro e w' ⟨v, rfl, hv, hb⟩
  have HV := Lib.hid hv
  clear hv
  go_wp2_with fail
  go_ret
  exact ⟨ret_bool (by rw [← HV.out]), hb⟩

/-- Function 109. -/
theorem standsIn_any (G : Option Addr) (cg lo hi : Nat) (l : List Cm) (t s : Int) (w : World) (hl : l.length ≤ 10000) (oG : OwR 62 6 w lo hi G l.length cg (l.flatMap cmV)) (hhi : hi ≤ w.heap.size) :
    Calls Tryz.prog 109 #[.slice G l.length cg, .int .i64 t, .int .i64 s] w (RetB w (standB l t s)) := by
  have b1 := (Below.refl w.heap.size w).alloc (Nat.le_refl _) (.cells #[.int .i64 t] 2)
  have b2 := b1.alloc b1.size (.cells #[.int .i64 s] 2)
  have o2 := oG.below b2 hhi
  have c1 : ((w.alloc (.cells #[.int .i64 t] 2)).alloc (.cells #[.int .i64 s] 2)).cell? ⟨w.heap.size, 0, none⟩ = some (.int .i64 t) := by
    rw [World.cell?_alloc_lt _ _ ⟨w.heap.size, 0, none⟩ (by simp)]; simp
  have c2 : ((w.alloc (.cells #[.int .i64 t] 2)).alloc (.cells #[.int .i64 s] 2)).cell? ⟨w.heap.size + 1, 0, none⟩ = some (.int .i64 s) := by simp
  have hH := hasSlot_any w.heap.size (w.heap.size + 1) t s G cg lo hi l _ hl c1 c2 o2
  have HH := Lib.hid hH
  clear hH c1 c2 o2
  go_enter Tryz.func109, Tryz.ntmps109
  go_wp2_with fail
  refine HH.out.mono ?_
  rintro e w' ⟨rfl, hb⟩
  have hb3 := below_more b2 hb b2.size
  go_wp2_with fail
  go_ret
  exact ⟨rfl, hb3⟩

end Go.Proofs.YtibokhkohanoaaaGreat
