/- The iterator over the good claims, ahead of a body that appends to a row in a box: each cell stays but those of the box and of the row. -/
import Derived.Test.YtieknpkbmccimaaGdi
import Derived.Test.YtieknpkbmccimaaX2
import Derived.RangeFuncBox
namespace Go.Proofs.Ytieknpkbmccimaa
open Go.RowKit Go.Shelf

attribute [local go_sem] Oper.semAt_some

/-- Block b is neither the box gv nor the row that lies in it. -/
def SpT (gv : Nat) (v : Value) (b : Nat) : Prop := b ≠ gv ∧ v.ownBlock ≠ some b
/-- What a round keeps: each cell but those of the box gv and of the row in it. -/
def KpT (gv : Nat) (W W' : World) : Prop :=
  W.heap.size ≤ W'.heap.size ∧ ∀ v0, W.cell? ⟨gv, 0, none⟩ = some v0 → ∃ v1, W'.cell? ⟨gv, 0, none⟩ = some v1 ∧ ∀ b, b < W.heap.size → SpT gv v0 b → SpT gv v1 b ∧ ∀ o v, W.cell? ⟨b, o, none⟩ = some v → W'.cell? ⟨b, o, none⟩ = some v
theorem KpT.keep {gv : Nat} {W W' : World} (hs : W.heap.size ≤ W'.heap.size) (hc : ∀ p v, W.cell? p = some v → W'.cell? p = some v) : KpT gv W W' :=
  ⟨hs, fun v0 h => ⟨v0, hc _ _ h, fun _ _ hsp => ⟨hsp, fun _ _ h => hc _ _ h⟩⟩⟩
theorem KpT.refl (gv : Nat) (W : World) : KpT gv W W := KpT.keep (Nat.le_refl _) fun _ _ h => h
theorem KpT.trans {gv : Nat} {A B C : World} (h : KpT gv A B) (k : KpT gv B C) : KpT gv A C :=
  ⟨Nat.le_trans h.1 k.1, fun v0 hv => by
    obtain ⟨v1, h1, h2⟩ := h.2 v0 hv
    obtain ⟨v2, k1, k2⟩ := k.2 v1 h1
    refine ⟨v2, k1, fun b hb hs => ?_⟩
    obtain ⟨s1, c1⟩ := h2 b hb hs
    obtain ⟨s2, c2⟩ := k2 b (Nat.lt_of_lt_of_le hb h.1) s1
    exact ⟨s2, fun o v hc => c2 o v (c1 o v hc)⟩⟩
theorem KpT.alloc {gv : Nat} {A B : World} (h : KpT gv A B) (o : Obj) : KpT gv A (B.alloc o) :=
  h.trans (KpT.keep (by simp) fun _ _ hc => cell_kept hc (World.grownBy_alloc B o none) (fun _ e => by cases e))
theorem KpT.put {gv : Nat} {W : World} {l : Nat} {o : Obj} (o' : Obj) (h : W.heap[l]? = some o) (ho : o.isCells = false) : KpT gv W (W.putObj l o') :=
  KpT.keep (grownBy_putObj' W l o').size fun _ _ hc => cell_kept hc (grownBy_putObj' W l o') (fun _ e => by cases e; exact ⟨o, h, ho⟩)
theorem KpT.below {gv : Nat} {W W' : World} (h : Below W.heap.size W W') : KpT gv W W' := KpT.keep h.size fun _ _ hc => cell_kept hc (below_grownBy h) (fun _ e => by cases e)
/-- The row in the box grew, and the box holds the new one. -/
theorem KpT.append {gv : Nat} {W W1 : World} {v0 v1 : Value} (h0 : W.cell? ⟨gv, 0, none⟩ = some v0) (hg : W.grownBy W1 v0.ownBlock) (hat : v1.ownBlock = v0.ownBlock ∨ ∀ g, v1.ownBlock = some g → W.heap.size ≤ g) (hne : v0.ownBlock ≠ some gv) : KpT gv W (W1.setCell ⟨gv, 0, none⟩ v1) := by
  have hgv := World.block_lt_of_cell? W _ h0
  have hb : W1.heap[gv]? = W.heap[gv]? := hg.block gv hgv (fun e => hne e.symm)
  have c1 : W1.cell? ⟨gv, 0, none⟩ = some v0 := (World.cell?_of_block hb).trans h0
  have hgs := grownBy_setCell' W1 gv v1
  refine ⟨Nat.le_trans hg.size hgs.size, fun v hv => ?_⟩
  obtain rfl : v0 = v := Option.some.inj (h0.symm.trans hv)
  refine ⟨v1, World.cell?_setCell_same _ _ _ c1, fun b hlt hsp => ⟨⟨hsp.1, ?_⟩, fun o v hc => ?_⟩⟩
  · rcases hat with hat | hat
    · rw [hat]; exact hsp.2
    · intro e; have := hat b e; omega
  · have e1 : W1.heap[b]? = W.heap[b]? := hg.block b hlt (fun e => hsp.2 e.symm)
    have e2 : (W1.setCell ⟨gv, 0, none⟩ v1).heap[b]? = W1.heap[b]? := hgs.block b (by have := hg.size; omega) (fun e => hsp.1 (by injection e))
    exact (World.cell?_of_block (a := ⟨b, o, none⟩) (e2.trans e1)).trans hc

/-- append onto a row, nil or not: the run, and where what comes out lies. -/
theorem run_append_t {P : Program} (w : World) (t ty e : TypeId) (sz by_ : Nat) (z : Value) (i : TypeInfo) (ht : P.underlying t = some (.slice e)) (hi : P.info? e = some i) (hz : i.zero = some z) (hsize : i.size = sz) (hby : i.bytes = by_) (hzs : z.cells.size = sz) (hsz : 0 < sz) (hb8 : by_ ≤ 1000)
    (lo n c : Nat) (A : Option Addr) (cs : List Value) (hown : w.ownsRow lo e sz (.slice A n c) n cs)
    (ad : Addr) (m c' : Nat) (news : List Value) (hm : 0 < m) (hl : news.length = m * sz) (hnews : ∀ j u, news[j]? = some u → w.cell? (ad.add j) = some u) (h1 : ∀ u ∈ news, u.oneCell' = true)
    (hnm : n + m ≤ 16777216) (hlo : lo ≤ w.heap.size) :
    ∃ g' cd w', (Builtin.append_ #[t, t] ty #[.slice A n c, .slice (some ad) m c']).run P w = .ok (.slice (some ⟨g', 0, none⟩) (n + m) cd) w' ∧ w'.ownsRow lo e sz (.slice (some ⟨g', 0, none⟩) (n + m) cd) (n + m) (cs ++ news) ∧ w.grownBy w' (Value.ownBlock (.slice A n c)) ∧ (Value.ownBlock (.slice A n c) = some g' ∨ w.heap.size ≤ g') := by
  have hbytes : (n + m) * by_ ≤ 140737488355328 := by
    have : (n + m) * by_ ≤ 16777216 * 1000 := Nat.mul_le_mul hnm hb8
    omega
  have h63 : n + m ≤ maxLen := by simp only [maxLen]; omega
  rcases hown.2 with ⟨hv, hn⟩ | ⟨g, cap, cur, hv, hbg, hg, _⟩
  · injection hv with e1 e2 e3
    subst e1; subst hn; subst e3
    have hx : cs = [] := List.eq_nil_of_length_eq_zero (by simpa using hown.1)
    subst hx
    obtain ⟨v', w', hr, h2, h3, h4⟩ := run_append_own (P := P) w w.heap.size t ty e i z sz by_ ht hi hz hsize hby hzs hsz (.slice none 0 0) 0 [] (World.ownsRow_nil _ _ _ _) ad m c' news hl hnews h1 h63 hbytes (Nat.le_refl _)
    rcases h2.2 with ⟨hv', hn'⟩ | ⟨g', cd, cur, hv', hb', rest⟩
    · omega
    · subst hv'
      exact ⟨g', cd, w', hr, ⟨h2.1, .inr ⟨g', cd, cur, rfl, by omega, rest⟩⟩, h3, .inr hb'⟩
  · injection hv with e1 e2 e3
    subst e1; subst e3
    obtain ⟨v', w', hr, h2, h3, h4⟩ := run_append_own (P := P) w lo t ty e i z sz by_ ht hi hz hsize hby hzs hsz _ n cs hown ad m c' news hl hnews h1 h63 hbytes hlo
    obtain ⟨g', cd, rfl, hw⟩ := run_append_where (P := P) w t ty e i z sz by_ ht hi hz hsize hby lo g n c cs hown ad m c' news hl hnews h1 h63 hbytes v' w' hr
    refine ⟨g', cd, w', hr, h2, h3, ?_⟩
    rcases hw with rfl | ⟨h, _⟩
    · exact .inl rfl
    · exact .inr (by omega)

/-- The same as a step of a walk behind a fence. -/
theorem wpListIn_append_t {F : Fence} {nf : Nat} {P : Program} {w : World} {ops : Array Oper} {rest : List Oper} {o : Oper} {a : Act} {Q : Exit → Act → World → Prop} (hgd : o.guard = none) (s x : Operand) (t : TypeId)
    (ho : o.op = .call { callee := .builtin .append, args := #[s, x], argTypes := #[t, t] })
    (e : TypeId) (sz by_ : Nat) (z : Value) (i : TypeInfo) (ht : P.underlying t = some (.slice e)) (hi : P.info? e = some i) (hz : i.zero = some z) (hsize : i.size = sz) (hby : i.bytes = by_) (hzs : z.cells.size = sz) (hsz : 0 < sz) (hb8 : by_ ≤ 1000)
    (lo n c : Nat) (A : Option Addr) (cs : List Value) (hs : a.eval s = .slice A n c) (hown : w.ownsRow lo e sz (.slice A n c) n cs)
    (ad : Addr) (m c' : Nat) (news : List Value) (hx : a.eval x = .slice (some ad) m c') (hm : 0 < m) (hl : news.length = m * sz) (hnews : ∀ j u, news[j]? = some u → w.cell? (ad.add j) = some u) (h1 : ∀ u ∈ news, u.oneCell' = true)
    (hnm : n + m ≤ 16777216) (hlo : lo ≤ w.heap.size)
    (h : ∀ (g' cd : Nat) (w' : World), w'.ownsRow lo e sz (.slice (some ⟨g', 0, none⟩) (n + m) cd) (n + m) (cs ++ news) → w.grownBy w' (Value.ownBlock (.slice A n c)) → (Value.ownBlock (.slice A n c) = some g' ∨ w.heap.size ≤ g') → wpListIn F nf P ops Q rest (a.put o.dst (.slice (some ⟨g', 0, none⟩) (n + m) cd)) w') :
    wpListIn F nf P ops Q (o :: rest) a w := by
  obtain ⟨g', cd, w', hr, h2, h3, h4⟩ := run_append_t (P := P) w t o.type e sz by_ z i ht hi hz hsize hby hzs hsz hb8 lo n c A cs hown ad m c' news hm hl hnews h1 hnm hlo
  refine wpListIn_plain hgd fun K hK' => ?_
  unfold Oper.wpIn
  refine ⟨?_, ?_⟩
  · simp [Oper.about, ho, resolve, Target.leads, Sem.run_pure]
  · rw [Oper.semAt_plain F _ _ (by rw [ho]; intro c hc'; cases hc')]
    simp [execOp, ho, resolve, invoke, builtin, hs, hx, hr, Result.andThen]
    exact hK' _ _ (h g' cd w' h2 h3 h4)

set_option maxRecDepth 100000 in
set_option maxHeartbeats 4000000 in
theorem good1t_in {p : Cm → Prop} (hC : ClaimsC) (nn l Bs gv : Nat) (hnn : 1 ≤ nn) (A : Option Addr) (n c : Nat) (xs : List Int) (W : World) (hbox : W.cell? ⟨Bs, 0, none⟩ = some (.slice A n c)) (hr : Rd W W.heap.size A n xs) (hn : n ≤ 2097152) (hnc : n ≤ c) (v0 : Value) (hv0 : W.cell? ⟨gv, 0, none⟩ = some v0) (hsp : ∀ b, W.heap.size ≤ b → SpT gv v0 b)
    (hT : ∀ c ∈ claimsL xs, c.good = true → p c) (J Jx : List (Gq p) → World → Prop) (hJ : AbidesFrom W.heap.size J)
    (hY : ∀ pre (x : Gq p) W1, J pre W1 → pre.length < 1296 → YieldAt Fence.wide (nn - 1) Try.prog l #[.agg #[.int .i64 x.1.kind, .int .i64 x.1.frm, .int .i64 x.1.slot, .int .i64 x.1.place, .int .i64 x.1.target, .bool x.1.good]] W1 fun e W' =>
      (e = .returned (.bool true) ∧ J (pre ++ [x]) W' ∧ KpT gv W1 W') ∨ (e = .returned (.bool false) ∧ Jx (pre ++ [x]) W')) (h0 : J [] W) :
    CallsIn Fence.wide nn Try.prog 66 #[.func (.yield l) #[] #[], .pointer (some ⟨Bs, 0, none⟩)] W fun e W' => (∃ v, e = .returned v) ∧
      ((∃ ys : List (Gq p), ys.map Subtype.val = (claimsL xs).filter (fun c => c.good) ∧ J ys W') ∨ (∃ pre, True ∧ Jx pre W')) := by
  refine callsIn_of_wp Try.func66 rfl trivial ?_ rfl
  simp only [Try.ntmps66, List.size_toArray, List.length_cons, List.length_nil, Nat.reduceAdd, Nat.reduceSub, Array.replicate_succ, Array.replicate_zero, List.push_toArray, List.append_toArray, List.nil_append, List.cons_append]
  have hz : ∀ s W1 W2, J s W1 → Below W1.heap.size W1 W2 → J s W2 := fun s W1 W2 h b => hJ s W1 W2 none h (below_grownBy b) (fun _ e => by cases e)
  have HZ := Lib.hid hz
  have HT := Lib.hid hT
  have HY := Lib.hid hY
  have HJ := Lib.hid hJ
  clear hT hY hJ hz
  gi_wp2_with (refine ⟨trivial, ?_⟩; gi_at_call 45; refine (callsIn_wide.2 (hC A n c xs _ hr hn hnc)).mono ?_; rintro e w2 ⟨G, cg, rfl, oG, b2⟩)
  have hll := claimsL_length xs
  have sb2 := b2.size
  have hJ0 := HZ.out _ _ _ h0 b2
  have HV2 := Lib.hid ((World.cell?_of_block (a := ⟨gv, 0, none⟩) (b2.block gv (World.block_lt_of_cell? W _ hv0))).trans hv0)
  have HSP := Lib.hid hsp
  have HG := Lib.hid oG
  clear oG hr h0 b2 hbox hv0 hsp
  generalize hL : claimsL xs = L at *
  have HL := Lib.hid hL
  clear hL
  gi_wp2
  gi_loopw [8] (fun i wr => ∃ (k : Nat) (pre : List (Gq p)), k ≤ L.length ∧ i = .int .i64 k ∧ pre.map Subtype.val = (L.take k).filter (fun c => c.good) ∧ J pre wr ∧ KpT gv w2 wr) (fun i _ => L.length - (intOf i).toNat)
  case atStart => exact ⟨0, [], Nat.zero_le _, rfl, by simp, hJ0, KpT.refl _ _⟩
  case round =>
    obtain ⟨k, pre, hk, rfl, hpre, hJs, hkp⟩ := hrel
    have HP := Lib.hid hpre
    have HK := Lib.hid hkp
    clear hpre hkp hJ0
    by_cases hlt : k < L.length
    · obtain ⟨g, rfl, hg1, hg2, hg3, hce⟩ := cmr_cells8 HG.out hlt
      obtain ⟨_, _, hk2⟩ := HK.out.2 _ HV2.out
      have hk3 := (hk2 g hg3 (HSP.out g hg1)).2
      have hce : ∀ j v, j < 6 → (cmV (L.getD k cm0))[j]? = some v → wr.cell? ⟨g, k * 6 + j, none⟩ = some v := fun j v hj hv => hk3 _ _ ((hce j hj).trans hv)
      clear hk2 hk3
      have HS := Lib.hid (filt_step L k hlt)
      have HTk := Lib.hid (HT.out (L.getD k cm0) (by rw [show L.getD k cm0 = L[k] by simp [List.getD_eq_getElem?_getD, hlt]]; exact List.getElem_mem hlt))
      have hpl : pre.length < 1296 := by
        have h1 : pre.length = ((L.take k).filter (fun c => c.good)).length := by rw [← HP.out]; simp
        have h2 := List.length_filter_le (fun c : Cm => c.good) (L.take k)
        have h3 : (L.take k).length ≤ k := List.length_take_le _ _
        omega
      generalize L.getD k cm0 = x at *
      obtain ⟨xk, xf, xs', xp, xt, xg⟩ := x
      have e0 : wr.cell? ⟨g, k * 6, none⟩ = some (.int .i64 xk) := hce 0 _ (by omega) rfl
      have e1 : wr.cell? ⟨g, k * 6 + 1, none⟩ = some (.int .i64 xf) := hce 1 _ (by omega) rfl
      have e2 : wr.cell? ⟨g, k * 6 + 2, none⟩ = some (.int .i64 xs') := hce 2 _ (by omega) rfl
      have e3 : wr.cell? ⟨g, k * 6 + 3, none⟩ = some (.int .i64 xp) := hce 3 _ (by omega) rfl
      have e4 : wr.cell? ⟨g, k * 6 + 4, none⟩ = some (.int .i64 xt) := hce 4 _ (by omega) rfl
      have e5 : wr.cell? ⟨g, k * 6 + 5, none⟩ = some (.bool xg) := hce 5 _ (by omega) rfl
      clear hce
      have hJ1 := HZ.out _ _ _ hJs ((Below.refl _ wr).alloc (Nat.le_refl _) (.cells #[.int .i64 xk, .int .i64 xf, .int .i64 xs', .int .i64 xp, .int .i64 xt, .bool xg] 53))
      cases xg
      · gi_wp2
        refine ⟨fun _ h => (by cases h), ?_⟩
        gi_wp2
        go_roundw
        case rel => exact ⟨k + 1, pre, by omega, by go_num, by rw [HS.out, HP.out]; simp, hJ1, HK.out.alloc _⟩
        case measure => simp [intOf]; omega
      · have hpx := HTk.out rfl
        obtain ⟨fn, tmps, assign, body, hy, hR⟩ := HY.out pre ⟨⟨xk, xf, xs', xp, xt, true⟩, hpx⟩ _ hJ1 hpl
        dsimp only at hy
        gi_wp2
        refine hR.mono ?_
        rintro e W3 (⟨rfl, hJ3, hk3⟩ | ⟨rfl, hJx3⟩)
        · have hk3 := (HK.out.alloc _).trans hk3
          gi_wp2
          go_roundw
          case rel => exact ⟨k + 1, pre ++ [⟨⟨xk, xf, xs', xp, xt, true⟩, hpx⟩], by omega, by go_num, by rw [HS.out, List.map_append, HP.out]; simp, hJ3, hk3⟩
          case measure => simp [intOf]; omega
        · gi_wp2
          refine bodyPost_ret (results_none rfl _ _ _) rfl ?_
          exact ⟨⟨_, rfl⟩, .inr ⟨_, trivial, hJx3⟩⟩
    · obtain rfl : k = L.length := by omega
      gi_wp2
      go_end0
      refine ⟨⟨_, rfl⟩, .inl ⟨pre, ?_, hJs⟩⟩
      rw [HP.out, List.take_length, HL.out]

theorem goodt_stops {p : Cm → Prop} (hC : ClaimsC) (nn Bs gv : Nat) (hnn : 1 ≤ nn) (A : Option Addr) (n c : Nat) (xs : List Int) (w : World) (hbs : Bs < w.heap.size) (hbox : w.cell? ⟨Bs, 0, none⟩ = some (.slice A n c)) (hr : Rd w w.heap.size A n xs) (hn : n ≤ 2097152) (hnc : n ≤ c) (v0 : Value) (hv0 : w.cell? ⟨gv, 0, none⟩ = some v0) (hsp : ∀ b, w.heap.size ≤ b → SpT gv v0 b)
    (hT : ∀ c ∈ claimsL xs, c.good = true → p c) :
    SeqStopsK Fence.wide nn Try.prog 66 #[.pointer (some ⟨Bs, 0, none⟩)] (fun x : Gq p => #[Value.agg #[.int .i64 x.1.kind, .int .i64 x.1.frm, .int .i64 x.1.slot, .int .i64 x.1.place, .int .i64 x.1.target, .bool x.1.good]]) (KpT gv)
      (fun ys => ys.map Subtype.val = (claimsL xs).filter (fun c => c.good)) (fun _ => True) 1296 w := fun l J Jx W hW hJ _ hY h0 =>
  good1t_in hC nn l Bs gv hnn A n c xs W ((hW.cell (p := ⟨Bs, 0, none⟩) hbs).trans hbox) ((hr.below hW).more hW.size) hn hnc v0 ((hW.cell (p := ⟨gv, 0, none⟩) (World.block_lt_of_cell? w _ hv0)).trans hv0) (fun b hb => hsp b (Nat.le_trans hW.size hb)) hT J Jx hJ hY h0

end Go.Proofs.Ytieknpkbmccimaa
