/- The words that are not as they must be, as defects (pure). Words that are not as they must be (wrongWords): the program's side: it ranges over the tables with their right words. Rows of errors one behind another (slices.Concat, with slices.Grow in it). All that is wrong with an image, as errors (allWrong): the program's side. -/
import Derived.Test.YtiokfhdkbpoadaaGreatDoorX6
import Derived.Test.YtiokfhdkbpoadaaGreatDoorQ2
import Derived.Test.YtiokfhdkbpoadaaGreatDoorXR
import Derived.Laws.AppendOwnNone
import Derived.Deep.RegionHeld3
namespace Go.Proofs.YtiokfhdkbpoadaaGreatDoor
open Go.RowKit Go.Shelf
open Go.RowKit

def odStep (xs : List Int) (loose : List Cm) (counts : List Int) (to : Cm) (o : List Dc) (i : Nat) : List Dc :=
  if standB loose to.target i = false ∧ (cl xs to.target.toNat).getD i 0 ≠ wordMust ((cl xs to.target.toNat).getD i 0) to.kind counts then o ++ [⟨7, to.target, i⟩] else o
def odRound (xs : List Int) (loose : List Cm) (counts : List Int) (o : List Dc) (to : Cm) : List Dc := (List.range 8).foldl (odStep xs loose counts to) o
def ownDefs (xs : List Int) : List Dc := (tgL (claimsC xs)).foldl (odRound xs (looseL xs) (countsC (claimsC xs))) []

theorem ow_step {xs : List Int} (hh : hasHead xs = true) (counts : List Int) {to : Cm} (hto : to ∈ tgL (claimsC xs)) (i : Nat) (hi : i < 8) (o : List Wr) :
    odStep xs (looseL xs) counts to (o.map ownD) i = (wrStep xs (claimsC xs) counts to.target o i).map ownD := by
  obtain ⟨h1, h2⟩ := own_word hh counts hto i hi _ rfl
  unfold odStep wrStep
  cases hs : standB (looseL xs) to.target i
  · obtain ⟨h3, _⟩ := h2 hs
    rw [h3]
    by_cases he : (cl xs to.target.toNat).getD i 0 = wordMust ((cl xs to.target.toNat).getD i 0) to.kind counts
    · rw [if_neg (fun h => h.2 he), if_neg (fun h => h he.symm)]
    · rw [if_pos ⟨rfl, he⟩, if_pos (fun h => he h.symm)]
      simp [ownD]
  · rw [h1 hs, if_neg (by simp), if_neg (by simp)]
theorem ow_round {xs : List Int} (hh : hasHead xs = true) (counts : List Int) {to : Cm} (hto : to ∈ tgL (claimsC xs)) (o : List Wr) :
    odRound xs (looseL xs) counts (o.map ownD) to = (wrRound xs (claimsC xs) counts o to.target).map ownD := by
  unfold odRound wrRound
  have : ∀ (is : List Nat), (∀ i ∈ is, i < 8) → ∀ o : List Wr, is.foldl (odStep xs (looseL xs) counts to) (o.map ownD) = (is.foldl (wrStep xs (claimsC xs) counts to.target) o).map ownD := by
    intro is
    induction is with
    | nil => intro _ o; rfl
    | cons i is ih =>
      intro hi o
      rw [List.foldl_cons, List.foldl_cons, ow_step hh counts hto i (hi i (by simp)) o, ih (fun j hj => hi j (by simp [hj]))]
  exact this _ (fun i hi => by simpa using hi) o
theorem ow_fold {xs : List Int} (hh : hasHead xs = true) (counts : List Int) : ∀ (ts : List Cm), (∀ t ∈ ts, t ∈ tgL (claimsC xs)) → ∀ o : List Wr, ts.foldl (odRound xs (looseL xs) counts) (o.map ownD) = ((ts.map (·.target)).foldl (wrRound xs (claimsC xs) counts) o).map ownD
  | [], _, o => rfl
  | t :: ts, h, o => by
    rw [List.foldl_cons, List.map_cons, List.foldl_cons, ow_round hh counts (h t (by simp)) o, ow_fold hh counts ts (fun x hx => h x (by simp [hx]))]
theorem own_defs {xs : List Int} (hh : hasHead xs = true) : ownDefs xs = (wrongsC xs).map ownD := by
  have := ow_fold hh (countsC (claimsC xs)) (tgL (claimsC xs)) (fun _ h => h) []
  unfold ownDefs wrongsC
  rw [← tg_tables]
  exact this
theorem odStep_length (xs : List Int) (loose : List Cm) (counts : List Int) (to : Cm) (o : List Dc) (i : Nat) : (odStep xs loose counts to o i).length ≤ o.length + 1 := by unfold odStep; split <;> simp

attribute [local go_sem] Oper.semAt_some

/-- A word that is wrong, told by the right ones. -/
theorem od_rt (xs : List Int) (loose : List Cm) (counts : List Int) (to : Cm) (o : List Dc) (i : Nat) : odStep xs loose counts to o i = if (cl xs to.target.toNat).getD i 0 ≠ rtW xs loose counts to i then o ++ [⟨7, to.target, i⟩] else o := by
  unfold odStep rtW
  cases h : standB loose to.target i <;> simp

/-- append onto a row of one's own, nil or not, as a step of a region that draws its order: and where what comes out lies. -/
theorem step_append_t {P : Program} {w : World} {ops : Array Oper} {o : Oper} {a : Act} {K : Act → World → Prop} {Q : Exit → Act → World → Prop} {E : Prop} (hgd : o.guard = none) (s x : Operand) (t : TypeId)
    (ho : o.op = .call { callee := .builtin .append, args := #[s, x], argTypes := #[t, t] })
    (e : TypeId) (sz by_ : Nat) (z : Value) (i : TypeInfo) (ht : P.underlying t = some (.slice e)) (hi : P.info? e = some i) (hz : i.zero = some z) (hsize : i.size = sz) (hby : i.bytes = by_) (hzs : z.cells.size = sz) (hsz : 0 < sz) (hb8 : by_ ≤ 1000)
    (lo n c : Nat) (A : Option Addr) (cs : List Value) (hs : a.eval s = .slice A n c) (hown : w.ownsRow lo e sz (.slice A n c) n cs)
    (ad : Addr) (m c' : Nat) (news : List Value) (hx : a.eval x = .slice (some ad) m c') (hm : 0 < m) (hl : news.length = m * sz) (hnews : ∀ j u, news[j]? = some u → w.cell? (ad.add j) = some u) (h1 : ∀ u ∈ news, u.oneCell' = true)
    (hnm : n + m ≤ 16777216) (hlo : lo ≤ w.heap.size)
    (h : ∀ (g' cd : Nat) (w' : World), w'.ownsRow lo e sz (.slice (some ⟨g', 0, none⟩) (n + m) cd) (n + m) (cs ++ news) → w.grownBy w' (Value.ownBlock (.slice A n c)) → (Value.ownBlock (.slice A n c) = some g' ∨ w.heap.size ≤ g') → K (a.put o.dst (.slice (some ⟨g', 0, none⟩) (n + m) cd)) w') :
    if Region.wanted o (yielded ops a.tmps) = true then Oper.wp P o a w K Q else E := by
  obtain ⟨g', cd, w', hr, h2, h3, h4⟩ := run_append_t (P := P) w t o.type e sz by_ z i ht hi hz hsize hby hzs hsz hb8 lo n c A cs hown ad m c' news hm hl hnews h1 hnm hlo
  have hw : Region.wanted o (yielded ops a.tmps) = true := by simp [Region.wanted, hgd]
  rw [if_pos hw]
  unfold Oper.wp execOp
  simp only [ho, resolve, invoke, builtin, Sem.run_bind, Sem.run_pure, Result.andThen_ok, List.map_toArray, List.map_cons, List.map_nil, hs, hx, hr]
  exact h g' cd w' h2 h3 h4

theorem od_take (xs : List Int) (loose : List Cm) (counts : List Int) (l : List Cm) (k : Nat) (hk : k < l.length) : (l.take (k + 1)).foldl (odRound xs loose counts) [] = odRound xs loose counts ((l.take k).foldl (odRound xs loose counts) []) (l.getD k cm0) := by
  rw [List.take_succ_eq_append_getElem hk, List.foldl_append, show l.getD k cm0 = l[k] by simp [List.getD_eq_getElem?_getD, hk]]
  rfl
theorem odRound_length (xs : List Int) (loose : List Cm) (counts : List Int) (o : List Dc) (to : Cm) : (odRound xs loose counts o to).length ≤ o.length + 8 := by
  have := foldl_length (odStep xs loose counts to) 1 (odStep_length xs loose counts to) (List.range 8) o
  unfold odRound; simp at this; omega

/-- All blocks are spared but the box T and the row that lies in it. -/
def SpW (T : Nat) (W : World) (b : Nat) : Prop := ∃ v, W.cell? ⟨T, 0, none⟩ = some v ∧ b ≠ T ∧ v.ownBlock ≠ some b
theorem SpW.spare (T : Nat) : SpareS (SpW T) :=
  ⟨fun _ _ _ h ⟨v, hv, h1, h2⟩ => ⟨v, cell_kept hv (below_grownBy h) (fun _ e => by cases e), h1, h2⟩, fun W l o o' _ h ho ⟨v, hv, h1, h2⟩ => ⟨v, cell_kept hv (grownBy_putObj' W l o') (fun _ e => by cases e; exact ⟨o, h, ho⟩), h1, h2⟩⟩
/-- The row in the box grew, and the box holds the new one. -/
theorem KpB.append {T : Nat} {W W1 : World} {v0 v1 : Value} (h0 : W.cell? ⟨T, 0, none⟩ = some v0) (hg : W.grownBy W1 v0.ownBlock) (hat : v1.ownBlock = v0.ownBlock ∨ ∀ g, v1.ownBlock = some g → W.heap.size ≤ g) (hne : v0.ownBlock ≠ some T) : KpB (SpW T) W (W1.setCell ⟨T, 0, none⟩ v1) := by
  have hgv := World.block_lt_of_cell? W _ h0
  have hb : W1.heap[T]? = W.heap[T]? := hg.block T hgv (fun e => hne e.symm)
  have c1 : W1.cell? ⟨T, 0, none⟩ = some v0 := (World.cell?_of_block hb).trans h0
  have hgs := grownBy_setCell' W1 T v1
  refine ⟨Nat.le_trans hg.size hgs.size, fun b hlt hs => ?_⟩
  obtain ⟨v, hv, h1, h2⟩ := hs
  obtain rfl : v0 = v := Option.some.inj (h0.symm.trans hv)
  refine ⟨⟨v1, World.cell?_setCell_same _ _ _ c1, h1, ?_⟩, fun o ho _ => ?_⟩
  · rcases hat with hat | hat
    · rw [hat]; exact h2
    · intro e; have := hat b e; omega
  · have e1 : W1.heap[b]? = W.heap[b]? := hg.block b hlt (fun e => h2 e.symm)
    have e2 : (W1.setCell ⟨T, 0, none⟩ v1).heap[b]? = W1.heap[b]? := hgs.block b (by have := hg.size; omega) (fun e => h1 (by injection e))
    exact (e2.trans e1).trans ho

/-- Between two rounds: what has been told. -/
structure WwI (w : World) (aM aG : Addr) (T Bb : Nat) (A : Option Addr) (n c : Nat) (o : List Dc) (W : World) : Prop where
  row : ∃ v, Boxed W T 59 v ∧ W.ownsRow w.heap.size 90 1 v o.length (o.map (erV aM aG))
  box : Boxed W Bb 22 (.slice A n c)
  bel : Below w.heap.size w W

theorem WwI.own {w : World} {aM aG : Addr} {T Bb B n c : Nat} {A : Option Addr} {f : Nat → List Dc} (h1 : w.heap.size ≤ B) : OwnFrom B (fun k W => WwI w aM aG T Bb A n c (f k) W) := fun s X Y row hs hg hr => by
  obtain ⟨⟨v, hv, hrow⟩, b, l⟩ := hs
  refine ⟨⟨v, hv.kept hg (fun e => by obtain ⟨_, o2, h2, h3⟩ := hr _ e.symm; rw [show X.heap[T]? = _ from hv] at h2; cases h2; cases h3), hrow.kept hg ?_⟩, b.kept hg (fun e => by obtain ⟨_, o2, h2, h3⟩ := hr _ e.symm; rw [show X.heap[Bb]? = _ from b] at h2; cases h2; cases h3), l.grown hg l.size (fun k e => by have := (hr _ e).1; omega)⟩
  rcases hrow.2 with ⟨rfl, _⟩ | ⟨g, cap, cur, rfl, _, hgb, _⟩
  · exact .inl rfl
  · refine .inr fun e' => ?_
    obtain ⟨_, o, ho, hc⟩ := hr g (by simpa [Value.ownBlock] using e'.symm)
    rw [hgb] at ho; cases ho; cases hc
theorem WwI.below {w : World} {aM aG : Addr} {T Bb n c : Nat} {A : Option Addr} {o : List Dc} {W W' : World} (h : WwI w aM aG T Bb A n c o W) (hb : Below W.heap.size W W') : WwI w aM aG T Bb A n c o W' := by
  obtain ⟨⟨v, hv, hrow⟩, b, l⟩ := h
  exact ⟨⟨v, hv.kept (below_grownBy hb) (by simp), own_below hrow hb⟩, b.kept (below_grownBy hb) (by simp), below_more l hb l.size⟩

set_option maxRecDepth 100000 in
set_option maxHeartbeats 8000000 in
theorem wrongWords_any (hC : ClaimsC) (hL : LooseC) (hCo : CountsC) (hT : TableC) {aN aM aG : Addr} (A : Option Addr) (n c : Nat) (xs : List Int) (w : World) (hG : GlE w aN aM aG) (hr : Rd w w.heap.size A n xs) (hn : n ≤ 2097152) (hnc : n ≤ c) (hh : hasHead xs = true) :
    Calls Tryz.prog 92 #[.slice A n c] w (RetE aM aG w (ownDefs xs)) := by
  obtain ⟨i0, hi0, hz0, hz1, hz2⟩ := info_parts infoEr
  refine (callsIn_wide (n := 5)).1 ?_
  refine callsIn_of_wp_marks Tryz.func92 rfl trivial ?_ rfl
  simp only [Tryz.ntmps92, List.size_toArray, List.length_cons, List.length_nil, Nat.reduceAdd, Nat.reduceSub, Array.replicate_succ, Array.replicate_zero, List.push_toArray, List.append_toArray, List.nil_append, List.cons_append]
  have HH := Lib.hid hh
  have HD : Hid (ownDefs xs = (tgL (claimsC xs)).foldl (odRound xs (looseL xs) (countsC (claimsC xs))) []) := rfl
  have HTH := Lib.hid (fun (t : Cm) (h : t ∈ tgL (claimsC xs)) => tables_there (xs := xs) (by rw [← tg_tables]; exact List.mem_map_of_mem h))
  have htl := tg_length xs
  clear hh
  gi_wp2_with (refine ⟨trivial, ?_⟩; gi_at_call 98; refine (right_in A n c _ _).mono ?_; rintro e w' ⟨rfl, rfl⟩)
  have b1 := (Below.refl w.heap.size w).alloc (Nat.le_refl _) (.cells #[.slice A n c] 22)
  have b2 := b1.alloc b1.size (.cells #[.slice none 0 0] 59)
  have b5 := b2.alloc b2.size (.cells #[.slice A n c] 22)
  have x5 := ((Boxed.new w 22 (.slice A n c)).alloc (.cells #[.slice none 0 0] 59)).alloc (.cells #[.slice A n c] 22)
  have t5 := (Boxed.new (w.alloc (.cells #[.slice A n c] 22)) 59 (.slice none 0 0)).alloc (.cells #[.slice A n c] 22)
  have y5 := Boxed.new ((w.alloc (.cells #[.slice A n c] 22)).alloc (.cells #[.slice none 0 0] 59)) 22 (.slice A n c)
  have z5 : (((w.alloc (.cells #[.slice A n c] 22)).alloc (.cells #[.slice none 0 0] 59)).alloc (.cells #[.slice A n c] 22)).heap.size = w.heap.size + 3 := by simp
  rw [World.size_alloc] at t5
  rw [World.size_alloc, World.size_alloc] at y5
  obtain ⟨T, hTe⟩ : ∃ T, w.heap.size + 1 = T := ⟨_, rfl⟩
  have HG0 := Lib.hid hG
  have hGB := hG.size
  generalize ((w.alloc (.cells #[.slice A n c] 22)).alloc (.cells #[.slice none 0 0] 59)).alloc (.cells #[.slice A n c] 22) = w5 at *
  rw [hTe] at t5 y5 ⊢
  clear b1 b2 hG
  have hc5 := t5.cell
  refine wpIn_range_told rfl (by omega) (gf := 118) (lb := #[.pointer (some ⟨T + 1, 0, none⟩)]) rfl trivial (enters_of Tryz.func118 (by kernel_rfl) rfl)
    (right_stops hC hL hCo hT (SpW.spare T) 4 (T + 1) w.heap.size (by omega) A n c xs w5 (by omega) y5.cell (hr.below b5) (by omega) hn hnc HH.out (fun W' h b hb => ⟨_, (h.cell (p := ⟨T, 0, none⟩) (by show T < _; omega)).trans hc5, by omega, by simp [Value.ownBlock]⟩)) KpB.trans (fun W l o o' _ h ho _ => KpB.put (SpW.spare T) o' h ho) (Below.refl _ _) (fun _ => rfl)
    (fun k W => WwI w aM aG T w.heap.size A n c (((tgL (claimsC xs)).take k).foldl (odRound xs (looseL xs) (countsC (claimsC xs))) []) W) (WwI.own (by omega)) ⟨⟨_, t5, World.ownsRow_nil _ _ _ _⟩, x5, b5⟩
    (HwX xs w5.heap.size (fun x => #[.slice A n c, .pointer (some ⟨w.heap.size, 0, none⟩), .slice none 0 0, .pointer (some ⟨T, 0, none⟩), .int .i64 x.tbl, .slice (some ⟨x.g, 0, none⟩) 8 x.c, undef, undef, .slice A n c, .func (.func 118) #[] #[.pointer (some ⟨T + 1, 0, none⟩)],
      .int .i64 x.tbl, .slice (some ⟨x.g, 0, none⟩) 8 x.c, undef, undef, undef, undef, undef, undef, undef, undef, undef, undef, undef, undef, undef, undef, undef, undef, undef, undef, undef, undef, undef, undef, undef])) (fun _ _ _ => HwX.own) ?assign ?body ?done
  case assign =>
    rintro l k x W K hk hI ht hK
    unfold hwV
    gi_wp2
    exact hK _ _ (KeepsFrom.refl _ _) (KpB.refl _ _) hI ⟨ht, rfl⟩
  case body =>
    rintro l k x a' W hk ⟨⟨v, hbx, hrow⟩, hbb, hw⟩ ⟨⟨ht1, ht2, ht3⟩, rfl⟩
    have HS := Lib.hid (take_fold (odRound xs (looseL xs) (countsC (claimsC xs))) (tgL (claimsC xs)) [] k hk)
    have hkm : (tgL (claimsC xs)).getD k cm0 = (tgL (claimsC xs))[k] := by simp [List.getD_eq_getElem?_getD, hk]
    have hth := HTH.out _ (List.getElem_mem hk)
    have HLe : Hid ((((tgL (claimsC xs)).take k).foldl (odRound xs (looseL xs) (countsC (claimsC xs))) []).length ≤ 32000) := by
      have h1 := foldl_length (odRound xs (looseL xs) (countsC (claimsC xs))) 8 (odRound_length xs (looseL xs) (countsC (claimsC xs))) ((tgL (claimsC xs)).take k) []
      have h2 : ((tgL (claimsC xs)).take k).length ≤ k := List.length_take_le _ _
      simp at h1
      show _ ≤ _
      omega
    rw [hkm] at ht1 ht3
    obtain ⟨xt, xg, xc⟩ := x
    simp only at ht1 ht2 ht3
    generalize (tgL (claimsC xs))[k] = to at *
    have HOD : Hid (∀ o, odRound xs (looseL xs) (countsC (claimsC xs)) o to = (List.range 8).foldl (odStep xs (looseL xs) (countsC (claimsC xs)) to) o) := fun _ => rfl
    have HST : Hid (∀ (o : List Dc) (i : Nat), odStep xs (looseL xs) (countsC (claimsC xs)) to o i = if (cl xs xt.toNat).getD i 0 ≠ rtW xs (looseL xs) (countsC (claimsC xs)) to i then o ++ [⟨7, xt, i⟩] else o) := fun o i => by rw [od_rt, ← ht1]
    have hsl := odStep_length xs (looseL xs) (countsC (claimsC xs)) to
    have HXC : Hid (∀ j, j < 8 → W.cell? ⟨xg, j, none⟩ = some (.int .i64 (rtW xs (looseL xs) (countsC (claimsC xs)) to j))) := fun j hj => by
      have := ht3.cell hj
      rw [rtL_get _ _ _ _ j hj] at this
      exact this
    obtain ⟨cur, hxg⟩ : ∃ cur, W.heap[xg]? = some (.cells cur 2 (0, 0)) := by
      rcases ht3.own.2 with ⟨hv, _⟩ | ⟨g', cap, cur, hv, _, hb, _⟩
      · cases hv
      · injection hv with e1
        injection e1 with e1
        injection e1 with e1
        exact ⟨_, by rw [e1]; exact hb⟩
    rw [← ht1] at hth
    clear ht1 ht3 hkm
    generalize rtW xs (looseL xs) (countsC (claimsC xs)) to = RW at *
    generalize odStep xs (looseL xs) (countsC (claimsC xs)) to = F at *
    generalize odRound xs (looseL xs) (countsC (claimsC xs)) = FR at *
    generalize ((tgL (claimsC xs)).take k).foldl FR [] = ok at *
    have HTb := Lib.hid (hT A n c xs xt W ((hr.below hw).more hw.size) hn hnc)
    have HTL := Lib.hid (tableL_in HH.out hth)
    have cb := hbb.cell
    have lT := hbx.lt
    have sw := hw.size
    have lxg := (Array.getElem?_eq_some_iff.1 hxg).1
    have hxT : xg ≠ T := fun e => by
      have h1 := hxg
      rw [e, show W.heap[T]? = _ from hbx] at h1
      cases h1
    have hov := own_away hxg (by decide) hrow
    have hol : ∀ g, v.ownBlock = some g → g < W.heap.size := fun g hg => (hrow.lt g hg).2
    have HBX := Lib.hid hbx
    have HRW := Lib.hid hrow
    have HBB := Lib.hid hbb
    have HW := Lib.hid hw
    clear hth hbx hrow hbb hw
    dsimp only
    gi_wp2_with (refine ⟨trivial, ?_⟩; gi_at_call 43; refine (CallsIn.inRound l (callsIn_wide.2 HTb.out)).mono ?_; rintro e w6 ⟨Y, ny, cy, rfl, oY, b6⟩)
    rw [HTL.out] at oY
    obtain rfl : 8 = ny := by have := oY.len; rw [cl_length] at this; exact this
    rcases oY.form with ⟨_, h0, _⟩ | ⟨gy, rfl, y1, y2, y3, y4⟩
    · omega
    have s6 := b6.size
    have hb6 := HBX.out.kept (below_grownBy b6) (by simp)
    have hr6 := own_below HRW.out b6
    have hc6 := hb6.cell
    have sy : SpW T w6 gy := ⟨v, hc6, by omega, fun e => by have := hol gy e; omega⟩
    have sx : SpW T w6 xg := ⟨v, hc6, hxT, hov⟩
    have HCY := Lib.hid (fun (j : Nat) (hj : j < 8) => oY.cell hj)
    have HCX := Lib.hid (fun (j : Nat) (hj : j < 8) => (b6.cell (p := ⟨xg, j, none⟩) lxg).trans (HXC.out j hj))
    have hbb6 := HBB.out.kept (below_grownBy b6) (by simp)
    have HB6 := Lib.hid (below_more HW.out b6 sw)
    have HBW := Lib.hid b6
    clear oY b6 y4
    rw [show ((8 : Nat) : Int) = 8 from rfl]
    gi_loopw [16] (fun i wr => ∃ (j : Nat) (v' : Value), j ≤ 8 ∧ i = .int .i64 j ∧ Boxed wr T 59 v' ∧ wr.ownsRow w.heap.size 90 1 v' ((List.range j).foldl F ok).length (((List.range j).foldl F ok).map (erV aM aG)) ∧ Boxed wr w.heap.size 22 (.slice A n c) ∧ KpB (SpW T) w6 wr ∧ KeepsFrom w5.heap.size w6 wr ∧ Below w.heap.size w6 wr) (fun i _ => 8 - (intOf i).toNat)
    case atStart => exact ⟨0, v, Nat.zero_le _, rfl, hb6, hr6, hbb6, KpB.refl _ _, KeepsFrom.refl _ _, Below.refl _ _⟩
    case round =>
      obtain ⟨j, v', hj, rfl, hx', hr', hb', hkp, hkf, hbl⟩ := hrel
      have sr : w6.heap.size ≤ wr.heap.size := hkp.1
      by_cases hj8 : j < 8
      · have hy := hkp.cell sy (HCY.out j hj8)
        have hxj := hkp.cell sx (HCX.out j hj8)
        have HRF := Lib.hid (range_fold F ok j)
        have HL2 : Hid (((List.range j).foldl F ok).length ≤ 32008) := by
          have h1 := foldl_length F 1 hsl (List.range j) ok
          have := HLe.out
          simp at h1
          show _ ≤ _
          omega
        have HS9 := Lib.hid (HST.out ((List.range j).foldl F ok) j)
        generalize (List.range j).foldl F ok = oj at *
        generalize (cl xs xt.toNat).getD j 0 = wd at *
        generalize RW j = mu at *
        by_cases hne : wd = mu
        · have HE : Hid (F oj j = oj) := by rw [HS9.out, if_neg (fun h => h hne)]; exact rfl
          have dn : (wd != mu) = false := by simpa using hne
          clear hne
          gi_wp2
          go_roundw
          case rel => exact ⟨j + 1, v', by omega, by go_num, hx', by rw [HRF.out, HE.out]; exact hr', hb', hkp, hkf, hbl⟩
          case measure => simp [intOf]; omega
        · have HE : Hid (F oj j = oj ++ [⟨7, xt, j⟩]) := by rw [HS9.out, if_pos hne]; exact rfl
          have dn : (wd != mu) = true := by simpa using hne
          clear hne
          gi_wp2_with fail
          obtain ⟨A2, c2, rfl⟩ := row_form hr'
          have cx' := hx'.cell
          have ca : ∀ o : Obj, (wr.alloc o).cell? ⟨T, 0, none⟩ = some (.slice A2 oj.length c2) := fun o => (hx'.alloc o).cell
          have HWB := Lib.hid (wrongBy_any 7 xt (j : Int) wr.drew (HG0.out.below (Below.trans HB6.out hbl).drew hGB))
          unfold erV at HWB
          refine wpIn_region_round (S := fun _ => True) (by kernel_rfl) (by kernel_rfl) (by rintro ⟨_, _, h⟩; exact h) trivial (fun _ => ?_)
          refine wpAnyH_take_to (i := 1) (d := some 28) (v := ?_) rfl rfl (by kernel_rfl) (by kernel_rfl) (by kernel_rfl) (fun _ _ _ h => h) (Or.inl ⟨by rfl, ?_⟩) (by assumption) ?_
          rotate_left 1
          · intro w hSw
            (try dsimp only at hSw)
            go_simp <;> with_reducible rfl
          simp only [Act.put, List.setIfInBounds_toArray, List.set_cons_zero, List.set_cons_succ]
          refine wpAnyH_take_to (i := 2) (d := some 29) (v := ?_) rfl rfl (by kernel_rfl) (by kernel_rfl) (by kernel_rfl) (fun _ _ _ h => h) (Or.inl ⟨by rfl, ?_⟩) (by assumption) ?_
          rotate_left 1
          · intro w hSw
            (try dsimp only at hSw)
            go_simp <;> with_reducible rfl
          simp only [Act.put, List.setIfInBounds_toArray, List.set_cons_zero, List.set_cons_succ]
          refine wpAnyH_ready (rs := [0, 3]) (by kernel_rfl) (by simp) ?_
          refine AllReadyH.cons rfl (fun K hK => ?ordA) (AllReadyH.cons rfl (fun K hK => ?ordB) AllReadyH.nil)
          case' ordA =>
            rw [if_pos (by rfl)]
            go_simp
            refine hK.out _ _ trivial (fun _ => ?_)
            refine wpAnyH_ready (rs := [3]) (by kernel_rfl) (by simp) ?_
            refine AllReadyH.cons rfl (fun K1 hK1 => ?_) AllReadyH.nil
            rw [if_pos (by rfl)]
            go_simp
            refine HWB.out.mono ?_
            rintro e w' ⟨rfl, rfl⟩
            refine hK1.out _ _ trivial (fun _ => ?_)
            refine wpAnyH_ready (rs := [4]) (by kernel_rfl) (by simp) ?_
            refine AllReadyH.cons rfl (fun K2 hK2 => ?_) AllReadyH.nil
            rw [if_pos (by rfl)]
            go_simp
            refine hK2.out _ _ trivial (fun _ => ?_)
          case' ordB =>
            rw [if_pos (by rfl)]
            go_simp
            refine HWB.out.mono ?_
            rintro e w' ⟨rfl, rfl⟩
            refine hK.out _ _ trivial (fun _ => ?_)
            refine wpAnyH_ready (rs := [0, 4]) (by kernel_rfl) (by simp) ?_
            refine AllReadyH.cons rfl (fun K1 hK1 => ?ordC) (AllReadyH.cons rfl (fun K1 hK1 => ?ordD) AllReadyH.nil)
            case' ordC =>
              rw [if_pos (by rfl)]
              go_simp
              refine hK1.out _ _ trivial (fun _ => ?_)
              refine wpAnyH_ready (rs := [4]) (by kernel_rfl) (by simp) ?_
              refine AllReadyH.cons rfl (fun K2 hK2 => ?_) AllReadyH.nil
              rw [if_pos (by rfl)]
              go_simp
              refine hK2.out _ _ trivial (fun _ => ?_)
            case' ordD =>
              rw [if_pos (by rfl)]
              go_simp
              refine hK1.out _ _ trivial (fun _ => ?_)
              refine wpAnyH_ready (rs := [0]) (by kernel_rfl) (by simp) ?_
              refine AllReadyH.cons rfl (fun K2 hK2 => ?_) AllReadyH.nil
              rw [if_pos (by rfl)]
              go_simp
              refine hK2.out _ _ trivial (fun _ => ?_)
          all_goals
            have hr9 : (wr.alloc (.cells #[.iface 106 (.agg #[.int .i64 7, .int .i64 xt, .int .i64 (j : Int), .iface 136 (.pointer (some (weightA aM aG 7)))])] 90)).drew.ownsRow w.heap.size 90 1 (.slice A2 oj.length c2) oj.length (oj.map (erV aM aG)) := hr'.alloc _
            refine wpAnyH_ready (rs := [5]) (by kernel_rfl) (by simp) ?_
            refine AllReadyH.cons rfl (fun K3 hK3 => ?_) AllReadyH.nil
            refine step_append_t rfl (.tmp 27) (.tmp 31) 59 rfl 90 1 16 _ i0 Tryz.underlying59 hi0 hz0 hz1 hz2 rfl (by omega) (by omega) w.heap.size oj.length c2 A2 _ rfl hr9 ⟨wr.heap.size, 0, none⟩ 1 1 [.iface 106 (.agg #[.int .i64 7, .int .i64 xt, .int .i64 (j : Int), .iface 136 (.pointer (some (weightA aM aG 7)))])] rfl (by omega) rfl (by intro i u hi; rw [Addr.add_lit, Nat.zero_add]; show (wr.alloc (.cells #[.iface 106 (.agg #[.int .i64 7, .int .i64 xt, .int .i64 (j : Int), .iface 136 (.pointer (some (weightA aM aG 7)))])] 90)).cell? _ = _; rw [World.cell?_alloc_new]; simpa using hi) (by simp [Value.oneCell']) (by have := HL2.out; omega) (by show w.heap.size ≤ (wr.alloc (.cells #[.iface 106 (.agg #[.int .i64 7, .int .i64 xt, .int .i64 (j : Int), .iface 136 (.pointer (some (weightA aM aG 7)))])] 90)).heap.size; simp; omega) ?_
            intro g9 cd w9 hown9 hg9 hat9
            have hgA : (wr.alloc (.cells #[.iface 106 (.agg #[.int .i64 7, .int .i64 xt, .int .i64 (j : Int), .iface 136 (.pointer (some (weightA aM aG 7)))])] 90)).grownBy w9 (Value.ownBlock (.slice A2 oj.length c2)) := ⟨hg9.os, hg9.tape, hg9.output, hg9.size, hg9.block⟩
            obtain ⟨bx6, bx7, ow7, ko7, be7⟩ := Boxed.appended (tmp := .cells #[.iface 106 (.agg #[.int .i64 7, .int .i64 xt, .int .i64 (j : Int), .iface 136 (.pointer (some (weightA aM aG 7)))])] 90) hx' (by decide) hr' (by omega) (by omega) hown9 hgA
            have c6 := bx6.cell
            have z6 := bx6.frozen
            refine hK3.out _ _ trivial (fun _ => ?_)
            refine wpAnyH_ready (rs := [6]) (by kernel_rfl) (by simp) ?_
            refine AllReadyH.cons rfl (fun K4 hK4 => ?_) AllReadyH.nil
            rw [if_pos (by rfl)]
            go_simp
            refine hK4.out _ _ trivial (fun _ => ?_)
            refine wpAnyH_done (by kernel_rfl) ?_ _
            gi_wp2
            go_roundw
            case rel =>
              refine ⟨j + 1, .slice (some ⟨g9, 0, none⟩) (oj.length + 1) cd, by omega, by go_num, bx7, ?_, ?_, ?_, ?_, Below.trans hbl be7⟩
              · rw [HRF.out, HE.out, List.map_append, List.length_append]
                exact ow7
              · exact ((hb'.alloc (.cells #[.iface 106 (.agg #[.int .i64 7, .int .i64 xt, .int .i64 (j : Int), .iface 136 (.pointer (some (weightA aM aG 7)))])] 90)).kept hgA (hb'.not_row (by decide) hr')).kept (grownBy_setCell' _ _ _) (fun e => by injection e; omega)
              · refine hkp.trans ((KpB.below (SpW.spare T) ((Below.refl _ wr).alloc (Nat.le_refl _) (.cells #[.iface 106 (.agg #[.int .i64 7, .int .i64 xt, .int .i64 (j : Int), .iface 136 (.pointer (some (weightA aM aG 7)))])] 90))).trans (KpB.append (hx'.alloc _).cell hgA ?_ (own_away hx' (by decide) hr')))
                rcases hat9 with h | h
                · exact .inl h.symm
                · exact .inr (fun g hg => by simp [Value.ownBlock] at hg; subst hg; exact h)
              · exact hkf.trans (ko7.from _)
            case measure => simp [intOf]; omega
      · obtain rfl : j = 8 := by omega
        gi_wp2
        exact ⟨(KeepsFrom.of_grownBy (below_grownBy HBW.out) (fun _ e => by cases e)).trans hkf, (KpB.below (SpW.spare T) HBW.out).trans hkp, ⟨v', hx', by rw [HS.out, HOD.out]; exact hr'⟩, hb', Below.trans HB6.out hbl⟩
  case done =>
    rintro D W hD ⟨⟨v, hbx, hrow⟩, hbb, hw⟩ hK
    have c1 := hbx.cell
    rw [List.take_length, ← HD.out] at hrow
    obtain ⟨A', c', rfl⟩ := row_form hrow
    gi_wp2
    refine ⟨by simp, .inl ⟨_, _, rfl, run_takeDeferred hK, ?_⟩⟩
    refine ⟨_, results_tmp rfl _ _ _, ?_⟩
    have g7 := grownBy_putObj' W D (.deferred none)
    have sw := hw.size
    have h7 := ownsRow_putObj hrow (.deferred none) hK rfl
    exact ⟨A', c', rfl, ⟨h7, fun g hg => (h7.lt g hg).2⟩, hw.grown g7 hw.size (fun k e => by cases e; omega)⟩

/-- append(nil, make(T, n)...): the run. -/
theorem run_append_mk_nil {P : Program} (w : World) (t u ty e : TypeId) (i : TypeInfo) (z : Value) (ht : P.underlying t = some (.slice e)) (hu : P.underlying u = some (.int .i64)) (hi : P.info? e = some i) (hz : i.zero = some z)
    (n : Nat) (hn0 : n * i.size ≠ 0) (hnb : (n : Int) * i.bytes ≤ 281474976710656) (hn9 : n ≤ 1000000) (hn1 : 0 < n) (hfit : Builtin.nextslicecap n 0 * i.bytes ≤ 281474976710656) :
    (Builtin.append_ #[t, u] ty #[.slice none 0 0, .int .i64 n]).run P w =
      .ok (.slice (some ⟨w.heap.size, 0, none⟩) n (grownCap w n 0 e))
        (w.drew.alloc (.cells (Builtin.zeroCells z.cells n ++ Builtin.zeroCells z.cells (grownCap w n 0 e - n)) e)) := by
  have hn : ¬ (n ≤ 0) := by omega
  have h63' : ¬ (9223372036854775807 < (n : Int)) := by omega
  have h48' : ¬ (281474976710656 < Builtin.nextslicecap n 0 * i.bytes) := by omega
  have hw : IntKind.i64.wrap (n : Int) = n := IntWalk.i64_in _ (by omega)
  have hneg : ¬ ((n : Int) < 0) := by omega
  have hnb' : ¬ (281474976710656 < (n : Int) * i.bytes) := by omega
  have hne : ¬ (n = 0) := by omega
  simp [Builtin.append_, run_underlying ht, run_underlying hu, sizeOf, typeInfo, zeroValue, hi, hz, Builtin.lenOf, hne, h63', h48', Question.forced, newRow, grownCap, asInt, asIntOf, hw, hneg, hnb', Builtin.firstCells]
  intro h; exact absurd h hn0

theorem wpList_append_mk_nil {P : Program} {w : World} {ops : Array Oper} {rest : List Oper} {o : Oper} {a : Act} {Q : Exit → Act → World → Prop} (hgd : o.guard = none) (s x : Operand) (t u : TypeId)
    (ho : o.op = .call { callee := .builtin .append, args := #[s, x], argTypes := #[t, u] })
    (e : TypeId) (by_ : Nat) (z : Value) (i : TypeInfo) (ht : P.underlying t = some (.slice e)) (hu : P.underlying u = some (.int .i64)) (hi : P.info? e = some i) (hz : i.zero = some z) (hsize : i.size = 1) (hby : i.bytes = by_) (hzs : z.cells.size = 1) (hb8 : by_ ≤ 1000)
    (lo : Nat) (hs : a.eval s = .slice none 0 0) (m : Nat) (hx : a.eval x = .int .i64 m) (hm : 0 < m) (hm2 : m ≤ 1000000) (hlo : lo ≤ w.heap.size)
    (h : ∀ (cd : Nat) (w' : World), m ≤ cd → OwR e 1 w' lo w'.heap.size (some ⟨w.heap.size, 0, none⟩) 0 cd [] → w.grownBy w' none → wpList P ops Q rest (a.put o.dst (.slice (some ⟨w.heap.size, 0, none⟩) m cd)) w') :
    wpList P ops Q (o :: rest) a w := by
  have hbytes : m * i.bytes ≤ 140737488355328 := by
    rw [hby]
    have : m * by_ ≤ 1000000 * 1000 := Nat.mul_le_mul hm2 hb8
    omega
  have hr := run_append_mk_nil (P := P) w t u o.type e i z ht hu hi hz m (by rw [hsize]; omega) (by have : ((m * i.bytes : Nat) : Int) ≤ 281474976710656 := by omega
                                                                                                    simpa using this) hm2 hm (growslice_fits (by omega) hbytes)
  have hge := grownCap_ge w m 0 e
  have hcm : grownCap w m 0 e ≤ maxLen := grownCap_le_maxLen w m 0 e (by simp only [maxLen]; omega)
  generalize hcap : grownCap w m 0 e = cap at *
  have hsz : (Builtin.zeroCells z.cells m ++ Builtin.zeroCells z.cells (cap - m)).size = cap * 1 := by
    simp only [Array.size_append, size_zeroCells, hzs]
    omega
  have ho2 : (w.drew.alloc (.cells (Builtin.zeroCells z.cells m ++ Builtin.zeroCells z.cells (cap - m)) e)).ownsRow lo e 1 (.slice (some ⟨w.heap.size, 0, none⟩) 0 cap) 0 [] :=
    ⟨by simp, .inr ⟨w.heap.size, cap, _, rfl, hlo, heap_alloc_new w.drew _, by omega, hcm, hsz, by simp⟩⟩
  refine wpList_plain hgd fun K hK => ?_
  unfold Oper.wp execOp
  simp only [ho, resolve, invoke, builtin, Sem.run_bind, Sem.run_pure, Result.andThen_ok, List.map_toArray, List.map_cons, List.map_nil, hs, hx, hr]
  exact hK _ _ (h cap _ hge ⟨ho2, fun g hg => (ho2.lt g hg).2⟩ ⟨rfl, rfl, rfl, by simp, fun k hk _ => Below.heap_alloc _ _ _ hk⟩)

set_option maxRecDepth 100000 in
set_option maxHeartbeats 1000000 in
theorem grow_any (N : Nat) (w : World) (hN : N ≤ 1000000) : Calls Tryz.prog 114 #[.slice none 0 0, .int .i64 N] w (RetR 90 1 w 0 []) := by
  obtain ⟨i0, hi0, hz0, hz1, hz2⟩ := info_parts infoEr
  have d0 : decide ((N : Int) < 0) = false := by simp
  by_cases h0 : N = 0
  · subst h0
    go_enter Tryz.func114, Tryz.ntmps114
    go_wp2_with fail
    go_ret
    exact ⟨none, 0, rfl, OwR.nil _ _ _ _ _, Below.refl _ _⟩
  · have d1 : decide ((0 : Int) < (N : Int)) = true := by simp; omega
    go_enter Tryz.func114, Tryz.ntmps114
    go_wp2_with (at_builtin; refine wpList_append_mk_nil rfl (.tmp 20) (.tmp 21) 59 3 rfl 90 16 _ i0 Tryz.underlying59 Tryz.underlying3 hi0 hz0 hz1 hz2 rfl (by omega) w.heap.size rfl N rfl (by omega) hN (Nat.le_refl _) ?_; intro cd w2 hcd ho2 hg2)
    go_ret
    exact ⟨_, cd, rfl, ho2, below_grown hg2 (Nat.le_refl _) (fun _ e => by cases e)⟩

theorem own_form {W : World} {base e size k : Nat} {v : Value} {xs : List Value} (h : W.ownsRow base e size v k xs) : ∃ A c, v = .slice A k c := by
  rcases h.2 with ⟨rfl, rfl⟩ | ⟨g, cap, cur, rfl, _⟩
  · exact ⟨none, 0, rfl⟩
  · exact ⟨_, cap, rfl⟩

/-- A row that is a part. -/
structure Pt where
  a : Option Addr
  n : Nat
  c : Nat
  l : List Value
def pt0 : Pt := ⟨none, 0, 0, []⟩
def pts (ps : List Pt) : List Value := ps.flatMap (·.l)
theorem pts_take (ps : List Pt) (k : Nat) (hk : k < ps.length) : pts (ps.take (k + 1)) = pts (ps.take k) ++ (ps.getD k pt0).l := by
  unfold pts
  rw [List.take_succ_eq_append_getElem hk, List.flatMap_append, show ps.getD k pt0 = ps[k] by simp [List.getD_eq_getElem?_getD, hk]]
  simp

set_option maxRecDepth 100000 in
set_option maxHeartbeats 4000000 in
theorem concat_any (ps : List Pt) (S lo : Nat) (w : World) (hps : ps.length ≤ 8) (hS : ∀ k, k < ps.length → w.cell? ⟨S, k, none⟩ = some (.slice (ps.getD k pt0).a (ps.getD k pt0).n (ps.getD k pt0).c)) (hSl : S < w.heap.size)
    (hP : ∀ p ∈ ps, OwR 90 1 w lo w.heap.size p.a p.n p.c p.l ∧ p.n ≤ 40000 ∧ ∀ u ∈ p.l, u.oneCell' = true) :
    Calls Tryz.prog 87 #[.slice (some ⟨S, 0, none⟩) ps.length ps.length] w (RetR 90 1 w (pts ps).length (pts ps)) := by
  obtain ⟨i0, hi0, hz0, hz1, hz2⟩ := info_parts infoEr
  have HP : Hid (∀ k, k < ps.length → OwR 90 1 w lo w.heap.size (ps.getD k pt0).a (ps.getD k pt0).n (ps.getD k pt0).c (ps.getD k pt0).l ∧ (ps.getD k pt0).n ≤ 40000 ∧ ∀ u ∈ (ps.getD k pt0).l, u.oneCell' = true) := fun k hk => by
    rw [show ps.getD k pt0 = ps[k] by simp [List.getD_eq_getElem?_getD, hk]]; exact hP _ (List.getElem_mem hk)
  have HLen : Hid (∀ k, k ≤ ps.length → (pts (ps.take k)).length ≤ 40000 * k) := fun k => by
    induction k with
    | zero => intro _; simp [pts]
    | succ k ih =>
      intro hk
      have h1 := ih (by omega)
      obtain ⟨h2, h3, _⟩ := HP.out k (by omega)
      have h4 := h2.len
      rw [pts_take ps k (by omega), List.length_append]
      omega
  have HS := Lib.hid hS
  clear hP hS
  go_enter Tryz.func87, Tryz.ntmps87
  go_wp2_with fail
  go_loopw [3, 11] (fun s i wr => ∃ k : Nat, k ≤ ps.length ∧ i = .int .i64 k ∧ s = .int .i64 ((pts (ps.take k)).length : Nat) ∧ wr = w) (fun _ i _ => ps.length - (intOf i).toNat)
  case atStart => exact ⟨0, Nat.zero_le _, rfl, by simp [pts], rfl⟩
  case round =>
    obtain ⟨k, hk, rfl, rfl, rfl⟩ := hrel
    by_cases hlt : k < ps.length
    · have hc := HS.out k hlt
      have HT := Lib.hid (pts_take ps k hlt)
      have hl1 := HLen.out k (by omega)
      obtain ⟨o1, o2, _⟩ := HP.out k hlt
      have HO := Lib.hid o1.len
      clear o1
      generalize pts (ps.take k) = L at *
      generalize ps.getD k pt0 = p at *
      obtain ⟨pa, pn, pc, pl⟩ := p
      simp only at hc o2 HO HT
      generalize hll : L.length = ll at *
      have d1 : decide ((ll : Int) + (pn : Int) < 0) = false := by simp; omega
      go_wp2_with fail
      go_roundw
      case rel =>
        refine ⟨k + 1, by omega, by go_num, ?_, by first | rfl | trivial⟩
        rw [HT.out, List.length_append, HO.out, hll]
        go_num
      case measure => simp [intOf]; omega
    · obtain rfl : k = ps.length := by omega
      rw [List.take_length]
      have hlT := HLen.out ps.length (Nat.le_refl _)
      rw [List.take_length] at hlT
      obtain ⟨wb, rfl⟩ : ∃ wb, wb = wr := ⟨_, rfl⟩
      go_wp2_with fail
      refine (grow_any (pts ps).length wb (by omega)).mono ?_
      rintro e w2 ⟨A2, c2, rfl, o2, b2⟩
      have hs2 := b2.size
      go_wp2_with fail
      go_loopw [6, 27] (fun v i wz => ∃ (k : Nat) (A' : Option Addr) (c' : Nat), k ≤ ps.length ∧ i = .int .i64 k ∧ v = .slice A' (pts (ps.take k)).length c' ∧ OwR 90 1 wz wb.heap.size wz.heap.size A' (pts (ps.take k)).length c' (pts (ps.take k)) ∧ Below wb.heap.size wb wz) (fun _ i _ => ps.length - (intOf i).toNat)
      case atStart => exact ⟨0, A2, c2, Nat.zero_le _, rfl, by simp [pts], by simpa [pts] using o2, b2⟩
      case round =>
        obtain ⟨k, A', c', hk, rfl, rfl, hok, hg⟩ := hrel
        have sr := hg.size
        by_cases hlt : k < ps.length
        · have hc := (World.cell?_of_block (a := ⟨S, k, none⟩) (hg.block S hSl)).trans (HS.out k hlt)
          have HT := Lib.hid (pts_take ps k hlt)
          have hl1 := HLen.out k (by omega)
          obtain ⟨p1, p2, p3⟩ := HP.out k hlt
          have HO := Lib.hid p1.len
          have q1 := p1.below hg (Nat.le_refl _)
          have H3 := Lib.hid p3
          clear p1 p3
          generalize pts (ps.take k) = L at *
          generalize ps.getD k pt0 = p at *
          obtain ⟨pa, pn, pc, pl⟩ := p
          simp only at hc p2 HO HT q1 H3
          rcases q1.form with ⟨rfl, rfl, rfl⟩ | ⟨gp, rfl, g1, g2, g3, g4⟩
          · obtain rfl : pl = [] := List.eq_nil_of_length_eq_zero (by simpa using HO.out)
            go_wp2_with (at_builtin; refine wpList_append_own_none rfl (.tmp 31) (.tmp 32) 59 rfl wb.heap.size 90 i0 1 Tryz.underlying59 hi0 _ L.length L rfl hok.own rfl ?_)
            go_roundw
            case rel => exact ⟨k + 1, A', c', by omega, by go_num, by rw [HT.out]; simp, by rw [HT.out]; simpa using hok, hg⟩
            case measure => simp [intOf]; omega
          · have hcp := q1.own.cells (g := gp) rfl
            have HCP := Lib.hid hcp
            clear hcp
            go_wp2_with (at_builtin; refine wpList_append_own _ rfl (.tmp 31) (.tmp 32) 59 rfl wb.heap.size 90 i0 _ 1 16 Tryz.underlying59 hi0 hz0 hz1 hz2 rfl (by omega) _ L.length L rfl hok.own ⟨gp, 0, none⟩ pn pc pl rfl HO.out HCP.out H3.out (by simp only [maxLen]; omega) (by omega) (by omega) ?_; intro v5 w5 ho5 hg5 hi5; obtain ⟨A5, c5, rfl⟩ := own_form ho5)
            go_roundw
            case rel =>
              refine ⟨k + 1, A5, c5, by omega, by go_num, ?_, ?_, hg.grown hg5 hg.size (fun g e => (hok.row g e).1)⟩
              · rw [HT.out, List.length_append, HO.out, Nat.mul_one]
              · rw [HT.out, List.length_append, HO.out, Nat.mul_one]; exact ⟨ho5, fun g hg => (ho5.lt g hg).2⟩
            case measure => simp [intOf]; omega
        · obtain rfl : k = ps.length := by omega
          rw [List.take_length] at hok ⊢
          go_wp2_with fail
          go_ret
          exact ⟨A', c', rfl, hok, hg⟩

theorem concat5_any {aM aG : Addr} (l1 l2 l3 l4 l5 : List Dc) (A1 A2 A3 A4 A5 : Option Addr) (c1 c2 c3 c4 c5 lo : Nat) (w : World)
    (o1 : OwR 90 1 w lo w.heap.size A1 l1.length c1 (l1.map (erV aM aG))) (o2 : OwR 90 1 w lo w.heap.size A2 l2.length c2 (l2.map (erV aM aG))) (o3 : OwR 90 1 w lo w.heap.size A3 l3.length c3 (l3.map (erV aM aG))) (o4 : OwR 90 1 w lo w.heap.size A4 l4.length c4 (l4.map (erV aM aG))) (o5 : OwR 90 1 w lo w.heap.size A5 l5.length c5 (l5.map (erV aM aG)))
    (h1 : l1.length ≤ 40000) (h2 : l2.length ≤ 40000) (h3 : l3.length ≤ 40000) (h4 : l4.length ≤ 40000) (h5 : l5.length ≤ 40000) :
    Calls Tryz.prog 87 #[.slice (some ⟨w.heap.size, 0, none⟩) 5 5] (w.alloc (.cells #[.slice A1 l1.length c1, .slice A2 l2.length c2, .slice A3 l3.length c3, .slice A4 l4.length c4, .slice A5 l5.length c5] 59))
      (RetE aM aG (w.alloc (.cells #[.slice A1 l1.length c1, .slice A2 l2.length c2, .slice A3 l3.length c3, .slice A4 l4.length c4, .slice A5 l5.length c5] 59)) ((((l1 ++ l2) ++ l3) ++ l4) ++ l5)) := by
  have q := (Below.refl w.heap.size w).alloc (Nat.le_refl _) (.cells #[.slice A1 l1.length c1, .slice A2 l2.length c2, .slice A3 l3.length c3, .slice A4 l4.length c4, .slice A5 l5.length c5] 59)
  have hb : (w.alloc (.cells #[.slice A1 l1.length c1, .slice A2 l2.length c2, .slice A3 l3.length c3, .slice A4 l4.length c4, .slice A5 l5.length c5] 59)).heap[w.heap.size]? = some (.cells #[.slice A1 l1.length c1, .slice A2 l2.length c2, .slice A3 l3.length c3, .slice A4 l4.length c4, .slice A5 l5.length c5] 59 (0, 0)) := World.alloc_heap_new w _
  have hs : (w.alloc (.cells #[.slice A1 l1.length c1, .slice A2 l2.length c2, .slice A3 l3.length c3, .slice A4 l4.length c4, .slice A5 l5.length c5] 59)).heap.size = w.heap.size + 1 := by simp
  generalize w.alloc (.cells #[.slice A1 l1.length c1, .slice A2 l2.length c2, .slice A3 l3.length c3, .slice A4 l4.length c4, .slice A5 l5.length c5] 59) = W at *
  have key := concat_any [⟨A1, l1.length, c1, l1.map (erV aM aG)⟩, ⟨A2, l2.length, c2, l2.map (erV aM aG)⟩, ⟨A3, l3.length, c3, l3.map (erV aM aG)⟩, ⟨A4, l4.length, c4, l4.map (erV aM aG)⟩, ⟨A5, l5.length, c5, l5.map (erV aM aG)⟩] w.heap.size lo W (by simp)
    (fun k hk => by
      have hk5 : k < 5 := hk
      rcases (show k = 0 ∨ k = 1 ∨ k = 2 ∨ k = 3 ∨ k = 4 by omega) with rfl | rfl | rfl | rfl | rfl <;> simp [World.cell?, hb])
    (by omega)
    (fun p hp => by
      simp only [List.mem_cons, List.not_mem_nil, or_false] at hp
      rcases hp with rfl | rfl | rfl | rfl | rfl
      · exact ⟨(o1.below q (Nat.le_refl _)).more (Nat.le_refl _) (by omega), h1, ers_one aM aG l1⟩
      · exact ⟨(o2.below q (Nat.le_refl _)).more (Nat.le_refl _) (by omega), h2, ers_one aM aG l2⟩
      · exact ⟨(o3.below q (Nat.le_refl _)).more (Nat.le_refl _) (by omega), h3, ers_one aM aG l3⟩
      · exact ⟨(o4.below q (Nat.le_refl _)).more (Nat.le_refl _) (by omega), h4, ers_one aM aG l4⟩
      · exact ⟨(o5.below q (Nat.le_refl _)).more (Nat.le_refl _) (by omega), h5, ers_one aM aG l5⟩)
  have e : pts [⟨A1, l1.length, c1, l1.map (erV aM aG)⟩, ⟨A2, l2.length, c2, l2.map (erV aM aG)⟩, ⟨A3, l3.length, c3, l3.map (erV aM aG)⟩, ⟨A4, l4.length, c4, l4.map (erV aM aG)⟩, ⟨A5, l5.length, c5, l5.map (erV aM aG)⟩] = ((((l1 ++ l2) ++ l3) ++ l4) ++ l5).map (erV aM aG) := by simp [pts]
  rw [e, List.length_map] at key
  exact key

theorem d5_parts {xs : List Int} (hh : hasHead xs = true) : d5L xs = (((d1L xs ++ (looseL xs).map looseD) ++ shotD (headOf xs)) ++ cntDefs (storedL xs) (countsC (claimsC xs))) ++ ownDefs xs := by
  rw [own_defs hh]
  unfold d5L d4L d3L d2L shotD
  split <;> simp

/-- What allWrong answers. -/
def errsL (aN aM aG : Addr) (xs : List Int) : List Value := if imgB xs = true then (defectsL xs).map (erV aM aG) else [.iface 136 (.pointer (some aN))]

theorem box5 {w w' : World} {q : Nat} {B : Nat} (b : Below B w w') (hq : q < B) {v0 v1 v2 v3 v4 : Value} (h0 : w.cell? ⟨q, 0, none⟩ = some v0) (h1 : w.cell? ⟨q, 1, none⟩ = some v1) (h2 : w.cell? ⟨q, 2, none⟩ = some v2) (h3 : w.cell? ⟨q, 3, none⟩ = some v3) (h4 : w.cell? ⟨q, 4, none⟩ = some v4) :
    w'.cell? ⟨q, 0, none⟩ = some v0 ∧ w'.cell? ⟨q, 1, none⟩ = some v1 ∧ w'.cell? ⟨q, 2, none⟩ = some v2 ∧ w'.cell? ⟨q, 3, none⟩ = some v3 ∧ w'.cell? ⟨q, 4, none⟩ = some v4 :=
  ⟨(b.cell (p := ⟨q, 0, none⟩) hq).trans h0, (b.cell (p := ⟨q, 1, none⟩) hq).trans h1, (b.cell (p := ⟨q, 2, none⟩) hq).trans h2, (b.cell (p := ⟨q, 3, none⟩) hq).trans h3, (b.cell (p := ⟨q, 4, none⟩) hq).trans h4⟩

set_option maxRecDepth 100000 in
set_option maxHeartbeats 8000000 in
theorem allWrong_any (hC : ClaimsC) (hL : LooseC) (hCo : CountsC) (hSt : StoredC) (hT : TableC) {aN aM aG : Addr} (A : Option Addr) (n c : Nat) (xs : List Int) (w : World) (hG : GlE w aN aM aG) (hr : Rd w w.heap.size A n xs) (hn : n ≤ 2097152) (hnc : n ≤ c) :
    Calls Tryz.prog 59 #[.slice A n c] w (RetR 90 1 w (errsL aN aM aG xs).length (errsL aN aM aG xs)) := by
  have g0 := hG.noImg
  cases hi : imgB xs
  · have HE : Hid (errsL aN aM aG xs = [.iface 136 (.pointer (some aN))]) := by unfold errsL; rw [hi]; exact rfl
    have HR1 := Lib.hid (madeV 90 1 w #[.iface 136 (.pointer (some aN))] 1 w.heap.size (w.heap.size + 1) w.heap.size (Nat.le_refl _) rfl (by omega) (by omega) rfl)
    go_enter Tryz.func59, Tryz.ntmps59
    go_wp2_with fail
    refine (implImg_any A n c xs _ _ hr hn).mono ?_
    rintro e w' ⟨rfl, rfl⟩
    rw [hi]
    go_wp2_with fail
    go_ret
    rw [HE.out]
    exact ⟨_, 1, rfl, HR1.out.toR.more (Nat.le_refl _) (by simp), (Below.refl _ w).alloc (Nat.le_refl _) _⟩
  · have HE : Hid (errsL aN aM aG xs = (defectsL xs).map (erV aM aG)) := by unfold errsL; rw [hi]; exact rfl
    go_enter Tryz.func59, Tryz.ntmps59
    go_wp2_with fail
    refine (implImg_any A n c xs _ _ hr hn).mono ?_
    rintro e w' ⟨rfl, rfl⟩
    rw [hi]
    go_wp2_with fail
    refine (implHeadIn_any A n c xs w hr hn).mono ?_
    rintro e w1 ⟨rfl, b1⟩
    generalize hhd : headIn xs = r
    obtain ⟨⟨s, f, r, u, m⟩, is⟩ := r
    have HR := Lib.hid hhd
    clear hhd
    unfold hdV
    have b2 := b1.alloc b1.size (.cells #[.int .i64 s, .int .i64 f, .int .i64 r, .int .i64 u, .int .i64 m] 31)
    have hG2 := hG.below b2 hG.size
    have hGz := hG2.size
    have n2 := World.alloc_heap_new w1 (.cells #[.int .i64 s, .int .i64 f, .int .i64 r, .int .i64 u, .int .i64 m] 31)
    have s2 : (w1.alloc (.cells #[.int .i64 s, .int .i64 f, .int .i64 r, .int .i64 u, .int .i64 m] 31)).heap.size = w1.heap.size + 1 := by simp
    cases is
    · have HN : Hid (defectsL xs = [⟨1, 0, 0⟩]) := by unfold defectsL; rw [hi, (headIn_false HR.out).1]; exact rfl
      go_wp2_with fail
      refine (wrongBy_any _ _ _ _ hG2).mono ?_
      rintro e w' ⟨rfl, rfl⟩
      have hR := RetE.one aM aG w _ ⟨1, 0, 0⟩ b2
      unfold erV at hR ⊢
      go_wp2_with fail
      go_ret
      rw [HE.out, HN.out]
      unfold RetE at hR
      simpa [erV] using hR
    · have hh := (headIn_true HR.out).1
      have hho : headOf xs = ⟨s, f, r, u, m⟩ := (headIn_true HR.out).2
      have HN : Hid (defectsL xs = (((d1L xs ++ (looseL xs).map looseD) ++ shotD ⟨s, f, r, u, m⟩) ++ cntDefs (storedL xs) (countsC (claimsC xs))) ++ ownDefs xs) := by
        unfold defectsL; rw [hi, if_pos rfl, if_pos hh, d5_parts hh, hho]; exact rfl
      have K1 := Lib.hid (fun (W : World) (h : GlE W aN aM aG) (_ : Rd W W.heap.size A n xs) => wrongLength_any A n c xs W h hr.len hn)
      have K2 := Lib.hid (fun (W : World) (h : GlE W aN aM aG) (h' : Rd W W.heap.size A n xs) => wrongClaims_any hL A n c xs W h h' hn hnc)
      have K3 := Lib.hid (fun (W : World) (h : GlE W aN aM aG) => wrongShots_any s f r u m W h)
      have K4 := Lib.hid (fun (W : World) (h : GlE W aN aM aG) (h' : Rd W W.heap.size A n xs) => wrongCounts_any hSt hCo A n c xs W h h' hn hnc hh)
      have K5 := Lib.hid (fun (W : World) (h : GlE W aN aM aG) (h' : Rd W W.heap.size A n xs) => wrongWords_any hC hL hCo hT A n c xs W h h' hn hnc hh)
      have y1 : (d1L xs).length ≤ 40000 := by unfold d1L; split <;> simp
      have y2 : ((looseL xs).map looseD).length ≤ 40000 := by have := looseL_length xs; rw [List.length_map]; omega
      have y3 : (shotD ⟨s, f, r, u, m⟩).length ≤ 40000 := by unfold shotD; split <;> simp
      have y4 : (cntDefs (storedL xs) (countsC (claimsC xs))).length ≤ 40000 := by have := cntDefs_length (storedL xs) (countsC (claimsC xs)); omega
      have y5 : (ownDefs xs).length ≤ 40000 := by have := wrongs_length xs; rw [own_defs hh, List.length_map]; omega
      have r2 := (hr.below b2).more b2.size
      have HB2 := Lib.hid b2
      clear hho hh HR hi
      generalize d1L xs = l1 at *
      generalize (looseL xs).map looseD = l2 at *
      generalize shotD ⟨s, f, r, u, m⟩ = l3 at *
      generalize cntDefs (storedL xs) (countsC (claimsC xs)) = l4 at *
      generalize ownDefs xs = l5 at *
      go_wp2_with fail
      generalize w1.alloc (.cells #[.int .i64 s, .int .i64 f, .int .i64 r, .int .i64 u, .int .i64 m] 31) = v2 at *
      generalize w1.heap.size = q at *
      have p0 : v2.cell? ⟨q, 0, none⟩ = some (.int .i64 s) := by simp [World.cell?, n2]
      have p1 : v2.cell? ⟨q, 1, none⟩ = some (.int .i64 f) := by simp [World.cell?, n2]
      have p2 : v2.cell? ⟨q, 2, none⟩ = some (.int .i64 r) := by simp [World.cell?, n2]
      have p3 : v2.cell? ⟨q, 3, none⟩ = some (.int .i64 u) := by simp [World.cell?, n2]
      have p4 : v2.cell? ⟨q, 4, none⟩ = some (.int .i64 m) := by simp [World.cell?, n2]
      have hql : q < v2.heap.size := by omega
      have hGd : GlE v2.drew aN aM aG := ⟨hG2.size, hG2.noImg, hG2.mild, hG2.grave⟩
      have hrd : Rd v2.drew v2.heap.size A n xs := r2
      clear n2 s2 hG2 r2 b2 b1 g0 hr hG
      go_region_held3 (fun w' => w'.cell? ⟨q, 0, none⟩ = some (.int .i64 s) ∧ w'.cell? ⟨q, 1, none⟩ = some (.int .i64 f) ∧ w'.cell? ⟨q, 2, none⟩ = some (.int .i64 r) ∧ w'.cell? ⟨q, 3, none⟩ = some (.int .i64 u) ∧ w'.cell? ⟨q, 4, none⟩ = some (.int .i64 m))
        (first
          | (go_split_ands; exact box5 bF (by simp; omega) (by assumption) (by assumption) (by assumption) (by assumption) (by assumption))
          | (go_split_ands; exact box5 bE (by omega) (by assumption) (by assumption) (by assumption) (by assumption) (by assumption))
          | (go_split_ands; exact box5 bD (by omega) (by assumption) (by assumption) (by assumption) (by assumption) (by assumption))
          | (go_split_ands; exact box5 bC (by omega) (by assumption) (by assumption) (by assumption) (by assumption) (by assumption))
          | (go_split_ands; exact box5 bB (by omega) (by assumption) (by assumption) (by assumption) (by assumption) (by assumption))
          | (go_split_ands; exact box5 bA hql (by assumption) (by assumption) (by assumption) (by assumption) (by assumption))
          | (go_split_ands; exact box5 ((Below.refl _ wE).alloc (Nat.le_refl _) _) (by omega) (by assumption) (by assumption) (by assumption) (by assumption) (by assumption))
          | (go_split_ands; exact ⟨by assumption, by assumption, by assumption, by assumption, by assumption⟩)
          | go_keep)
        (first
          | (go_at_call 88; refine (K1.out v2.drew hGd hrd).mono ?_; rintro e wA ⟨A1, c1, rfl, o1, bA⟩; have hzA : v2.heap.size ≤ wA.heap.size := bA.size)
          | (go_at_call 89; refine (K2.out wA (hGd.below bA hGz) ((hrd.below bA).more bA.size)).mono ?_; rintro e wB ⟨A2, c2, rfl, o2, bB⟩; have szB := bB.size; have hzB : v2.heap.size ≤ wB.heap.size := Nat.le_trans hzA bB.size)
          | (go_at_call 90; refine (K3.out wB ((hGd.below bA hGz).below bB (Nat.le_trans hGz hzA))).mono ?_; rintro e wC ⟨A3, c3, rfl, o3, bC⟩; have szC := bC.size; have hzC : v2.heap.size ≤ wC.heap.size := Nat.le_trans hzB bC.size)
          | (go_at_call 91; refine (K4.out wC (((hGd.below bA hGz).below bB (Nat.le_trans hGz hzA)).below bC (Nat.le_trans hGz hzB)) ((((((hrd.below bA).more bA.size).below bB).more bB.size).below bC).more bC.size)).mono ?_; rintro e wD ⟨A4, c4, rfl, o4, bD⟩; have szD := bD.size; have hzD : v2.heap.size ≤ wD.heap.size := Nat.le_trans hzC bD.size)
          | (go_at_call 92; refine (K5.out wD ((((hGd.below bA hGz).below bB (Nat.le_trans hGz hzA)).below bC (Nat.le_trans hGz hzB)).below bD (Nat.le_trans hGz hzC)) ((((((((hrd.below bA).more bA.size).below bB).more bB.size).below bC).more bC.size).below bD).more bD.size)).mono ?_; rintro e wE ⟨A5, c5, rfl, o5, bE⟩; have szE := bE.size; have hzE : v2.heap.size ≤ wE.heap.size := Nat.le_trans hzD bE.size)
          | (go_at_call 87; refine (concat5_any (aM := aM) (aG := aG) l1 l2 l3 l4 l5 A1 A2 A3 A4 A5 c1 c2 c3 c4 c5 v2.heap.size wE ?_ ?_ ?_ ?_ ?_ y1 y2 y3 y4 y5).mono ?_; exact ((((o1.below bB (Nat.le_refl _)).below bC (by omega)).below bD (by omega)).below bE (by omega)).more (Nat.le_refl _) (by omega); exact (((o2.below bC (Nat.le_refl _)).below bD (by omega)).below bE (by omega)).more (by omega) (by omega); exact ((o3.below bD (Nat.le_refl _)).below bE (by omega)).more (by omega) (by omega); exact (o4.below bE (Nat.le_refl _)).more (by omega) (by omega); exact o5.more (by omega) (Nat.le_refl _); rintro e wF ⟨A6, c6, rfl, o6, bF⟩))
      go_wp2_with fail
      go_ret
      rw [HE.out, HN.out, List.length_map]
      have e1 : Below v2.heap.size v2 wA := below_more (Below.refl v2.heap.size v2).drew bA (Nat.le_refl _)
      have e2 := below_more e1 bB e1.size
      have e3 := below_more e2 bC e2.size
      have e4 := below_more e3 bD e3.size
      have e5 := below_more e4 bE e4.size
      have e6 := e5.alloc e5.size (.cells #[.slice A1 l1.length c1, .slice A2 l2.length c2, .slice A3 l3.length c3, .slice A4 l4.length c4, .slice A5 l5.length c5] 59)
      have e7 := below_more e6 bF e6.size
      exact ⟨A6, c6, by simp, o6.more (Nat.le_trans HB2.out.size e6.size) (Nat.le_refl _), below_more HB2.out e7 HB2.out.size⟩

end Go.Proofs.YtiokfhdkbpoadaaGreatDoor
