/- The exact law of chapter 12, walked, given what the program's own function answers. Cleared (chapter 12), the program's side: the loose claims, from the last one on; the whole. Clearing (chapter 12): what the program's own function answers. -/
import Derived.Test.YtibokhkohanoaaaGreatQ5
import Derived.Test.YtibokhkohanoaaaGreatY5
import Derived.Test.YtibokhkohanoaaaGreatQC
import Derived.Test.YtibokhkohanoaaaGreatXR
import Derived.Test.YtibokhkohanoaaaGreatY2
import Derived.Test.YtibokhkohanoaaaGreatGdi
import Derived.Test.YtibokhkohanoaaaGreatX2
namespace Go.Proofs.YtibokhkohanoaaaGreat
open Go.RowKit
open Go.RowKit Go.Shelf

theorem setCl0_le (zs ws : List Int) (hw : ws.length ≤ 8) : (setCl zs 0 ws).length ≤ zs.length + 8 := by
  unfold setCl
  simp
  omega
theorem keep_len (h : Hd) (kw : List Int) : ∀ (k : Nat) (z : List Int), ((List.range k).foldl (keepStep h kw) z).length = z.length
  | 0, _ => rfl
  | k + 1, z => by rw [range_next]; unfold keepStep; rw [List.length_set]; exact keep_len h kw k z
theorem clearedL_length (xs : List Int) : (clearedL xs).length ≤ 520 := by
  unfold clearedL
  split
  · rename_i hh
    have hm := manyN_le (hasHead_img hh)
    have h1 := setCl0_le (clr2 xs) (hdW (clrHead xs)) (by simp [hdW])
    have h2 : (clr2 xs).length = (whole xs).length := by
      unfold clr2
      rw [clr_len]
      unfold clr1 keepL
      split
      · exact keep_len _ _ _ _
      · rfl
    rw [whole_length] at h2
    unfold clrC
    omega
  · simp

def ClearedC : Prop := ∀ (A : Option Addr) (n c : Nat) (xs : List Int) (w : World), Rd w w.heap.size A n xs → n ≤ 2097152 → n ≤ c → Calls Tryz.prog 60 #[.slice A n c] w (Ret w (clearedL xs))

attribute [local go_sem] Oper.semAt_some

/-- A claim as a value. -/
def clA (c : Cm) : Value := .agg #[.int .i64 c.kind, .int .i64 c.frm, .int .i64 c.slot, .int .i64 c.place, .int .i64 c.target, .bool c.good]

theorem back_in (A : Option Addr) (n c : Nat) (nn : Nat) (w : World) :
    CallsIn Fence.wide nn Tryz.prog 94 #[.slice A n c] w fun e w' => e = .returned (.func (.func 113) #[] #[.pointer (some ⟨w.heap.size, 0, none⟩)]) ∧ w' = w.alloc (.cells #[.slice A n c] 59) := by
  refine callsIn_of_wp Tryz.func94 rfl trivial ?_ rfl
  simp only [Tryz.ntmps94, List.size_toArray, List.length_cons, List.length_nil, Nat.reduceAdd, Nat.reduceSub, Array.replicate_succ, Array.replicate_zero, List.push_toArray, List.append_toArray, List.nil_append, List.cons_append]
  gi_wp2
  go_ret
  exact ⟨rfl, rfl⟩

set_option maxRecDepth 100000 in
set_option maxHeartbeats 4000000 in
/-- slices.Backward hands over the claims from the last one on. -/
theorem back_list (S : Nat → Prop) (nn Bs lo hi : Nat) (hnn : 1 ≤ nn) (A : Option Addr) (cg : Nat) (L : List Cm) (w : World) (hl : L.length ≤ 10000) (hBs : Bs < w.heap.size) (hbox : w.cell? ⟨Bs, 0, none⟩ = some (.slice A L.length cg)) (hr : OwR 62 6 w lo hi A L.length cg (L.flatMap cmV)) (hhi : hi ≤ w.heap.size)
    (hS1 : ¬ S Bs) (hS2 : ∀ g, A = some ⟨g, 0, none⟩ → ¬ S g) :
    SeqList Fence.wide nn Tryz.prog 113 #[.pointer (some ⟨Bs, 0, none⟩)] (fun k => #[.int .i64 ((L.length - 1 - k : Nat) : Int), clA (L.getD (L.length - 1 - k) cm0)]) L.length (KpS S) w := by
  intro l J W hW hJ h0 hY
  have hbox := (hW.cell (p := ⟨Bs, 0, none⟩) hBs).trans hbox
  have hr := hr.below hW hhi
  show CallsIn Fence.wide nn Tryz.prog 113 #[.func (.yield l) #[] #[], .pointer (some ⟨Bs, 0, none⟩)] W _
  refine callsIn_of_wp Tryz.func113 rfl trivial ?_ rfl
  simp only [Tryz.ntmps113, List.size_toArray, List.length_cons, List.length_nil, Nat.reduceAdd, Nat.reduceSub, Array.replicate_succ, Array.replicate_zero, List.push_toArray, List.append_toArray, List.nil_append, List.cons_append]
  have HY := Lib.hid hY
  have HG := Lib.hid hr
  have HS2 := Lib.hid hS2
  have HB := Lib.hid hbox
  have HNN := Lib.hid hnn
  obtain ⟨N, hN⟩ : ∃ N, N = L.length := ⟨_, rfl⟩
  rw [← hN] at hbox hl
  have HN := Lib.hid hN
  clear hY hJ hr hS2 hW hnn
  rw [← hN]
  clear hN
  gi_wp2
  gi_loopw [3] (fun i wr => ∃ m : Nat, m ≤ N ∧ i = .int .i64 ((m : Int) - 1) ∧ J (N - m) wr ∧ KpS S W wr) (fun i _ => (intOf i + 1).toNat)
  case atStart => exact ⟨N, Nat.le_refl _, rfl, by rw [Nat.sub_self]; exact h0, KpS.refl _ _⟩
  case round =>
    obtain ⟨m, hm, rfl, hJs, hkp⟩ := hrel
    have hbx : wr.cell? ⟨Bs, 0, none⟩ = some (.slice A N cg) := by rw [HN.out]; exact hkp.2 _ _ hS1 HB.out
    have HK := Lib.hid hkp
    clear hkp h0 hbox
    rcases m with _ | j
    · rw [show (((0 : Nat) : Int) - 1) = -1 from rfl]
      gi_wp2
      go_end0
      exact ⟨⟨_, rfl⟩, by simpa using hJs⟩
    · rw [show (((j + 1 : Nat) : Int) - 1) = (j : Int) by omega]
      have hjl : j < L.length := by have := HN.out; omega
      obtain ⟨g, rfl, hg1, hg2, hg3, hce⟩ := cmr_cells8 HG.out hjl
      have hce : ∀ i v, i < 6 → (cmV (L.getD j cm0))[i]? = some v → wr.cell? ⟨g, j * 6 + i, none⟩ = some v := fun i v hi hv => HK.out.2 _ _ (HS2.out g rfl) ((hce i hi).trans hv)
      obtain ⟨fn, tmps, assign, body, hy, hR⟩ := HY.out (N - (j + 1)) wr (by have := HN.out; omega) hJs
      rw [show L.length - 1 - (N - (j + 1)) = j by have := HN.out; omega] at hy
      generalize L.getD j cm0 = x at *
      obtain ⟨xk, xf, xs', xp, xt, xg⟩ := x
      have e0 : wr.cell? ⟨g, j * 6, none⟩ = some (.int .i64 xk) := hce 0 _ (by omega) rfl
      have e1 : wr.cell? ⟨g, j * 6 + 1, none⟩ = some (.int .i64 xf) := hce 1 _ (by omega) rfl
      have e2 : wr.cell? ⟨g, j * 6 + 2, none⟩ = some (.int .i64 xs') := hce 2 _ (by omega) rfl
      have e3 : wr.cell? ⟨g, j * 6 + 3, none⟩ = some (.int .i64 xp) := hce 3 _ (by omega) rfl
      have e4 : wr.cell? ⟨g, j * 6 + 4, none⟩ = some (.int .i64 xt) := hce 4 _ (by omega) rfl
      have e5 : wr.cell? ⟨g, j * 6 + 5, none⟩ = some (.bool xg) := hce 5 _ (by omega) rfl
      clear hce
      unfold clA at hy
      dsimp only at hy
      have hjN : j < N := by omega
      gi_wp2
      refine ⟨fun _ => HNN.out, hR.mono ?_⟩
      rintro e W3 ⟨rfl, hJ3, hk3⟩
      have hk3 := HK.out.trans hk3
      have hJ3' : J (N - j) W3 := by
        rw [show N - (j + 1) + 1 = N - j by omega] at hJ3
        exact hJ3
      gi_wp2
      go_roundw
      case rel => exact ⟨j, by omega, by go_num, hJ3', hk3⟩
      case measure => simp [intOf]

/-- The claims, from the last one on: where k of them are dropped. -/
def dropK (L : List Cm) (s0 : Hd × List Int) (k : Nat) : Hd × List Int := dropsC (L.drop (L.length - k)) s0
theorem dropK_zero (L : List Cm) (s0 : Hd × List Int) : dropK L s0 0 = s0 := by unfold dropK; rw [Nat.sub_zero, List.drop_length]; exact rfl
theorem dropK_all (L : List Cm) (s0 : Hd × List Int) : dropK L s0 L.length = dropsC L s0 := by unfold dropK; rw [Nat.sub_self]; exact rfl
theorem drop_last (L : List Cm) {k : Nat} (hk : k < L.length) : L.drop (L.length - (k + 1)) = L.getD (L.length - 1 - k) cm0 :: L.drop (L.length - k) := by
  rw [List.drop_eq_getElem_cons (show L.length - (k + 1) < L.length by omega), show L.length - (k + 1) + 1 = L.length - k by omega, List.getD_eq_getElem?_getD, List.getElem?_eq_getElem (show L.length - 1 - k < L.length by omega)]
  simp only [Option.getD_some]
  congr 2 <;> omega
theorem dropK_step (L : List Cm) (s0 : Hd × List Int) {k : Nat} (hk : k < L.length) : dropK L s0 (k + 1) = dropC (L.getD (L.length - 1 - k) cm0) (dropK L s0 k) := by
  unfold dropK
  rw [drop_last L hk]
  rfl
/-- Each step stays within head and words. -/
def StepsOk (N : Nat) (L : List Cm) (s0 : Hd × List Int) : Prop := ∀ k, k < L.length → DropOk N (dropK L s0 k).1 (L.getD (L.length - 1 - k) cm0)
theorem steps_ok {b : List Int} (hh : hasHead b = true) : StepsOk (manyN b * 8) (looseL b) (headOf b, whole b) := by
  intro k hk
  have e : looseL b = (looseL b).take ((looseL b).length - (k + 1)) ++ (looseL b).getD ((looseL b).length - 1 - k) cm0 :: (looseL b).drop ((looseL b).length - k) := by
    rw [← drop_last _ hk, List.take_append_drop]
  exact drops_ok hh e

/-- Between two rounds. -/
def DrI (w : World) (Bm p q N : Nat) (L : List Cm) (s0 : Hd × List Int) (k : Nat) (W : World) : Prop :=
  Boxed W Bm 84 (.pointer (some ⟨p, 0, none⟩)) ∧ ImAt W p q (dropK L s0 k).1 (dropK L s0 k).2 ∧ (dropK L s0 k).2.length = N ∧ Grow2 w W p q
/-- The round's claim lies in a box of its own. -/
def DrX (Bm p q : Nat) (L : List Cm) (tm : Nat → Nat → Array Value) (k : Nat) (a : Act) (W : World) : Prop :=
  ∃ Bx, Bm < Bx ∧ p < Bx ∧ q < Bx ∧ W.heap[Bx]? = some (.cells #[.int .i64 (L.getD (L.length - 1 - k) cm0).kind, .int .i64 (L.getD (L.length - 1 - k) cm0).frm, .int .i64 (L.getD (L.length - 1 - k) cm0).slot, .int .i64 (L.getD (L.length - 1 - k) cm0).place, .int .i64 (L.getD (L.length - 1 - k) cm0).target, .bool (L.getD (L.length - 1 - k) cm0).good] 62 (0, 0)) ∧ a = { tmps := tm k Bx, defers := [] }
theorem DrI.own {w : World} {Bm p q N B : Nat} {L : List Cm} {s0 : Hd × List Int} (h1 : w.heap.size ≤ B) (h2 : p < B) (h3 : q < B) (h4 : Bm < B) : OwnFrom B (DrI w Bm p q N L s0) := fun s X Y row hs hg hr => by
  obtain ⟨b, o, e, l⟩ := hs
  have far : ∀ k, k < B → some k ≠ row := fun k hk e => by have := (hr _ e.symm).1; omega
  refine ⟨b.kept hg (far _ h4), o.keep (hg.block p o.ltp (far _ h2)) (hg.block q o.ltq (far _ h3)), e, ⟨hg.os.trans l.os, hg.tape.trans l.tape, hg.output.trans l.output, Nat.le_trans l.size hg.size, fun k hk hp hq => (hg.block k (Nat.lt_of_lt_of_le hk l.size) (far _ (by omega))).trans (l.block k hk hp hq)⟩⟩
theorem DrX.own {Bm p q B : Nat} {L : List Cm} {tm : Nat → Nat → Array Value} {k : Nat} {a : Act} : OwnFrom B (fun (_ : Unit) W => DrX Bm p q L tm k a W) := fun _ X Y row hs hg hr => by
  obtain ⟨Bx, h1, h2, h3, h4, h5⟩ := hs
  refine ⟨Bx, h1, h2, h3, ?_, h5⟩
  refine (hg.block Bx (Array.getElem?_eq_some_iff.1 h4).1 (fun e => ?_)).trans h4
  obtain ⟨_, o, ho, hc⟩ := hr _ e.symm
  rw [h4] at ho
  cases ho
  cases hc

set_option maxRecDepth 100000 in
set_option maxHeartbeats 4000000 in
theorem dropAll_any (p q lo hi : Nat) (A : Option Addr) (cg : Nat) (L : List Cm) (s0 : Hd × List Int) (w : World) (H : ImAt w p q s0.1 s0.2) (hok : StepsOk s0.2.length L s0) (ho2 : s0.2.length ≤ 512) (hl : L.length ≤ 10000)
    (hr : OwR 62 6 w lo hi A L.length cg (L.flatMap cmV)) (hhi : hi ≤ w.heap.size) (hS : ∀ g, A = some ⟨g, 0, none⟩ → g ≠ p ∧ g ≠ q) :
    Calls Tryz.prog 76 #[.pointer (some ⟨p, 0, none⟩), .slice A L.length cg] w fun e w' => e = .returned (.tuple #[]) ∧ ImAt w' p q (dropsC L s0).1 (dropsC L s0).2 ∧ Grow2 w w' p q := by
  refine (callsIn_wide (n := 5)).1 ?_
  refine callsIn_of_wp_marks Tryz.func76 rfl trivial ?_ rfl
  simp only [Tryz.ntmps76, List.size_toArray, List.length_cons, List.length_nil, Nat.reduceAdd, Nat.reduceSub, Array.replicate_succ, Array.replicate_zero, List.push_toArray, List.append_toArray, List.nil_append, List.cons_append]
  have H0 := Lib.hid H
  have lp := H.ltp
  have lq := H.ltq
  have HR := Lib.hid hr
  have HOK := Lib.hid hok
  clear H hr hok
  gi_wp2_with (refine ⟨trivial, ?_⟩; gi_at_call 94; refine (back_in A _ cg _ _).mono ?_; rintro e w' ⟨rfl, rfl⟩)
  have b1 := (Below.refl w.heap.size w).alloc (Nat.le_refl _) (.cells #[.pointer (some ⟨p, 0, none⟩)] 84)
  have b2 := b1.alloc b1.size (.cells #[.slice A L.length cg] 59)
  have x1 : Boxed (w.alloc (.cells #[.pointer (some ⟨p, 0, none⟩)] 84)) w.heap.size 84 (.pointer (some ⟨p, 0, none⟩)) := Boxed.new _ _ _
  have x2 := x1.alloc (.cells #[.slice A L.length cg] 59)
  have y2 := Boxed.new (w.alloc (.cells #[.pointer (some ⟨p, 0, none⟩)] 84)) 59 (.slice A L.length cg)
  rw [World.size_alloc] at y2
  have H2 := H0.out.below b2
  have G2 := (Grow2.refl w p q).below b2
  have R2 := HR.out.below b2 hhi
  have z2 : ((w.alloc (.cells #[.pointer (some ⟨p, 0, none⟩)] 84)).alloc (.cells #[.slice A L.length cg] 59)).heap.size = w.heap.size + 2 := by simp
  generalize (w.alloc (.cells #[.pointer (some ⟨p, 0, none⟩)] 84)).alloc (.cells #[.slice A L.length cg] 59) = w2 at *
  clear b1 x1 b2
  refine wpIn_range_list rfl (by omega) (gf := 113) (lb := #[.pointer (some ⟨w.heap.size + 1, 0, none⟩)]) rfl trivial (enters_of Tryz.func113 (by kernel_rfl) rfl)
    (back_list (fun b => b = p ∨ b = q) 4 (w.heap.size + 1) lo hi (by omega) A cg L w2 hl (by omega) y2.cell R2 (by omega) (by omega) (fun g hg => by have := hS g hg; omega)) KpS.trans (fun W l o o' _ h ho _ => KpS.put o' h ho) (Below.refl _ _) (fun _ => rfl)
    (DrI w w.heap.size p q s0.2.length L s0) (DrI.own (by omega) (by omega) (by omega) (by omega)) ⟨x2, by rw [dropK_zero]; exact H2, by rw [dropK_zero], G2⟩
    (DrX w.heap.size p q L (fun k Bx => #[.pointer (some ⟨p, 0, none⟩), .slice A L.length cg, .pointer (some ⟨w.heap.size, 0, none⟩), undef, undef, .pointer (some ⟨Bx, 0, none⟩), .slice A L.length cg,
      .func (.func 113) #[] #[.pointer (some ⟨w.heap.size + 1, 0, none⟩)], .int .i64 ((L.length - 1 - k : Nat) : Int), clA (L.getD (L.length - 1 - k) cm0), undef, undef, undef])) (fun _ _ => DrX.own) ?assign ?body ?done
  case assign =>
    rintro l k W K hk ⟨hb, hi', hle, hg⟩ hK
    unfold clA at hK ⊢
    gi_wp2
    refine hK _ _ ((KeepsOthers.alloc _ _).from _) ((KpS.refl _ _).alloc _) ⟨hb.alloc _, hi'.below ((Below.refl _ _).alloc (Nat.le_refl _) _), hle, hg.below ((Below.refl _ _).alloc (Nat.le_refl _) _)⟩ ⟨W.heap.size, hb.lt, hi'.ltp, hi'.ltq, World.alloc_heap_new W _, rfl⟩
  case body =>
    rintro l k a' W hk ⟨hb, hi', hle, hg⟩ ⟨Bx, h1, h2, h3, h4, rfl⟩
    have HS := Lib.hid (dropK_step L s0 hk)
    have HOk := Lib.hid (HOK.out k hk)
    have c1 := hb.cell
    generalize L.getD (L.length - 1 - k) cm0 = x at *
    have hlen := Lib.hid (dropC_length (os := (dropK L s0 k).2) (h := (dropK L s0 k).1) (c := x) (by rw [hle]; exact HOk.out))
    have HD := drop_any p q (dropK L s0 k).1 (dropK L s0 k).2 x W hi' (by rw [hle]; exact HOk.out) (by omega)
    have e0 : W.cell? ⟨Bx, 0, none⟩ = some (.int .i64 x.kind) := by simp [World.cell?, h4]
    have e1 : W.cell? ⟨Bx, 1, none⟩ = some (.int .i64 x.frm) := by simp [World.cell?, h4]
    have e2 : W.cell? ⟨Bx, 2, none⟩ = some (.int .i64 x.slot) := by simp [World.cell?, h4]
    have e3 : W.cell? ⟨Bx, 3, none⟩ = some (.int .i64 x.place) := by simp [World.cell?, h4]
    have e4 : W.cell? ⟨Bx, 4, none⟩ = some (.int .i64 x.target) := by simp [World.cell?, h4]
    have e5 : W.cell? ⟨Bx, 5, none⟩ = some (.bool x.good) := by simp [World.cell?, h4]
    clear h4
    gi_wp2
    refine ⟨trivial, (CallsIn.inRound l ((callsIn_wide (n := 2)).2 HD)).mono ?_⟩
    rintro e W3 ⟨rfl, H3, G3⟩
    gi_wp2
    refine ⟨⟨G3.size, fun j o hj ho _ => (G3.block j (Array.getElem?_eq_some_iff.1 ho).1 (by omega) (by omega)).trans ho⟩, KpS.of G3.size (fun j hj hn => G3.block j hj (fun e => hn (.inl e)) (fun e => hn (.inr e))), ?_, ?_, ?_, hg.next (.inl rfl) G3⟩
    · exact (G3.block _ hb.lt (by omega) (by omega)).trans hb
    · rw [HS.out]; exact H3
    · rw [HS.out]; exact hlen.out.trans hle
  case done =>
    rintro D W hD ⟨hb, hi', hle, hg⟩ hK
    gi_wp2
    refine ⟨by simp, .inl ⟨_, _, rfl, run_takeDeferred hK, ?_⟩⟩
    refine ⟨_, results_none rfl _ _ _, rfl, ?_⟩
    have g7 := grownBy_putObj' W D (.deferred none)
    rw [dropK_all] at hi'
    exact ⟨hi'.keep (g7.block p hi'.ltp (fun e => by cases e; omega)) (g7.block q hi'.ltq (fun e => by cases e; omega)), ⟨g7.os.trans hg.os, g7.tape.trans hg.tape, g7.output.trans hg.output, Nat.le_trans hg.size g7.size, fun j hj hp hq => (g7.block j (Nat.lt_of_lt_of_le hj hg.size) (fun e => by cases e; omega)).trans (hg.block j hj hp hq)⟩⟩

theorem splice_setCl (zs ws : List Int) (hw : ws.length = 8) : Go.splice zs 0 ws = setCl zs 0 ws := by
  unfold Go.splice setCl
  rw [hw]
  simp

set_option maxRecDepth 100000 in
set_option maxHeartbeats 4000000 in
theorem implCleared_any (hLo : LooseC) : ClearedC := by
  intro A n c xs w hr hn hnc
  go_enter Tryz.func60, Tryz.ntmps60
  go_wp2_with fail
  refine (implHeadIn_any _ _ _ xs _ hr hn).mono ?_
  rintro e w1 ⟨rfl, b1⟩
  generalize hh : headIn xs = rr
  obtain ⟨⟨s, f, r, u, m⟩, is⟩ := rr
  have HHD := Lib.hid hh
  clear hh
  unfold hdV
  have b2 := b1.alloc b1.size (.cells #[.int .i64 s, .int .i64 f, .int .i64 r, .int .i64 u, .int .i64 m] 30)
  cases is
  · have HN : Hid (clearedL xs = []) := by unfold clearedL; rw [(headIn_false HHD.out).1]; exact rfl
    go_wp2_with fail
    go_ret
    rw [HN.out]
    exact Ret.nil _ _ b2
  · have HH := Lib.hid (headIn_true HHD.out)
    have HN : Hid (clearedL xs = clrC xs) := by unfold clearedL; rw [HH.out.1]; exact rfl
    have HHO : Hid (headOf xs = ⟨s, f, r, u, m⟩) := HH.out.2
    clear b1
    go_wp2_with fail
    have n2 : HBox (w1.alloc (.cells #[.int .i64 s, .int .i64 f, .int .i64 r, .int .i64 u, .int .i64 m] 30)) w1.heap.size ⟨s, f, r, u, m⟩ := HBox.new w1 ⟨s, f, r, u, m⟩
    generalize (w1.alloc (.cells #[.int .i64 s, .int .i64 f, .int .i64 r, .int .i64 u, .int .i64 m] 30)) = v at *
    generalize w1.heap.size = gh at *
    have hrd : Rd v.drew v.drew.heap.size A n xs := (hr.below b2).more b2.size
    have hgl : gh < v.heap.size := n2.lt
    have p0 : v.drew.cell? ⟨gh, 0, none⟩ = some (.int .i64 s) := n2.cell 0
    have p1 : v.drew.cell? ⟨gh, 1, none⟩ = some (.int .i64 f) := n2.cell 1
    have p2 : v.drew.cell? ⟨gh, 2, none⟩ = some (.int .i64 r) := n2.cell 2
    have p3 : v.drew.cell? ⟨gh, 3, none⟩ = some (.int .i64 u) := n2.cell 3
    have p4 : v.drew.cell? ⟨gh, 4, none⟩ = some (.int .i64 m) := n2.cell 4
    have hmm := manyN_le (hasHead_img HH.out.1)
    have hhl : 0 < manyN xs := by have := hasHead_len HH.out.1; unfold manyN; omega
    have HWL := Lib.hid (whole_length xs)
    have B2 := Lib.hid b2
    have HR := Lib.hid hr
    clear b2 hr
    go_region_held3 (fun w' => w'.cell? ⟨gh, 0, none⟩ = some (.int .i64 s) ∧ w'.cell? ⟨gh, 1, none⟩ = some (.int .i64 f) ∧ w'.cell? ⟨gh, 2, none⟩ = some (.int .i64 r) ∧ w'.cell? ⟨gh, 3, none⟩ = some (.int .i64 u) ∧ w'.cell? ⟨gh, 4, none⟩ = some (.int .i64 m))
      (first
        | (go_split_ands; exact ⟨(HA3.out _).cell 0, (HA3.out _).cell 1, (HA3.out _).cell 2, (HA3.out _).cell 3, (HA3.out _).cell 4⟩)
        | (go_split_ands; exact ⟨HB3.out.cell 0, HB3.out.cell 1, HB3.out.cell 2, HB3.out.cell 3, HB3.out.cell 4⟩)
        | go_keep)
      ((go_at_call 75; refine (wholeCopy_any A n c xs _ hrd hn HH.out.1).mono ?_; rintro e w3 ⟨q, rfl, hq, hrow, b3⟩
        have HB3 : Hid (HBox w3 gh ⟨s, f, r, u, m⟩) := n2.keep (b3.block gh hgl)
        have HA3 : Hid (∀ o : Obj, HBox (w3.alloc o) gh ⟨s, f, r, u, m⟩) := fun o => HB3.out.keep (Below.heap_alloc _ _ _ HB3.out.lt)
        have hq3 : q < w3.heap.size := (Array.getElem?_eq_some_iff.1 hrow).1
        have HROW := Lib.hid hrow
        have HB := Lib.hid (below_more B2.out.drew b3 B2.out.size)
        have hqv : v.heap.size ≤ q := hq
        clear hq hrow b3))
    have HI0 : Hid (ImAt (w3.alloc (.cells #[.int .i64 s, .int .i64 f, .int .i64 r, .int .i64 u, .int .i64 m, .slice (some ⟨q, 0, none⟩) (manyN xs * 8) (manyN xs * 8)] 86)) w3.heap.size q ⟨s, f, r, u, m⟩ (whole xs)) := by
      rw [← HWL.out]
      exact ⟨heap_alloc_new _ _, (Below.heap_alloc _ _ _ hq3).trans HROW.out, by omega⟩
    have HB4 := Lib.hid (HB.out.alloc HB.out.size (.cells #[.int .i64 s, .int .i64 f, .int .i64 r, .int .i64 u, .int .i64 m, .slice (some ⟨q, 0, none⟩) (manyN xs * 8) (manyN xs * 8)] 86))
    have hlt3 : w3.heap.size < (w3.alloc (.cells #[.int .i64 s, .int .i64 f, .int .i64 r, .int .i64 u, .int .i64 m, .slice (some ⟨q, 0, none⟩) (manyN xs * 8) (manyN xs * 8)] 86)).heap.size := by simp
    have s3 := HB.out.size
    have sv := B2.out.size
    generalize (w3.alloc (.cells #[.int .i64 s, .int .i64 f, .int .i64 r, .int .i64 u, .int .i64 m, .slice (some ⟨q, 0, none⟩) (manyN xs * 8) (manyN xs * 8)] 86)) = v4 at *
    have hqw : w.heap.size ≤ q := by omega
    have hpq : w3.heap.size ≠ q := by omega
    clear HB HB3 HA3 HROW p0 p1 p2 p3 p4 n2 hrd hgl hq3 hqv
    generalize w3.heap.size = p at *
    have HOK := Lib.hid (steps_ok HH.out.1)
    rw [HHO.out, ← HWL.out] at HOK
    have HDA := Lib.hid (drops_all HH.out.1)
    rw [HHO.out] at HDA
    have hll := looseL_length xs
    have h512 : (whole xs).length ≤ 512 := by have := HWL.out; omega
    have h8 : 8 ≤ (whole xs).length := by have := HWL.out; omega
    go_wp2_with fail
    refine (hLo A n c xs v4 ((HR.out.below HB4.out).more HB4.out.size) hn hnc).mono ?_
    rintro e w5 ⟨G, cg, rfl, oG, b5⟩
    have H5 := HI0.out.below b5
    have B5 := below_more HB4.out b5 HB4.out.size
    have hGG : ∀ g, G = some ⟨g, 0, none⟩ → g ≠ p ∧ g ≠ q := by
      intro g hg
      subst hg
      have := (oG.row g rfl).1
      have hql := HI0.out.ltq
      omega
    go_wp2_with fail
    refine (dropAll_any p q v4.heap.size w5.heap.size G cg (looseL xs) (⟨s, f, r, u, m⟩, whole xs) w5 H5 HOK.out h512 (by omega) oG (Nat.le_refl _) hGG).mono ?_
    rintro e w6 ⟨rfl, H6, G6⟩
    have HO := Lib.hid (clrHead_ok HH.out.1)
    have HLL : Hid ((clr2 xs).length = (whole xs).length) := by rw [HWL.out]; exact clr2_length HH.out.1
    rw [← HDA.out.1] at HO
    rw [← HDA.out.2] at HLL
    have B6 := G6.toBelow B5 (by omega) (by omega)
    clear b5 oG H5 hGG G6 B5
    have HF : Hid (setCl (dropsC (looseL xs) (⟨s, f, r, u, m⟩, whole xs)).2 0 (hdW (endHead (dropsC (looseL xs) (⟨s, f, r, u, m⟩, whole xs)).1)) = clearedL xs) := by
      rw [HDA.out.1, HDA.out.2, HN.out]
      exact rfl
    clear HDA HOK
    generalize dropsC (looseL xs) (⟨s, f, r, u, m⟩, whole xs) = st at *
    obtain ⟨h6, o6⟩ := st
    simp only at H6
    have HO2 : Hid (headB (endHead h6) = true) := HO.out
    have HL2 : Hid (o6.length = (whole xs).length) := HLL.out
    have HF2 : Hid (setCl o6 0 (hdW (endHead h6)) = clearedL xs) := HF.out
    clear HO HLL HF
    go_wp2_with fail
    refine (writeHead_any p q h6 o6 w6 H6 HO2.out (by rw [HL2.out]; exact h8)).mono ?_
    rintro e w7 ⟨rfl, H7, G7⟩
    have p5 : w7.cell? ⟨p, 5, none⟩ = some (.slice (some ⟨q, 0, none⟩) (Go.splice o6 0 (hdW (endHead h6))).length (Go.splice o6 0 (hdW (endHead h6))).length) := H7.cell 5
    have B7 := G7.toBelow B6 (by omega) (by omega)
    have HR7 := Lib.hid H7.row
    have lq7 := H7.ltq
    have HE := Lib.hid ((splice_setCl o6 (hdW (endHead h6)) rfl).trans HF2.out)
    rw [HE.out] at p5 HR7
    have hcl := clearedL_length xs
    clear H6 G7 H7
    generalize clearedL xs = ys at *
    go_wp2_with fail
    go_ret
    exact ⟨_, _, _, rfl, Ow.ofRow HR7.out (by omega) hqw lq7, B7⟩

theorem implCleared_all : ClearedC := implCleared_any implLoose_all

end Go.Proofs.YtibokhkohanoaaaGreat
