/- Claims, the model's side: those of a table (l6Table), the first tables (l6Firsts), the shots (l6Shots). -/
import Derived.Test.YtimbfilbojejiaaCma
namespace Go.Proofs.Ytimbfilbojejiaa
open Go.RowKit

/-- The list is longer, in its old row or in a new one. -/
def RetGrow (w : World) (lo g : Nat) (old l : List Cm) (e : Ending) (w' : World) : Prop :=
  ∃ g' c', e = .returned (.slice (some ⟨g', 0, none⟩) l.length c') ∧ OwV 45 6 w' lo w'.heap.size g' l.length c' (l.flatMap cmV) ∧ w.grownBy w' (some g) ∧ (g' = g ∨ w.heap.size ≤ g') ∧ RdV 6 w' w'.heap.size (some ⟨g, 0, none⟩) old.length (old.flatMap cmV)

/-- The old list, behind one more step. -/
theorem old_next {w1 w2 : World} {g g1 : Nat} {l l1 : List Cm} (h : RdV 6 w1 w1.heap.size (some ⟨g, 0, none⟩) l.length (l.flatMap cmV)) (hp : l <+: l1) (hgl : g < w1.heap.size) (hg1 : w1.grownBy w2 (some g1)) (h1 : RdV 6 w2 w2.heap.size (some ⟨g1, 0, none⟩) l1.length (l1.flatMap cmV)) :
    RdV 6 w2 w2.heap.size (some ⟨g, 0, none⟩) l.length (l.flatMap cmV) := by
  by_cases he : g1 = g
  · subst he
    obtain ⟨t, rfl⟩ := hp
    rw [List.flatMap_append] at h1
    exact h1.front (flat_length cmV 6 cmV_length l) (by omega)
  · exact (h.grown hg1 hgl (fun e => he e.symm)).more hg1.size

theorem grown_next {w w1 w2 : World} {g g1 : Nat} (h : w.grownBy w1 (some g)) (hg : g1 = g ∨ w.heap.size ≤ g1) (h2 : w1.grownBy w2 (some g1)) : w.grownBy w2 (some g) :=
  ⟨h2.os.trans h.os, h2.tape.trans h.tape, h2.output.trans h.output, Nat.le_trans h.size h2.size, fun k hk hne => (h2.block k (Nat.lt_of_lt_of_le hk h.size) (fun e => by
    injection e with e
    rcases hg with hg | hg
    · exact hne (by rw [e, hg])
    · omega)).trans (h.block k hk hne)⟩

theorem tabStep_prefix (xs : List Int) (size kind : Int) (frm : Nat) (place step : Int) (l : List Cm) (i : Nat) : l <+: tabStep xs size kind frm place step l i := by
  unfold tabStep; split
  · exact List.prefix_append _ _
  · exact List.prefix_refl _
theorem tabFold_prefix (xs : List Int) (size kind : Int) (frm : Nat) (place step : Int) (l : List Cm) (k : Nat) : l <+: (List.range k).foldl (tabStep xs size kind frm place step) l := by
  induction k with
  | zero => exact List.prefix_refl _
  | succ k ih =>
    rw [List.range_succ, List.foldl_append]
    exact ih.trans (tabStep_prefix _ _ _ _ _ _ _ _)
theorem tabFold_succ (xs : List Int) (size kind : Int) (frm : Nat) (place step : Int) (l : List Cm) (k : Nat) : (List.range (k + 1)).foldl (tabStep xs size kind frm place step) l = tabStep xs size kind frm place step ((List.range k).foldl (tabStep xs size kind frm place step) l) k := by
  rw [List.range_succ, List.foldl_append]; rfl

set_option maxRecDepth 100000 in
set_option maxHeartbeats 4000000 in
theorem specTab_any (A : Option Addr) (n cb : Nat) (xs : List Int) (size : Int) (g cap lo hi : Nat) (l : List Cm) (kind : Int) (frm : Nat) (place step : Int) (w : World) (hr : Rd w w.heap.size A n xs) (hn : n ≤ 2097152) (hl : l.length ≤ 90000)
    (ho : OwV 45 6 w lo hi g l.length cap (l.flatMap cmV)) (hlo : lo ≤ w.heap.size) (hf : frm ≤ 2097152) (hp0 : 0 ≤ place) (hp1 : place ≤ 1000000) (hs0 : 0 ≤ step) (hs1 : step ≤ 8) :
    Calls Try.prog 59 #[.slice A n cb, .int .i64 size, .slice (some ⟨g, 0, none⟩) l.length cap, .int .i64 kind, .int .i64 frm, .int .i64 place, .int .i64 step] w (RetGrow w lo g l (tabC xs size l kind frm place step)) := by
  have hx := Lib.hid hr.len
  have hgl := ho.lt
  go_enter Try.func59, Try.ntmps59
  go_wp2_with fail
  refine (specCluster_any A n cb frm xs w hr hn hf).mono ?_
  rintro e w1 ⟨G, ng, cg, rfl, oG, b1⟩
  obtain rfl : 8 = ng := by have := oG.len; simpa [cl, f8_length] using this
  rcases oG.form with ⟨_, h0, _⟩ | ⟨gc, rfl, g1, g2, g3, g4⟩
  · omega
  have ho1 : OwV 45 6 w1 lo w1.heap.size g l.length cap (l.flatMap cmV) := ⟨(ho.keep (b1.block g hgl)).own, Nat.lt_of_lt_of_le hgl b1.size⟩
  have hcc : Hid (∀ j, j < 8 → w1.cell? ⟨gc, j, none⟩ = some (.int .i64 ((cl xs frm).getD j 0))) := fun j hj => oG.cell hj
  have hs := b1.size
  clear oG
  go_wp2_with fail
  go_loopw [2, 16] (fun v i wr => ∃ (k g' c' : Nat), k ≤ 8 ∧ i = .int .i64 k ∧ v = .slice (some ⟨g', 0, none⟩) ((List.range k).foldl (tabStep xs size kind frm place step) l).length c' ∧
    OwV 45 6 wr lo wr.heap.size g' ((List.range k).foldl (tabStep xs size kind frm place step) l).length c' (((List.range k).foldl (tabStep xs size kind frm place step) l).flatMap cmV) ∧ w1.grownBy wr (some g) ∧ (g' = g ∨ w1.heap.size ≤ g') ∧ RdV 6 wr wr.heap.size (some ⟨g, 0, none⟩) l.length (l.flatMap cmV)) (fun _ i _ => 8 - (intOf i).toNat)
  case atStart => exact ⟨0, g, cap, by omega, rfl, rfl, ho1, grown_refl _ _, .inl rfl, ho1.rd⟩
  case round =>
    obtain ⟨k, g', c', hk, rfl, rfl, hok, hgk, hg', hold⟩ := hrel
    have HG := Lib.hid hg'
    clear hg'
    by_cases hlt : k < 8
    · have hcx : wr.cell? ⟨gc, k, none⟩ = some (.int .i64 ((cl xs frm).getD k 0)) := hgk.cell (hcc.out k hlt) (fun e => by injection e with e; have : gc = g := e; omega)
      have HT := Lib.hid (tabFold_succ xs size kind frm place step l k)
      have HLe := Lib.hid (tabFold_length xs size kind frm place step l k)
      have HPr := Lib.hid (tabFold_prefix xs size kind frm place step l k)
      have hll : ((List.range k).foldl (tabStep xs size kind frm place step) l).length ≤ 100000 := by have := HLe.out; omega
      generalize (List.range k).foldl (tabStep xs size kind frm place step) l = lk at *
      have HS : Hid (tabStep xs size kind frm place step lk k = if targetOf ((cl xs frm).getD k 0) ≠ 0 then addC xs size lk ⟨kind, frm, k, place + step * k, targetOf ((cl xs frm).getD k 0), false⟩ else lk) := rfl
      generalize (cl xs frm).getD k 0 = x at hcx HS
      have hm0 : 0 ≤ step * (k : Int) := Int.mul_nonneg hs0 (by omega)
      have hm1 : step * (k : Int) ≤ 64 := by
        have : step * (k : Int) ≤ 8 * 8 := Int.mul_le_mul hs1 (by omega) (by omega) (by omega)
        omega
      go_wp2_with fail
      refine (specTarget_any _ _).mono ?_
      rintro e w' ⟨rfl, rfl⟩
      generalize targetOf x = t at *
      by_cases h0 : t = 0
      · subst h0
        have hd : ((0 : Int) != 0) = false := by simp
        go_wp2_with fail
        go_roundw
        case rel =>
          have e : (List.range (k + 1)).foldl (tabStep xs size kind frm place step) l = lk := by rw [HT.out, HS.out]; simp
          exact ⟨k + 1, g', c', by omega, by go_num, by rw [e], by rw [e]; exact hok, hgk, HG.out, hold⟩
        case measure => simp [intOf]; omega
      · have hd : (t != 0) = true := by simpa using h0
        go_wp2_with fail
        refine (specAdd_any A n cb xs size g' c' lo wr.heap.size lk ⟨kind, frm, k, place + step * k, t, false⟩ wr hx.out hn hll hok (by have := hgk.size; omega)).mono ?_
        rintro e w2 ⟨g2, c2, rfl, ho2, hg2, hat2, hold2⟩
        go_wp2_with fail
        go_roundw
        case rel =>
          have e : (List.range (k + 1)).foldl (tabStep xs size kind frm place step) l = addC xs size lk ⟨kind, frm, k, place + step * k, t, false⟩ := by rw [HT.out, HS.out, if_pos h0]
          exact ⟨k + 1, g2, c2, by omega, by go_num, by rw [e], by rw [e]; exact ho2, grown_next hgk HG.out hg2, by have := HG.out; have := hgk.size; omega, old_next hold HPr.out (by have := hgk.size; omega) hg2 hold2⟩
        case measure => simp [intOf]; omega
    · go_wp2_with fail
      go_ret
      obtain rfl : k = 8 := by omega
      exact ⟨g', c', rfl, hok, grown_below b1 hgk, by have := HG.out; omega, hold⟩

theorem Ow.toV {w : World} {lo hi g n c : Nat} {xs : List Int} (h : Ow w lo hi (some ⟨g, 0, none⟩) n c xs) : OwV 2 1 w lo hi g n c (iv xs) := ⟨h.own, h.top g rfl⟩
theorem OwV.toI {w : World} {lo hi g n c : Nat} {xs : List Int} (h : OwV 2 1 w lo hi g n c (iv xs)) : Ow w lo hi (some ⟨g, 0, none⟩) n c xs := ⟨h.own, fun g' hg => by simp [Value.ownBlock] at hg; have := h.top; omega⟩
theorem iv_one (xs : List Int) (x : Int) : iv xs ++ [.int .i64 x] = iv (xs ++ [x]) := by simp [iv]

def isFirst (c : Cm) : Bool := c.good && (c.kind == 2 || c.kind == 6)
theorem firsts_step (l : List Cm) (k : Nat) (hk : k < l.length) : firstsC (l.take (k + 1)) = if isFirst (l.getD k cm0) then firstsC (l.take k) ++ [(l.getD k cm0).target] else firstsC (l.take k) := by
  unfold firstsC
  rw [List.take_succ_eq_append_getElem hk, List.filter_append, List.map_append, List.getD_eq_getElem?_getD, List.getElem?_eq_getElem hk]
  simp only [Option.getD_some]
  by_cases h : isFirst l[k] = true
  · rw [if_pos h]; unfold isFirst at h; simp [h]
  · rw [if_neg h]; unfold isFirst at h; simp [h]
theorem firsts_length (l : List Cm) : (firstsC l).length ≤ l.length := by
  unfold firstsC; rw [List.length_map]; exact List.length_filter_le _ _

/-- What is known of element k of a list of claims. -/
theorem cm_cells {w : World} {B : Nat} {g : Nat} {l : List Cm} (h : RdV 6 w B (some ⟨g, 0, none⟩) l.length (l.flatMap cmV)) {k : Nat} (hk : k < l.length) : ∀ j, j < 6 → w.cell? ⟨g, k * 6 + j, none⟩ = (cmV (l.getD k cm0))[j]? := by
  intro j hj
  obtain ⟨b, off, e, _, hc⟩ := h.2 (by omega)
  injection e with e
  injection e with e1 e2
  subst e1; subst e2
  have := hc (k * 6 + j) (by omega)
  rw [Nat.zero_add] at this
  rw [this, cm_cell hk hj]

set_option maxRecDepth 100000 in
set_option maxHeartbeats 4000000 in
theorem specFirsts_any (g cap : Nat) (l : List Cm) (w : World) (h : RdV 6 w w.heap.size (some ⟨g, 0, none⟩) l.length (l.flatMap cmV)) (hl : l.length ≤ 100000) :
    Calls Try.prog 61 #[.slice (some ⟨g, 0, none⟩) l.length cap] w (RetS w (firstsC l)) := by
  obtain ⟨i0, hi0, hz0, hz1, hz2⟩ := info_parts info2
  go_enter Try.func61, Try.ntmps61
  go_wp2_with fail
  go_loopw [3, 4] (fun v i wr => ∃ (k g' c' : Nat), k ≤ l.length ∧ i = .int .i64 k ∧ v = .slice (some ⟨g', 0, none⟩) (firstsC (l.take k)).length c' ∧ OwV 2 1 wr w.heap.size wr.heap.size g' (firstsC (l.take k)).length c' (iv (firstsC (l.take k))) ∧ Below w.heap.size w wr) (fun _ i _ => l.length - (intOf i).toNat)
  case atStart => exact ⟨0, w.heap.size, 0, Nat.zero_le _, rfl, rfl, emptyV 2 1 w _ _ _ (Nat.le_refl _) rfl (by simp), (Below.refl _ _).alloc (Nat.le_refl _) _⟩
  case round =>
    obtain ⟨k, g', c', hk, rfl, rfl, ho, hb⟩ := hrel
    by_cases hlt : k < l.length
    · have hce := cm_cells (h.below hb) hlt
      have HS := Lib.hid (firsts_step l k hlt)
      have HL := Lib.hid (firsts_length (l.take k))
      have hfl : (firstsC (l.take k)).length ≤ 100000 := by have := HL.out; simp at this; omega
      generalize firstsC (l.take k) = fs at *
      generalize l.getD k cm0 = x at *
      obtain ⟨xk, xf, xs', xp, xt, xg⟩ := x
      have e0 : wr.cell? ⟨g, k * 6, none⟩ = some (.int .i64 xk) := hce 0 (by omega)
      have e4 : wr.cell? ⟨g, k * 6 + 4, none⟩ = some (.int .i64 xt) := hce 4 (by omega)
      have e5 : wr.cell? ⟨g, k * 6 + 5, none⟩ = some (.bool xg) := hce 5 (by omega)
      clear hce
      have hs := hb.size
      cases hq : isFirst ⟨xk, xf, xs', xp, xt, xg⟩
      · have HE : Hid (firstsC (l.take (k + 1)) = fs) := by rw [HS.out, hq]; exact rfl
        have HQ := Lib.hid hq
        clear hq HS
        cases xg
        · go_wp2_with fail
          go_roundw
          case rel => exact ⟨k + 1, g', c', by omega, by go_num, by rw [HE.out], by rw [HE.out]; exact ho, hb⟩
          case measure => simp [intOf]; omega
        · have q2 : (xk == 2) = false := by have := HQ.out; simp [isFirst] at this; simpa using this.1
          have q6 : (xk == 6) = false := by have := HQ.out; simp [isFirst] at this; simpa using this.2
          go_wp2_with fail
          go_roundw
          case rel => exact ⟨k + 1, g', c', by omega, by go_num, by rw [HE.out], by rw [HE.out]; exact ho, hb⟩
          case measure => simp [intOf]; omega
      · have HE : Hid (firstsC (l.take (k + 1)) = fs ++ [xt]) := by rw [HS.out, hq]; exact rfl
        have HQ := Lib.hid hq
        clear hq HS
        have hxg : xg = true := by have := HQ.out; simp [isFirst] at this; exact this.1
        subst hxg
        have hk26 : xk = 2 ∨ xk = 6 := by have := HQ.out; simp [isFirst] at this; exact this
        rcases hk26 with rfl | rfl
        all_goals
          go_wp2_with (at_builtin; refine wpList_append_lit rfl (.tmp 33) (.tmp 39) 22 rfl 2 1 8 _ i0 Try.underlying22 hi0 hz0 hz1 hz2 rfl (by omega) (by omega) w.heap.size wr.heap.size g' fs.length c' _ rfl ho #[.int .i64 xt] 1 1 rfl rfl (by simp [Value.oneCell']) (by omega) (by omega) ?_; intro g2 cd w5 ho5 hgr hat _)
          go_roundw
          case rel =>
            refine ⟨k + 1, g2, cd, by omega, by go_num, by rw [HE.out]; simp, ?_, hb.grown hgr hb.size (fun q e => by cases e; exact ho.low)⟩
            rw [HE.out, ← iv_one, List.length_append]
            exact ho5
          case measure => simp [intOf]; omega
    · go_wp2_with fail
      go_ret
      obtain rfl : k = l.length := by omega
      rw [List.take_length] at ho ⊢
      exact ⟨g', _, c', rfl, ho.cap, ho.toI, hb⟩

end Go.Proofs.Ytimbfilbojejiaa
