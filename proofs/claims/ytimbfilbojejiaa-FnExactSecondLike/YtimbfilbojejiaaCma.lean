/- Claims, the model's side: one more (l6Add), those of a table (l6Table). -/
import Derived.Test.YtimbfilbojejiaaCms
namespace Go.Proofs.Ytimbfilbojejiaa
open Go.RowKit

/-- The list is one longer, in its old row or in a new one; and a flag. -/
def RetAdd (w : World) (lo g : Nat) (old l : List Cm) (ok : Bool) (e : Ending) (w' : World) : Prop :=
  ∃ g' c', e = .returned (.tuple #[.slice (some ⟨g', 0, none⟩) l.length c', .bool ok]) ∧ OwV 45 6 w' lo w'.heap.size g' l.length c' (l.flatMap cmV) ∧ w.grownBy w' (some g) ∧ (g' = g ∨ w.heap.size ≤ g') ∧ RdV 6 w' w'.heap.size (some ⟨g, 0, none⟩) old.length (old.flatMap cmV)

/-- Does one of the first k bar c? -/
def noBar (l : List Cm) (c : Cm) (k : Nat) : Bool := !((l.take k).any fun x => barsB x c)
theorem noBar_zero (l : List Cm) (c : Cm) : noBar l c 0 = true := by simp [noBar]
theorem noBar_step (l : List Cm) (c : Cm) (k : Nat) (hk : k < l.length) : noBar l c (k + 1) = (noBar l c k && !(barsB (l.getD k cm0) c)) := by
  unfold noBar
  rw [List.take_succ_eq_append_getElem hk, List.any_append, List.getD_eq_getElem?_getD, List.getElem?_eq_getElem hk]
  simp
theorem noBar_all (l : List Cm) (c : Cm) (k : Nat) (hk : l.length ≤ k) : noBar l c k = !(l.any fun x => barsB x c) := by
  unfold noBar; rw [List.take_of_length_le hk]
/-- The same claim, whether good or not, is barred by the same. -/
theorem bars_good (x c : Cm) (b : Bool) : barsB x { c with good := b } = barsB x c := rfl

theorem grown_below {w w1 w2 : World} {g : Nat} (h : Below w.heap.size w w1) (hg : w1.grownBy w2 (some g)) : w.grownBy w2 (some g) := by
  exact ⟨hg.os.trans h.os, hg.tape.trans h.tape, hg.output.trans h.output, Nat.le_trans h.size hg.size, fun k hk hne => (hg.block k (Nat.lt_of_lt_of_le hk h.size) hne).trans (h.block k hk)⟩

set_option maxRecDepth 100000 in
set_option maxHeartbeats 4000000 in
theorem specAdd_any (A : Option Addr) (n cb : Nat) (xs : List Int) (size : Int) (g cap lo hi : Nat) (l : List Cm) (c : Cm) (w : World) (hx : xs.length = n) (hn : n ≤ 2097152) (hl : l.length ≤ 100000)
    (ho : OwV 45 6 w lo hi g l.length cap (l.flatMap cmV)) (hlo : lo ≤ w.heap.size) :
    Calls Try.prog 58 #[.slice A n cb, .int .i64 size, .slice (some ⟨g, 0, none⟩) l.length cap, cmA c] w (RetAdd w lo g l (addC xs size l c) (goodB xs size l c)) := by
  obtain ⟨i0, hi0, hz0, hz1, hz2⟩ := info_parts infoCm
  have HX := Lib.hid hx
  clear hx
  have hgl := ho.lt
  obtain ⟨ck, cf, cs, cp, ct, cg⟩ := c
  have HG : ∀ base : Bool, base = (thereB xs ct && decide (cp < size)) → Hid (goodB xs size l ⟨ck, cf, cs, cp, ct, cg⟩ = (base && noBar l ⟨ck, cf, cs, cp, ct, cg⟩ l.length)) := fun base h => by
    rw [h, noBar_all _ _ _ (Nat.le_refl _)]; exact rfl
  unfold cmA
  cases ht : thereB xs ct
  case' false =>
    have hbase := HG false (by rw [ht]; rfl)
    obtain ⟨base, hbs⟩ : ∃ base : Bool, base = false := ⟨_, rfl⟩
  case' true =>
    have hbase := HG (decide (cp < size)) (by rw [ht]; rfl)
    obtain ⟨base, hbs⟩ : ∃ base : Bool, base = decide (cp < size) := ⟨_, rfl⟩
  all_goals
    clear HG
    go_enter Try.func58, Try.ntmps58
    go_wp2_with fail
    refine (specThere_any _ _ _ xs _ _ HX.out hn).mono ?_
    rintro e w' ⟨rfl, rfl⟩
    go_wp2_with fail
    clear ht
    generalize hcc : (⟨ck, cf, cs, cp, ct, cg⟩ : Cm) = cc at *
    have HCC := Lib.hid hcc
    clear hcc
    have hbars : Hid (∀ x v, barsB x ⟨ck, cf, cs, cp, ct, v⟩ = barsB x cc) := fun x v => by rw [← HCC.out]; rfl
    rw [← hbs] at hbase
    go_loopw [10] (fun i wr => ∃ k : Nat, k ≤ l.length ∧ i = .int .i64 k ∧ BoxC wr w.heap.size ⟨ck, cf, cs, cp, ct, base && noBar l cc k⟩ ∧ Below w.heap.size w wr ∧ w.heap.size < wr.heap.size) (fun i _ => l.length - (intOf i).toNat)
    case atStart =>
      refine ⟨0, Nat.zero_le _, rfl, ?_, (Below.refl _ _).alloc (Nat.le_refl _) _, by simp⟩
      rw [noBar_zero, Bool.and_true, hbs]
      exact heap_alloc_new w _
    case round =>
      obtain ⟨k, hk, rfl, hbx, hb, hz⟩ := hrel
      by_cases hlt : k < l.length
      · have HS := Lib.hid (noBar_step l cc k hlt)
        have hce : ∀ j, j < 6 → wr.cell? ⟨g, k * 6 + j, none⟩ = (cmV (l.getD k cm0))[j]? := fun j hj => by
          rw [(ho.keep (hb.block g hgl)).cell (by omega), cm_cell hlt hj]
        have hbc := hbx.cell
        have hf5 := hbx.free 5
        have HB := Lib.hid hbx
        clear hbx
        generalize l.getD k cm0 = x at *
        generalize hv : (base && noBar l cc k) = v at *
        have HV := Lib.hid hv
        clear hv
        obtain ⟨xk, xf, xs', xp, xt, xg⟩ := x
        have e0 : wr.cell? ⟨g, k * 6, none⟩ = some (.int .i64 xk) := hce 0 (by omega)
        have e1 : wr.cell? ⟨g, k * 6 + 1, none⟩ = some (.int .i64 xf) := hce 1 (by omega)
        have e2 : wr.cell? ⟨g, k * 6 + 2, none⟩ = some (.int .i64 xs') := hce 2 (by omega)
        have e3 : wr.cell? ⟨g, k * 6 + 3, none⟩ = some (.int .i64 xp) := hce 3 (by omega)
        have e4 : wr.cell? ⟨g, k * 6 + 4, none⟩ = some (.int .i64 xt) := hce 4 (by omega)
        have e5 : wr.cell? ⟨g, k * 6 + 5, none⟩ = some (.bool xg) := hce 5 (by omega)
        have b0 : wr.cell? ⟨w.heap.size, 0, none⟩ = some (.int .i64 ck) := hbc 0
        have b1 : wr.cell? ⟨w.heap.size, 1, none⟩ = some (.int .i64 cf) := hbc 1
        have b2 : wr.cell? ⟨w.heap.size, 2, none⟩ = some (.int .i64 cs) := hbc 2
        have b3 : wr.cell? ⟨w.heap.size, 3, none⟩ = some (.int .i64 cp) := hbc 3
        have b4 : wr.cell? ⟨w.heap.size, 4, none⟩ = some (.int .i64 ct) := hbc 4
        have b5 : wr.cell? ⟨w.heap.size, 5, none⟩ = some (.bool v) := hbc 5
        clear hce hbc
        go_wp2_with fail
        go_still_tail 5, (by kernel_rfl)
        change wpList _ _ _ _ _ wr.drew
        go_wp2_with fail
        refine (specBars_any ⟨xk, xf, xs', xp, xt, xg⟩ ⟨ck, cf, cs, cp, ct, v⟩ wr.drew).mono ?_
        rintro e w2 ⟨rfl, bl2⟩
        have hb2 : Below w.heap.size w w2 := hb.drew.trans (bl2.mono (by show w.heap.size ≤ wr.heap.size; omega))
        have hz2 : w.heap.size < w2.heap.size := Nat.lt_of_lt_of_le hz bl2.size
        have HB2 : Hid (BoxC w2 w.heap.size ⟨ck, cf, cs, cp, ct, v⟩) := HB.out.keep (bl2.block _ hz)
        have hf5' : w2.frozen? ⟨w.heap.size, 5, none⟩ = false := HB2.out.free 5
        have hc5' : w2.cell? ⟨w.heap.size, 5, none⟩ = some (.bool v) := HB2.out.cell 5
        clear bl2 e0 e1 e2 e3 e4 e5 b0 b1 b2 b3 b4 b5 hf5
        have HQ := Lib.hid (hbars.out ⟨xk, xf, xs', xp, xt, xg⟩ v)
        cases hq : barsB ⟨xk, xf, xs', xp, xt, xg⟩ ⟨ck, cf, cs, cp, ct, v⟩
        · have HQ2 : Hid ((base && noBar l cc (k + 1)) = v) := by
            rw [HS.out, ← HQ.out, hq, Bool.not_false, Bool.and_true]; exact HV.out
          clear hq HQ HS
          go_wp2_with fail
          go_roundw
          case rel => exact ⟨k + 1, by omega, by go_num, by rw [HQ2.out]; exact HB2.out, hb2, hz2⟩
          case measure => simp [intOf]; omega
        · have HQ2 : Hid ((base && noBar l cc (k + 1)) = false) := by
            rw [HS.out, ← HQ.out, hq, Bool.not_true, Bool.and_false, Bool.and_false]; exact rfl
          clear hq HQ HS
          go_wp2_with fail
          go_roundw
          case rel => exact ⟨k + 1, by omega, by go_num, by rw [HQ2.out]; exact HB2.out.good false, hb2.setCell (Nat.le_refl _) _, by simpa [World.setCell] using hz2⟩
          case measure => simp [intOf]; omega
      · obtain rfl : k = l.length := by omega
        have hbc := hbx.cell
        have hv : (base && noBar l cc l.length) = goodB xs size l cc := hbase.out.symm
        rw [hv] at hbc
        obtain ⟨v, hvv⟩ : ∃ v, v = goodB xs size l cc := ⟨_, rfl⟩
        have HV := Lib.hid hvv
        rw [← hvv] at hbc ⊢
        clear hvv
        have b0 : wr.cell? ⟨w.heap.size, 0, none⟩ = some (.int .i64 ck) := hbc 0
        have b1 : wr.cell? ⟨w.heap.size, 1, none⟩ = some (.int .i64 cf) := hbc 1
        have b2 : wr.cell? ⟨w.heap.size, 2, none⟩ = some (.int .i64 cs) := hbc 2
        have b3 : wr.cell? ⟨w.heap.size, 3, none⟩ = some (.int .i64 cp) := hbc 3
        have b4 : wr.cell? ⟨w.heap.size, 4, none⟩ = some (.int .i64 ct) := hbc 4
        have b5 : wr.cell? ⟨w.heap.size, 5, none⟩ = some (.bool v) := hbc 5
        have ho1 := ho.keep (hb.block g hgl)
        have hgne : some w.heap.size ≠ some g := fun e => by injection e with e; omega
        clear hbc hbx hv
        have HE : Hid (addC xs size l cc = l ++ [⟨ck, cf, cs, cp, ct, v⟩]) := by rw [← HCC.out] at *; rw [addC, ← HV.out]; exact rfl
        go_wp2_with fail
        go_region_held3 (fun w' => w'.cell? ⟨w.heap.size, 0, none⟩ = some (.int .i64 ck) ∧ w'.cell? ⟨w.heap.size, 1, none⟩ = some (.int .i64 cf) ∧ w'.cell? ⟨w.heap.size, 2, none⟩ = some (.int .i64 cs) ∧ w'.cell? ⟨w.heap.size, 3, none⟩ = some (.int .i64 cp) ∧ w'.cell? ⟨w.heap.size, 4, none⟩ = some (.int .i64 ct) ∧ w'.cell? ⟨w.heap.size, 5, none⟩ = some (.bool v))
          (first
            | go_keep
            | (go_split_ands
               refine ⟨?_, ?_, ?_, ?_, ?_, ?_⟩
               all_goals (rw [hgrow.cell_far _ (Nat.lt_trans hz (by simp)) hgne]; assumption)))
          ((refine step_append_lit (by rfl) _ _ _ (by rfl) 45 6 48 _ i0 Try.underlying42 hi0 hz0 hz1 hz2 rfl (by omega) (by omega) lo hi g l.length cap _ (by rfl) ho1 #[.int .i64 ck, .int .i64 cf, .int .i64 cs, .int .i64 cp, .int .i64 ct, .bool v] 1 1 (by rfl) (by rfl) (by simp [Value.oneCell']) (by omega) (by omega) ?_; intro g2 cd w5 ho5 hgrow hat hold))
        go_wp2_with fail
        go_ret2
        have hgr : wr.grownBy w5 (some g) := ⟨hgrow.os, hgrow.tape, hgrow.output, Nat.le_trans (by simp) hgrow.size, fun q hq hne => (hgrow.block q (by simp; omega) hne).trans (Below.heap_alloc _ _ _ hq)⟩
        rw [HE.out]
        refine ⟨g2, cd, ?_, ?_, grown_below hb hgr, ?_, hold⟩
        · simp [HV.out]
        · simpa [cmV] using ho5
        · omega

end Go.Proofs.Ytimbfilbojejiaa
