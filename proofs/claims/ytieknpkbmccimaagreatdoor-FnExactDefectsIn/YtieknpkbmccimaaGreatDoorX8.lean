/- Sound (chapter 11): the program's side; and what the package-level variables hold. DefectsIn and Mild (chapter 11): the program's side: errors asked by errors.As and errors.Is. What the row's list of package-level variables gives the walks: three errors at three places, and the handle of a type. Defects (chapter 11): what the program's own functions answer, and the exact laws, given what the row's list says. -/
import Derived.Test.YtieknpkbmccimaaGreatDoorX7
import Derived.Test.YtieknpkbmccimaaGreatDoorXE
import Derived.Test.YtieknpkbmccimaaGreatDoorRows
import Derived.Stop.LaidTwo
import Derived.LaidLaws
import Derived.Test.YtieknpkbmccimaaGreatDoorX2
import Derived.Test.YtieknpkbmccimaaGreatDoorY4
namespace Go.Proofs.YtieknpkbmccimaaGreatDoor
open Go.RowKit

/-- The type's handle that errors.As reads. -/
def GlT (W : World) : Prop := 2 < W.heap.size ∧ W.cell? ⟨2, 0, none⟩ = some (.iface 96 (.agg #[.pointer (some ⟨4, 48, none⟩)]))

/-- The errors' texts lie in rows of their own: 0 is not the others. -/
structure GlA (W : World) (aN aM aG : Addr) : Prop where
  none : ∃ ca ta, W.heap[aN.block]? = some (.cells ca ta (0, 0))
  mild : ∃ ca ta, W.heap[aM.block]? = some (.cells ca ta (0, 0))
  grave : ∃ ca ta, W.heap[aG.block]? = some (.cells ca ta (0, 0))
  nm : aN ≠ aM
  gm : aG ≠ aM
theorem GlA.below {W w : World} {aN aM aG : Addr} (h : GlA W aN aM aG) (hb : Below W.heap.size W w) : GlA w aN aM aG := by
  obtain ⟨⟨c1, t1, h1⟩, ⟨c2, t2, h2⟩, ⟨c3, t3, h3⟩, n1, n2⟩ := h
  exact ⟨⟨c1, t1, (hb.block _ (Array.getElem?_eq_some_iff.1 h1).1).trans h1⟩, ⟨c2, t2, (hb.block _ (Array.getElem?_eq_some_iff.1 h2).1).trans h2⟩, ⟨c3, t3, (hb.block _ (Array.getElem?_eq_some_iff.1 h3).1).trans h3⟩, n1, n2⟩

/-- Function 21 of an error that tells a defect: the target is set; all else below it stays. -/
theorem as_told {aM aG : Addr} (q : Nat) (x : Dc) (w : World) (hg : GlT w) (h : w.heap[q]? = some (.cells #[.int .i64 0, .int .i64 0, .int .i64 0, .nilIface] 50 (0, 0))) :
    Calls Tryz.prog 21 #[erV aM aG x, .iface 52 (.pointer (some ⟨q, 0, none⟩))] w
      fun e w' => e = .returned (.bool true) ∧ Below q w w' ∧ w'.cell? ⟨q, 0, none⟩ = some (.int .i64 x.kind) ∧ w'.cell? ⟨q, 1, none⟩ = some (.int .i64 x.a) ∧ w'.cell? ⟨q, 2, none⟩ = some (.int .i64 x.b) ∧ q < w'.heap.size := by
  have hq := (Array.getElem?_eq_some_iff.1 h).1
  refine (as_hit q _ _ _ _ _ x.kind x.a x.b (weightA aM aG x.kind) w hg.2 h).mono ?_
  rintro e w' ⟨rfl, rfl⟩
  have b1 := (Below.refl q w).alloc (by omega) (.cells #[.pointer (some ⟨q, 0, none⟩)] 52)
  have b2 := b1.alloc (by have := b1.size; omega) (.cells #[.pointer (some ⟨4, 52, none⟩), .pointer (some ⟨w.heap.size, 0, none⟩), .int .u64 150] 66)
  have b3 := b2.alloc (by have := b2.size; omega) (.cells #[.pointer (some ⟨4, 52, none⟩), .pointer (some ⟨w.heap.size, 0, none⟩), .int .u64 150] 66)
  have b4 := b3.alloc (by have := b3.size; omega) (.cells #[.int .i64 x.kind, .int .i64 x.a, .int .i64 x.b, .iface 142 (.pointer (some (weightA aM aG x.kind)))] 50)
  have q1 := (Below.refl w.heap.size w).alloc (Nat.le_refl _) (.cells #[.pointer (some ⟨q, 0, none⟩)] 52)
  have q2 := q1.alloc q1.size (.cells #[.pointer (some ⟨4, 52, none⟩), .pointer (some ⟨w.heap.size, 0, none⟩), .int .u64 150] 66)
  have q3 := q2.alloc q2.size (.cells #[.pointer (some ⟨4, 52, none⟩), .pointer (some ⟨w.heap.size, 0, none⟩), .int .u64 150] 66)
  have q4 := q3.alloc q3.size (.cells #[.int .i64 x.kind, .int .i64 x.a, .int .i64 x.b, .iface 142 (.pointer (some (weightA aM aG x.kind)))] 50)
  have h4 := (q4.block q hq).trans h
  have s4 := q4.size
  generalize (((w.alloc (.cells #[.pointer (some ⟨q, 0, none⟩)] 52)).alloc (.cells #[.pointer (some ⟨4, 52, none⟩), .pointer (some ⟨w.heap.size, 0, none⟩), .int .u64 150] 66)).alloc (.cells #[.pointer (some ⟨4, 52, none⟩), .pointer (some ⟨w.heap.size, 0, none⟩), .int .u64 150] 66)).alloc (.cells #[.int .i64 x.kind, .int .i64 x.a, .int .i64 x.b, .iface 142 (.pointer (some (weightA aM aG x.kind)))] 50) = W at *
  have h5 := cells_setCell (cs := [.int .i64 0, .int .i64 0, .int .i64 0, .nilIface]) h4 0 (.int .i64 x.kind)
  have h6 := cells_setCell h5 1 (.int .i64 x.a)
  have h7 := cells_setCell h6 2 (.int .i64 x.b)
  have h8 := cells_setCell h7 3 (.iface 142 (.pointer (some (weightA aM aG x.kind))))
  have B8 := (((b4.setCell (p := ⟨q, 0, none⟩) (Nat.le_refl _) (.int .i64 x.kind)).setCell (p := ⟨q, 1, none⟩) (Nat.le_refl _) (.int .i64 x.a)).setCell (p := ⟨q, 2, none⟩) (Nat.le_refl _) (.int .i64 x.b)).setCell (p := ⟨q, 3, none⟩) (Nat.le_refl _) (.iface 142 (.pointer (some (weightA aM aG x.kind))))
  have hlt := (Array.getElem?_eq_some_iff.1 h8).1
  unfold put4
  generalize (((W.setCell ⟨q, 0, none⟩ (.int .i64 x.kind)).setCell ⟨q, 1, none⟩ (.int .i64 x.a)).setCell ⟨q, 2, none⟩ (.int .i64 x.b)).setCell ⟨q, 3, none⟩ (.iface 142 (.pointer (some (weightA aM aG x.kind)))) = V at *
  exact ⟨rfl, B8, by simp [World.cell?, h8], by simp [World.cell?, h8], by simp [World.cell?, h8], hlt⟩

/-- Function 21 of another error. -/
theorem as_none (q : Nat) (x : Addr) (w : World) (hg : GlT w) :
    Calls Tryz.prog 21 #[.iface 142 (.pointer (some x)), .iface 52 (.pointer (some ⟨q, 0, none⟩))] w fun e w' => e = .returned (.bool false) ∧ Below w.heap.size w w' := by
  refine (as_miss q x w hg.2).mono ?_
  rintro e w' ⟨rfl, rfl⟩
  have b1 := (Below.refl w.heap.size w).alloc (Nat.le_refl _) (.cells #[.pointer (some ⟨q, 0, none⟩)] 52)
  exact ⟨rfl, (b1.alloc b1.size _).alloc (b1.alloc b1.size _).size _⟩

theorem er_cell {w : World} {lo hi g n c : Nat} {aM aG : Addr} {l : List Dc} (h : OwR 48 1 w lo hi (some ⟨g, 0, none⟩) n c (l.map (erV aM aG))) {k : Nat} (hk : k < l.length) (hn : l.length = n) : w.cell? ⟨g, k, none⟩ = some (erV aM aG (l.getD k dc0)) := by
  rw [h.cell (j := k) (by omega), List.getElem?_map, List.getD_eq_getElem?_getD, List.getElem?_eq_getElem hk]
  rfl
theorem dc_take (l : List Dc) (k : Nat) (hk : k < l.length) : (l.take (k + 1)).flatMap dcV = (l.take k).flatMap dcV ++ dcV (l.getD k dc0) := by
  rw [List.take_succ_eq_append_getElem hk, List.flatMap_append, show l.getD k dc0 = l[k] by simp [List.getD_eq_getElem?_getD, hk]]
  simp

set_option maxRecDepth 100000 in
set_option maxHeartbeats 8000000 in
theorem implDefects_any (hC : ClaimsC) (hL : LooseC) (hCo : CountsC) (hSt : StoredC) (hT : TableC) {aN aM aG : Addr} {W : World} (hG : GlE W aN aM aG) (hGt : GlT W) : DefectsC W := by
  intro A n c xs w hb hr hn hnc
  obtain ⟨i0, hi0, hz0, hz1, hz2⟩ := info_parts infoDc
  have hGw := hG.below hb hG.size
  have hGT : GlT w := ⟨Nat.lt_of_lt_of_le hGt.1 hb.size, (World.cell?_of_block (hb.block _ hGt.1)).trans hGt.2⟩
  have HW := Lib.hid (allWrong_any hC hL hCo hSt hT A n c xs w hGw hr hn hnc)
  clear hG hGt hGw hb hr
  cases hi : imgB xs
  · have HE : Hid (errsL aN aM aG xs = [.iface 142 (.pointer (some aN))]) := by unfold errsL; rw [hi]; exact rfl
    have HN : Hid (defectsL xs = []) := by unfold defectsL; rw [hi]; exact rfl
    rw [HE.out] at HW
    go_enter Tryz.func7, Tryz.ntmps7
    go_wp2_with fail
    refine HW.out.mono ?_
    rintro e w2 ⟨X, cx, rfl, oX, b2⟩
    rcases oX.form with ⟨_, h0, _⟩ | ⟨g, rfl, g1, g2, g3, g4⟩
    · cases h0
    have hc0 : w2.cell? ⟨g, 0, none⟩ = some (.iface 142 (.pointer (some aN))) := oX.cell (j := 0) (by simp)
    have hT2 : GlT w2 := ⟨Nat.lt_of_lt_of_le hGT.1 b2.size, (World.cell?_of_block (b2.block _ hGT.1)).trans hGT.2⟩
    have b3 := b2.alloc b2.size (.cells #[.int .i64 0, .int .i64 0, .int .i64 0, .nilIface] 50)
    have q3 := (Below.refl w2.heap.size w2).alloc (Nat.le_refl _) (.cells #[.int .i64 0, .int .i64 0, .int .i64 0, .nilIface] 50)
    have hT3 : GlT (w2.alloc (.cells #[.int .i64 0, .int .i64 0, .int .i64 0, .nilIface] 50)) := ⟨Nat.lt_of_lt_of_le hT2.1 q3.size, (World.cell?_of_block (q3.block 2 hT2.1)).trans hT2.2⟩
    have HAs := Lib.hid (as_none w2.heap.size aN _ hT3)
    have s2 := b2.size
    go_wp2_with fail
    refine wp_loop_rounds 2 ?_
    rw [rounds_succ]
    go_wp2_with fail
    refine HAs.out.mono ?_
    rintro e w4 ⟨rfl, b4⟩
    replace b4 := below_more b3 b4 b3.size
    go_wp2_with fail
    rw [rounds_succ]
    go_wp2_with fail
    go_ret
    rw [HN.out]
    exact ⟨none, 0, rfl, OwR.nil _ _ _ _ _, b4⟩
  · have HE : Hid (errsL aN aM aG xs = (defectsL xs).map (erV aM aG)) := by unfold errsL; rw [hi]; exact rfl
    rw [HE.out, List.length_map] at HW
    have hdl := defects_length xs
    clear HE hi
    generalize defectsL xs = l at *
    generalize hne : l.length = ne at *
    go_enter Tryz.func7, Tryz.ntmps7
    go_wp2_with fail
    refine HW.out.mono ?_
    rintro e w2 ⟨X, cx, rfl, oX, b2⟩
    have hT2 : GlT w2 := ⟨Nat.lt_of_lt_of_le hGT.1 b2.size, (World.cell?_of_block (b2.block _ hGT.1)).trans hGT.2⟩
    have HT2 := Lib.hid hT2
    have HX := Lib.hid oX
    have HB := Lib.hid b2
    have s2 := b2.size
    clear oX b2 hT2 hGT HW
    generalize hw2 : w2.heap.size = B at *
    go_wp2_with fail
    go_loopw [3, 10] (fun v i wr => ∃ (k : Nat) (A' : Option Addr) (c' : Nat), k ≤ ne ∧ i = .int .i64 k ∧ v = .slice A' k c' ∧
      OwR 36 3 wr B wr.heap.size A' k c' ((l.take k).flatMap dcV) ∧ Below B w2 wr) (fun _ i _ => ne - (intOf i).toNat)
    case atStart => exact ⟨0, none, 0, Nat.zero_le _, rfl, rfl, OwR.nil _ _ _ _ _, Below.refl _ _⟩
    case round =>
      obtain ⟨k, A', c', hk, rfl, rfl, hok, hg⟩ := hrel
      have sr := hg.size
      by_cases hlt : k < ne
      · rcases HX.out.form with ⟨_, h0, _⟩ | ⟨g, rfl, g1, g2, g3, g4⟩
        · omega
        have hce := (World.cell?_of_block (a := ⟨g, k, none⟩) (hg.block g (by omega))).trans (er_cell HX.out (show k < l.length by omega) hne)
        have HS := Lib.hid (dc_take l k (by omega))
        generalize (l.take k).flatMap dcV = fs at *
        generalize l.getD k dc0 = x at *
        have q1 := (Below.refl wr.heap.size wr).alloc (Nat.le_refl _) (.cells #[.int .i64 0, .int .i64 0, .int .i64 0, .nilIface] 50)
        have n1 := World.alloc_heap_new wr (.cells #[.int .i64 0, .int .i64 0, .int .i64 0, .nilIface] 50)
        have hT1 : GlT (wr.alloc (.cells #[.int .i64 0, .int .i64 0, .int .i64 0, .nilIface] 50)) := by
          have h1 := HT2.out
          have hl : 2 < B := by have := h1.1; omega
          exact ⟨by simp; omega, (World.cell?_of_block (q1.block 2 (by omega))).trans ((World.cell?_of_block (hg.block 2 hl)).trans h1.2)⟩
        have HAs := Lib.hid (as_told (aM := aM) (aG := aG) wr.heap.size x _ hT1 n1)
        have hg1 := hg.alloc (by omega) (.cells #[.int .i64 0, .int .i64 0, .int .i64 0, .nilIface] 50)
        clear n1 hT1
        unfold erV at hce HAs
        obtain ⟨xk, xa, xb⟩ := x
        simp only at hce HAs
        go_wp2_with fail
        refine HAs.out.mono ?_
        rintro e w4 ⟨rfl, b4, p0, p1, p2, hq4⟩
        have hok4 := (hok.below q1 (Nat.le_refl _)).below b4 (Nat.le_refl _)
        have hb4 := Below.trans hg1 (b4.mono (by omega))
        have s4 := hb4.size
        go_wp2_with (at_builtin; refine wpList_append_r rfl (.tmp 17) (.tmp 20) 23 rfl 36 3 24 _ i0 Tryz.underlying23 hi0 hz0 hz1 hz2 rfl (by omega) (by omega) B wr.heap.size k c' A' _ rfl hok4 #[.int .i64 xk, .int .i64 xa, .int .i64 xb] 1 1 w4.heap.size rfl rfl (by omega) rfl (by simp [Value.oneCell']) (by omega) (by omega) ?_; intro g5 cd w5 ho5 hb5)
        go_roundw
        case rel =>
          refine ⟨k + 1, some ⟨g5, 0, none⟩, cd, by omega, by go_num, rfl, ?_, hb4.trans hb5⟩
          rw [HS.out]
          exact ho5
        case measure => simp [intOf]; omega
      · obtain rfl : k = ne := by omega
        rw [List.take_of_length_le (by omega)] at hok
        go_wp2_with fail
        go_ret
        unfold RetDcs
        rw [hne]
        exact ⟨A', c', rfl, hok.more (by omega) (Nat.le_refl _), HB.out.trans (hg.mono (by omega))⟩

theorem mild_all (xs : List Int) : mildB xs = (imgB xs && (defectsL xs).all fun x => x.kind == 6 || x.kind == 7) := by
  unfold mildB defectsL
  cases hi : imgB xs
  · have hh : hasHead xs = false := by unfold hasHead; rw [hi]; rfl
    rw [hh]; rfl
  · cases hh : hasHead xs
    · rfl
    · rfl

set_option maxRecDepth 100000 in
set_option maxHeartbeats 8000000 in
theorem implMild_any (hC : ClaimsC) (hL : LooseC) (hCo : CountsC) (hSt : StoredC) (hT : TableC) {aN aM aG : Addr} {W : World} (hG : GlE W aN aM aG) (hGa : GlA W aN aM aG) : MildC W := by
  intro A n c xs w hb hr hn hnc
  have hGw := hG.below hb hG.size
  have hGA := hGa.below hb
  have HW := Lib.hid (allWrong_any hC hL hCo hSt hT A n c xs w hGw hr hn hnc)
  have HM := Lib.hid (mild_all xs)
  have hGs := hGw.size
  cases hi : imgB xs
  · have HE : Hid (errsL aN aM aG xs = [.iface 142 (.pointer (some aN))]) := by unfold errsL; rw [hi]; exact rfl
    rw [HE.out] at HW
    rw [hi] at HM
    go_enter Tryz.func14, Tryz.ntmps14
    go_wp2_with fail
    refine HW.out.mono ?_
    rintro e w2 ⟨X, cx, rfl, oX, b2⟩
    rcases oX.form with ⟨_, h0, _⟩ | ⟨g, rfl, g1, g2, g3, g4⟩
    · cases h0
    have hc0 : w2.cell? ⟨g, 0, none⟩ = some (.iface 142 (.pointer (some aN))) := oX.cell (j := 0) (by simp)
    have hM2 := (hGw.below b2 hGs).mild
    obtain ⟨⟨ca, ta, h1⟩, ⟨cb, tb, h2⟩, _, n1, _⟩ := hGA.below b2
    have HIs := Lib.hid (is_other aN aM ca cb ta tb w2 n1 h1 h2)
    clear h1 h2 n1
    go_wp2_with fail
    refine wp_loop_rounds 1 ?_
    rw [rounds_succ]
    go_wp2_with fail
    refine HIs.out.mono ?_
    rintro e w4 ⟨rfl, rfl⟩
    go_wp2_with fail
    go_ret
    exact ⟨ret_bool (by rw [HM.out]; rfl), b2⟩
  · have HE : Hid (errsL aN aM aG xs = (defectsL xs).map (erV aM aG)) := by unfold errsL; rw [hi]; exact rfl
    rw [HE.out, List.length_map] at HW
    rw [hi, Bool.true_and] at HM
    have hdl := defects_length xs
    clear HE hi
    generalize defectsL xs = l at *
    generalize hne : l.length = ne at *
    go_enter Tryz.func14, Tryz.ntmps14
    go_wp2_with fail
    refine HW.out.mono ?_
    rintro e w2 ⟨X, cx, rfl, oX, b2⟩
    have hG2 := hGw.below b2 hGs
    have hA2 := hGA.below b2
    have HA2 := Lib.hid hA2
    have HX := Lib.hid oX
    have HB := Lib.hid b2
    have s2 := b2.size
    clear oX b2 hA2 HW hGA hG hGw hGa hb
    go_wp2_with fail
    go_loopw [8] (fun i wr => ∃ k : Nat, k ≤ ne ∧ i = .int .i64 k ∧ ((l.take k).all fun x => x.kind == 6 || x.kind == 7) = true ∧ Below w2.heap.size w2 wr) (fun i _ => ne - (intOf i).toNat)
    case atStart => exact ⟨0, Nat.zero_le _, rfl, rfl, Below.refl _ _⟩
    case round =>
      obtain ⟨k, hk, rfl, hal, hg⟩ := hrel
      have HAL := Lib.hid hal
      clear hal
      have sr := hg.size
      by_cases hlt : k < ne
      · rcases HX.out.form with ⟨_, h0, _⟩ | ⟨g, rfl, g1, g2, g3, g4⟩
        · omega
        have hce := (World.cell?_of_block (a := ⟨g, k, none⟩) (hg.block g (by omega))).trans (er_cell HX.out (show k < l.length by omega) hne)
        have hmr := (hG2.below hg hG2.size).mild
        have HT : Hid ((l.take (k + 1)).all (fun x => x.kind == 6 || x.kind == 7) = ((l.take k).all (fun x => x.kind == 6 || x.kind == 7) && ((l.getD k dc0).kind == 6 || (l.getD k dc0).kind == 7))) := by
          rw [List.take_succ_eq_append_getElem (by omega), List.all_append, show l.getD k dc0 = l[k] by simp [List.getD_eq_getElem?_getD, show k < l.length by omega]]
          simp [Hid]
        have HF : Hid (((l.getD k dc0).kind == 6 || (l.getD k dc0).kind == 7) = false → (l.all fun x => x.kind == 6 || x.kind == 7) = false) := fun h => by
          rw [List.all_eq_false]
          exact ⟨l[k], List.getElem_mem (by omega), by rw [show l.getD k dc0 = l[k] by simp [List.getD_eq_getElem?_getD, show k < l.length by omega]] at h; simpa using h⟩
        generalize l.getD k dc0 = x at *
        obtain ⟨xk, xa, xb⟩ := x
        simp only at HT HF
        cases hkk : (xk == 6 || xk == 7)
        · have hw : weightA aM aG xk = aG := if_neg (by simp at hkk; omega)
          unfold erV at hce
          simp only at hce
          rw [hw] at hce
          obtain ⟨_, ⟨cb, tb, h2⟩, ⟨ca, ta, h1⟩, _, n1⟩ := HA2.out.below hg
          have HIs := Lib.hid (is_wrap_other xk xa xb aG aM ca cb ta tb wr n1 h1 h2)
          clear h1 h2 n1
          go_wp2_with fail
          refine HIs.out.mono ?_
          rintro e w4 ⟨rfl, rfl⟩
          have hb4 := hg.alloc hg.size (.cells #[.int .i64 xk, .int .i64 xa, .int .i64 xb, .iface 142 (.pointer (some aG))] 50)
          go_wp2_with fail
          go_ret
          exact ⟨ret_bool (by rw [HM.out, HF.out hkk]), below_more HB.out hb4 HB.out.size⟩
        · have hw : weightA aM aG xk = aM := if_pos (by simpa using hkk)
          unfold erV at hce
          simp only at hce
          rw [hw] at hce
          have HIs := Lib.hid (is_wrap_same xk xa xb aM wr)
          go_wp2_with fail
          refine HIs.out.mono ?_
          rintro e w4 ⟨rfl, rfl⟩
          have hb4 := hg.alloc hg.size (.cells #[.int .i64 xk, .int .i64 xa, .int .i64 xb, .iface 142 (.pointer (some aM))] 50)
          go_wp2_with fail
          go_roundw
          case rel => exact ⟨k + 1, by omega, by go_num, by rw [HT.out, HAL.out, hkk]; rfl, hb4⟩
          case measure => simp [intOf]; omega
      · obtain rfl : k = ne := by omega
        have HA9 := HAL.out
        rw [List.take_of_length_le (by omega)] at HA9
        go_wp2_with fail
        go_ret
        exact ⟨ret_bool (by rw [HM.out, HA9]), below_more HB.out hg HB.out.size⟩

theorem lv_gN : Tryz.prog.globalNamed "loop.example/g00821/impl.errNoImage" = some 1 := by kernel_rfl
theorem lv_gM : Tryz.prog.globalNamed "loop.example/g00821/impl.errMild" = some 0 := by kernel_rfl
theorem lv_gG : Tryz.prog.globalNamed "loop.example/g00821/impl.errGrave" = some 3 := by kernel_rfl
theorem lv_tN : (Tryz.prog.globals[1]?).map (·.type) = some 48 := by kernel_rfl
theorem lv_tM : (Tryz.prog.globals[0]?).map (·.type) = some 48 := by kernel_rfl
theorem lv_tG : (Tryz.prog.globals[3]?).map (·.type) = some 48 := by kernel_rfl
theorem lv_cE : Tryz.prog.cellsOf 164 = 1 := by kernel_rfl
theorem lv_cS : Tryz.prog.cellsOf 9 = 1 := by kernel_rfl
theorem lv_star : "*" ++ "errors.errorString" = "*errors.errorString" := by decide
theorem lv_row (u : TypeId) (h : Tryz.prog.typeName? 3 u = some "*errors.errorString") : u = 142 :=
  typeName_ptr_named (nm := "errors.errorString") (by rw [lv_star]; kernel_rfl) (by kernel_rfl) (by decide) u (by rw [lv_star]; exact h)

/-- The list of the three errors, 48 each. -/
def errsLaid : List (String × DataW Unit) := [("loop.example/g00821/impl.errNoImage", Rows.laid_loop_example_g00821_impl_errNoImage), ("loop.example/g00821/impl.errMild", Rows.laid_loop_example_g00821_impl_errMild), ("loop.example/g00821/impl.errGrave", Rows.laid_loop_example_g00821_impl_errGrave)]
theorem errs_of_laid {W : World} (h : laidMet Tryz.prog errsLaid W) : ∃ aN aM aG, GlE W aN aM aG ∧ GlA W aN aM aG := by
  obtain ⟨a0, a1, s0, s1, c0, c1, t0, t1, hv0, hv1, _, _, _, _, _, _, hne, hb0, hb1⟩ := laid_sentinels2 h lv_gN lv_tN lv_gM lv_tM Tryz.underlying48 lv_row Tryz.underlying142 Tryz.underlying164 rfl rfl Tryz.underlying9 lv_cE lv_cS
  obtain ⟨a1', a2, _, _, c1', c2, t1', t2, hv1', hv2, _, _, _, _, _, _, hne2, hb1', hb2⟩ := laid_sentinels2 (laidMet.tail h) lv_gM lv_tM lv_gG lv_tG Tryz.underlying48 lv_row Tryz.underlying142 Tryz.underlying164 rfl rfl Tryz.underlying9 lv_cE lv_cS
  have e : a1' = a1 := by
    have := hv1'.symm.trans hv1
    simpa using this
  subst e
  have k0 : W.cell? ⟨1, 0, none⟩ = some (.iface 142 (.pointer (some a0))) := by simpa using World.var?_cell lv_gN hv0 0
  have k1 : W.cell? ⟨0, 0, none⟩ = some (.iface 142 (.pointer (some a1'))) := by simpa using World.var?_cell lv_gM hv1 0
  have k2 : W.cell? ⟨3, 0, none⟩ = some (.iface 142 (.pointer (some a2))) := by simpa using World.var?_cell lv_gG hv2 0
  have j0 : 1 < W.heap.size := World.block_lt_of_cell? W _ k0
  have j1 : 0 < W.heap.size := World.block_lt_of_cell? W _ k1
  have j2 : 3 < W.heap.size := World.block_lt_of_cell? W _ k2
  exact ⟨a0, a1', a2, ⟨by omega, k0, k1, k2⟩, ⟨⟨c0, t0, hb0⟩, ⟨c1, t1, hb1⟩, ⟨c2, t2, hb2⟩, hne, fun e => hne2 e.symm⟩⟩

theorem lv_et : Tryz.prog.globalNamed "errors.errorType" = some 2 := by kernel_rfl
theorem lv_rt : (Tryz.prog.cutTypes.find? (·.1 == "internal/reflectlite.rtype")).map (·.2) = some 96 := by kernel_rfl
theorem lv_size : Tryz.prog.types.size = 176 := by kernel_rfl
theorem lv_oneRow : ((List.range 176).filter fun t => Tryz.prog.rowNamed t [101, 114, 114, 111, 114]) = [48] := by kernel_rfl
theorem handle_of_laid {W : World} (h : handlesMet Tryz.prog [("errors.errorType", Rows.laid_errors_errorType)] W) : GlT W := by
  obtain ⟨name, u, ty, e1, e2, e3, e4, e5⟩ := h _ (List.mem_singleton.2 rfl)
  have en : name = [101, 114, 114, 111, 114] := (Option.some.inj e1).symm
  subst en
  obtain rfl := Option.some.inj (lv_rt.symm.trans e2)
  have hm : ty ∈ (List.range 176).filter fun t => Tryz.prog.rowNamed t [101, 114, 114, 111, 114] := List.mem_filter.2 ⟨List.mem_range.2 (by rw [← lv_size]; exact e3), e4⟩
  rw [lv_oneRow] at hm
  obtain rfl := List.mem_singleton.1 hm
  have hh : typeHandle Tryz.prog 48 = .pointer (some ⟨4, 48, none⟩) := by kernel_rfl
  rw [hh] at e5
  have hc : W.cell? ⟨2, 0, none⟩ = some (.iface 96 (.agg #[.pointer (some ⟨4, 48, none⟩)])) := by simpa using World.var?_cell lv_et e5 0
  exact ⟨World.block_lt_of_cell? W _ hc, hc⟩

/-- Function 7. -/
theorem implDefects_all {aN aM aG : Addr} {W : World} (hG : GlE W aN aM aG) (hT : GlT W) : DefectsC W := implDefects_any implClaims_any implLoose_all implCounts_all implStored_all implTable_any hG hT

/-- Function 14. -/
theorem implMild_all {aN aM aG : Addr} {W : World} (hG : GlE W aN aM aG) (hA : GlA W aN aM aG) : MildC W := implMild_any implClaims_any implLoose_all implCounts_all implStored_all implTable_any hG hA

/-- Function 3. -/
theorem law_DefectsIn_all {W : World} (hL : laidMetH Tryz.prog (("errors.errorType", Rows.laid_errors_errorType) :: errsLaid) W) (A : Option Addr) (n c : Nat) (xs : List Int) (h : Rd W W.heap.size A n xs) :
    Calls Tryz.prog 3 #[.slice A n c] W fun e w' => e = .returned (.bool true) ∧ Below W.heap.size W w' := by
  have h' : laidMet Tryz.prog errsLaid W ∧ handlesMet Tryz.prog [("errors.errorType", Rows.laid_errors_errorType)] W := hL
  obtain ⟨aN, aM, aG, hG, _⟩ := errs_of_laid h'.1
  exact law_DefectsIn W (implDefects_all hG (handle_of_laid h'.2)) A n c xs h

/-- Function 4. -/
theorem law_Mild_all {W : World} (hL : laidMetH Tryz.prog errsLaid W) (A : Option Addr) (n c : Nat) (xs : List Int) (h : Rd W W.heap.size A n xs) :
    Calls Tryz.prog 4 #[.slice A n c] W fun e w' => e = .returned (.bool true) ∧ Below W.heap.size W w' := by
  have h' : laidMet Tryz.prog errsLaid W := hL
  obtain ⟨aN, aM, aG, hG, hA⟩ := errs_of_laid h'
  exact law_Mild W (implMild_all hG hA) A n c xs h

end Go.Proofs.YtieknpkbmccimaaGreatDoor
