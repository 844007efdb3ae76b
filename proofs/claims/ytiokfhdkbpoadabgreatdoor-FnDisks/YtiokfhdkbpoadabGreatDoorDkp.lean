/- Pictured (chapter 17): the program's side. -/
import Derived.Test.YtiokfhdkbpoadabGreatDoorDkk
import Derived.Test.YtiokfhdkbpoadabGreatDoorWpq
import Derived.Test.YtiokfhdkbpoadabGreatDoorY4
import Derived.Test.YtiokfhdkbpoadabGreatDoorLawPic
import Derived.Test.YtiokfhdkbpoadabGreatDoorZ1
namespace Go.Proofs.YtiokfhdkbpoadabGreatDoor
open Go.RowKit

theorem pictured_no {xs : List Int} {name : Int} (h : ¬ (soundB xs = true ∧ (headOf xs).many < 4 ∧ wordB name = true)) : picturedL xs name = [] := by unfold picturedL; rw [if_neg h]
theorem pictured_anew {xs : List Int} {name : Int} (h : soundB xs = true ∧ (headOf xs).many < 4 ∧ wordB name = true) : picturedL xs name = ownedL (countedL (pictP xs name)) := by
  rw [pictured_prog, if_pos h, ← done_prog]; rfl

/-- A head in block q. -/
structure HBx (w : World) (q : Nat) (s f r u m : Int) : Prop where
  box : w.heap[q]? = some (.cells #[.int .i64 s, .int .i64 f, .int .i64 r, .int .i64 u, .int .i64 m] 33 (0, 0))
section
variable {w w' : World} {q : Nat} {s f r u m : Int}
theorem HBx.cell (H : HBx w q s f r u m) (j : Nat) : w.cell? ⟨q, j, none⟩ = (#[.int .i64 s, .int .i64 f, .int .i64 r, .int .i64 u, .int .i64 m] : Array Value)[j]? := cell_of_row w q j _ _ _ H.box
theorem HBx.free (H : HBx w q s f r u m) (j : Nat) : w.frozen? ⟨q, j, none⟩ = false := frozen_of_row w q j _ _ H.box
theorem HBx.lt (H : HBx w q s f r u m) : q < w.heap.size := (Array.getElem?_eq_some_iff.1 H.box).1
theorem HBx.below (H : HBx w q s f r u m) (b : Below w.heap.size w w') : HBx w' q s f r u m := ⟨(b.block q H.lt).trans H.box⟩
theorem HBx.grow {p : Nat} (H : HBx w q s f r u m) (g : Grow2 w w' p p) (h : q ≠ p) : HBx w' q s f r u m := ⟨(g.block q H.lt h h).trans H.box⟩
theorem HBx.shots (H : HBx w q s f r u m) (x : Int) : HBx (w.setCell ⟨q, 3, none⟩ (.int .i64 x)) q s f r x m := ⟨by simp [World.setCell, Array.getElem?_modify, H.box]⟩
theorem HBx.many (H : HBx w q s f r u m) (x : Int) : HBx (w.setCell ⟨q, 4, none⟩ (.int .i64 x)) q s f r u x := ⟨by simp [World.setCell, Array.getElem?_modify, H.box]⟩
end
theorem DkAt.other {w : World} {p n c : Nat} {A : Option Addr} {xs : List Int} {k : Int} (H : DkAt w p A n c xs k) (q j : Nat) (v : Value) (hq : q ≠ p) (ho : 0 < n → ∀ b o, A = some ⟨b, o, none⟩ → b ≠ q) : DkAt (w.setCell ⟨q, j, none⟩ v) p A n c xs k := by
  refine ⟨(Below.heap_setCell _ _ _ _ (fun e => hq e.symm)).trans H.box, ⟨H.rd.1, fun h0 => ?_⟩, H.cap, H.small, H.off⟩
  obtain ⟨b, o, e, hb, hx⟩ := H.rd.2 h0
  refine ⟨b, o, e, by simpa [World.setCell] using hb, fun i hi => ?_⟩
  rw [setCell_off _ _ _ _ _ (ho h0 b o e)]
  exact hx i hi

set_option maxRecDepth 100000 in
set_option maxHeartbeats 4000000 in
/-- Function 8. -/
theorem implPictured_any (hT : TableC) {W : World} (hS : SoundC W) (hC : CountedC W) (hO : OwnedC W) : PicturedC W := by
  intro A n c xs name w hW hr hn hnc
  obtain ⟨i0, hi0, hz0, hz1, hz2⟩ := info_parts info2
  have HNO := Lib.hid (pictured_no (xs := xs) (name := name))
  have HYA := Lib.hid (pictured_anew (xs := xs) (name := name))
  have HR := Lib.hid hr
  have HWB := Lib.hid hW
  have HM1 : Hid (hasHead xs = true → manyI xs = (manyN xs : Int) ∧ manyN xs ≤ 64) := fun h => ⟨by simp [manyI, hasHead_img h], manyN_le (hasHead_img h)⟩
  go_enter Tryz.func8, Tryz.ntmps8
  go_wp2_with fail
  refine (implHeadIn_any A n c xs w hr hn hnc).mono ?_
  rintro e w1 ⟨rfl, b1⟩
  generalize hh : headIn xs = rr
  obtain ⟨⟨s, f, r, u, mm⟩, is⟩ := rr
  have HHD := Lib.hid hh
  clear hh hr hW
  unfold hdV
  have B2 := Lib.hid (b1.alloc b1.size (.cells #[.int .i64 s, .int .i64 f, .int .i64 r, .int .i64 u, .int .i64 mm] 33))
  have X2 : Hid (HBx (w1.alloc (.cells #[.int .i64 s, .int .i64 f, .int .i64 r, .int .i64 u, .int .i64 mm] 33)) w1.heap.size s f r u mm) := ⟨heap_alloc_new _ _⟩
  have hbw : w.heap.size ≤ w1.heap.size := b1.size
  clear b1
  go_wp2_with fail
  generalize (w1.alloc (.cells #[.int .i64 s, .int .i64 f, .int .i64 r, .int .i64 u, .int .i64 mm] 33)) = v at *
  generalize w1.heap.size = hb at *
  refine (hS A n c xs v (below_more HWB.out B2.out HWB.out.size) ((HR.out.below B2.out).more B2.out.size) hn hnc).mono ?_
  rintro e w2 ⟨rfl, b2⟩
  have B3 := Lib.hid (below_more B2.out b2 B2.out.size)
  have X3 := Lib.hid (X2.out.below b2)
  have e4 : w2.cell? ⟨hb, 4, none⟩ = some (.int .i64 mm) := X3.out.cell 4
  clear b2 B2 X2
  cases hs : soundB xs
  · have HN := Lib.hid (HNO.out (fun h => by rw [hs] at h; cases h.1))
    clear hs
    go_wp2_with fail
    go_ret
    rw [HN.out]
    exact Ret.nil _ _ B3.out
  have HSO := Lib.hid hs
  clear hs
  have hhead := sound_head HSO.out
  have HHO : Hid (headOf xs = ⟨s, f, r, u, mm⟩ ∧ hasHead xs = true) := by
    have := HHD.out
    unfold headIn at this
    rw [if_pos hhead] at this
    injection this with h1 h2
    exact ⟨h1, hhead⟩
  have hmm : 0 ≤ mm ∧ mm ≤ 4 := by
    have := (headB_all (hasHead_ok hhead)).2.2.2.2
    rw [HHO.out.1] at this
    exact this
  clear hhead
  by_cases h1 : 4 ≤ mm
  · have hd : decide (4 ≤ mm) = true := by simpa using h1
    have HN := Lib.hid (HNO.out (fun h => by have := h.2.1; rw [HHO.out.1] at this; simp only at this; omega))
    clear h1
    go_wp2_with fail
    go_ret
    rw [HN.out]
    exact Ret.nil _ _ B3.out
  have hd1 : decide (4 ≤ mm) = false := by simpa using h1
  go_wp2_with fail
  refine (implWord_any name w2).mono ?_
  rintro e w' ⟨rfl, rfl⟩
  cases h8 : wordB name
  · have HN := Lib.hid (HNO.out (fun h => by rw [h8] at h; cases h.2.2))
    clear h8
    go_wp2_with fail
    go_ret
    rw [HN.out]
    exact Ret.nil _ _ B3.out
  have HY := Lib.hid (HYA.out ⟨HSO.out, by rw [HHO.out.1]; simp only; omega, h8⟩)
  clear h8
  obtain ⟨μ, rfl⟩ := Int.eq_ofNat_of_zero_le hmm.1
  have HSP : Hid (shotP xs = if (μ : Int) = 0 then (withL xs (manyN xs) (List.replicate 8 0), (manyN xs : Int) + 1, (manyN xs : Int)) else (xs, (manyN xs : Int), u)) := by
    show _ = _
    unfold shotP
    rw [HHO.out.1]
  have HPP : Hid (pictP xs name = headP (intoL (withL (shotP xs).1 (shotP xs).2.1 (tableL xs f)) (shotP xs).2.2 (2 * μ) [name, (shotP xs).2.1]) ⟨s, f, r, (shotP xs).2.2, (μ : Int) + 1⟩) := by
    show _ = _
    unfold pictP
    rw [HHO.out.1, Int.toNat_natCast]
  have HMI := Lib.hid (HM1.out HHO.out.2)
  go_wp2_with fail
  refine (diskOf_any A n c xs w2 ((HR.out.below B3.out).more B3.out.size) hn hnc).mono ?_
  rintro e w4 ⟨p, rfl, hp, h4, b4⟩
  rw [HMI.out.1] at h4
  have D4 := Lib.hid h4
  have B4 := Lib.hid (below_more B3.out b4 B3.out.size)
  have X4 := Lib.hid (X3.out.below b4)
  have hpw : w.heap.size ≤ p := Nat.le_trans B3.out.size hp
  have hbp : hb ≠ p := by have := X3.out.lt; omega
  clear h4 b4 hp e4 X3
  have c4 : w4.cell? ⟨hb, 4, none⟩ = some (.int .i64 (μ : Int)) := X4.out.cell 4
  have c1 : w4.cell? ⟨hb, 1, none⟩ = some (.int .i64 f) := X4.out.cell 1
  by_cases h0 : (μ : Int) = 0
  case' pos =>
    have hd : ((μ : Int) == 0) = true := by rw [beq_iff_eq]; exact h0
    have HSH : Hid (shotP xs = (withL xs (manyN xs) (List.replicate 8 0), (manyN xs : Int) + 1, (manyN xs : Int))) := by show _ = _; rw [HSP.out, if_pos h0]
    clear h0 HSP
    go_wp2_with (at_make; refine wpList_make_full _ rfl _ _ 24 rfl w4.heap.size 2 i0 (.int .i64 0) 1 Tryz.underlying24 hi0 hz0 hz1 .i64 .i64 _ _ 8 rfl rfl rfl rfl (by rw [hz2]; omega) (by simp only [maxLen]; omega) (Nat.le_refl _) ?_; intro w5 hown hg; rw [made_iv] at hown)
    have b5 : Below w4.heap.size w4 w5 := below_grown hg (Nat.le_refl _) (fun _ h => by cases h)
    have R5 : Hid (Rd w5 w5.heap.size (some ⟨w4.heap.size, 0, none⟩) 8 (List.replicate 8 0)) := rd_row (ys := List.replicate 8 0) (T := 2) (zeros_row hown) ((hown.lt w4.heap.size rfl).2)
    have D5 := Lib.hid (D4.out.below b5)
    have X5 := Lib.hid (X4.out.below b5)
    have B5 := Lib.hid (below_more B4.out b5 B4.out.size)
    clear hown hg b5 D4 X4 B4 c4 c1 hi0 hz0 hz1 hz2
    refine (newCluster_any p A n c xs (manyN xs) (some ⟨w4.heap.size, 0, none⟩) 8 8 (List.replicate 8 0) w5 D5.out R5.out (by omega) (by omega) (by have := HMI.out.2; omega)).mono ?_
    rintro e w6 ⟨rfl, A6, n6, c6, h6, g6, o6⟩
    have X6 := Lib.hid (X5.out.grow g6 hbp)
    have u3 : w6.cell? ⟨hb, 3, none⟩ = some (.int .i64 u) := X6.out.cell 3
    have u1 : w6.cell? ⟨hb, 1, none⟩ = some (.int .i64 f) := X6.out.cell 1
    have f3 := X6.out.free 3
    have b6 := g6.toBelow B5.out hpw hpw
    have X7 := Lib.hid (X6.out.shots (manyN xs : Int))
    have hb5 := X5.out.lt
    have D7 := Lib.hid (h6.other hb 3 (.int .i64 (manyN xs : Int)) hbp (fun h0 b o e => by have := o6 h0 b o e; omega))
    have B7 := Lib.hid (b6.setCell (p := ⟨hb, 3, none⟩) hbw (.int .i64 (manyN xs : Int)))
    clear h6 g6 o6 b6 B5 D5 X5 X6 R5 hb5
    go_wp2_with fail
    generalize (w6.setCell ⟨hb, 3, none⟩ (.int .i64 (manyN xs : Int))) = v7 at *
    clear u3 u1 f3
    obtain ⟨ys, hys⟩ : ∃ ys, ys = withL xs (manyN xs) (List.replicate 8 0) := ⟨_, rfl⟩
    obtain ⟨k7, hk7⟩ : ∃ k7, k7 = (manyN xs : Int) + 1 := ⟨_, rfl⟩
    obtain ⟨sh, hsh⟩ : ∃ sh, sh = (manyN xs : Int) := ⟨_, rfl⟩
    have hk : 0 ≤ k7 ∧ k7 ≤ 100 := by have := HMI.out.2; omega
    rw [← hk7, ← hys] at D7 HSH
    rw [← hsh] at X7 HSH
    clear hys hk7 hsh
  case' neg =>
    have hd : ((μ : Int) == 0) = false := by rw [beq_eq_false_iff_ne]; exact h0
    have HSH : Hid (shotP xs = (xs, (manyN xs : Int), u)) := by show _ = _; rw [HSP.out, if_neg h0]
    clear h0 HSP
    go_wp2_with fail
    obtain ⟨v7, hv7⟩ : ∃ v7, v7 = w4 := ⟨_, rfl⟩
    have D7 := D4
    have X7 := X4
    have B7 := B4
    rw [← hv7] at D7 X7 B7 ⊢
    clear hv7
    obtain ⟨A6, hA6⟩ : ∃ A6, A6 = A := ⟨_, rfl⟩
    obtain ⟨n6, hn6⟩ : ∃ n6, n6 = n := ⟨_, rfl⟩
    obtain ⟨c6, hc6⟩ : ∃ c6, c6 = c := ⟨_, rfl⟩
    obtain ⟨ys, hys⟩ : ∃ ys, ys = xs := ⟨_, rfl⟩
    obtain ⟨k7, hk7⟩ : ∃ k7, k7 = (manyN xs : Int) := ⟨_, rfl⟩
    obtain ⟨sh, hsh⟩ : ∃ sh, sh = u := ⟨_, rfl⟩
    have hk : 0 ≤ k7 ∧ k7 ≤ 100 := by have := HMI.out.2; omega
    rw [← hA6, ← hn6, ← hc6, ← hk7] at D7
    have D7 : Hid (DkAt v7 p A6 n6 c6 ys k7) := by rw [hys]; exact D7
    have HSH : Hid (shotP xs = (ys, k7, sh)) := by rw [hys, hk7, hsh]; exact HSH
    rw [← hsh] at X7
    clear hys hk7 hsh hA6 hn6 hc6 D4 X4 B4 c4 c1 hi0 hz0 hz1 hz2
  all_goals
    have HYY : Hid (picturedL xs name = ownedL (countedL (headP (intoL (withL ys k7 (tableL xs f)) sh (2 * μ) [name, k7]) ⟨s, f, r, sh, (μ : Int) + 1⟩))) := by
      show _ = _
      rw [HY.out, HPP.out, HSH.out]
    have n1 : IntKind.i64.wrap ((μ : Int) * 2) = (μ : Int) * 2 := IntWalk.i64_in _ (by omega)
    have n2 : IntKind.i64.wrap ((μ : Int) + 1) = (μ : Int) + 1 := IntWalk.i64_in _ (by omega)
    have HT8 := Lib.hid (tableL_length xs f)
    refine (hT A n c xs f v7 ((HR.out.below B7.out).more B7.out.size) hn hnc).mono ?_
    rintro e w8 ⟨G, ng, cg, rfl, oG, b8⟩
    have D8 := Lib.hid (D7.out.below b8)
    have X8 := Lib.hid (X7.out.below b8)
    have B8 := Lib.hid (below_more B7.out b8 B7.out.size)
    have hng : ng ≤ 8 := by have := oG.len; rcases HT8.out with h | h <;> omega
    have R8 := Lib.hid (oG.rd)
    clear D7 X7 B7 b8 oG HY HPP HSH HT8
    go_wp2_with fail
    refine (newCluster_any p A6 n6 c6 ys k7 G ng cg _ w8 D8.out R8.out (by omega) hk.1 (by omega)).mono ?_
    rintro e w9 ⟨rfl, A9, n9, c9, h9, g9, _⟩
    have X9 := X8.out.grow g9 hbp
    have b9 := g9.toBelow B8.out hpw hpw
    have k3 : w9.cell? ⟨hb, 3, none⟩ = some (.int .i64 sh) := X9.cell 3
    have k4 : w9.cell? ⟨hb, 4, none⟩ = some (.int .i64 (μ : Int)) := X9.cell 4
    have hb9 : hb < w9.heap.size := X9.lt
    have D10 := Lib.hid (h9.below ((Below.refl _ _).alloc (Nat.le_refl _) (.cells #[.int .i64 name, .int .i64 k7] 2)))
    have X10 := Lib.hid (X9.below ((Below.refl _ _).alloc (Nat.le_refl _) (.cells #[.int .i64 name, .int .i64 k7] 2)))
    have B10 := Lib.hid (b9.alloc b9.size (.cells #[.int .i64 name, .int .i64 k7] 2))
    have R10 : Hid (Rd (w9.alloc (.cells #[.int .i64 name, .int .i64 k7] 2)) (w9.alloc (.cells #[.int .i64 name, .int .i64 k7] 2)).heap.size (some ⟨w9.heap.size, 0, none⟩) 2 [name, k7]) := rd_row (ys := [name, k7]) (T := 2) (heap_alloc_new _ _) (by simp)
    clear h9 g9 X9 b9 D8 X8 B8 R8
    go_wp2_with fail
    rw [show (μ : Int) * 2 = ((2 * μ : Nat) : Int) from by omega]
    refine (dkInto_any hT p A9 n9 c9 _ (k7 + 1) sh (2 * μ) (some ⟨w9.heap.size, 0, none⟩) 2 2 [name, k7] _ D10.out R10.out (by omega) (by omega)).mono ?_
    rintro e w11 ⟨rfl, A11, n11, c11, h11, g11, o11⟩
    have hb10 := X10.out.lt
    have X11 := Lib.hid (X10.out.grow g11 hbp)
    have B11 := Lib.hid (g11.toBelow B10.out hpw hpw)
    have D11 := Lib.hid h11
    have q0 : w11.cell? ⟨hb, 0, none⟩ = some (.int .i64 s) := X11.out.cell 0
    have q1 : w11.cell? ⟨hb, 1, none⟩ = some (.int .i64 f) := X11.out.cell 1
    have q2 : w11.cell? ⟨hb, 2, none⟩ = some (.int .i64 r) := X11.out.cell 2
    have q3 : w11.cell? ⟨hb, 3, none⟩ = some (.int .i64 sh) := X11.out.cell 3
    have q4 : w11.cell? ⟨hb, 4, none⟩ = some (.int .i64 (μ : Int)) := X11.out.cell 4
    have f4 := X11.out.free 4
    have D12 := Lib.hid (D11.out.other hb 4 (.int .i64 ((μ : Int) + 1)) hbp (fun h0 b o e => by have := o11 h0 b o e; omega))
    have B12 := Lib.hid (B11.out.setCell (p := ⟨hb, 4, none⟩) hbw (.int .i64 ((μ : Int) + 1)))
    clear h11 g11 o11 hb10 hb9 D10 X10 B10 R10 k3 k4 D11 B11 X11
    go_wp2_with fail
    refine (dkHead_any p A11 n11 c11 _ (k7 + 1) s f r sh ((μ : Int) + 1) _ D12.out).mono ?_
    rintro e w13 ⟨rfl, A13, n13, c13, h13, g13⟩
    have D13 := Lib.hid h13
    have B13 := Lib.hid (g13.toBelow B12.out hpw hpw)
    clear h13 g13 D12 B12 q0 q1 q2 q3 q4 f4
    go_wp2_with fail
    refine (putRight_any hC hO p A13 n13 c13 _ _ w13 D13.out (below_more HWB.out B13.out HWB.out.size)).mono ?_
    rintro e w14 ⟨A9, n9, c9, rfl, o9, b9⟩
    go_wp2_with fail
    go_ret
    rw [HYY.out]
    exact ⟨A9, n9, c9, rfl, o9.more B13.out.size (Nat.le_refl _), below_more B13.out b9 B13.out.size⟩
end Go.Proofs.YtiokfhdkbpoadabGreatDoor
