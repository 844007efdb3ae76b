/- Written (chapter 17): the program's side. -/
import Derived.Test.YtiokfhdkbpoadabGreatDoorDkk
import Derived.Test.YtiokfhdkbpoadabGreatDoorWpq
import Derived.Test.YtiokfhdkbpoadabGreatDoorY4
import Derived.Test.YtiokfhdkbpoadabGreatDoorLawWrt
import Derived.Test.YtiokfhdkbpoadabGreatDoorZ1
namespace Go.Proofs.YtiokfhdkbpoadabGreatDoor
open Go.RowKit

theorem written_no {xs ws : List Int} {a : Int} (h : ¬ (soundB xs = true ∧ inB a 0 ((headOf xs).size - 1) = true ∧ eightB ws = true)) : writtenL xs a ws = [] := by unfold writtenL; rw [if_neg h]
theorem written_there {xs ws : List Int} {a : Int} (h : soundB xs = true ∧ inB a 0 ((headOf xs).size - 1) = true ∧ eightB ws = true) (ho : (ownIn (firstEntry xs 0 (a / 8)) && ownIn (entryAt xs 0 a)) = true) : writtenL xs a ws = withL xs (targetOf (entryAt xs 0 a)) ws := by
  rw [written_prog, if_pos h, if_pos ho]
theorem secP_next (xs : List Int) (k : Int) (s : Nat) : (secP xs k s).2.1 = k ∨ (secP xs k s).2.1 = k + 1 := by
  unfold secP
  split
  · exact .inl rfl
  · exact .inr rfl
theorem written_anew {xs ws : List Int} {a : Int} (h : soundB xs = true ∧ inB a 0 ((headOf xs).size - 1) = true ∧ eightB ws = true) (ho : (ownIn (firstEntry xs 0 (a / 8)) && ownIn (entryAt xs 0 a)) = false) : writtenL xs a ws = ownedL (countedL (writeP xs a.toNat ws)) := by
  rw [written_prog, if_pos h, ho, if_neg (by simp), ← done_prog]; rfl

set_option maxRecDepth 100000 in
set_option maxHeartbeats 4000000 in
/-- Function 6. -/
theorem implWritten_any (hT : TableC) (hFE : FirstEC) (hE : EntryC) (hF : FirstC) {W : World} (hS : SoundC W) (hC : CountedC W) (hO : OwnedC W) : WrittenC W := by
  intro A n c xs a V m cv ws w hW hr hn hnc hv hm hmc
  have HNO := Lib.hid (written_no (xs := xs) (ws := ws) (a := a))
  have HYT := Lib.hid (written_there (xs := xs) (ws := ws) (a := a))
  have HYA := Lib.hid (written_anew (xs := xs) (ws := ws) (a := a))
  have HR := Lib.hid hr
  have HV := Lib.hid hv
  have HWB := Lib.hid hW
  have HM1 : Hid (hasHead xs = true → manyI xs = (manyN xs : Int) ∧ manyN xs ≤ 64) := fun h => ⟨by simp [manyI, hasHead_img h], manyN_le (hasHead_img h)⟩
  go_enter Tryz.func6, Tryz.ntmps6
  go_wp2_with fail
  refine (implHeadIn_any A n c xs w hr hn hnc).mono ?_
  rintro e w1 ⟨rfl, b1⟩
  generalize hh : headIn xs = rr
  obtain ⟨⟨s, f, r, u, mm⟩, is⟩ := rr
  have HHD := Lib.hid hh
  clear hh hr hv hW
  unfold hdV
  have B2 := Lib.hid (b1.alloc b1.size (.cells #[.int .i64 s, .int .i64 f, .int .i64 r, .int .i64 u, .int .i64 mm] 33))
  have e0 : (w1.alloc (.cells #[.int .i64 s, .int .i64 f, .int .i64 r, .int .i64 u, .int .i64 mm] 33)).cell? ⟨w1.heap.size, 0, none⟩ = some (.int .i64 s) := (World.cell?_alloc_new _ _ _ _).trans rfl
  have hhl : w1.heap.size < (w1.alloc (.cells #[.int .i64 s, .int .i64 f, .int .i64 r, .int .i64 u, .int .i64 mm] 33)).heap.size := by simp
  clear b1
  go_wp2_with fail
  generalize (w1.alloc (.cells #[.int .i64 s, .int .i64 f, .int .i64 r, .int .i64 u, .int .i64 mm] 33)) = v at *
  generalize w1.heap.size = hb at *
  refine (hS A n c xs v (below_more HWB.out B2.out HWB.out.size) ((HR.out.below B2.out).more B2.out.size) hn hnc).mono ?_
  rintro e w2 ⟨rfl, b2⟩
  have B3 := Lib.hid (below_more B2.out b2 B2.out.size)
  have e2 : w2.cell? ⟨hb, 0, none⟩ = some (.int .i64 s) := (b2.cell (p := ⟨hb, 0, none⟩) hhl).trans e0
  clear b2 e0 hhl B2
  cases hs : soundB xs
  · have HN := Lib.hid (HNO.out (fun h => by rw [hs] at h; cases h.1))
    clear hs
    go_wp2_with fail
    go_ret
    rw [HN.out]
    exact Ret.nil _ _ B3.out
  have HSO := Lib.hid hs
  clear hs
  have hhead := sound_head HSO.out
  have HHO : Hid (headOf xs = ⟨s, f, r, u, mm⟩ ∧ hasHead xs = true) := by
    have := HHD.out
    unfold headIn at this
    rw [if_pos hhead] at this
    injection this with h1 h2
    exact ⟨h1, hhead⟩
  have hsz : 1 ≤ s ∧ s ≤ 64 := by
    have := (headB_all (hasHead_ok hhead)).1
    rw [HHO.out.1] at this
    exact this
  clear hhead
  by_cases h0 : a < 0
  · have hd : decide (a < 0) = true := by simpa using h0
    have HN := Lib.hid (HNO.out (fun h => by have := inB_true.1 h.2.1; omega))
    clear h0
    go_wp2_with fail
    go_ret
    rw [HN.out]
    exact Ret.nil _ _ B3.out
  have hd0 : decide (a < 0) = false := by simpa using h0
  by_cases h1 : s ≤ a
  · have hd : decide (s ≤ a) = true := by simpa using h1
    have HN := Lib.hid (HNO.out (fun h => by have := inB_true.1 h.2.1; rw [HHO.out.1] at this; simp only at this; omega))
    clear h1
    go_wp2_with fail
    go_ret
    rw [HN.out]
    exact Ret.nil _ _ B3.out
  have hd1 : decide (s ≤ a) = false := by simpa using h1
  go_wp2_with fail
  refine (implEight_any V m cv ws _ w2 ((HV.out.below B3.out).more B3.out.size) hm).mono ?_
  rintro e w' ⟨rfl, rfl⟩
  cases h8 : eightB ws
  · have HN := Lib.hid (HNO.out (fun h => by rw [h8] at h; cases h.2.2))
    clear h8
    go_wp2_with fail
    go_ret
    rw [HN.out]
    exact Ret.nil _ _ B3.out
  have HOK : Hid (soundB xs = true ∧ inB a 0 ((headOf xs).size - 1) = true ∧ eightB ws = true) := ⟨HSO.out, inB_true.2 (by rw [HHO.out.1]; simp only; omega), h8⟩
  clear h8
  have HR3 := Lib.hid ((HR.out.below B3.out).more B3.out.size)
  go_wp2_with fail
  refine (ownAll_any hFE hE A n c xs a w2 HR3.out hn hnc (by omega) (by omega)).mono ?_
  rintro e w3 ⟨rfl, b3⟩
  have B4 := Lib.hid (below_more B3.out b3 B3.out.size)
  have HR4 := Lib.hid ((HR.out.below B4.out).more B4.out.size)
  have HV4 := Lib.hid ((HV.out.below B4.out).more B4.out.size)
  clear b3 e2
  cases ho : (ownIn (firstEntry xs 0 (a / 8)) && ownIn (entryAt xs 0 a))
  case true =>
    have HY := Lib.hid (HYT.out HOK.out ho)
    clear ho
    go_wp2_with fail
    refine (hE A n c xs 0 a w3 HR4.out hn hnc).mono ?_
    rintro e w4 ⟨rfl, b4⟩
    have B5 := Lib.hid (below_more B4.out b4 B4.out.size)
    clear b4
    go_wp2_with fail
    refine (implTarget_any _ w4).mono ?_
    rintro e w' ⟨rfl, rfl⟩
    go_wp2_with fail
    refine (implWcl_any A n c xs _ V m cv ws w4 ((HR.out.below B5.out).more B5.out.size) ((HV.out.below B5.out).more B5.out.size) hn hm).mono ?_
    rintro e w5 ⟨G, ng, cg, rfl, oG, b5⟩
    go_wp2_with fail
    go_ret
    rw [HY.out]
    exact ⟨G, ng, cg, rfl, oG.more B5.out.size (Nat.le_refl _), below_more B5.out b5 B5.out.size⟩
  case false =>
    have HY := Lib.hid (HYA.out HOK.out ho)
    clear ho
    obtain ⟨g, rfl⟩ := Int.eq_ofNat_of_zero_le (show 0 ≤ a by omega)
    have hg8 : (g : Int) / 8 = ((g / 8 : Nat) : Int) := by omega
    have hg8' : (g : Int) % 8 = ((g % 8 : Nat) : Int) := by omega
    have HG8 := Lib.hid hg8
    have HG8' := Lib.hid hg8'
    clear hg8 hg8'
    have HMI := Lib.hid (HM1.out HHO.out.2)
    go_wp2_with fail
    refine (diskOf_any A n c xs w3 HR4.out hn hnc).mono ?_
    rintro e w4 ⟨p, rfl, hp, h4, b4⟩
    rw [HMI.out.1] at h4
    have D4 := Lib.hid h4
    have B5 := Lib.hid (below_more B4.out b4 B4.out.size)
    have hpw : w.heap.size ≤ p := Nat.le_trans B4.out.size hp
    clear h4 b4 hp
    go_wp2_with fail
    refine (second_any hT hFE hF p A n c xs _ (g : Int) (g / 8) w4 D4.out (by omega) (by omega) HG8.out (by omega) (by omega) (by have := HMI.out.2; omega)).mono ?_
    rintro e w5 ⟨rfl, A5, n5, c5, h5, g5⟩
    have HY2 : Hid (writtenL xs (g : Int) ws = ownedL (countedL (intoL (withL (secP xs (manyN xs) (g / 8)).1 (secP xs (manyN xs) (g / 8)).2.1 ws) (secP xs (manyN xs) (g / 8)).2.2 (g % 8) [(secP xs (manyN xs) (g / 8)).2.1]))) := by
      show _ = _
      rw [HY.out, Int.toNat_natCast]
      rfl
    have hnx := secP_next xs (manyN xs) (g / 8)
    clear HY HYT HYA HNO
    generalize secP xs (manyN xs) (g / 8) = sp at *
    obtain ⟨ys, k, t⟩ := sp
    have HY3 : Hid (writtenL xs (g : Int) ws = ownedL (countedL (intoL (withL ys k ws) t (g % 8) [k]))) := HY2.out
    have D5 : Hid (DkAt w5 p A5 n5 c5 ys k) := h5
    have hk : 0 ≤ k ∧ k ≤ 100 := by
      have := HMI.out.2
      simp only at hnx
      omega
    have B6 := Lib.hid (g5.toBelow B5.out hpw hpw)
    have HW2 := Lib.hid hpw
    clear HY2 h5 g5 hnx
    go_wp2_with fail
    refine (slotInSecond_any (g : Int) w5 (by omega) (by omega)).mono ?_
    rintro e w' ⟨rfl, rfl⟩
    rw [HG8'.out]
    go_wp2_with fail
    refine (newCluster_any p A5 n5 c5 ys k V m cv ws w5 D5.out ((HV.out.below B6.out).more B6.out.size) hm hk.1 (by omega)).mono ?_
    rintro e w7 ⟨rfl, A7, n7, c7, h7, g7, _⟩
    have D7 := Lib.hid (h7.below ((Below.refl _ _).alloc (Nat.le_refl _) (.cells #[.int .i64 k] 2)))
    have b7 := g7.toBelow B6.out HW2.out HW2.out
    have B7 := Lib.hid (b7.alloc b7.size (.cells #[.int .i64 k] 2))
    have R7 : Hid (Rd (w7.alloc (.cells #[.int .i64 k] 2)) (w7.alloc (.cells #[.int .i64 k] 2)).heap.size (some ⟨w7.heap.size, 0, none⟩) 1 [k]) := rd_row (ys := [k]) (T := 2) (heap_alloc_new _ _) (by simp)
    clear h7 g7 b7
    go_wp2_with fail
    refine (dkInto_any hT p A7 n7 c7 _ (k + 1) t (g % 8) (some ⟨w7.heap.size, 0, none⟩) 1 1 [k] _ D7.out R7.out (by omega) (by omega)).mono ?_
    rintro e w8 ⟨rfl, A8, n8, c8, h8, g8, _⟩
    have B8 := Lib.hid (g8.toBelow B7.out HW2.out HW2.out)
    have D8 := Lib.hid h8
    clear h8 g8
    go_wp2_with fail
    refine (putRight_any hC hO p A8 n8 c8 _ _ w8 D8.out (below_more HWB.out B8.out HWB.out.size)).mono ?_
    rintro e w9 ⟨A9, n9, c9, rfl, o9, b9⟩
    go_wp2_with fail
    go_ret
    rw [HY3.out]
    exact ⟨A9, n9, c9, rfl, o9.more B8.out.size (Nat.le_refl _), below_more B8.out b9 B8.out.size⟩
end Go.Proofs.YtiokfhdkbpoadabGreatDoor
