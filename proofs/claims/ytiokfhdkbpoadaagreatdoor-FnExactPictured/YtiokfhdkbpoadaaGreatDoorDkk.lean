/- A disk (chapter 17): the second table that may be written into; own all the way: the program's side. -/
import Derived.Test.YtiokfhdkbpoadaaGreatDoorDkj
namespace Go.Proofs.YtiokfhdkbpoadaaGreatDoor
open Go.RowKit

/-- Function 28. -/
theorem ownAll_any (hFE : FirstEC) (hE : EntryC) (A : Option Addr) (n c : Nat) (xs : List Int) (g : Int) (w : World) (hr : Rd w w.heap.size A n xs) (hn : n ≤ 2097152) (hnc : n ≤ c) (g0 : 0 ≤ g) (g1 : g ≤ 64) :
    Calls Tryz.prog 28 #[.slice A n c, .int .i64 g] w (RetB w (ownIn (firstEntry xs 0 (g / 8)) && ownIn (entryAt xs 0 g))) := by
  have HR := Lib.hid hr
  go_enter Tryz.func28, Tryz.ntmps28
  go_wp2_with fail
  refine (slotInFirst_any g w g0 g1).mono ?_
  rintro e w' ⟨rfl, rfl⟩
  go_wp2_with fail
  refine (hFE A n c xs 0 (g / 8) w hr hn hnc).mono ?_
  rintro e w1 ⟨rfl, b1⟩
  generalize firstEntry xs 0 (g / 8) = e1 at *
  have B1 := Lib.hid b1
  clear b1 hr
  go_wp2_with fail
  refine (implOwn_any e1 w1).mono ?_
  rintro e w' ⟨rfl, rfl⟩
  cases ho : ownIn e1
  · have HO := Lib.hid ho
    clear ho
    go_wp2_with fail
    go_ret
    exact ⟨ret_bool (by rw [HO.out]; rfl), B1.out⟩
  · have HO := Lib.hid ho
    clear ho
    go_wp2_with fail
    refine (hE A n c xs 0 g w1 ((HR.out.below B1.out).more B1.out.size) hn hnc).mono ?_
    rintro e w2 ⟨rfl, b2⟩
    go_wp2_with fail
    refine (implOwn_any _ w2).mono ?_
    rintro e w' ⟨rfl, rfl⟩
    go_wp2_with fail
    go_ret
    exact ⟨ret_bool (by rw [HO.out]; simp), below_more B1.out b2 B1.out.size⟩

set_option maxRecDepth 100000 in
set_option maxHeartbeats 4000000 in
/-- Function 33. -/
theorem second_any (hT : TableC) (hFE : FirstEC) (hF : FirstC) (p : Nat) (A : Option Addr) (n c : Nat) (xs : List Int) (k g : Int) (slot : Nat) (w : World) (H : DkAt w p A n c xs k) (g0 : 0 ≤ g) (g1 : g ≤ 64) (hg : g / 8 = (slot : Int)) (h8 : slot < 8) (hk0 : 0 ≤ k) (hk : k ≤ 900) :
    Calls Tryz.prog 33 #[.pointer (some ⟨p, 0, none⟩), .int .i64 g] w fun e w' => e = .returned (.int .i64 (secP xs k slot).2.2) ∧ Turned w w' p (secP xs k slot).1 (secP xs k slot).2.1 := by
  have HH := Lib.hid H
  have c0 : w.cell? ⟨p, 0, none⟩ = some (.slice A n c) := H.cell 0
  clear H
  have HSP : Hid (secP xs k slot = if 32768 ≤ firstEntry xs 0 slot then (xs, k, firstEntry xs 0 slot % 32768) else (intoL (withL xs k (tab8 xs (firstEntry xs 0 slot % 32768))) (firstOf xs 0) slot [k], k + 1, k)) := rfl
  have HFW := Lib.hid (firstEntry_wordB xs slot)
  go_enter Tryz.func33, Tryz.ntmps33
  go_wp2_with fail
  refine (slotInFirst_any g w g0 g1).mono ?_
  rintro e w' ⟨rfl, rfl⟩
  rw [hg]
  go_wp2_with fail
  refine (hFE A n c xs 0 slot w HH.out.rd HH.out.small HH.out.cap).mono ?_
  rintro e w1 ⟨rfl, b1⟩
  generalize firstEntry xs 0 slot = fe at *
  have B1 := Lib.hid b1
  have H1 := Lib.hid (HH.out.below b1)
  have d0 : w1.cell? ⟨p, 0, none⟩ = some (.slice A n c) := H1.out.cell 0
  clear b1 c0
  go_wp2_with fail
  refine (entOwn_any fe w1 HFW.out).mono ?_
  rintro e w' ⟨rfl, rfl⟩
  by_cases ho : 32768 ≤ fe
  · have hd : decide (32768 ≤ fe) = true := by simpa using ho
    have HS2 : Hid (secP xs k slot = (xs, k, fe % 32768)) := by show _ = _; rw [HSP.out, if_pos ho]
    rw [hd]
    clear ho hd
    go_wp2_with fail
    refine (entTarget_any fe w1 HFW.out).mono ?_
    rintro e w' ⟨rfl, rfl⟩
    go_wp2_with fail
    go_ret
    rw [HS2.out]
    exact ⟨rfl, A, n, c, H1.out, (Grow2.refl w p p).below B1.out⟩
  · have hd : decide (32768 ≤ fe) = false := by simpa using ho
    have HS2 : Hid (secP xs k slot = (intoL (withL xs k (tab8 xs (fe % 32768))) (firstOf xs 0) slot [k], k + 1, k)) := by show _ = _; rw [HSP.out, if_neg ho]
    rw [hd]
    clear ho hd
    go_wp2_with fail
    have B0 := Lib.hid ((Below.refl w1.heap.size w1).alloc (Nat.le_refl _) (.cells #[.int .i64 0, .int .i64 0, .int .i64 0, .int .i64 0, .int .i64 0, .int .i64 0, .int .i64 0, .int .i64 0] 64))
    have Q0 : Hid ((w1.alloc (.cells #[.int .i64 0, .int .i64 0, .int .i64 0, .int .i64 0, .int .i64 0, .int .i64 0, .int .i64 0, .int .i64 0] 64)).heap[w1.heap.size]? = some (.cells (iv (List.replicate 8 0)).toArray 64 (0, 0))) := heap_alloc_new _ _
    have hql : w1.heap.size < (w1.alloc (.cells #[.int .i64 0, .int .i64 0, .int .i64 0, .int .i64 0, .int .i64 0, .int .i64 0, .int .i64 0, .int .i64 0] 64)).heap.size := by simp
    have HTL := Lib.hid (tableL_length xs (fe % 32768))
    have HTB := Lib.hid (tab8_table xs (fe % 32768))
    have HT8 := Lib.hid (tab8_length xs (fe % 32768))
    generalize (w1.alloc (.cells #[.int .i64 0, .int .i64 0, .int .i64 0, .int .i64 0, .int .i64 0, .int .i64 0, .int .i64 0, .int .i64 0] 64)) = v at *
    obtain ⟨q, hq⟩ : ∃ q, q = w1.heap.size := ⟨_, rfl⟩
    rw [← hq] at Q0 hql ⊢
    have HQ := Lib.hid hq
    clear hq
    have HV0 := Lib.hid (H1.out.below B0.out)
    have c0 : v.drew.cell? ⟨p, 0, none⟩ = some (.slice A n c) := HV0.out.cell 0
    have hrd : Rd v.drew v.drew.heap.size A n xs := HV0.out.rd
    have hqd : q < v.drew.heap.size := hql
    clear d0
    go_region_law
      (first
        | (refine step_copy_splice (by rfl) (.tmp 22) (.tmp 29) 22 22 (by rfl) 2 Tryz.underlying22 info2s (some ⟨q, 0, none⟩) G 8 8 ng cg (by kernel_rfl) (by kernel_rfl) q 0 (iv (List.replicate 8 0)) 64 Q2.out (iv (tableL xs (fe % 32768))) HN.out HP.out HF.out (int_one _) w1.heap.size w1 B2.out (Nat.le_of_eq HQ.out.symm) ?_; intro w5 h5 b5; have H5 := Lib.hid b5; clear b5)
        | (go_simp; go_at_call 69; refine (entTarget_any fe _ HFW.out).mono ?_; rintro e w' ⟨rfl, rfl⟩)
        | (go_simp; go_at_call 43; refine (hT A n c xs (fe % 32768) _ hrd HH.out.small HH.out.cap).mono ?_; rintro e w2 ⟨G, ng, cg, rfl, oG, b2⟩
           have Q2 : Hid (w2.heap[q]? = some (.cells (iv (List.replicate 8 0)).toArray 64 (0, 0))) := (b2.block q hqd).trans Q0.out
           have hgl : (tableL xs (fe % 32768)).length = ng := oG.len
           have hg8 : (tableL xs (fe % 32768)).length ≤ 8 := by rcases HTL.out with h | h <;> omega
           have HN : Hid ((iv (tableL xs (fe % 32768))).length = Nat.min ng 8) := by rw [iv_length, hgl]; exact (Nat.min_eq_left (by omega)).symm
           have HP : Hid (0 < (iv (tableL xs (fe % 32768))).length → (some ⟨q, 0, none⟩ : Option Addr) = some ⟨q, 0, none⟩ ∧ ∃ ad, G = some ad ∧ ∀ j v, (iv (tableL xs (fe % 32768)))[j]? = some v → w2.cell? (ad.add j) = some v) := fun h => ⟨rfl, rd_source oG.rd h⟩
           have HF : Hid (0 + (iv (tableL xs (fe % 32768))).length ≤ (iv (List.replicate 8 0)).length) := by show _ ≤ _; rw [iv_length, iv_length, List.length_replicate]; omega
           have B2 : Hid (Below w1.heap.size w1 w2) := below_more B0.out.drew b2 B0.out.size
           clear hgl hg8 oG))
    all_goals
      have Q5 : Hid (w5.heap[q]? = some (.cells (iv (tab8 xs (fe % 32768))).toArray 64 (0, 0))) := by
        show _ = _
        rw [h5.out, iv_splice, ← HTB.out]
      have D5 := Lib.hid (H1.out.below H5.out)
      have hq5 : q < w5.heap.size := (Array.getElem?_eq_some_iff.1 Q5.out).1
      have e5 : w5.cell? ⟨p, 0, none⟩ = some (.slice A n c) := D5.out.cell 0
      have B5 := Lib.hid (below_more B1.out H5.out B1.out.size)
      clear h5
      generalize tab8 xs (fe % 32768) = ts at *
      go_wp2_with fail
      refine (hF A n c xs 0 w5 D5.out.rd HH.out.small HH.out.cap).mono ?_
      rintro e w6 ⟨rfl, b6⟩
      have D6 := Lib.hid (D5.out.below b6)
      have R6 : Hid (Rd w6 w6.heap.size (some ⟨q, 0, none⟩) 8 ts) := by
        have r := rd_row ((b6.block q hq5).trans Q5.out) (Nat.lt_of_lt_of_le hq5 b6.size)
        rw [HT8.out] at r
        exact r
      have G6 := Lib.hid (((Grow2.refl w p p).below B5.out).below b6)
      clear b6
      go_wp2_with fail
      refine (newCluster_any p A n c xs k (some ⟨q, 0, none⟩) 8 8 ts w6 D6.out R6.out (by omega) hk0 (by omega)).mono ?_
      rintro e w7 ⟨rfl, A7, n7, c7, h7, g7, _⟩
      have D7 := Lib.hid (h7.below ((Below.refl _ _).alloc (Nat.le_refl _) (.cells #[.int .i64 k] 2)))
      have G7 := Lib.hid ((G6.out.next (.inl rfl) g7).below ((Below.refl _ _).alloc (Nat.le_refl _) (.cells #[.int .i64 k] 2)))
      have R7 : Hid (Rd (w7.alloc (.cells #[.int .i64 k] 2)) (w7.alloc (.cells #[.int .i64 k] 2)).heap.size (some ⟨w7.heap.size, 0, none⟩) 1 [k]) := rd_row (ys := [k]) (T := 2) (heap_alloc_new _ _) (by simp)
      clear h7 g7
      go_wp2_with fail
      refine (dkInto_any hT p A7 n7 c7 _ (k + 1) (firstOf xs 0) slot (some ⟨w7.heap.size, 0, none⟩) 1 1 [k] _ D7.out R7.out (by omega) (by omega)).mono ?_
      rintro e w8 ⟨rfl, T8⟩
      go_wp2_with fail
      go_ret
      rw [HS2.out]
      exact ⟨rfl, Turned.next G7.out T8.old⟩
end Go.Proofs.YtiokfhdkbpoadaaGreatDoor
