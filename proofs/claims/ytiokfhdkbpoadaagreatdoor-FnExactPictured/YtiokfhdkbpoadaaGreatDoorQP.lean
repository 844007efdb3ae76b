/- The exact laws of chapter 5, walked, given what the program's own functions answer. Places (chapter 5): the program's side. -/
import Derived.Test.YtiokfhdkbpoadaaGreatDoorG8
import Derived.Test.YtiokfhdkbpoadaaGreatDoorG0
import Derived.Test.YtiokfhdkbpoadaaGreatDoorQ7
namespace Go.Proofs.YtiokfhdkbpoadaaGreatDoor
open Go.RowKit

/-- What is asked of the program's EntryAt, FirstEntry. -/
def EntryC : Prop := ∀ (A : Option Addr) (n c : Nat) (xs : List Int) (q g : Int) (w : World), Rd w w.heap.size A n xs → n ≤ 2097152 → n ≤ c → Calls Tryz.prog 31 #[.slice A n c, .int .i64 q, .int .i64 g] w (RetI w (entryAt xs q g))

def FirstEC : Prop := ∀ (A : Option Addr) (n c : Nat) (xs : List Int) (q g : Int) (w : World), Rd w w.heap.size A n xs → n ≤ 2097152 → n ≤ c → Calls Tryz.prog 62 #[.slice A n c, .int .i64 q, .int .i64 g] w (RetI w (firstEntry xs q g))

/-- What stands in the slot s of the table t: 0 where there is none. -/
def slotL (xs : List Int) (t s : Int) : Int := if inB s 0 (((tableL xs t).length : Int) - 1) then (tableL xs t).getD s.toNat 0 else 0

set_option maxHeartbeats 1000000 in
theorem entryInA_any (A : Option Addr) (n c : Nat) (xs : List Int) (t p s : Int) (w : World) (h : Rd w w.heap.size A n xs) (hn : n ≤ 2097152) (hnc : n ≤ c)
    (hF : ∀ w, Calls Tryz.prog 94 #[.int .i64 p] w fun e w' => e = .returned (.int .i64 s) ∧ w = w') :
    Calls Tryz.prog 70 #[.slice A n c, .int .i64 t, .int .i64 p, .func (.func 94) #[] #[]] w (RetI w (slotL xs t s)) := by
  have HF := Lib.hid hF
  clear hF
  go_enter Tryz.func70, Tryz.ntmps70
  go_wp2_with fail
  refine (implTable_any A n c xs t w h hn hnc).mono ?_
  rintro e w1 ⟨G, ng, cg, rfl, oG, b1⟩
  have HL := Lib.hid oG.len
  have hl8 : ng ≤ 8 := by have := tableL_length xs t; have := HL.out; omega
  go_wp2_with fail
  refine (HF.out w1).mono ?_
  rintro e w' ⟨rfl, rfl⟩
  by_cases h0 : s < 0
  · have hd : decide (s < 0) = true := by simpa using h0
    have HN := Lib.hid (show slotL xs t s = 0 by rw [slotL, if_neg (by rw [inB_true]; omega)])
    go_wp2_with fail
    go_ret
    exact RetI.mk HN.out.symm b1
  · have hd : decide (s < 0) = false := by simpa using h0
    obtain ⟨k, rfl⟩ := Int.eq_ofNat_of_zero_le (show 0 ≤ s by omega)
    by_cases h1 : ng ≤ k
    · have hd1 : decide (ng ≤ k) = true := by simpa using h1
      have HN := Lib.hid (show slotL xs t k = 0 by rw [slotL, if_neg (by rw [inB_true, HL.out]; omega)])
      go_wp2_with fail
      go_ret
      exact RetI.mk HN.out.symm b1
    · have hd1 : decide (ng ≤ k) = false := by simpa using h1
      have HN := Lib.hid (show slotL xs t k = (tableL xs t).getD k 0 by rw [slotL, if_pos (by rw [inB_true, HL.out]; omega), Int.toNat_natCast])
      rcases oG.form with ⟨_, h9, _⟩ | ⟨g, rfl, g1, g2, g3, g4⟩
      · omega
      have hc := oG.cell (show k < ng by omega)
      go_wp2_with fail
      go_ret
      exact RetI.mk HN.out.symm b1

set_option maxHeartbeats 1000000 in
theorem entryInB_any (A : Option Addr) (n c : Nat) (xs : List Int) (t p s : Int) (w : World) (h : Rd w w.heap.size A n xs) (hn : n ≤ 2097152) (hnc : n ≤ c)
    (hF : ∀ w, Calls Tryz.prog 63 #[.int .i64 p] w fun e w' => e = .returned (.int .i64 s) ∧ w = w') :
    Calls Tryz.prog 70 #[.slice A n c, .int .i64 t, .int .i64 p, .func (.func 63) #[] #[]] w (RetI w (slotL xs t s)) := by
  have HF := Lib.hid hF
  clear hF
  go_enter Tryz.func70, Tryz.ntmps70
  go_wp2_with fail
  refine (implTable_any A n c xs t w h hn hnc).mono ?_
  rintro e w1 ⟨G, ng, cg, rfl, oG, b1⟩
  have HL := Lib.hid oG.len
  have hl8 : ng ≤ 8 := by have := tableL_length xs t; have := HL.out; omega
  go_wp2_with fail
  refine (HF.out w1).mono ?_
  rintro e w' ⟨rfl, rfl⟩
  by_cases h0 : s < 0
  · have hd : decide (s < 0) = true := by simpa using h0
    have HN := Lib.hid (show slotL xs t s = 0 by rw [slotL, if_neg (by rw [inB_true]; omega)])
    go_wp2_with fail
    go_ret
    exact RetI.mk HN.out.symm b1
  · have hd : decide (s < 0) = false := by simpa using h0
    obtain ⟨k, rfl⟩ := Int.eq_ofNat_of_zero_le (show 0 ≤ s by omega)
    by_cases h1 : ng ≤ k
    · have hd1 : decide (ng ≤ k) = true := by simpa using h1
      have HN := Lib.hid (show slotL xs t k = 0 by rw [slotL, if_neg (by rw [inB_true, HL.out]; omega)])
      go_wp2_with fail
      go_ret
      exact RetI.mk HN.out.symm b1
    · have hd1 : decide (ng ≤ k) = false := by simpa using h1
      have HN := Lib.hid (show slotL xs t k = (tableL xs t).getD k 0 by rw [slotL, if_pos (by rw [inB_true, HL.out]; omega), Int.toNat_natCast])
      rcases oG.form with ⟨_, h9, _⟩ | ⟨g, rfl, g1, g2, g3, g4⟩
      · omega
      have hc := oG.cell (show k < ng by omega)
      go_wp2_with fail
      go_ret
      exact RetI.mk HN.out.symm b1

set_option maxHeartbeats 1000000 in
theorem entryInC_any (A : Option Addr) (n c : Nat) (xs : List Int) (t p s : Int) (w : World) (h : Rd w w.heap.size A n xs) (hn : n ≤ 2097152) (hnc : n ≤ c)
    (hF : ∀ w, Calls Tryz.prog 35 #[.int .i64 p] w fun e w' => e = .returned (.int .i64 s) ∧ w = w') :
    Calls Tryz.prog 70 #[.slice A n c, .int .i64 t, .int .i64 p, .func (.func 35) #[] #[]] w (RetI w (slotL xs t s)) := by
  have HF := Lib.hid hF
  clear hF
  go_enter Tryz.func70, Tryz.ntmps70
  go_wp2_with fail
  refine (implTable_any A n c xs t w h hn hnc).mono ?_
  rintro e w1 ⟨G, ng, cg, rfl, oG, b1⟩
  have HL := Lib.hid oG.len
  have hl8 : ng ≤ 8 := by have := tableL_length xs t; have := HL.out; omega
  go_wp2_with fail
  refine (HF.out w1).mono ?_
  rintro e w' ⟨rfl, rfl⟩
  by_cases h0 : s < 0
  · have hd : decide (s < 0) = true := by simpa using h0
    have HN := Lib.hid (show slotL xs t s = 0 by rw [slotL, if_neg (by rw [inB_true]; omega)])
    go_wp2_with fail
    go_ret
    exact RetI.mk HN.out.symm b1
  · have hd : decide (s < 0) = false := by simpa using h0
    obtain ⟨k, rfl⟩ := Int.eq_ofNat_of_zero_le (show 0 ≤ s by omega)
    by_cases h1 : ng ≤ k
    · have hd1 : decide (ng ≤ k) = true := by simpa using h1
      have HN := Lib.hid (show slotL xs t k = 0 by rw [slotL, if_neg (by rw [inB_true, HL.out]; omega)])
      go_wp2_with fail
      go_ret
      exact RetI.mk HN.out.symm b1
    · have hd1 : decide (ng ≤ k) = false := by simpa using h1
      have HN := Lib.hid (show slotL xs t k = (tableL xs t).getD k 0 by rw [slotL, if_pos (by rw [inB_true, HL.out]; omega), Int.toNat_natCast])
      rcases oG.form with ⟨_, h9, _⟩ | ⟨g, rfl, g1, g2, g3, g4⟩
      · omega
      have hc := oG.cell (show k < ng by omega)
      go_wp2_with fail
      go_ret
      exact RetI.mk HN.out.symm b1

theorem slotItself_any (p : Int) (w : World) : Calls Tryz.prog 94 #[.int .i64 p] w fun e w' => e = .returned (.int .i64 p) ∧ w = w' := by
  go_enter Tryz.func94, Tryz.ntmps94
  go_wp2
  go_ret
  exact ⟨rfl, rfl⟩

theorem slotInFirst_any (p : Int) (w : World) (h0 : 0 ≤ p) (h1 : p ≤ 64) : Calls Tryz.prog 63 #[.int .i64 p] w fun e w' => e = .returned (.int .i64 (p / 8)) ∧ w = w' := by
  go_enter Tryz.func63, Tryz.ntmps63
  go_wp2
  go_ret
  exact ⟨rfl, rfl⟩

theorem slotInSecond_any (p : Int) (w : World) (h0 : 0 ≤ p) (h1 : p ≤ 64) : Calls Tryz.prog 35 #[.int .i64 p] w fun e w' => e = .returned (.int .i64 (p % 8)) ∧ w = w' := by
  go_enter Tryz.func35, Tryz.ntmps35
  go_wp2
  go_ret
  exact ⟨rfl, rfl⟩

theorem implFirstEntry_any : FirstEC := by
  intro A n c xs q g w h hn hnc
  go_enter Tryz.func62, Tryz.ntmps62
  go_wp2_with fail
  refine (implFirst_any A n c xs q w h hn hnc).mono ?_
  rintro e w1 ⟨rfl, b1⟩
  go_wp2_with fail
  refine (entryInA_any A n c xs _ g g w1 ((h.below b1).more b1.size) hn hnc (fun w => slotItself_any g w)).mono ?_
  rintro e w2 ⟨rfl, b2⟩
  go_wp2_with fail
  go_ret
  exact RetI.mk rfl (below_more b1 b2 b1.size)

theorem slotL_second {xs : List Int} {t g : Int} : slotL xs t (g % 8) = (tableL xs t).getD (g % 8).toNat 0 := by
  unfold slotL
  rcases tableL_length xs t with h | h
  · rw [if_neg (by rw [inB_true]; omega), List.eq_nil_of_length_eq_zero h]; rfl
  · rw [if_pos (by rw [inB_true]; omega)]

set_option maxHeartbeats 1000000 in
theorem implEntryAt_any : EntryC := by
  intro A n c xs q g w h hn hnc
  go_enter Tryz.func31, Tryz.ntmps31
  go_wp2_with fail
  refine (implHeadIn_any _ _ _ xs _ h hn).mono ?_
  rintro e w1 ⟨rfl, b1⟩
  generalize hr : headIn xs = r
  obtain ⟨⟨s, f, r, u, m⟩, is⟩ := r
  have HR := Lib.hid hr
  clear hr
  unfold hdV
  have b2 := b1.alloc b1.size (.cells #[.int .i64 s, .int .i64 f, .int .i64 r, .int .i64 u, .int .i64 m] 31)
  have HO : Hid ((g < 0 ∨ s ≤ g) → entryAt xs q g = 0) := Lib.hid (by
    intro hh
    cases is
    · exact entryAt_no (headIn_false HR.out).1
    · refine entryAt_out (inB_false.2 (fun h => ?_))
      rw [(headIn_true HR.out).2] at h
      simp only at h
      omega)
  by_cases h0 : g < 0
  · have hd : decide (g < 0) = true := by simpa using h0
    go_wp2_with fail
    go_ret
    exact RetI.mk (HO.out (.inl h0)).symm b2
  · have hd : decide (g < 0) = false := by simpa using h0
    by_cases h1 : s ≤ g
    · have hd1 : decide (s ≤ g) = true := by simpa using h1
      go_wp2_with fail
      go_ret
      exact RetI.mk (HO.out (.inr h1)).symm b2
    · have hd1 : decide (s ≤ g) = false := by simpa using h1
      cases is
      · have hh := congrArg Hd.size (headIn_false HR.out).2
        have : s = 0 := hh
        omega
      have HY := Lib.hid (headIn_true HR.out)
      have hall := headB_all (hasHead_ok HY.out.1)
      rw [HY.out.2] at hall
      obtain ⟨⟨z1, z2⟩, _⟩ := hall
      simp only at z1 z2
      have HF := Lib.hid (entryAt_in (xs := xs) (q := q) (g := g) HY.out.1 (inB_true.2 (by rw [HY.out.2]; simp only; omega)))
      go_wp2_with fail
      refine (implFirst_any A n c xs q _ ((h.below b2).more b2.size) hn hnc).mono ?_
      rintro e w3 ⟨rfl, b3⟩
      have b03 := below_more b2 b3 b2.size
      go_wp2_with fail
      refine (entryInB_any A n c xs _ g (g / 8) w3 ((h.below b03).more b03.size) hn hnc (fun w => slotInFirst_any g w (by omega) (by omega))).mono ?_
      rintro e w4 ⟨rfl, b4⟩
      have b04 := below_more b03 b4 b03.size
      have hfe : slotL xs (firstOf xs q) (g / 8) = firstEntry xs q (g / 8) := rfl
      rw [hfe]
      clear hfe
      go_wp2_with fail
      refine (implTarget_any _ _).mono ?_
      rintro e w' ⟨rfl, rfl⟩
      go_wp2_with fail
      refine (entryInC_any A n c xs _ g (g % 8) w4 ((h.below b04).more b04.size) hn hnc (fun w => slotInSecond_any g w (by omega) (by omega))).mono ?_
      rintro e w5 ⟨rfl, b5⟩
      go_wp2_with fail
      go_ret
      exact RetI.mk (by rw [HF.out, slotL_second]) (below_more b04 b5 b04.size)

end Go.Proofs.YtiokfhdkbpoadaaGreatDoor
