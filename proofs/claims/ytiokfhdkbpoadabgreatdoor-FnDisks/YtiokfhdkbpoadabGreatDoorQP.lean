/- The exact laws of chapter 5, walked, given what the program's own functions answer. Places (chapter 5): the program's side. Contents and names (chapter 10): the program's side. -/
import Derived.Test.YtiokfhdkbpoadabGreatDoorG8
import Derived.Test.YtiokfhdkbpoadabGreatDoorG0
import Derived.Test.YtiokfhdkbpoadabGreatDoorQ7
import Derived.Test.YtiokfhdkbpoadabGreatDoorLawCon
import Derived.WalkMore
namespace Go.Proofs.YtiokfhdkbpoadabGreatDoor
open Go.RowKit

/-- What is asked of the program's EntryAt, FirstEntry. -/
def EntryC : Prop := ∀ (A : Option Addr) (n c : Nat) (xs : List Int) (q g : Int) (w : World), Rd w w.heap.size A n xs → n ≤ 2097152 → n ≤ c → Calls Tryz.prog 29 #[.slice A n c, .int .i64 q, .int .i64 g] w (RetI w (entryAt xs q g))

def FirstEC : Prop := ∀ (A : Option Addr) (n c : Nat) (xs : List Int) (q g : Int) (w : World), Rd w w.heap.size A n xs → n ≤ 2097152 → n ≤ c → Calls Tryz.prog 74 #[.slice A n c, .int .i64 q, .int .i64 g] w (RetI w (firstEntry xs q g))

/-- What stands in the slot s of the table t: 0 where there is none. -/
def slotL (xs : List Int) (t s : Int) : Int := if inB s 0 (((tableL xs t).length : Int) - 1) then (tableL xs t).getD s.toNat 0 else 0

set_option maxHeartbeats 1000000 in
theorem entryInA_any (A : Option Addr) (n c : Nat) (xs : List Int) (t p s : Int) (w : World) (h : Rd w w.heap.size A n xs) (hn : n ≤ 2097152) (hnc : n ≤ c)
    (hF : ∀ w, Calls Tryz.prog 105 #[.int .i64 p] w fun e w' => e = .returned (.int .i64 s) ∧ w = w') :
    Calls Tryz.prog 82 #[.slice A n c, .int .i64 t, .int .i64 p, .func (.func 105) #[] #[]] w (RetI w (slotL xs t s)) := by
  have HF := Lib.hid hF
  clear hF
  go_enter Tryz.func82, Tryz.ntmps82
  go_wp2_with fail
  refine (implTable_any A n c xs t w h hn hnc).mono ?_
  rintro e w1 ⟨G, ng, cg, rfl, oG, b1⟩
  have HL := Lib.hid oG.len
  have hl8 : ng ≤ 8 := by have := tableL_length xs t; have := HL.out; omega
  go_wp2_with fail
  refine (HF.out w1).mono ?_
  rintro e w' ⟨rfl, rfl⟩
  by_cases h0 : s < 0
  · have hd : decide (s < 0) = true := by simpa using h0
    have HN := Lib.hid (show slotL xs t s = 0 by rw [slotL, if_neg (by rw [inB_true]; omega)])
    go_wp2_with fail
    go_ret
    exact RetI.mk HN.out.symm b1
  · have hd : decide (s < 0) = false := by simpa using h0
    obtain ⟨k, rfl⟩ := Int.eq_ofNat_of_zero_le (show 0 ≤ s by omega)
    by_cases h1 : ng ≤ k
    · have hd1 : decide (ng ≤ k) = true := by simpa using h1
      have HN := Lib.hid (show slotL xs t k = 0 by rw [slotL, if_neg (by rw [inB_true, HL.out]; omega)])
      go_wp2_with fail
      go_ret
      exact RetI.mk HN.out.symm b1
    · have hd1 : decide (ng ≤ k) = false := by simpa using h1
      have HN := Lib.hid (show slotL xs t k = (tableL xs t).getD k 0 by rw [slotL, if_pos (by rw [inB_true, HL.out]; omega), Int.toNat_natCast])
      rcases oG.form with ⟨_, h9, _⟩ | ⟨g, rfl, g1, g2, g3, g4⟩
      · omega
      have hc := oG.cell (show k < ng by omega)
      go_wp2_with fail
      go_ret
      exact RetI.mk HN.out.symm b1

set_option maxHeartbeats 1000000 in
theorem entryInB_any (A : Option Addr) (n c : Nat) (xs : List Int) (t p s : Int) (w : World) (h : Rd w w.heap.size A n xs) (hn : n ≤ 2097152) (hnc : n ≤ c)
    (hF : ∀ w, Calls Tryz.prog 75 #[.int .i64 p] w fun e w' => e = .returned (.int .i64 s) ∧ w = w') :
    Calls Tryz.prog 82 #[.slice A n c, .int .i64 t, .int .i64 p, .func (.func 75) #[] #[]] w (RetI w (slotL xs t s)) := by
  have HF := Lib.hid hF
  clear hF
  go_enter Tryz.func82, Tryz.ntmps82
  go_wp2_with fail
  refine (implTable_any A n c xs t w h hn hnc).mono ?_
  rintro e w1 ⟨G, ng, cg, rfl, oG, b1⟩
  have HL := Lib.hid oG.len
  have hl8 : ng ≤ 8 := by have := tableL_length xs t; have := HL.out; omega
  go_wp2_with fail
  refine (HF.out w1).mono ?_
  rintro e w' ⟨rfl, rfl⟩
  by_cases h0 : s < 0
  · have hd : decide (s < 0) = true := by simpa using h0
    have HN := Lib.hid (show slotL xs t s = 0 by rw [slotL, if_neg (by rw [inB_true]; omega)])
    go_wp2_with fail
    go_ret
    exact RetI.mk HN.out.symm b1
  · have hd : decide (s < 0) = false := by simpa using h0
    obtain ⟨k, rfl⟩ := Int.eq_ofNat_of_zero_le (show 0 ≤ s by omega)
    by_cases h1 : ng ≤ k
    · have hd1 : decide (ng ≤ k) = true := by simpa using h1
      have HN := Lib.hid (show slotL xs t k = 0 by rw [slotL, if_neg (by rw [inB_true, HL.out]; omega)])
      go_wp2_with fail
      go_ret
      exact RetI.mk HN.out.symm b1
    · have hd1 : decide (ng ≤ k) = false := by simpa using h1
      have HN := Lib.hid (show slotL xs t k = (tableL xs t).getD k 0 by rw [slotL, if_pos (by rw [inB_true, HL.out]; omega), Int.toNat_natCast])
      rcases oG.form with ⟨_, h9, _⟩ | ⟨g, rfl, g1, g2, g3, g4⟩
      · omega
      have hc := oG.cell (show k < ng by omega)
      go_wp2_with fail
      go_ret
      exact RetI.mk HN.out.symm b1

set_option maxHeartbeats 1000000 in
theorem entryInC_any (A : Option Addr) (n c : Nat) (xs : List Int) (t p s : Int) (w : World) (h : Rd w w.heap.size A n xs) (hn : n ≤ 2097152) (hnc : n ≤ c)
    (hF : ∀ w, Calls Tryz.prog 33 #[.int .i64 p] w fun e w' => e = .returned (.int .i64 s) ∧ w = w') :
    Calls Tryz.prog 82 #[.slice A n c, .int .i64 t, .int .i64 p, .func (.func 33) #[] #[]] w (RetI w (slotL xs t s)) := by
  have HF := Lib.hid hF
  clear hF
  go_enter Tryz.func82, Tryz.ntmps82
  go_wp2_with fail
  refine (implTable_any A n c xs t w h hn hnc).mono ?_
  rintro e w1 ⟨G, ng, cg, rfl, oG, b1⟩
  have HL := Lib.hid oG.len
  have hl8 : ng ≤ 8 := by have := tableL_length xs t; have := HL.out; omega
  go_wp2_with fail
  refine (HF.out w1).mono ?_
  rintro e w' ⟨rfl, rfl⟩
  by_cases h0 : s < 0
  · have hd : decide (s < 0) = true := by simpa using h0
    have HN := Lib.hid (show slotL xs t s = 0 by rw [slotL, if_neg (by rw [inB_true]; omega)])
    go_wp2_with fail
    go_ret
    exact RetI.mk HN.out.symm b1
  · have hd : decide (s < 0) = false := by simpa using h0
    obtain ⟨k, rfl⟩ := Int.eq_ofNat_of_zero_le (show 0 ≤ s by omega)
    by_cases h1 : ng ≤ k
    · have hd1 : decide (ng ≤ k) = true := by simpa using h1
      have HN := Lib.hid (show slotL xs t k = 0 by rw [slotL, if_neg (by rw [inB_true, HL.out]; omega)])
      go_wp2_with fail
      go_ret
      exact RetI.mk HN.out.symm b1
    · have hd1 : decide (ng ≤ k) = false := by simpa using h1
      have HN := Lib.hid (show slotL xs t k = (tableL xs t).getD k 0 by rw [slotL, if_pos (by rw [inB_true, HL.out]; omega), Int.toNat_natCast])
      rcases oG.form with ⟨_, h9, _⟩ | ⟨g, rfl, g1, g2, g3, g4⟩
      · omega
      have hc := oG.cell (show k < ng by omega)
      go_wp2_with fail
      go_ret
      exact RetI.mk HN.out.symm b1

theorem slotItself_any (p : Int) (w : World) : Calls Tryz.prog 105 #[.int .i64 p] w fun e w' => e = .returned (.int .i64 p) ∧ w = w' := by
  go_enter Tryz.func105, Tryz.ntmps105
  go_wp2
  go_ret
  exact ⟨rfl, rfl⟩

theorem slotInFirst_any (p : Int) (w : World) (h0 : 0 ≤ p) (h1 : p ≤ 64) : Calls Tryz.prog 75 #[.int .i64 p] w fun e w' => e = .returned (.int .i64 (p / 8)) ∧ w = w' := by
  go_enter Tryz.func75, Tryz.ntmps75
  go_wp2
  go_ret
  exact ⟨rfl, rfl⟩

theorem slotInSecond_any (p : Int) (w : World) (h0 : 0 ≤ p) (h1 : p ≤ 64) : Calls Tryz.prog 33 #[.int .i64 p] w fun e w' => e = .returned (.int .i64 (p % 8)) ∧ w = w' := by
  go_enter Tryz.func33, Tryz.ntmps33
  go_wp2
  go_ret
  exact ⟨rfl, rfl⟩

theorem implFirstEntry_any : FirstEC := by
  intro A n c xs q g w h hn hnc
  go_enter Tryz.func74, Tryz.ntmps74
  go_wp2_with fail
  refine (implFirst_any A n c xs q w h hn hnc).mono ?_
  rintro e w1 ⟨rfl, b1⟩
  go_wp2_with fail
  refine (entryInA_any A n c xs _ g g w1 ((h.below b1).more b1.size) hn hnc (fun w => slotItself_any g w)).mono ?_
  rintro e w2 ⟨rfl, b2⟩
  go_wp2_with fail
  go_ret
  exact RetI.mk rfl (below_more b1 b2 b1.size)

theorem slotL_second {xs : List Int} {t g : Int} : slotL xs t (g % 8) = (tableL xs t).getD (g % 8).toNat 0 := by
  unfold slotL
  rcases tableL_length xs t with h | h
  · rw [if_neg (by rw [inB_true]; omega), List.eq_nil_of_length_eq_zero h]; rfl
  · rw [if_pos (by rw [inB_true]; omega)]

set_option maxHeartbeats 1000000 in
theorem implEntryAt_any : EntryC := by
  intro A n c xs q g w h hn hnc
  go_enter Tryz.func29, Tryz.ntmps29
  go_wp2_with fail
  refine (implHeadIn_any _ _ _ xs _ h hn).mono ?_
  rintro e w1 ⟨rfl, b1⟩
  generalize hr : headIn xs = r
  obtain ⟨⟨s, f, r, u, m⟩, is⟩ := r
  have HR := Lib.hid hr
  clear hr
  unfold hdV
  have b2 := b1.alloc b1.size (.cells #[.int .i64 s, .int .i64 f, .int .i64 r, .int .i64 u, .int .i64 m] 33)
  have HO : Hid ((g < 0 ∨ s ≤ g) → entryAt xs q g = 0) := Lib.hid (by
    intro hh
    cases is
    · exact entryAt_no (headIn_false HR.out).1
    · refine entryAt_out (inB_false.2 (fun h => ?_))
      rw [(headIn_true HR.out).2] at h
      simp only at h
      omega)
  by_cases h0 : g < 0
  · have hd : decide (g < 0) = true := by simpa using h0
    go_wp2_with fail
    go_ret
    exact RetI.mk (HO.out (.inl h0)).symm b2
  · have hd : decide (g < 0) = false := by simpa using h0
    by_cases h1 : s ≤ g
    · have hd1 : decide (s ≤ g) = true := by simpa using h1
      go_wp2_with fail
      go_ret
      exact RetI.mk (HO.out (.inr h1)).symm b2
    · have hd1 : decide (s ≤ g) = false := by simpa using h1
      cases is
      · have hh := congrArg Hd.size (headIn_false HR.out).2
        have : s = 0 := hh
        omega
      have HY := Lib.hid (headIn_true HR.out)
      have hall := headB_all (hasHead_ok HY.out.1)
      rw [HY.out.2] at hall
      obtain ⟨⟨z1, z2⟩, _⟩ := hall
      simp only at z1 z2
      have HF := Lib.hid (entryAt_in (xs := xs) (q := q) (g := g) HY.out.1 (inB_true.2 (by rw [HY.out.2]; simp only; omega)))
      go_wp2_with fail
      refine (implFirst_any A n c xs q _ ((h.below b2).more b2.size) hn hnc).mono ?_
      rintro e w3 ⟨rfl, b3⟩
      have b03 := below_more b2 b3 b2.size
      go_wp2_with fail
      refine (entryInB_any A n c xs _ g (g / 8) w3 ((h.below b03).more b03.size) hn hnc (fun w => slotInFirst_any g w (by omega) (by omega))).mono ?_
      rintro e w4 ⟨rfl, b4⟩
      have b04 := below_more b03 b4 b03.size
      have hfe : slotL xs (firstOf xs q) (g / 8) = firstEntry xs q (g / 8) := rfl
      rw [hfe]
      clear hfe
      go_wp2_with fail
      refine (implTarget_any _ _).mono ?_
      rintro e w' ⟨rfl, rfl⟩
      go_wp2_with fail
      refine (entryInC_any A n c xs _ g (g % 8) w4 ((h.below b04).more b04.size) hn hnc (fun w => slotInSecond_any g w (by omega) (by omega))).mono ?_
      rintro e w5 ⟨rfl, b5⟩
      go_wp2_with fail
      go_ret
      exact RetI.mk (by rw [HF.out, slotL_second]) (below_more b04 b5 b04.size)

/-- What is read from the target t on, where k of the two slots are behind. -/
def restL (xs : List Int) (a b k : Nat) (t : Int) : List Int :=
  if k = 0 then orZero (tableL xs (targetOf (slotL xs (targetOf (slotL xs t a)) b)))
  else if k = 1 then orZero (tableL xs (targetOf (slotL xs t b)))
  else orZero (tableL xs t)
theorem target_zero : targetOf 0 = 0 := by decide
theorem table_zero (xs : List Int) : tableL xs 0 = [] := by
  unfold tableL
  rw [if_neg (fun h => by have := inB_true.1 h.2; omega)]
theorem slot_none {xs : List Int} {t s : Int} (h : tableL xs t = []) : slotL xs t s = 0 := by
  unfold slotL
  rw [h, if_neg (by rw [inB_true]; simp; omega)]
theorem rest_none {xs : List Int} {a b k : Nat} {t : Int} (h : tableL xs t = []) : restL xs a b k t = List.replicate 8 0 := by
  unfold restL
  split
  · rw [slot_none h, target_zero, slot_none (table_zero xs), target_zero, table_zero]; rfl
  · split
    · rw [slot_none h, target_zero, table_zero]; rfl
    · rw [h]; rfl
theorem slot_there {xs : List Int} {t : Int} {s : Nat} (h : (tableL xs t).length = 8) (hs : s < 8) : slotL xs t s = (tableL xs t).getD s 0 := by
  unfold slotL
  rw [if_pos (by rw [inB_true]; omega), Int.toNat_natCast]

set_option maxRecDepth 100000 in
set_option maxHeartbeats 2000000 in
theorem readUnder_any (A : Option Addr) (n c : Nat) (xs : List Int) (t : Int) (a b : Nat) (g : Int) (w : World) (h : Rd w w.heap.size A n xs) (hn : n ≤ 2097152) (hnc : n ≤ c) (ha : a < 8) (hb : b < 8) (hga : g / 8 = a) (hgb : g % 8 = b) (h0 : 0 ≤ g) (h1 : g ≤ 64) :
    Calls Tryz.prog 61 #[.slice A n c, .int .i64 t, .int .i64 g] w (Ret w (restL xs a b 0 t)) := by
  obtain ⟨i0, hi0, hz0, hz1, hz2⟩ := info_parts info2
  obtain ⟨ys, hys⟩ : ∃ ys, ys = restL xs a b 0 t := ⟨_, rfl⟩
  rw [← hys]
  have HYS := Lib.hid hys
  have HA := Lib.hid hga
  have HB := Lib.hid hgb
  clear hys hga hgb
  go_enter Tryz.func61, Tryz.ntmps61
  go_wp2_with fail
  go_step3
  go_wp2_with fail
  refine (slotInFirst_any g w h0 h1).mono ?_
  rintro e w' ⟨rfl, rfl⟩
  rw [HA.out]
  go_wp2_with fail
  refine (slotInSecond_any g w h0 h1).mono ?_
  rintro e w' ⟨rfl, rfl⟩
  rw [HB.out]
  have b1 := (Below.refl w.heap.size w).alloc (Nat.le_refl _) (.cells #[.int .i64 a, .int .i64 b] 2)
  have hs1 : (w.alloc (.cells #[.int .i64 a, .int .i64 b] 2)).heap.size = w.heap.size + 1 := by simp
  have p0 : (w.alloc (.cells #[.int .i64 a, .int .i64 b] 2)).cell? ⟨w.heap.size, 0, none⟩ = some (.int .i64 a) := by rw [World.cell?_alloc_new]; rfl
  have p1 : (w.alloc (.cells #[.int .i64 a, .int .i64 b] 2)).cell? ⟨w.heap.size, 1, none⟩ = some (.int .i64 b) := by rw [World.cell?_alloc_new]; rfl
  go_wp2_with fail
  go_step3
  go_wp2_with fail
  go_loopw [1, 7] (fun i v wr => ∃ (k off : Nat) (t' : Int), k ≤ 2 ∧ (k < 2 → off = k) ∧ i = .int .i64 t' ∧ v = .slice (some ⟨w.heap.size, off, none⟩) (2 - k) (2 - k) ∧ ys = restL xs a b k t' ∧ wr.cell? ⟨w.heap.size, 0, none⟩ = some (.int .i64 a) ∧ wr.cell? ⟨w.heap.size, 1, none⟩ = some (.int .i64 b) ∧ w.heap.size < wr.heap.size ∧ Below w.heap.size w wr) (fun _ v _ => lenV v)
  case atStart => exact ⟨0, 0, t, by omega, fun _ => rfl, rfl, rfl, HYS.out, p0, p1, by omega, b1⟩
  case round =>
    obtain ⟨k, off, t', hk, hoff, rfl, rfl, hy, q0, q1, hlt, hbw⟩ := hrel
    have HY := Lib.hid hy
    clear hy
    go_wp2_with fail
    refine (implTable_any A n c xs t' wr ((h.below hbw).more hbw.size) hn hnc).mono ?_
    rintro e w2 ⟨G, ng, cg, rfl, oG, b2⟩
    have u0 : w2.cell? ⟨w.heap.size, 0, none⟩ = some (.int .i64 a) := (b2.cell hlt).trans q0
    have u1 : w2.cell? ⟨w.heap.size, 1, none⟩ = some (.int .i64 b) := (b2.cell hlt).trans q1
    have B2 := below_more hbw b2 hbw.size
    have s2 := b2.size
    have hw2 : w.heap.size < w2.heap.size := by omega
    have HL := Lib.hid oG.len
    have h08 := tableL_length xs t'
    rw [HL.out] at h08
    rcases h08 with z | z
    · subst z
      have HN : Hid (ys = List.replicate 8 0) := HY.out.trans (rest_none (List.eq_nil_of_length_eq_zero HL.out))
      have hd : (((0 : Nat) : Int) == 0) = true := by simp
      go_wp2_with (at_make; refine wpList_make_full _ rfl _ _ 24 rfl w2.heap.size 2 i0 (.int .i64 0) 1 Tryz.underlying24 hi0 hz0 hz1 .i64 .i64 _ _ 8 rfl rfl rfl rfl (by rw [hz2]; omega) (by simp only [maxLen]; omega) (Nat.le_refl _) ?_; intro w6 hown hg; rw [made_iv] at hown)
      go_ret
      rw [HN.out]
      exact Ret.of B2 hown (below_grown hg (Nat.le_refl _) (fun _ h => by cases h))
    · subst z
      have hd : (((8 : Nat) : Int) == 0) = false := by simp
      rcases oG.form with ⟨_, h9, _⟩ | ⟨gt, rfl, g1, g2, g3, g4⟩
      · omega
      obtain rfl | rfl | rfl : k = 0 ∨ k = 1 ∨ k = 2 := by omega
      · obtain rfl : off = 0 := hoff (by omega)
        have hc := oG.cell (show a < 8 from ha)
        have HN : Hid (ys = restL xs a b 1 (targetOf ((tableL xs t').getD a 0))) := HY.out.trans (by rw [← slot_there HL.out ha]; rfl)
        clear oG
        generalize (tableL xs t').getD a 0 = x at *
        go_wp2_with fail
        go_quiet ((go_at_call 28; exact (implTarget_any _ _).mono (fun _ _ h => ⟨h.1, _, h.2.symm⟩)))
        go_wp2_with fail
        go_roundw
        case rel => exact ⟨1, 1, _, by omega, fun _ => rfl, rfl, rfl, HN.out, u0, u1, hw2, below_drewN B2 _⟩
        case measure => simp [lenV]
      · obtain rfl : off = 1 := hoff (by omega)
        have hc := oG.cell (show b < 8 from hb)
        have HN : Hid (ys = restL xs a b 2 (targetOf ((tableL xs t').getD b 0))) := HY.out.trans (by rw [← slot_there HL.out hb]; rfl)
        clear oG
        generalize (tableL xs t').getD b 0 = x at *
        go_wp2_with fail
        go_quiet ((go_at_call 28; exact (implTarget_any _ _).mono (fun _ _ h => ⟨h.1, _, h.2.symm⟩)))
        go_wp2_with fail
        go_roundw
        case rel => exact ⟨2, 1, _, by omega, fun h => by omega, rfl, rfl, HN.out, u0, u1, hw2, below_drewN B2 _⟩
        case measure => simp [lenV]
      · have HN : Hid (ys = tableL xs t') := HY.out.trans (by show orZero _ = _; unfold orZero; rw [if_neg (fun e => by have := HL.out; rw [e] at this; simp at this)])
        have HO := Lib.hid oG
        clear oG
        go_wp2_with fail
        go_ret
        rw [HN.out]
        exact ⟨_, 8, cg, rfl, HO.out.more hbw.size (Nat.le_refl _), B2⟩

theorem content_out {xs : List Int} {q g : Int} (h : ¬ (hasHead xs = true ∧ inB q 0 ((shotsL xs).length : Int) = true ∧ inB g 0 ((headOf xs).size - 1) = true)) : contentL xs q g = [] := by unfold contentL; rw [if_neg h]

set_option maxRecDepth 100000 in
set_option maxHeartbeats 2000000 in
theorem implContent_any : ContentC := by
  intro A n c xs q g w h hn hnc
  go_enter Tryz.func15, Tryz.ntmps15
  go_wp2_with fail
  refine (implHeadIn_any _ _ _ xs _ h hn).mono ?_
  rintro e w1 ⟨rfl, b1⟩
  generalize hr : headIn xs = r
  obtain ⟨⟨s, f, r, u, m⟩, is⟩ := r
  have HR := Lib.hid hr
  clear hr
  unfold hdV
  have b2 := b1.alloc b1.size (.cells #[.int .i64 s, .int .i64 f, .int .i64 r, .int .i64 u, .int .i64 m] 33)
  have HO : Hid ((g < 0 ∨ s ≤ g) → contentL xs q g = []) := Lib.hid (by
    intro hh
    refine content_out (fun hx => ?_)
    cases is
    · rw [(headIn_false HR.out).1] at hx; cases hx.1
    · have := inB_true.1 hx.2.2
      rw [(headIn_true HR.out).2] at this
      simp only at this
      omega)
  by_cases h0 : g < 0
  · have hd : decide (g < 0) = true := by simpa using h0
    go_wp2_with fail
    go_ret
    rw [HO.out (.inl h0)]
    exact Ret.nil _ _ b2
  · have hd : decide (g < 0) = false := by simpa using h0
    by_cases h1 : s ≤ g
    · have hd1 : decide (s ≤ g) = true := by simpa using h1
      go_wp2_with fail
      go_ret
      rw [HO.out (.inr h1)]
      exact Ret.nil _ _ b2
    · have hd1 : decide (s ≤ g) = false := by simpa using h1
      clear HO
      cases is
      · have hh := congrArg Hd.size (headIn_false HR.out).2
        have : s = 0 := hh
        omega
      have HY := Lib.hid (headIn_true HR.out)
      have hall := headB_all (hasHead_ok HY.out.1)
      rw [HY.out.2] at hall
      obtain ⟨⟨z1, z2⟩, _⟩ := hall
      simp only at z1 z2
      by_cases h2 : q < 0
      · have hd2 : decide (q < 0) = true := by simpa using h2
        have HN := Lib.hid (content_out (xs := xs) (q := q) (g := g) (fun hx => by have := inB_true.1 hx.2.1; omega))
        go_wp2_with fail
        go_ret
        rw [HN.out]
        exact Ret.nil _ _ b2
      · have hd2 : decide (q < 0) = false := by simpa using h2
        obtain ⟨k, rfl⟩ := Int.eq_ofNat_of_zero_le (show 0 ≤ q by omega)
        have hl4 := shotsL_length xs
        obtain ⟨ng, hng⟩ : ∃ ng, (shotsL xs).length = ng := ⟨_, rfl⟩
        have HG := Lib.hid hng
        rw [hng] at hl4
        clear hng
        by_cases h3 : ng < k
        · have hd3 : decide (ng < k) = true := by simpa using h3
          have HN := Lib.hid (content_out (xs := xs) (q := k) (g := g) (fun hx => by have := inB_true.1 hx.2.1; rw [HG.out] at this; omega))
          go_wp2_with fail
          refine (implShots_any A n c xs _ ((h.below b2).more b2.size) hn hnc).mono ?_
          rintro e w3 ⟨S, cs, rfl, oS, b3⟩
          have b03 := below_more b2 b3 b2.size
          rw [HG.out]
          clear oS
          go_wp2_with fail
          go_ret
          rw [HN.out]
          exact Ret.nil _ _ b03
        · have hd3 : decide (ng < k) = false := by simpa using h3
          have HN := Lib.hid (show contentL xs k g = orZero (tableL xs (targetOf (entryAt xs k g))) by
            unfold contentL
            rw [if_pos ⟨HY.out.1, inB_true.2 (by rw [HG.out]; omega), inB_true.2 (by rw [HY.out.2]; simp only; omega)⟩])
          have HF := Lib.hid (entryAt_in (xs := xs) (q := k) (g := g) HY.out.1 (inB_true.2 (by rw [HY.out.2]; simp only; omega)))
          go_wp2_with fail
          refine (implShots_any A n c xs _ ((h.below b2).more b2.size) hn hnc).mono ?_
          rintro e w3 ⟨S, cs, rfl, oS, b3⟩
          have b03 := below_more b2 b3 b2.size
          rw [HG.out]
          clear oS
          go_wp2_with fail
          refine (implFirst_any A n c xs k _ ((h.below b03).more b03.size) hn hnc).mono ?_
          rintro e w4 ⟨rfl, b4⟩
          have b04 := below_more b03 b4 b03.size
          go_wp2_with fail
          obtain ⟨a, ha⟩ := Int.eq_ofNat_of_zero_le (show 0 ≤ g / 8 by omega)
          obtain ⟨b, hb⟩ := Int.eq_ofNat_of_zero_le (show 0 ≤ g % 8 by omega)
          refine (readUnder_any A n c xs _ a b g w4 ((h.below b04).more b04.size) hn hnc (by omega) (by omega) ha hb (by omega) (by omega)).mono ?_
          rintro e w5 hr5
          have e5 : restL xs a b 0 (firstOf xs k) = contentL xs k g := by
            rw [HN.out, HF.out, ← slotL_second, ha, hb]
            rfl
          rw [e5] at hr5
          obtain ⟨G, n5, c5, rfl, o5, b5⟩ := hr5.after b04
          go_wp2_with fail
          go_ret
          exact ⟨G, n5, c5, rfl, o5, b5⟩

theorem told_names {l : List (Int × Int)} {k : Nat} (hk : k < l.length) : ((l.take k).map (fun x : Int × Int => x.1) ++ List.replicate (l.length - k) 0).set k (l.getD k (0, 0)).1 = (l.take (k + 1)).map (fun x : Int × Int => x.1) ++ List.replicate (l.length - (k + 1)) 0 := by
  have e1 : l.length - k = (l.length - (k + 1)) + 1 := by omega
  have hl : ((l.take k).map (fun x : Int × Int => x.1)).length = k := by simp; omega
  rw [names_step l k hk, e1, List.replicate_succ, List.set_append, if_neg (by omega), hl, Nat.sub_self, List.set_cons_zero, List.append_assoc]
  rfl

end Go.Proofs.YtiokfhdkbpoadabGreatDoor
