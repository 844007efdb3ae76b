/- The law FnPlaces, walked, given what the program's own functions answer. -/
import Derived.Test.YtaddgimhdmccbabD5
import Derived.Test.YtaddgimhdmccbabLawPl
import Derived.Test.YtaddgimhdmccbabLawTb
import Derived.Test.YtaddgimhdmccbabLawWords
namespace Go.Proofs.Ytaddgimhdmccbab
open Go.RowKit

theorem entry_table {xs : List Int} {q g : Int} (h : entryAt xs q g ≠ 0) : 0 ≤ g ∧ (tableL xs (targetOf (firstEntry xs q (g / 8)))).length = 8 ∧ (tableL xs (targetOf (firstEntry xs q (g / 8)))).getD (g % 8).toNat 0 = entryAt xs q g := by
  cases hb : hasHead xs
  · exact absurd (entryAt_no hb) h
  · cases hi : inB g 0 ((headOf xs).size - 1)
    · exact absurd (entryAt_out hi) h
    · have e := entryAt_in (q := q) hb hi
      refine ⟨(inB_true.1 hi).1, ?_, e.symm⟩
      rcases tableL_length xs (targetOf (firstEntry xs q (g / 8))) with h0 | h8
      · rw [List.eq_nil_of_length_eq_zero h0] at e
        exact absurd e h
      · exact h8

set_option maxRecDepth 100000 in
set_option maxHeartbeats 8000000 in
theorem law_Places (hT : TableC) (hE : EntryC) (hF : FirstEC) (A : Option Addr) (n c : Nat) (xs : List Int) (w : World) (hr : Rd8 w w.heap.size A n xs) :
    Calls Try.prog 3 #[.slice A n c] w fun e w' => e = .returned (.bool true) ∧ Below w.heap.size w w' := by
  by_cases hbig : 4096 < n
  · have hb : decide ((4096 : Int) < (n : Int)) = true := by simp; omega
    go_enter Try.func3, Try.ntmps3
    go_wp2_with fail
    refine (big_words _ _ _ _).mono ?_
    rintro e w' ⟨rfl, rfl⟩
    rw [hb]
    go_wp2_with fail
    go_ret
    exact ⟨rfl, Below.refl _ _⟩
  have hb : decide ((4096 : Int) < (n : Int)) = false := by simp; omega
  go_enter Try.func3, Try.ntmps3
  go_wp2_with fail
  refine (big_words _ _ _ _).mono ?_
  rintro e w' ⟨rfl, rfl⟩
  rw [hb]
  clear hb
  go_wp2_with fail
  refine (drawEntryAt_any A n c xs w hr (by omega)).mono ?_
  rintro e w1 ⟨B, nb, cb, bs, q, g, ⟨hg1, hg2⟩, hnb, rfl, rB, b1⟩
  go_wp2_with fail
  refine (hE B nb cb bs q g w1 rB (by omega) (by omega)).mono ?_
  rintro e w2 ⟨rfl, b2⟩
  have B2 := below_more b1 b2 b1.size
  replace rB := (rB.below b2).more b2.size
  clear b1 b2
  have HE := Lib.hid (fun h => entry_table (xs := bs) (q := q) (g := g) h)
  have HX := Lib.hid (fun (A : Option Addr) (n c : Nat) (w : World) (h : Rd w w.heap.size A n bs) (hn : n ≤ 2097152) => specEntryAt_any A n c bs q g w h hn)
  generalize entryAt bs q g = e0 at *
  have hee : (e0 != e0) = false := by simp
  go_wp2_with fail
  refine (drawFirstEntry_any A n c xs w2 ((hr.below B2).more B2.size) (by omega)).mono ?_
  rintro e w3 ⟨C, nc, cc, cs, q2, g2, _, hnc, rfl, rC, b3⟩
  have B3 := below_more B2 b3 B2.size
  replace rB := (rB.below b3).more b3.size
  clear b3 B2
  go_wp2_with fail
  refine (HX.out B nb cb w3 rB (by omega)).mono ?_
  rintro e w4 ⟨rfl, b4⟩
  have B4 := below_more B3 b4 B3.size
  replace rB := (rB.below b4).more b4.size
  replace rC := (rC.below b4).more b4.size
  clear b4 B3 HX
  go_wp2_with fail
  refine (hF C nc cc cs q2 g2 w4 rC (by omega) (by omega)).mono ?_
  rintro e w5 ⟨rfl, b5⟩
  have B5 := below_more B4 b5 B4.size
  replace rB := (rB.below b5).more b5.size
  replace rC := (rC.below b5).more b5.size
  clear b5 B4
  have hff : (firstEntry cs q2 g2 != firstEntry cs q2 g2) = false := by simp
  go_wp2_with fail
  refine (specFirstEntry_any C nc cc cs q2 g2 w5 rC (by omega)).mono ?_
  rintro e w6 ⟨rfl, b6⟩
  have B6 := below_more B5 b6 B5.size
  replace rB := (rB.below b6).more b6.size
  clear b6 B5 rC
  by_cases h0 : e0 = 0
  · subst h0
    clear HE
    go_wp2_with fail
    go_ret
    exact ⟨rfl, B6⟩
  · have h0' : (e0 == 0) = false := by simpa using h0
    obtain ⟨E1, E2, E3⟩ := HE.out h0
    have HE2 := Lib.hid E2
    obtain ⟨k, hk⟩ : ∃ k : Nat, g % 8 = k := ⟨(g % 8).toNat, by omega⟩
    have hk8 : k < 8 := by omega
    rw [hk, Int.toNat_natCast] at E3
    have HE3 := Lib.hid E3
    have HK := Lib.hid hk
    clear HE E2 E3 h0
    go_wp2_with fail
    refine (hF B nb cb bs q (g / 8) w6 rB (by omega) (by omega)).mono ?_
    rintro e w7 ⟨rfl, b7⟩
    have B7 := below_more B6 b7 B6.size
    replace rB := (rB.below b7).more b7.size
    clear b7 B6
    go_wp2_with fail
    refine (implTarget_any _ _).mono ?_
    rintro e w' ⟨rfl, rfl⟩
    go_wp2_with fail
    refine (hT B nb cb bs _ w7 rB (by omega) (by omega)).mono ?_
    rintro e w8 ⟨G, ng, cg, rfl, oG, b8⟩
    have B8 := below_more B7 b8 B7.size
    obtain rfl : 8 = ng := HE2.out.symm.trans oG.len
    rcases oG.form with ⟨_, h0, _⟩ | ⟨b, rfl, g1, g2, g3, g4⟩
    · omega
    have hc := oG.cell hk8
    rw [HE3.out] at hc
    have hee2 : (e0 == e0) = true := by simp
    have h88 : (((8 : Nat) : Int) == 8) = true := by simp
    go_wp2_with fail
    go_ret
    exact ⟨rfl, B8⟩
end Go.Proofs.Ytaddgimhdmccbab
