/- The law FnContents, walked, given what the program's own functions answer. -/
import Derived.Test.YtaalkjefpodceabD6
import Derived.Test.YtaalkjefpodceabD10
import Derived.Test.YtaalkjefpodceabLawCon
import Derived.Test.YtaalkjefpodceabLawPl
import Derived.Test.YtaalkjefpodceabLawTb
import Derived.Test.YtaalkjefpodceabLawWords
namespace Go.Proofs.Ytaalkjefpodceab
open Go.RowKit

set_option maxHeartbeats 1000000 in
theorem zeros_any (A : Option Addr) (n c B k : Nat) (w : World) (h : Rd w B A n (List.replicate k 0)) (hn : n ≤ 2097152) :
    Calls Try.prog 16 #[.slice A n c] w fun e w' => e = .returned (.bool true) ∧ w = w' := by
  go_enter Try.func16, Try.ntmps16
  go_wp2_with fail
  go_loop [3] (fun i => ∃ k : Nat, k ≤ n ∧ i = .int .i64 k) (fun i => n - (intOf i).toNat)
  case atStart => exact ⟨0, Nat.zero_le _, rfl⟩
  case round =>
    obtain ⟨j, hj, rfl⟩ := hrel
    by_cases hlt : j < n
    · obtain ⟨b, off, rfl, _, hc⟩ := h.2 (by omega)
      have p := hc j hlt
      rw [show (List.replicate k (0 : Int)).getD j 0 = 0 by rw [List.getD_eq_getElem?_getD, List.getElem?_replicate]; split <;> rfl] at p
      clear hc h
      have n1 : (0 : Int) ≤ (j : Int) := by omega
      have n2 : (j : Int) < (n : Int) := by omega
      go_wp2_with fail
      go_round
      case rel => exact ⟨j + 1, by omega, by go_num⟩
      case measure => simp [intOf]; omega
    · go_wp2_with fail
      go_ret
      exact ⟨rfl, rfl⟩

theorem content_or (b : List Int) (q g : Int) : contentL b q g = [] ∨ (contentL b q g).length = 8 ∧ ((tableL b (targetOf (entryAt b q g)) = [] ∧ contentL b q g = List.replicate 8 0) ∨ (tableL b (targetOf (entryAt b q g)) ≠ [] ∧ contentL b q g = tableL b (targetOf (entryAt b q g)))) := by
  unfold contentL
  split
  · right
    refine ⟨orZero_length _, ?_⟩
    unfold orZero
    by_cases h : tableL b (targetOf (entryAt b q g)) = []
    · left; exact ⟨h, if_pos h⟩
    · right; exact ⟨h, if_neg h⟩
  · left; rfl
theorem names_shots (b : List Int) : (namesL b).length = (shotsL b).length := by unfold namesL; simp

set_option maxRecDepth 100000 in
set_option maxHeartbeats 8000000 in
theorem law_Contents (hCt : ContentC) (hN : NamesC) (hS : ShotsC) (hE : EntryC) (hT : TableC) (A : Option Addr) (n c : Nat) (xs : List Int) (w : World) (hr : Rd8 w w.heap.size A n xs) :
    Calls Try.prog 3 #[.slice A n c] w fun e w' => e = .returned (.bool true) ∧ Below w.heap.size w w' := by
  by_cases hbig : 4096 < n
  · have hb : decide ((4096 : Int) < (n : Int)) = true := by simp; omega
    go_enter Try.func3, Try.ntmps3
    go_wp2_with fail
    refine (big_words _ _ _ _).mono ?_
    rintro e w' ⟨rfl, rfl⟩
    rw [hb]
    go_wp2_with fail
    go_ret
    exact ⟨rfl, Below.refl _ _⟩
  have hb : decide ((4096 : Int) < (n : Int)) = false := by simp; omega
  go_enter Try.func3, Try.ntmps3
  go_wp2_with fail
  refine (big_words _ _ _ _).mono ?_
  rintro e w' ⟨rfl, rfl⟩
  rw [hb]
  clear hb
  go_wp2_with fail
  refine (drawContentOf_any A n c xs w hr (by omega)).mono ?_
  rintro e w1 ⟨B, nb, cb, bs, q, g, _, hnb, rfl, rB, b1⟩
  have hcl := contentL_length bs q g
  have HQ := Lib.hid (content_or bs q g)
  obtain ⟨ct, hct⟩ : ∃ ct, ct = contentL bs q g := ⟨_, rfl⟩
  rw [← hct] at HQ hcl
  have HC := Lib.hid hct
  clear hct
  have hyy : (ct == ct) = true := by simp
  go_wp2_with fail
  refine (hCt B nb cb bs q g w1 rB (by omega) (by omega)).mono ?_
  rintro e w2 ⟨X, nx, cx, rfl, oX, b2⟩
  rw [← HC.out] at oX
  have rX := oX.rd
  have B2 := below_more b1 b2 b1.size
  replace rB := (rB.below b2).more b2.size
  have lX := Lib.hid rX.len
  have hnx : nx ≤ 8 := by have := lX.out; omega
  clear b1 b2 oX
  go_wp2_with fail
  refine (drawNamesIn_any A n c xs w2 ((hr.below B2).more B2.size) (by omega)).mono ?_
  rintro e w3 ⟨D, nd, cd, ds, hnd, rfl, rD, b3⟩
  have B3 := below_more B2 b3 B2.size
  replace rB := (rB.below b3).more b3.size
  replace rX := (rX.below b3).more b3.size
  clear b3 B2
  have hnl := names_length ds
  have HNS := Lib.hid (names_shots ds)
  obtain ⟨ns, hns⟩ : ∃ ns, ns = namesL ds := ⟨_, rfl⟩
  rw [← hns] at hnl HNS
  have HN := Lib.hid hns
  clear hns
  have hzz : (ns == ns) = true := by simp
  go_wp2_with fail
  refine (hN D nd cd ds w3 rD (by omega) (by omega)).mono ?_
  rintro e w4 ⟨L, nl, cl, rfl, oL, b4⟩
  rw [← HN.out] at oL
  have rL := oL.rd
  have lL := Lib.hid rL.len
  have hnl4 : nl ≤ 4 := by have := lL.out; omega
  have B4 := below_more B3 b4 B3.size
  replace rB := (rB.below b4).more b4.size
  replace rX := (rX.below b4).more b4.size
  replace rD := (rD.below b4).more b4.size
  clear b4 B3 oL
  go_wp2_with fail
  refine (specContent_any B nb cb bs q g w4 rB (by omega)).mono ?_
  rintro e w5 ⟨Y, ny, cy, rfl, oY, b5⟩
  rw [← HC.out] at oY
  have B5 := below_more B4 b5 B4.size
  replace rB := (rB.below b5).more b5.size
  replace rX := (rX.below b5).more b5.size
  replace rD := (rD.below b5).more b5.size
  replace rL := (rL.below b5).more b5.size
  clear b5 B4
  go_wp2_with fail
  refine (like_any X Y nx cx ny cy ct ct w5.heap.size w5 rX oY.rd (by omega)).mono ?_
  rintro e w5' ⟨rfl, d5, rfl⟩
  rw [hyy]
  replace rB := rB.drewN d5
  replace rX := rX.drewN d5
  replace rD := rD.drewN d5
  replace rL := rL.drewN d5
  replace B5 := below_drewN B5 d5
  clear oY
  go_wp2_with fail
  refine (specNames_any D nd cd ds _ rD (by omega)).mono ?_
  rintro e w6 ⟨Y, ny, cy, rfl, oY, b6⟩
  rw [← HN.out] at oY
  have B6 := below_more B5 b6 B5.size
  replace rB := (rB.below b6).more b6.size
  replace rX := (rX.below b6).more b6.size
  replace rD := (rD.below b6).more b6.size
  replace rL := (rL.below b6).more b6.size
  clear b6 B5
  go_wp2_with fail
  refine (like_any L Y nl cl ny cy ns ns w6.heap.size w6 rL oY.rd (by omega)).mono ?_
  rintro e w6' ⟨rfl, d6, rfl⟩
  rw [hzz]
  replace rB := rB.drewN d6
  replace rX := rX.drewN d6
  replace rD := rD.drewN d6
  replace B6 := below_drewN B6 d6
  clear oY rL
  go_wp2_with fail
  refine (hS D nd cd ds _ rD (by omega) (by omega)).mono ?_
  rintro e w7 ⟨Sh, cs7, rfl, oS, b7⟩
  have B7 := below_more B6 b7 B6.size
  replace rB := (rB.below b7).more b7.size
  replace rX := (rX.below b7).more b7.size
  have hll : nl = (shotsL ds).length := by rw [← HNS.out, lL.out]
  clear b7 B6 oS rD
  generalize (shotsL ds).length = sl at *
  have hne : ((nl : Int) != (sl : Int)) = false := by rw [hll]; simp
  clear hll
  go_wp2_with fail
  refine (hE B nb cb bs q g w7 rB (by omega) (by omega)).mono ?_
  rintro e w8 ⟨rfl, b8⟩
  have B8 := below_more B7 b8 B7.size
  replace rB := (rB.below b8).more b8.size
  replace rX := (rX.below b8).more b8.size
  clear b8 B7
  generalize entryAt bs q g = en at *
  go_wp2_with fail
  refine (implTarget_any en w8).mono ?_
  rintro e w8' ⟨rfl, rfl⟩
  generalize targetOf en = tg at *
  rcases HQ.out with h0 | ⟨h8, h9⟩
  · have hz : ((nx : Int) == 0) = true := by have := lX.out; rw [h0] at this; simp at this; simp; omega
    go_wp2_with fail
    go_ret
    exact ⟨rfl, B8⟩
  · have hz : ((nx : Int) == 0) = false := by have := lX.out; rw [h8] at this; simp; omega
    have hz8 : ((nx : Int) == 8) = true := by have := lX.out; rw [h8] at this; simp; omega
    have H9 := Lib.hid h9
    clear h8 h9 HQ
    go_wp2_with fail
    refine (hT B nb cb bs tg w8 rB (by omega) (by omega)).mono ?_
    rintro e w9 ⟨T, nt, ct9, rfl, oT, b9⟩
    have B9 := below_more B8 b9 B8.size
    replace rX := (rX.below b9).more b9.size
    have rT := oT.rd
    have lT := Lib.hid rT.len
    clear b9 B8 oT
    rcases H9.out with ⟨h1, h2⟩ | ⟨h1, h2⟩
    · have ht0 : ((nt : Int) == 0) = true := by have := lT.out; rw [h1] at this; simp at this; simp; omega
      rw [h2] at rX
      have HX := Lib.hid rX
      clear h1 h2 rX H9 rT
      go_wp2_with fail
      refine (zeros_any X nx cx _ 8 w9 HX.out (by omega)).mono ?_
      rintro e w9' ⟨rfl, rfl⟩
      go_wp2_with fail
      go_ret
      exact ⟨rfl, B9⟩
    · have ht0 : ((nt : Int) == 0) = false := by
        have := lT.out
        have h3 : (tableL bs tg).length ≠ 0 := fun h => h1 (List.eq_nil_of_length_eq_zero h)
        simp
        omega
      rw [← h2] at rT
      clear h1 h2 H9
      go_wp2_with fail
      refine (like_any X T nx cx nt ct9 ct ct w9.heap.size w9 rX rT (by omega)).mono ?_
      rintro e w9' ⟨rfl, d9, rfl⟩
      rw [hyy]
      go_wp2_with fail
      go_ret
      exact ⟨rfl, below_drewN B9 d9⟩
end Go.Proofs.Ytaalkjefpodceab
