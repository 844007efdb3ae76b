/- The law FnBlanks, walked, given what the program's own functions answer. -/
import Derived.Test.YtibokhkohanoaabDoorD16
import Derived.Test.YtibokhkohanoaabDoorLawBlk
import Derived.Test.YtibokhkohanoaabDoorQL
import Derived.Test.YtibokhkohanoaabDoorY4
import Derived.Test.YtibokhkohanoaabDoorH7
import Derived.Test.YtibokhkohanoaabDoorG6
namespace Go.Proofs.YtibokhkohanoaabDoor
open Go.RowKit

theorem blank_law (x : Int) : (inB x 1 64 = false ∧ blankL x = []) ∨ (inB x 1 64 = true ∧ (blankL x).length = 32 ∧ soundB (blankL x) = true ∧ namesL (blankL x) = [] ∧ ∀ g : Nat, (g : Int) < x → contentL (blankL x) 0 g = List.replicate 8 0) := by
  cases h : inB x 1 64
  · left
    unfold blankL
    rw [h]
    exact ⟨rfl, rfl⟩
  · right
    obtain ⟨h0, h1⟩ := inB_true.1 h
    refine ⟨rfl, by rw [blank_is h0 h1]; rfl, blank_sound h0 h1, ?_, fun g hg => blank_content h0 h1 hg⟩
    unfold namesL
    rw [blank_shots h0 h1]
    rfl

set_option maxRecDepth 100000 in
set_option maxHeartbeats 8000000 in
theorem law_Blanks (w : World) (hB : BlankC w) (hC : ContentC) (hSo : SoundC w) (hN : NamesC) (A : Option Addr) (n c : Nat) (xs : List Int) (hr : Rd8 w w.heap.size A n xs) :
    Calls Tryd.prog 3 #[.slice A n c] w fun e w' => e = .returned (.bool true) ∧ Below w.heap.size w w' := by
  by_cases hbig : 4096 < n
  · have hb : decide ((4096 : Int) < (n : Int)) = true := by simp; omega
    go_enter Tryd.func3, Tryd.ntmps3
    go_wp2_with fail
    refine (big_words _ _ _ _).mono ?_
    rintro e w' ⟨rfl, rfl⟩
    rw [hb]
    go_wp2_with fail
    go_ret
    exact ⟨rfl, Below.refl _ _⟩
  have hb : decide ((4096 : Int) < (n : Int)) = false := by simp; omega
  go_enter Tryd.func3, Tryd.ntmps3
  go_wp2_with fail
  refine (big_words _ _ _ _).mono ?_
  rintro e w' ⟨rfl, rfl⟩
  rw [hb]
  clear hb
  go_wp2_with fail
  refine (drawBlank_any A n c xs w hr (by omega)).mono ?_
  rintro e w1 ⟨x, rfl, b1⟩
  have hkl := blankL_length x
  have HQ := Lib.hid (blank_law x)
  obtain ⟨ks, hks⟩ : ∃ ks, ks = blankL x := ⟨_, rfl⟩
  rw [← hks] at hkl HQ
  have HK := Lib.hid hks
  clear hks
  have hyy : (ks == ks) = true := by simp
  go_wp2_with fail
  refine (hB x w1 b1).mono ?_
  rintro e w2 ⟨X, nx, cx, rfl, oX, b2⟩
  rw [← HK.out] at oX
  have rX := oX.rd
  have B2 := below_more b1 b2 b1.size
  have lX := Lib.hid rX.len
  have hnx : nx ≤ 32 := by have := lX.out; omega
  have hcx : nx ≤ cx := by
    rcases oX.form with ⟨_, h0, h1⟩ | ⟨_, _, _, _, _, h1⟩
    · omega
    · exact h1
  clear b1 b2 oX
  go_wp2_with fail
  refine (specBlank_any x w2).mono ?_
  rintro e w3 ⟨Y, ny, cy, rfl, oY, b3⟩
  rw [← HK.out] at oY
  have B3 := below_more B2 b3 B2.size
  replace rX := (rX.below b3).more b3.size
  clear b3 B2
  go_wp2_with fail
  refine (like_any X Y nx cx ny cy ks ks w3.heap.size w3 rX oY.rd (by omega)).mono ?_
  rintro e w3' ⟨rfl, d3, rfl⟩
  rw [hyy]
  replace rX := rX.drewN d3
  replace B3 := below_drewN B3 d3
  clear oY hyy HK
  rcases HQ.out with ⟨hi, h0⟩ | ⟨hi, h32, hso, hnm, hct⟩
  · have hz : ((nx : Int) == 0) = true := by have := lX.out; rw [h0] at this; simp at this; simp; omega
    have hi := inB_false.1 hi
    clear HQ h0 lX
    by_cases h1 : x < 1
    · have hd : decide (x < 1) = true := by simpa using h1
      go_wp2_with fail
      go_ret
      exact ⟨rfl, B3⟩
    · have hd : decide (x < 1) = false := by simpa using h1
      have hd2 : decide (64 < x) = true := by simp; omega
      go_wp2_with fail
      go_ret
      exact ⟨rfl, B3⟩
  · obtain rfl : nx = 32 := by rw [← lX.out, h32]
    obtain ⟨x0, x1⟩ := inB_true.1 hi
    obtain ⟨N, rfl⟩ := Int.eq_ofNat_of_zero_le (show 0 ≤ x by omega)
    have HCT := Lib.hid hct
    have HSO := Lib.hid hso
    have HNM := Lib.hid hnm
    clear HQ h32 hso hnm hct hi lX
    go_wp2_with fail
    replace rX : Rd (w3.drewN d3) (w3.drewN d3).heap.size X 32 ks := rX
    generalize w3.drewN d3 = v3 at *
    go_loopw [5] (fun v wr => ∃ k : Nat, k ≤ N ∧ v = .int .i64 k ∧ Rd wr wr.heap.size X 32 ks ∧ Below w.heap.size w wr) (fun v _ => N - (intOf v).toNat)
    case atStart => exact ⟨0, Nat.zero_le _, rfl, rX, B3⟩
    case round =>
      obtain ⟨k, hk, rfl, rX, Bw⟩ := hrel
      by_cases hlt : k < N
      · have HE := Lib.hid (HCT.out k (by omega))
        go_wp2_with fail
        refine (hC X 32 cx ks 0 k wr rX (by omega) hcx).mono ?_
        rintro e w4 ⟨Z, nz, cz, rfl, oZ, b4⟩
        rw [HE.out] at oZ
        have rZ := oZ.rd
        obtain rfl : 8 = nz := by have := rZ.len; simpa using this
        have B4 := below_more Bw b4 Bw.size
        have rX4 := (rX.below b4).more b4.size
        clear b4 Bw oZ rX
        go_wp2_with fail
        refine (zeros_any Z 8 cz _ 8 w4 rZ (by omega)).mono ?_
        rintro e w4' ⟨rfl, rfl⟩
        go_wp2_with fail
        go_roundw
        case rel => exact ⟨k + 1, by omega, by go_num, rX4, B4⟩
        case measure => simp [intOf]; omega
      · go_wp2_with fail
        refine (hSo X 32 cx ks wr Bw rX (by omega) hcx).mono ?_
        rintro e w5 ⟨rfl, b5⟩
        rw [HSO.out]
        have B5 := below_more Bw b5 Bw.size
        replace rX := (rX.below b5).more b5.size
        clear b5 Bw
        go_wp2_with fail
        refine (hN X 32 cx ks w5 rX (by omega) hcx).mono ?_
        rintro e w6 ⟨L, nl, cl, rfl, oL, b6⟩
        rw [HNM.out] at oL
        obtain rfl : 0 = nl := by have := oL.len; simpa using this
        have B6 := below_more B5 b6 B5.size
        go_wp2_with fail
        go_ret
        exact ⟨rfl, B6⟩
end Go.Proofs.YtibokhkohanoaabDoor
