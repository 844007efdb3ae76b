/- The law FnCounted, walked, given what the program's own functions answer. -/
import Derived.Test.YtfolbhjljpnjlabGreatD14
import Derived.Test.YtfolbhjljpnjlabGreatLawCtd
import Derived.Test.YtfolbhjljpnjlabGreatLawSto
import Derived.Test.YtfolbhjljpnjlabGreatLawCo
import Derived.Test.YtfolbhjljpnjlabGreatY2
import Derived.Test.YtfolbhjljpnjlabGreatH3
import Derived.Test.YtfolbhjljpnjlabGreatLawWords
namespace Go.Proofs.YtfolbhjljpnjlabGreat
open Go.RowKit

set_option maxRecDepth 100000 in
set_option maxHeartbeats 8000000 in
theorem law_Counted_ (w : World) (hK : CountedC w) (hS : StoredC) (hC : CountsC) (hLo : LooseC) (A : Option Addr) (n c : Nat) (xs : List Int) (hr : Rd8 w w.heap.size A n xs) :
    Calls Tryz.prog 3 #[.slice A n c] w fun e w' => e = .returned (.bool true) ∧ Below w.heap.size w w' := by
  by_cases hbig : 4096 < n
  · have hb : decide ((4096 : Int) < (n : Int)) = true := by simp; omega
    go_enter Tryz.func3, Tryz.ntmps3
    go_wp2_with fail
    refine (big_words _ _ _ _).mono ?_
    rintro e w' ⟨rfl, rfl⟩
    rw [hb]
    go_wp2_with fail
    go_ret
    exact ⟨rfl, Below.refl _ _⟩
  have hb : decide ((4096 : Int) < (n : Int)) = false := by simp; omega
  go_enter Tryz.func3, Tryz.ntmps3
  go_wp2_with fail
  refine (big_words _ _ _ _).mono ?_
  rintro e w' ⟨rfl, rfl⟩
  rw [hb]
  clear hb
  go_wp2_with fail
  refine (drawCounted_any A n c xs w hr (by omega)).mono ?_
  rintro e w1 ⟨B, nb, cb, bs, hnb, rfl, rB, b1⟩
  have hkl := countedL_length bs
  have HQ := Lib.hid (fun h => counted_law (b := bs) h)
  have LB := Lib.hid rB.len
  obtain ⟨ks, hks⟩ : ∃ ks, ks = countedL bs := ⟨_, rfl⟩
  rw [← hks] at hkl HQ
  have HK := Lib.hid hks
  clear hks
  have hyy : (ks == ks) = true := by simp
  go_wp2_with fail
  refine (hK B nb cb bs w1 b1 rB (by omega) (by omega)).mono ?_
  rintro e w2 ⟨X, nx, cx, rfl, oX, b2⟩
  rw [← HK.out] at oX
  have rX := oX.rd
  have B2 := below_more b1 b2 b1.size
  replace rB := (rB.below b2).more b2.size
  have lX := Lib.hid rX.len
  have hnx : nx ≤ 512 := by have := lX.out; omega
  have hcx : nx ≤ cx := by
    rcases oX.form with ⟨_, h0, h1⟩ | ⟨_, _, _, _, _, h1⟩
    · omega
    · exact h1
  clear b1 b2 oX
  go_wp2_with fail
  refine (specCounted_any B nb cb bs w2 rB (by omega)).mono ?_
  rintro e w3 ⟨Y, ny, cy, rfl, oY, b3⟩
  rw [← HK.out] at oY
  have B3 := below_more B2 b3 B2.size
  replace rX := (rX.below b3).more b3.size
  clear b3 B2 rB
  go_wp2_with fail
  refine (like_any X Y nx cx ny cy ks ks w3.heap.size w3 rX oY.rd (by omega)).mono ?_
  rintro e w3' ⟨rfl, d3, rfl⟩
  rw [hyy]
  replace rX := rX.drewN d3
  replace B3 := below_drewN B3 d3
  clear oY hyy HK
  by_cases h0 : nx = 0
  · have hz : ((nx : Int) == 0) = true := by simp; omega
    go_wp2_with fail
    go_ret
    exact ⟨rfl, B3⟩
  · have hz : ((nx : Int) == 0) = false := by simp; omega
    have HQ2 := Lib.hid (HQ.out (fun e => h0 (by rw [← lX.out, e]; rfl)))
    have hnn : nb ≤ nx := by
      have := HQ2.out.2.2
      rw [LB.out, lX.out] at this
      exact this
    have hle : decide ((nb : Int) ≤ (nx : Int)) = true := by simp; omega
    clear HQ h0 LB
    have hsl := storedL_length ks
    obtain ⟨ss, hss⟩ : ∃ ss, ss = storedL ks := ⟨_, rfl⟩
    rw [← hss] at hsl
    have HS := Lib.hid hss
    have HCo : Hid (countsL ks = ss) := by rw [hss]; exact HQ2.out.1.symm
    clear hss
    have hss : (ss == ss) = true := by simp
    go_wp2_with fail
    replace rX : Rd (w3.drewN d3) (w3.drewN d3).heap.size X nx ks := rX
    generalize w3.drewN d3 = v3 at *
    refine (hS X nx cx ks v3 rX (by omega) hcx).mono ?_
    rintro e w4 ⟨Z, nz, cz, rfl, oZ, b4⟩
    rw [← HS.out] at oZ
    have rZ := oZ.rd
    have lZ := Lib.hid rZ.len
    have B4 := below_more B3 b4 B3.size
    replace rX := (rX.below b4).more b4.size
    clear b4 B3 oZ
    go_wp2_with fail
    refine (hC X nx cx ks w4 rX (by omega) hcx).mono ?_
    rintro e w5 ⟨V, nv, cv, rfl, oV, b5⟩
    rw [HCo.out] at oV
    have B5 := below_more B4 b5 B4.size
    replace rX := (rX.below b5).more b5.size
    replace rZ := (rZ.below b5).more b5.size
    clear b5 B4
    go_wp2_with fail
    refine (like_any Z V nz cz nv cv ss ss w5.heap.size w5 rZ oV.rd (by have := lZ.out; omega)).mono ?_
    rintro e w5' ⟨rfl, d5, rfl⟩
    rw [hss]
    replace rX := rX.drewN d5
    replace B5 := below_drewN B5 d5
    clear oV rZ
    go_wp2_with fail
    replace rX : Rd (w5.drewN d5) (w5.drewN d5).heap.size X nx ks := rX
    generalize w5.drewN d5 = v5 at *
    refine (hLo X nx cx ks v5 rX (by omega) hcx).mono ?_
    rintro e w6 ⟨G, cg, rfl, oG, b6⟩
    have B6 := below_more B5 b6 B5.size
    rw [HQ2.out.2.1]
    clear oG
    go_wp2_with fail
    go_ret
    exact ⟨rfl, B6⟩
end Go.Proofs.YtfolbhjljpnjlabGreat
