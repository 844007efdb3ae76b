/- The law FnStored, walked, given what the program's own functions answer. -/
import Derived.Test.YtooogjjkebfkmabD6
import Derived.Test.YtooogjjkebfkmabLawSto
import Derived.Test.YtooogjjkebfkmabLawCo
import Derived.Test.YtooogjjkebfkmabStQ
import Derived.Test.YtooogjjkebfkmabG3
import Derived.Test.YtooogjjkebfkmabLawWords
namespace Go.Proofs.Ytooogjjkebfkmab
open Go.RowKit

set_option maxRecDepth 100000 in
set_option maxHeartbeats 8000000 in
theorem law_Stored (hS : StoredC) (hC : CountsC) (A : Option Addr) (n c : Nat) (xs : List Int) (w : World) (hr : Rd8 w w.heap.size A n xs) :
    Calls Try.prog 3 #[.slice A n c] w fun e w' => e = .returned (.bool true) ∧ Below w.heap.size w w' := by
  by_cases hbig : 4096 < n
  · have hb : decide ((4096 : Int) < (n : Int)) = true := by simp; omega
    go_enter Try.func3, Try.ntmps3
    go_wp2_with fail
    refine (big_words _ _ _ _).mono ?_
    rintro e w' ⟨rfl, rfl⟩
    rw [hb]
    go_wp2_with fail
    go_ret
    exact ⟨rfl, Below.refl _ _⟩
  have hb : decide ((4096 : Int) < (n : Int)) = false := by simp; omega
  go_enter Try.func3, Try.ntmps3
  go_wp2_with fail
  refine (big_words _ _ _ _).mono ?_
  rintro e w' ⟨rfl, rfl⟩
  rw [hb]
  clear hb
  go_wp2_with fail
  refine (drawStoredIn_any A n c xs w hr (by omega)).mono ?_
  rintro e w1 ⟨B, nb, cb, bs, hnb, rfl, rB, b1⟩
  have hsl := storedL_length bs
  have HQ := Lib.hid (fun h => sound_stored (xs := bs) h)
  obtain ⟨ss, hss⟩ : ∃ ss, ss = storedL bs := ⟨_, rfl⟩
  rw [← hss] at HQ hsl
  have HS := Lib.hid hss
  clear hss
  have hyy : (ss == ss) = true := by simp
  go_wp2_with fail
  refine (hS B nb cb bs w1 rB (by omega) (by omega)).mono ?_
  rintro e w2 ⟨X, nx, cx, rfl, oX, b2⟩
  rw [← HS.out] at oX
  have rX := oX.rd
  have B2 := below_more b1 b2 b1.size
  replace rB := (rB.below b2).more b2.size
  have lX := Lib.hid rX.len
  have hnx : nx ≤ 64 := by have := lX.out; omega
  clear b1 b2 oX
  go_wp2_with fail
  refine (specStored_any B nb cb bs w2 rB (by omega)).mono ?_
  rintro e w3 ⟨Y, ny, cy, rfl, oY, b3⟩
  rw [← HS.out] at oY
  have B3 := below_more B2 b3 B2.size
  replace rB := (rB.below b3).more b3.size
  replace rX := (rX.below b3).more b3.size
  clear b3 B2
  go_wp2_with fail
  refine (like_any X Y nx cx ny cy ss ss w3.heap.size w3 rX oY.rd (by omega)).mono ?_
  rintro e w3' ⟨rfl, d3, rfl⟩
  rw [hyy]
  replace rB := rB.drewN d3
  replace rX := rX.drewN d3
  replace B3 := below_drewN B3 d3
  clear oY
  go_wp2_with fail
  refine (specSound_any B nb cb bs _ rB (by omega)).mono ?_
  rintro e w4 ⟨rfl, b4⟩
  have B4 := below_more B3 b4 B3.size
  replace rB := (rB.below b4).more b4.size
  replace rX := (rX.below b4).more b4.size
  clear b4 B3
  cases hso : soundB bs
  · go_wp2_with fail
    go_ret
    exact ⟨rfl, B4⟩
  · have HE : Hid (ss = countsL bs) := HQ.out hso
    clear HQ HS hso
    go_wp2_with fail
    refine (hC B nb cb bs w4 rB (by omega) (by omega)).mono ?_
    rintro e w5 ⟨Z, nz, cz, rfl, oZ, b5⟩
    rw [← HE.out] at oZ
    have B5 := below_more B4 b5 B4.size
    replace rX := (rX.below b5).more b5.size
    clear b5 B4
    go_wp2_with fail
    refine (like_any X Z nx cx nz cz ss ss w5.heap.size w5 rX oZ.rd (by omega)).mono ?_
    rintro e w5' ⟨rfl, d5, rfl⟩
    rw [hyy]
    go_wp2_with fail
    go_ret
    exact ⟨rfl, below_drewN B5 d5⟩
end Go.Proofs.Ytooogjjkebfkmab
