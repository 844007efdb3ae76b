/- The law FnExactImageOk, walked: it returns true and writes nothing that was there. -/
import Derived.Test.YtengioillfjapaaImgSpec
namespace Go.Proofs.Ytengioillfjapaa
open Go.RowKit

theorem beq_self_t {x y : Bool} (h : x = y) : (x != y) = false := by subst h; simp

set_option maxHeartbeats 1000000 in
theorem law_ImageOk (A : Option Addr) (n c : Nat) (xs : List Int) (w : World) (h : Rd w w.heap.size A n xs) :
    Calls Try.prog 4 #[.slice A n c] w fun e w' => e = .returned (.bool true) ∧ Below w.heap.size w w' := by
  by_cases hbig : 1048576 < n
  · have hb : decide ((1048576 : Int) < (n : Int)) = true := by simp; omega
    go_enter Try.func4, Try.ntmps4
    go_wp2
    go_ret
    exact ⟨rfl, Below.refl _ _⟩
  · have hb : decide ((1048576 : Int) < (n : Int)) = false := by simp; omega
    go_enter Try.func4, Try.ntmps4
    go_wp2_with fail
    refine (to_any A n c xs _ h (by omega)).mono ?_
    rintro e w1 ⟨B1, rfl, o1, b1⟩
    go_wp2_with fail
    refine (specImg_any B1 n n xs _ _ o1.rd (by omega)).mono ?_
    rintro e w1' ⟨rfl, rfl⟩
    go_wp2_with fail
    refine (to_any A n c xs w1 ((h.below b1).more b1.size) (by omega)).mono ?_
    rintro e w2 ⟨B2, rfl, o2, b2⟩
    go_wp2_with fail
    refine (implImg_any B2 n n xs _ _ o2.rd (by omega)).mono ?_
    rintro e w2' ⟨rfl, rfl⟩
    have hbb : (imgB xs != imgB xs) = false := by simp
    go_wp2_with fail
    have b02 := below_more b1 b2 b1.size
    refine (to_any A n c xs w2 ((h.below b02).more b02.size) (by omega)).mono ?_
    rintro e w3 ⟨B3, rfl, o3, b3⟩
    have b03 := below_more b02 b3 b02.size
    go_wp2_with fail
    refine (eq_any B2 B3 n n n n xs xs w3.heap.size w3 ((o2.below b3 (Nat.le_refl _)).rd.more b3.size) o3.rd (by omega)).mono ?_
    rintro e w4 ⟨rfl, d, rfl⟩
    have hee : (xs == xs) = true := by simp
    go_wp2_with fail
    go_ret
    exact ⟨rfl, below_drewN b03 d⟩
end Go.Proofs.Ytengioillfjapaa
