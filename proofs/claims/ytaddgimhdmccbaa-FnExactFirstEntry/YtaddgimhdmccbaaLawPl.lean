/- The exact laws of chapter 5, walked, given what the program's own functions answer. -/
import Derived.Test.YtaddgimhdmccbaaPl
import Derived.Test.YtaddgimhdmccbaaUtil
namespace Go.Proofs.Ytaddgimhdmccbaa
open Go.RowKit

/-- What is asked of the program's EntryAt, FirstEntry. -/
def EntryC : Prop := ∀ (A : Option Addr) (n c : Nat) (xs : List Int) (q g : Int) (w : World), Rd w w.heap.size A n xs → n ≤ 2097152 → n ≤ c → Calls Try.prog 7 #[.slice A n c, .int .i64 q, .int .i64 g] w (RetI w (entryAt xs q g))

def FirstEC : Prop := ∀ (A : Option Addr) (n c : Nat) (xs : List Int) (q g : Int) (w : World), Rd w w.heap.size A n xs → n ≤ 2097152 → n ≤ c → Calls Try.prog 10 #[.slice A n c, .int .i64 q, .int .i64 g] w (RetI w (firstEntry xs q g))

set_option maxHeartbeats 1000000 in
theorem law_EntryAt (hI : EntryC) (A : Option Addr) (n c : Nat) (xs : List Int) (q g : Int) (w : World) (h : Rd w w.heap.size A n xs) :
    Calls Try.prog 3 #[.slice A n c, .int .i64 q, .int .i64 g] w fun e w' => e = .returned (.bool true) ∧ Below w.heap.size w w' := by
  by_cases hbig : 1048576 < n
  · have hb : decide ((1048576 : Int) < (n : Int)) = true := by simp; omega
    go_enter Try.func3, Try.ntmps3
    go_wp2
    go_ret
    exact ⟨rfl, Below.refl _ _⟩
  have hb : decide ((1048576 : Int) < (n : Int)) = false := by simp; omega
  have hee : (xs == xs) = true := by simp
  have hff : (entryAt xs q g != entryAt xs q g) = false := by simp
  go_enter Try.func3, Try.ntmps3
  go_wp2_with fail
  refine (to_any A n c xs w h (by omega)).mono ?_
  rintro e w1 ⟨B1, rfl, o1, b1⟩
  go_wp2_with fail
  refine (specEntryAt_any B1 n n xs q g w1 o1.rd (by omega)).mono ?_
  rintro e w2 ⟨rfl, b2⟩
  have b02 := below_more b1 b2 b1.size
  go_wp2_with fail
  refine (to_any A n c xs w2 ((h.below b02).more b02.size) (by omega)).mono ?_
  rintro e w3 ⟨X, rfl, oX, b3⟩
  have b03 := below_more b02 b3 b02.size
  go_wp2_with fail
  refine (hI X n n xs q g w3 oX.rd (by omega) (Nat.le_refl _)).mono ?_
  rintro e w4 ⟨rfl, b4⟩
  have b04 := below_more b03 b4 b03.size
  have oX := oX.below b4 (Nat.le_refl _)
  go_wp2_with fail
  refine (to_any A n c xs w4 ((h.below b04).more b04.size) (by omega)).mono ?_
  rintro e w5 ⟨Y, rfl, oY, b5⟩
  have b05 := below_more b04 b5 b04.size
  have oX := oX.below b5 b4.size
  have s4 := b4.size
  have s5 := b5.size
  go_wp2_with fail
  refine (eq_any X Y n n n n xs xs w5.heap.size w5 (oX.rd.more (by omega)) oY.rd (by omega)).mono ?_
  rintro e w5' ⟨rfl, d2, rfl⟩
  go_wp2_with fail
  go_ret
  exact ⟨rfl, below_drewN b05 d2⟩

set_option maxHeartbeats 1000000 in
theorem law_FirstEntry (hI : FirstEC) (A : Option Addr) (n c : Nat) (xs : List Int) (q g : Int) (w : World) (h : Rd w w.heap.size A n xs) :
    Calls Try.prog 4 #[.slice A n c, .int .i64 q, .int .i64 g] w fun e w' => e = .returned (.bool true) ∧ Below w.heap.size w w' := by
  by_cases hbig : 1048576 < n
  · have hb : decide ((1048576 : Int) < (n : Int)) = true := by simp; omega
    go_enter Try.func4, Try.ntmps4
    go_wp2
    go_ret
    exact ⟨rfl, Below.refl _ _⟩
  have hb : decide ((1048576 : Int) < (n : Int)) = false := by simp; omega
  have hee : (xs == xs) = true := by simp
  have hff : (firstEntry xs q g != firstEntry xs q g) = false := by simp
  go_enter Try.func4, Try.ntmps4
  go_wp2_with fail
  refine (to_any A n c xs w h (by omega)).mono ?_
  rintro e w1 ⟨B1, rfl, o1, b1⟩
  go_wp2_with fail
  refine (specFirstEntry_any B1 n n xs q g w1 o1.rd (by omega)).mono ?_
  rintro e w2 ⟨rfl, b2⟩
  have b02 := below_more b1 b2 b1.size
  go_wp2_with fail
  refine (to_any A n c xs w2 ((h.below b02).more b02.size) (by omega)).mono ?_
  rintro e w3 ⟨X, rfl, oX, b3⟩
  have b03 := below_more b02 b3 b02.size
  go_wp2_with fail
  refine (hI X n n xs q g w3 oX.rd (by omega) (Nat.le_refl _)).mono ?_
  rintro e w4 ⟨rfl, b4⟩
  have b04 := below_more b03 b4 b03.size
  have oX := oX.below b4 (Nat.le_refl _)
  go_wp2_with fail
  refine (to_any A n c xs w4 ((h.below b04).more b04.size) (by omega)).mono ?_
  rintro e w5 ⟨Y, rfl, oY, b5⟩
  have b05 := below_more b04 b5 b04.size
  have oX := oX.below b5 b4.size
  have s4 := b4.size
  have s5 := b5.size
  go_wp2_with fail
  refine (eq_any X Y n n n n xs xs w5.heap.size w5 (oX.rd.more (by omega)) oY.rd (by omega)).mono ?_
  rintro e w5' ⟨rfl, d2, rfl⟩
  go_wp2_with fail
  go_ret
  exact ⟨rfl, below_drewN b05 d2⟩
end Go.Proofs.Ytaddgimhdmccbaa
