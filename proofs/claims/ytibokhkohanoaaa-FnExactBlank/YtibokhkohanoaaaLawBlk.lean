/- The exact law of Blank, walked, given what the program's own function answers. -/
import Derived.Test.YtibokhkohanoaaaBl
import Derived.Test.YtibokhkohanoaaaLawClusterAt
namespace Go.Proofs.Ytibokhkohanoaaa
open Go.RowKit

theorem blankL_length (a : Int) : (blankL a).length ≤ 32 := by
  unfold blankL
  split
  · simp [hdW]
  · simp

def BlankC (W : World) : Prop := ∀ (a : Int) (w : World), Below W.heap.size W w → Calls Try.prog 5 #[.int .i64 a] w (Ret w (blankL a))

set_option maxHeartbeats 2000000 in
theorem law_Blank (w : World) (hI : BlankC w) (a : Int) :
    Calls Try.prog 3 #[.int .i64 a] w fun e w' => e = .returned (.bool true) ∧ Below w.heap.size w w' := by
  obtain ⟨ys, hys⟩ : ∃ ys, ys = blankL a := ⟨_, rfl⟩
  have hyy : (ys == ys) = true := by simp
  have hyl : ys.length ≤ 32 := by
    rw [hys]
    exact blankL_length a
  have HY := Lib.hid hys
  clear hys
  go_enter Try.func3, Try.ntmps3
  go_wp2_with fail
  refine (specBlank_any a w).mono ?_
  rintro e w2 ⟨S, ns, cs, rfl, oS, b02⟩
  rw [← HY.out] at oS
  go_wp2_with fail
  refine (hI a w2 b02).mono ?_
  rintro e w4 ⟨G, ng, cg, rfl, oG, b4⟩
  rw [← HY.out] at oG
  have b04 := below_more b02 b4 b02.size
  have oS := oS.below b4 (Nat.le_refl _)
  have lS := Lib.hid oS.len
  have lG := Lib.hid oG.len
  go_wp2_with fail
  refine (eq_any G S ng cg ns cs ys ys w4.heap.size w4 oG.rd (oS.rd.more b4.size) (by have := lG.out; omega)).mono ?_
  rintro e w4' ⟨rfl, d1, rfl⟩
  have s4 := b4.size
  have s02 := b02.size
  go_wp2_with fail
  refine (mark_any G ng cg _ _ ys 1 (w4.drewN d1) (oG.drewN d1) (by have := lG.out; omega) (by omega) (by omega)).mono ?_
  rintro e w7 ⟨rfl, oG7, g7⟩
  have rG := row_of oG7
  have b07 : Below w.heap.size w w7 := (below_drewN b04 d1).grown g7 b04.size (fun g hg => by have := rG g hg; omega)
  have s7 : w4.heap.size ≤ w7.heap.size := g7.size
  have oS := (oS.drewN d1).grown g7 (fun g hg => by have := rG g hg; omega)
  go_wp2_with fail
  refine (held_any G ng cg w4.heap.size 1 w7 oG7.rd (by have := lG.out; omega) (by omega) (by omega)).mono ?_
  rintro e w7' ⟨rfl, rfl⟩
  have hq : decide ((1 : Int) + (ng : Int) < 0) = false := by simp; omega
  have hq2 : ((1 : Int) + (ng : Int) != 1 + (ng : Int)) = false := by simp
  go_wp2_with fail
  refine (hI a w7 b07).mono ?_
  rintro e w9 ⟨K, nk, ck, rfl, oK, b9⟩
  rw [← HY.out] at oK
  have lK := Lib.hid oK.len
  have b09 := below_more b07 b9 b07.size
  have s9 := b9.size
  have oS := oS.below b9 (by omega)
  have oG9 := oG7.below b9 (by omega)
  go_wp2_with fail
  refine (eq_any K S nk ck ns cs ys ys w9.heap.size w9 oK.rd (oS.rd.more (by omega)) (by have := lK.out; omega)).mono ?_
  rintro e w9' ⟨rfl, d4, rfl⟩
  go_wp2_with fail
  refine (held_any G ng cg w4.heap.size 1 (w9.drewN d4) (oG9.drewN d4).rd (by have := lG.out; omega) (by omega) (by omega)).mono ?_
  rintro e w9' ⟨rfl, rfl⟩
  go_wp2_with fail
  go_ret
  exact ⟨rfl, below_drewN b09 d4⟩

end Go.Proofs.Ytibokhkohanoaaa
