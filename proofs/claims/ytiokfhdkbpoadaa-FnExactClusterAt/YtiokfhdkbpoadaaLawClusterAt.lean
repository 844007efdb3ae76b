/- The law FnExactClusterAt, walked. -/
import Derived.Test.YtiokfhdkbpoadaaClat
namespace Go.Proofs.Ytiokfhdkbpoadaa
open Go.RowKit

theorem row_of {A : Option Addr} {n c lo hi : Nat} {w : World} {xs : List Int} (h : Ow w lo hi A n c xs) : ∀ g, Value.ownBlock (.slice A n c) = some g → lo ≤ g ∧ g < hi ∧ g < w.heap.size :=
  fun g hg => ⟨(h.own.lt g hg).1, h.top g hg, (h.own.lt g hg).2⟩

set_option maxHeartbeats 2000000 in
theorem law_ClusterAt (A : Option Addr) (n c : Nat) (xs : List Int) (at_ : Int) (w : World) (h : Rd w w.heap.size A n xs) :
    Calls Try.prog 4 #[.slice A n c, .int .i64 at_] w fun e w' => e = .returned (.bool true) ∧ Below w.heap.size w w' := by
  by_cases hbig : 1048576 < n
  · have hb : decide ((1048576 : Int) < (n : Int)) = true := by simp; omega
    go_enter Try.func4, Try.ntmps4
    go_wp2
    go_ret
    exact ⟨rfl, Below.refl _ _⟩
  have hb : decide ((1048576 : Int) < (n : Int)) = false := by simp; omega
  have hee : (xs == xs) = true := by simp
  obtain ⟨ys, hys⟩ : ∃ ys, ys = clusterL xs at_ := ⟨_, rfl⟩
  have hyy : (ys == ys) = true := by simp
  have hyl : ys.length ≤ 8 := by
    rw [hys, clusterL]; split
    · simp [cl, f8_length]
    · simp
  go_enter Try.func4, Try.ntmps4
  go_wp2_with fail
  refine (to_any A n c xs w h (by omega)).mono ?_
  rintro e w1 ⟨B1, rfl, o1, b1⟩
  go_wp2_with fail
  refine (specClat_any B1 n n xs at_ w1 o1.rd (by omega)).mono ?_
  rintro e w2 ⟨S, ns, cs, rfl, oS, b2⟩
  rw [← hys] at oS
  have b02 := below_more b1 b2 b1.size
  go_wp2_with fail
  refine (to_any A n c xs w2 ((h.below b02).more b02.size) (by omega)).mono ?_
  rintro e w3 ⟨X, rfl, oX, b3⟩
  have b03 := below_more b02 b3 b02.size
  have oS := oS.below b3 (Nat.le_refl _)
  go_wp2_with fail
  refine (implClat_any X n n xs at_ w3 oX.rd (by omega)).mono ?_
  rintro e w4 ⟨G, ng, cg, rfl, oG, b4⟩
  rw [← hys] at oG
  have HY := Lib.hid hys
  clear hys
  have b04 := below_more b03 b4 b03.size
  have oS := oS.below b4 b3.size
  have oX := oX.below b4 (Nat.le_refl _)
  have lS := Lib.hid oS.len
  have lG := Lib.hid oG.len
  go_wp2_with fail
  refine (eq_any G S ng cg ns cs ys ys w4.heap.size w4 oG.rd (oS.rd.more (Nat.le_trans b3.size b4.size)) (by have := lG.out; omega)).mono ?_
  rintro e w4' ⟨rfl, d1, rfl⟩
  go_wp2_with fail
  refine (to_any A n c xs (w4.drewN d1) ((h.below b04).more b04.size) (by omega)).mono ?_
  rintro e w5 ⟨Y, rfl, oY, b5⟩
  have b05 := below_more (below_drewN b04 d1) b5 b04.size
  have oS := (oS.drewN d1).below b5 (Nat.le_trans b3.size b4.size)
  have oX := (oX.drewN d1).below b5 b4.size
  have oG := (oG.drewN d1).below b5 (Nat.le_refl _)
  have s3 := b3.size
  have s4 := b4.size
  have s5 : w4.heap.size ≤ w5.heap.size := b5.size
  have s02 := b02.size
  go_wp2_with fail
  refine (eq_any X Y n n n n xs xs w5.heap.size w5 (oX.rd.more (by omega)) oY.rd (by omega)).mono ?_
  rintro e w5' ⟨rfl, d2, rfl⟩
  go_wp2_with fail
  refine (mark_any X n n _ _ xs 1 (w5.drewN d2) (oX.drewN d2) (by omega) (by omega) (by omega)).mono ?_
  rintro e w6 ⟨rfl, oX6, g6⟩
  have rX := row_of oX6
  have b06 : Below w.heap.size w w6 := (below_drewN b05 d2).grown g6 b05.size (fun g hg => by have := rX g hg; omega)
  have s6 : w5.heap.size ≤ w6.heap.size := g6.size
  have oS := (oS.drewN d2).grown g6 (fun g hg => by have := rX g hg; omega)
  have oG := (oG.drewN d2).grown g6 (fun g hg => by have := rX g hg; omega)
  have hk : decide ((1 : Int) + (n : Int) < 0) = false := by simp; omega
  go_wp2_with fail
  refine (eq_any G S ng cg ns cs ys ys w4.heap.size w6 oG.rd (oS.rd.more (by omega)) (by have := lG.out; omega)).mono ?_
  rintro e w6' ⟨rfl, d3, rfl⟩
  go_wp2_with fail
  refine (mark_any G ng cg _ _ ys 1 (w6.drewN d3) (oG.drewN d3) (by have := lG.out; omega) (by omega) (by omega)).mono ?_
  rintro e w7 ⟨rfl, oG7, g7⟩
  have rG := row_of oG7
  have b07 : Below w.heap.size w w7 := (below_drewN b06 d3).grown g7 b06.size (fun g hg => by have := rG g hg; omega)
  have s7 : w6.heap.size ≤ w7.heap.size := g7.size
  have oS := (oS.drewN d3).grown g7 (fun g hg => by have := rG g hg; omega)
  go_wp2_with fail
  refine (held_any G ng cg w4.heap.size 1 w7 oG7.rd (by have := lG.out; omega) (by omega) (by omega)).mono ?_
  rintro e w7' ⟨rfl, rfl⟩
  have hq : decide ((1 : Int) + (ng : Int) < 0) = false := by simp; omega
  have hq2 : ((1 : Int) + (ng : Int) != 1 + (ng : Int)) = false := by simp
  go_wp2_with fail
  refine (to_any A n c xs w7 ((h.below b07).more b07.size) (by omega)).mono ?_
  rintro e w8 ⟨Z, rfl, oZ, b8⟩
  have b08 := below_more b07 b8 b07.size
  have s8 := b8.size
  have oS := oS.below b8 (by omega)
  have oG8 := oG7.below b8 (by omega)
  go_wp2_with fail
  refine (implClat_any Z n n xs at_ w8 oZ.rd (by omega)).mono ?_
  rintro e w9 ⟨K, nk, ck, rfl, oK, b9⟩
  rw [← HY.out] at oK
  have lK := Lib.hid oK.len
  have b09 := below_more b08 b9 b08.size
  have s9 := b9.size
  have oS := oS.below b9 (by omega)
  have oG9 := oG8.below b9 (by omega)
  go_wp2_with fail
  refine (eq_any K S nk ck ns cs ys ys w9.heap.size w9 oK.rd (oS.rd.more (by omega)) (by have := lK.out; omega)).mono ?_
  rintro e w9' ⟨rfl, d4, rfl⟩
  go_wp2_with fail
  refine (held_any G ng cg w4.heap.size 1 (w9.drewN d4) (oG9.drewN d4).rd (by have := lG.out; omega) (by omega) (by omega)).mono ?_
  rintro e w9' ⟨rfl, rfl⟩
  go_wp2_with fail
  go_ret
  exact ⟨rfl, below_drewN b09 d4⟩
end Go.Proofs.Ytiokfhdkbpoadaa
