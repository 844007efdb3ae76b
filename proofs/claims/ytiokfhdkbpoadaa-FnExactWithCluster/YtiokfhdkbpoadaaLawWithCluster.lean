/- The law FnExactWithCluster, walked. -/
import Derived.Test.YtiokfhdkbpoadaaWci
import Derived.Test.YtiokfhdkbpoadaaLawClusterAt
namespace Go.Proofs.Ytiokfhdkbpoadaa
open Go.RowKit

theorem withL_len (xs : List Int) (at_ : Int) (ws : List Int) : (withL xs at_ ws).length ≤ 2097152 := by
  unfold withL
  split
  · rename_i h
    simp [withB] at h
    obtain ⟨h1, h2, h3, h4⟩ := h
    have hl := imgB_len h1
    obtain ⟨h5, h6⟩ := inB_true.1 h3
    obtain ⟨a, rfl⟩ := Int.eq_ofNat_of_zero_le h5
    rw [Int.toNat_natCast, setCl_long (whole xs) (manyN xs) a ws (whole_length xs) (eightB_len h2) (by omega)]
    have : manyN xs ≤ 64 := by unfold manyN; omega
    split <;> omega
  · simp

set_option maxHeartbeats 4000000 in
theorem law_WithCluster (A : Option Addr) (n c : Nat) (xs : List Int) (at_ : Int) (V : Option Addr) (m cv : Nat) (ws : List Int) (w : World) (h : Rd w w.heap.size A n xs) (hv : Rd w w.heap.size V m ws) :
    Calls Try.prog 5 #[.slice A n c, .int .i64 at_, .slice V m cv] w fun e w' => e = .returned (.bool true) ∧ Below w.heap.size w w' := by
  by_cases hbig : 1048576 < n
  · have hb : decide ((1048576 : Int) < (n : Int)) = true := by simp; omega
    go_enter Try.func5, Try.ntmps5
    go_wp2
    go_ret
    exact ⟨rfl, Below.refl _ _⟩
  have hb : decide ((1048576 : Int) < (n : Int)) = false := by simp; omega
  by_cases hbig2 : 1048576 < m
  · have hb : decide ((1048576 : Int) < (m : Int)) = true := by simp; omega
    go_enter Try.func5, Try.ntmps5
    go_wp2
    go_ret
    exact ⟨rfl, Below.refl _ _⟩
  have hb2 : decide ((1048576 : Int) < (m : Int)) = false := by simp; omega
  have hee : (xs == xs) = true := by simp
  have hww : (ws == ws) = true := by simp
  obtain ⟨ys, hys⟩ : ∃ ys, ys = withL xs at_ ws := ⟨_, rfl⟩
  have hyy : (ys == ys) = true := by simp
  have hyl : ys.length ≤ 2097152 := by rw [hys]; exact withL_len xs at_ ws
  go_enter Try.func5, Try.ntmps5
  go_wp2_with fail
  refine (to_any A n c xs w h (by omega)).mono ?_
  rintro e w1 ⟨B1, rfl, o1, b1⟩
  go_wp2_with fail
  refine (to_any V m cv ws w1 ((hv.below b1).more b1.size) (by omega)).mono ?_
  rintro e w1b ⟨B1b, rfl, o1b, b1b⟩
  have b01b := below_more b1 b1b b1.size
  have o1 := o1.below b1b (Nat.le_refl _)
  go_wp2_with fail
  refine (specWcl_any B1 n n xs at_ B1b m m ws w1b (o1.rd.more b1b.size) o1b.rd (by omega) (by omega)).mono ?_
  rintro e w2 ⟨S, ns, cs, rfl, oS, b2⟩
  rw [← hys] at oS
  have b02 := below_more b01b b2 b01b.size
  go_wp2_with fail
  refine (to_any A n c xs w2 ((h.below b02).more b02.size) (by omega)).mono ?_
  rintro e w3a ⟨X, rfl, oX, b3a⟩
  have b03a := below_more b02 b3a b02.size
  have oS := oS.below b3a (Nat.le_refl _)
  go_wp2_with fail
  refine (to_any V m cv ws w3a ((hv.below b03a).more b03a.size) (by omega)).mono ?_
  rintro e w3 ⟨Y, rfl, oY, b3⟩
  have b03 := below_more b03a b3 b03a.size
  have oS := oS.below b3 b3a.size
  have oX := oX.below b3 (Nat.le_refl _)
  go_wp2_with fail
  refine (implWcl_any X n n xs at_ Y m m ws w3 (oX.rd.more b3.size) oY.rd (by omega) (by omega)).mono ?_
  rintro e w4 ⟨G, ng, cg, rfl, oG, b4⟩
  rw [← hys] at oG
  have HY := Lib.hid hys
  clear hys
  have b04 := below_more b03 b4 b03.size
  have s3a := b3a.size
  have s3 := b3.size
  have s4 := b4.size
  have s02 := b02.size
  have oS := oS.below b4 (by omega)
  have oX := oX.below b4 (by omega)
  have oY := oY.below b4 (Nat.le_refl _)
  have lS := Lib.hid oS.len
  have lG := Lib.hid oG.len
  go_wp2_with fail
  refine (eq_any G S ng cg ns cs ys ys w4.heap.size w4 oG.rd (oS.rd.more (by omega)) (by have := lG.out; omega)).mono ?_
  rintro e w4' ⟨rfl, d1, rfl⟩
  go_wp2_with fail
  refine (to_any A n c xs (w4.drewN d1) ((h.below b04).more b04.size) (by omega)).mono ?_
  rintro e w5 ⟨Z, rfl, oZ, b5⟩
  have b05 := below_more (below_drewN b04 d1) b5 b04.size
  have s5 : w4.heap.size ≤ w5.heap.size := b5.size
  have oS := (oS.drewN d1).below b5 (show _ ≤ w4.heap.size by omega)
  have oX := (oX.drewN d1).below b5 (show _ ≤ w4.heap.size by omega)
  have oY := (oY.drewN d1).below b5 (show _ ≤ w4.heap.size by omega)
  have oG := (oG.drewN d1).below b5 (Nat.le_refl _)
  go_wp2_with fail
  refine (eq_any X Z n n n n xs xs w5.heap.size w5 (oX.rd.more (by omega)) oZ.rd (by omega)).mono ?_
  rintro e w5' ⟨rfl, d2, rfl⟩
  go_wp2_with fail
  refine (to_any V m cv ws (w5.drewN d2) ((hv.below b05).more b05.size) (by omega)).mono ?_
  rintro e w6 ⟨U, rfl, oU, b6⟩
  have b06 := below_more (below_drewN b05 d2) b6 b05.size
  have s6 : w5.heap.size ≤ w6.heap.size := b6.size
  have oS := (oS.drewN d2).below b6 (show _ ≤ w5.heap.size by omega)
  have oX := (oX.drewN d2).below b6 (show _ ≤ w5.heap.size by omega)
  have oY := (oY.drewN d2).below b6 (show _ ≤ w5.heap.size by omega)
  have oG := (oG.drewN d2).below b6 (show _ ≤ w5.heap.size by omega)
  go_wp2_with fail
  refine (eq_any Y U m m m m ws ws w6.heap.size w6 (oY.rd.more (by omega)) oU.rd (by omega)).mono ?_
  rintro e w6' ⟨rfl, d3, rfl⟩
  go_wp2_with fail
  refine (mark_any X n n _ _ xs 1 (w6.drewN d3) (oX.drewN d3) (by omega) (by omega) (by omega)).mono ?_
  rintro e w7 ⟨rfl, oX7, g7⟩
  have rX := row_of oX7
  have b07 : Below w.heap.size w w7 := (below_drewN b06 d3).grown g7 b06.size (fun g hg => by have := rX g hg; omega)
  have s7 : w6.heap.size ≤ w7.heap.size := g7.size
  have oS := (oS.drewN d3).grown g7 (fun g hg => by have := rX g hg; omega)
  have oY := (oY.drewN d3).grown g7 (fun g hg => by have := rX g hg; omega)
  have oG := (oG.drewN d3).grown g7 (fun g hg => by have := rX g hg; omega)
  go_wp2_with fail
  refine (mark_any Y m m _ _ ws (1 + n) w7 oY (by omega) (by omega) (by omega)).mono ?_
  rintro e w8 ⟨rfl, oY8, g8⟩
  have rY := row_of oY8
  have b08 : Below w.heap.size w w8 := b07.grown g8 b07.size (fun g hg => by have := rY g hg; omega)
  have s8 : w7.heap.size ≤ w8.heap.size := g8.size
  have oS := oS.grown g8 (fun g hg => by have := rY g hg; omega)
  have oG := oG.grown g8 (fun g hg => by have := rY g hg; omega)
  have hk : decide ((1 : Int) + (n : Int) + (m : Int) < 0) = false := by simp; omega
  go_wp2_with fail
  refine (eq_any G S ng cg ns cs ys ys w4.heap.size w8 oG.rd (oS.rd.more (by omega)) (by have := lG.out; omega)).mono ?_
  rintro e w8' ⟨rfl, d4, rfl⟩
  go_wp2_with fail
  refine (mark_any G ng cg _ _ ys 1 (w8.drewN d4) (oG.drewN d4) (by have := lG.out; omega) (by omega) (by omega)).mono ?_
  rintro e w9 ⟨rfl, oG9, g9⟩
  have rG := row_of oG9
  have b09 : Below w.heap.size w w9 := (below_drewN b08 d4).grown g9 b08.size (fun g hg => by have := rG g hg; omega)
  have s9 : w8.heap.size ≤ w9.heap.size := g9.size
  have oS := (oS.drewN d4).grown g9 (fun g hg => by have := rG g hg; omega)
  go_wp2_with fail
  refine (held_any G ng cg w4.heap.size 1 w9 oG9.rd (by have := lG.out; omega) (by omega) (by omega)).mono ?_
  rintro e w9' ⟨rfl, rfl⟩
  have hq : decide ((1 : Int) + (ng : Int) < 0) = false := by simp; omega
  have hq2 : ((1 : Int) + (ng : Int) != 1 + (ng : Int)) = false := by simp
  go_wp2_with fail
  refine (to_any A n c xs w9 ((h.below b09).more b09.size) (by omega)).mono ?_
  rintro e w10 ⟨E, rfl, oE, b10⟩
  have b010 := below_more b09 b10 b09.size
  have s10 := b10.size
  have oS := oS.below b10 (by omega)
  have oG := oG9.below b10 (by omega)
  go_wp2_with fail
  refine (to_any V m cv ws w10 ((hv.below b010).more b010.size) (by omega)).mono ?_
  rintro e w11 ⟨F, rfl, oF, b11⟩
  have b011 := below_more b010 b11 b010.size
  have s11 := b11.size
  have oS := oS.below b11 (by omega)
  have oG := oG.below b11 (by omega)
  have oE := oE.below b11 (Nat.le_refl _)
  go_wp2_with fail
  refine (implWcl_any E n n xs at_ F m m ws w11 (oE.rd.more b11.size) oF.rd (by omega) (by omega)).mono ?_
  rintro e w12 ⟨K, nk, ck, rfl, oK, b12⟩
  rw [← HY.out] at oK
  have lK := Lib.hid oK.len
  have b012 := below_more b011 b12 b011.size
  have s12 := b12.size
  have oS := oS.below b12 (by omega)
  have oG := oG.below b12 (by omega)
  go_wp2_with fail
  refine (eq_any K S nk ck ns cs ys ys w12.heap.size w12 oK.rd (oS.rd.more (by omega)) (by have := lK.out; omega)).mono ?_
  rintro e w12' ⟨rfl, d5, rfl⟩
  go_wp2_with fail
  refine (held_any G ng cg w4.heap.size 1 (w12.drewN d5) (oG.drewN d5).rd (by have := lG.out; omega) (by omega) (by omega)).mono ?_
  rintro e w12' ⟨rfl, rfl⟩
  go_wp2_with fail
  go_ret
  exact ⟨rfl, below_drewN b012 d5⟩
end Go.Proofs.Ytiokfhdkbpoadaa
