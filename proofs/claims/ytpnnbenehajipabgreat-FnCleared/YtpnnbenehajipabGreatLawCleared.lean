/- The law FnCleared, walked, given what the program's own functions answer. -/
import Derived.Test.YtpnnbenehajipabGreatD6
import Derived.Test.YtpnnbenehajipabGreatLawClr
import Derived.Test.YtpnnbenehajipabGreatY2
import Derived.Test.YtpnnbenehajipabGreatCon
import Derived.Test.YtpnnbenehajipabGreatH2
import Derived.Test.YtpnnbenehajipabGreatLawWords
namespace Go.Proofs.YtpnnbenehajipabGreat
open Go.RowKit

theorem gd_step (l : List Cm) (k : Nat) (hk : k < l.length) : (gd (l.take (k + 1))).length = (gd (l.take k)).length + if (l.getD k cm0).good = true then 1 else 0 := by
  have e : l.getD k cm0 = l[k] := by simp [List.getD_eq_getElem?_getD, hk]
  rw [List.take_succ_eq_append_getElem hk, gd_append, e, List.length_append]
  unfold gd
  cases h : l[k].good <;> simp [h]

set_option maxHeartbeats 2000000 in
theorem good_any (A : Option Addr) (n c B : Nat) (l : List Cm) (w : World) (h : RdV 6 w B A n (l.flatMap cmV)) (hl : l.length = n) (hn : n ≤ 100000) :
    Calls Tryz.prog 11 #[.slice A n c, .bool true] w fun e w' => e = .returned (.int .i64 (gd l).length) ∧ w = w' := by
  go_enter Tryz.func11, Tryz.ntmps11
  go_wp2_with fail
  go_loop [5, 6] (fun v i => ∃ k : Nat, k ≤ n ∧ i = .int .i64 k ∧ v = .int .i64 (gd (l.take k)).length) (fun _ i => n - (intOf i).toNat)
  case atStart => exact ⟨0, Nat.zero_le _, rfl, rfl⟩
  case round =>
    obtain ⟨k, hk, rfl, rfl⟩ := hrel
    by_cases hlt : k < n
    · obtain ⟨b, off, rfl, _, _⟩ := h.2 (by omega)
      obtain ⟨_, _, _, _, _, p5, _⟩ := h.cm (show k < l.length by omega) hl
      have HS := Lib.hid (gd_step l k (by omega))
      have hle : (gd (l.take k)).length ≤ 100000 := by
        have h1 : (gd (l.take k)).length ≤ (l.take k).length := List.length_filter_le _ _
        have h2 : (l.take k).length ≤ k := List.length_take_le _ _
        omega
      generalize (l.getD k cm0).good = gx at *
      generalize (gd (l.take k)).length = m at *
      have n1 : (0 : Int) ≤ (k : Int) := by omega
      have n2 : (k : Int) < (n : Int) := by omega
      clear h
      cases gx
      · go_wp2_with fail
        go_round
        case rel => exact ⟨k + 1, by omega, by go_num, by rw [HS.out]; simp⟩
        case measure => simp [intOf]; omega
      · go_wp2_with fail
        go_round
        case rel => exact ⟨k + 1, by omega, by go_num, by rw [HS.out]; simp⟩
        case measure => simp [intOf]; omega
    · go_wp2_with fail
      go_ret
      rw [List.take_of_length_le (by omega)]
      exact ⟨rfl, rfl⟩

theorem cmr_cells12 {w : World} {lo hi : Nat} {A : Option Addr} {cg : Nat} {l : List Cm} (h : OwR 35 6 w lo hi A l.length cg (l.flatMap cmV)) {k : Nat} (hk : k < l.length) :
    ∃ g, A = some ⟨g, 0, none⟩ ∧ ∀ j, j < 6 → w.cell? ⟨g, k * 6 + j, none⟩ = (cmV (l.getD k cm0))[j]? := by
  rcases h.form with ⟨_, h0, _⟩ | ⟨g, rfl, h1, h2, h3, _⟩
  · omega
  · exact ⟨g, rfl, fun j hj => cm_cells h.rd hk j hj⟩

theorem cleared_two {b : List Int} (hh : hasHead b = true) {c : Cm} (hc : c ∈ looseL (clearedL b)) : (c.kind = 2 ∨ c.kind = 3) ∧ c.target = 0 := by
  unfold clearedL at hc
  rw [if_pos hh] at hc
  exact cleared_loose hh hc
theorem cleared_many {b : List Int} (hh : hasHead b = true) : (gd (claimsL (clearedL b))).length = (gd (claimsL b)).length ∨ ((namesL (clearedL b)).length = 0 ∧ (gd (claimsL (clearedL b))).length + 1 = (gd (claimsL b)).length) := by
  unfold clearedL
  rw [if_pos hh]
  rcases cleared_count hh with h | ⟨h1, h2⟩
  · exact .inl h
  · exact .inr ⟨by unfold namesL; rw [List.length_map]; exact h1, h2⟩
theorem gd_le (l : List Cm) : (gd l).length ≤ l.length := List.length_filter_le _ _

set_option maxRecDepth 100000 in
set_option maxHeartbeats 16000000 in
theorem law_Cleared_ (hK : ClearedC) (hLo : LooseC) (hCm : ClaimsC) (A : Option Addr) (n c : Nat) (xs : List Int) (w : World) (hr : Rd8 w w.heap.size A n xs) :
    Calls Tryz.prog 3 #[.slice A n c] w fun e w' => e = .returned (.bool true) ∧ Below w.heap.size w w' := by
  by_cases hbig : 4096 < n
  · have hb : decide ((4096 : Int) < (n : Int)) = true := by simp; omega
    go_enter Tryz.func3, Tryz.ntmps3
    go_wp2_with fail
    refine (big_words _ _ _ _).mono ?_
    rintro e w' ⟨rfl, rfl⟩
    rw [hb]
    go_wp2_with fail
    go_ret
    exact ⟨rfl, Below.refl _ _⟩
  have hb : decide ((4096 : Int) < (n : Int)) = false := by simp; omega
  go_enter Tryz.func3, Tryz.ntmps3
  go_wp2_with fail
  refine (big_words _ _ _ _).mono ?_
  rintro e w' ⟨rfl, rfl⟩
  rw [hb]
  clear hb
  go_wp2_with fail
  refine (drawCleared_any A n c xs w hr (by omega)).mono ?_
  rintro e w1 ⟨B, nb, cb, bs, hnb, rfl, rB, b1⟩
  have hkl := clearedL_length bs
  have HN0 : Hid (hasHead bs = false → clearedL bs = []) := Lib.hid fun h => by unfold clearedL; rw [h]; rfl
  have HL2 := Lib.hid (fun h c hc => cleared_two (b := bs) h (c := c) hc)
  have HM2 := Lib.hid (fun h => cleared_many (b := bs) h)
  obtain ⟨ks, hks⟩ : ∃ ks, ks = clearedL bs := ⟨_, rfl⟩
  rw [← hks] at hkl HN0 HL2 HM2
  have HK := Lib.hid hks
  clear hks
  have hyy : (ks == ks) = true := by simp
  go_wp2_with fail
  refine (hK B nb cb bs w1 rB (by omega) (by omega)).mono ?_
  rintro e w2 ⟨X, nx, cx, rfl, oX, b2⟩
  rw [← HK.out] at oX
  have rX := oX.rd
  have B2 := below_more b1 b2 b1.size
  replace rB := (rB.below b2).more b2.size
  have lX := Lib.hid rX.len
  have hnx : nx ≤ 520 := by have := lX.out; omega
  have hcx : nx ≤ cx := by
    rcases oX.form with ⟨_, h0, h1⟩ | ⟨_, _, _, _, _, h1⟩
    · omega
    · exact h1
  clear b1 b2 oX
  go_wp2_with fail
  refine (specCleared_any B nb cb bs w2 rB (by omega)).mono ?_
  rintro e w3 ⟨Y, ny, cy, rfl, oY, b3⟩
  rw [← HK.out] at oY
  have B3 := below_more B2 b3 B2.size
  replace rB := (rB.below b3).more b3.size
  replace rX := (rX.below b3).more b3.size
  clear b3 B2
  go_wp2_with fail
  refine (like_any X Y nx cx ny cy ks ks w3.heap.size w3 rX oY.rd (by omega)).mono ?_
  rintro e w3' ⟨rfl, d3, rfl⟩
  rw [hyy]
  replace rB := rB.drewN d3
  replace rX := rX.drewN d3
  replace B3 := below_drewN B3 d3
  clear oY hyy HK
  go_wp2_with fail
  refine (specHeadIn_any _ _ _ bs _ rB (by omega)).mono ?_
  rintro e w4 ⟨rfl, b4⟩
  generalize hrr : headIn bs = r
  obtain ⟨⟨s, f, r, u, m⟩, is⟩ := r
  have HR := Lib.hid hrr
  clear hrr
  unfold hdV
  have B4 := (below_more B3 b4 B3.size).alloc (below_more B3 b4 B3.size).size (.cells #[.int .i64 s, .int .i64 f, .int .i64 r, .int .i64 u, .int .i64 m] 29)
  have a4 := (Below.refl w4.heap.size w4).alloc (Nat.le_refl _) (.cells #[.int .i64 s, .int .i64 f, .int .i64 r, .int .i64 u, .int .i64 m] 29)
  replace rB := (((rB.below b4).more b4.size).below a4).more a4.size
  replace rX := (((rX.below b4).more b4.size).below a4).more a4.size
  cases is
  · have hz : ((nx : Int) == 0) = true := by
      have h1 := HN0.out (headIn_false HR.out).1
      have h2 := lX.out
      rw [h1] at h2
      simp at h2
      simp
      omega
    go_wp2_with fail
    go_ret
    exact ⟨rfl, B4⟩
  · have HH := Lib.hid (headIn_true HR.out).1
    have HL := Lib.hid (HL2.out HH.out)
    have HM := Lib.hid (HM2.out HH.out)
    clear b4 B3 a4 HL2 HM2 HN0 HR HH
    go_wp2_with fail
    generalize (w4.alloc (.cells #[.int .i64 s, .int .i64 f, .int .i64 r, .int .i64 u, .int .i64 m] 29)) = v4 at *
    refine (hLo X nx cx ks v4 rX (by omega) (by omega)).mono ?_
    rintro e w5 ⟨G, cg, rfl, oG, b5⟩
    have HG := Lib.hid oG
    have B5 := below_more B4 b5 B4.size
    replace rB := (rB.below b5).more b5.size
    replace rX := (rX.below b5).more b5.size
    have hll := looseL_length ks
    clear b5 B4 oG
    generalize looseL ks = l at *
    obtain ⟨nl, hnl⟩ : ∃ nl, l.length = nl := ⟨_, rfl⟩
    rw [hnl] at hll ⊢
    go_wp2_with fail
    go_loop [8] (fun v => ∃ k : Nat, k ≤ nl ∧ v = .int .i64 k) (fun v => nl - (intOf v).toNat)
    case atStart => exact ⟨0, Nat.zero_le _, rfl⟩
    case round =>
      obtain ⟨k, hk, rfl⟩ := hrel
      by_cases hlt : k < nl
      · obtain ⟨g, rfl, hce⟩ := cmr_cells12 HG.out (show k < l.length by omega)
        have h2 := HL.out (l.getD k cm0) (by rw [show l.getD k cm0 = l[k]'(by omega) by simp [List.getD_eq_getElem?_getD, show k < l.length by omega]]; exact List.getElem_mem _)
        generalize l.getD k cm0 = x at *
        obtain ⟨xk, xf, xs', xp, xt, xg⟩ := x
        simp only at h2
        have p0 : w5.cell? ⟨g, k * 6, none⟩ = some (.int .i64 xk) := hce 0 (by omega)
        have p4 : w5.cell? ⟨g, k * 6 + 4, none⟩ = some (.int .i64 xt) := hce 4 (by omega)
        clear hce
        obtain ⟨hk23, rfl⟩ := h2
        have n1 : (0 : Int) ≤ (k : Int) := by omega
        have n2 : (k : Int) < (nl : Int) := by omega
        rcases hk23 with rfl | rfl
        · go_wp2_with fail
          go_round
          case rel => exact ⟨k + 1, by omega, by go_num⟩
          case measure => simp [intOf]; omega
        · go_wp2_with fail
          go_round
          case rel => exact ⟨k + 1, by omega, by go_num⟩
          case measure => simp [intOf]; omega
      · clear HG HL
        go_wp2_with fail
        refine (specClaimsInR_any B nb cb bs w5 rB (by omega)).mono ?_
        rintro e w6 ⟨G1, cg1, rfl, oG1, b6⟩
        have B6 := below_more B5 b6 B5.size
        replace rX := (rX.below b6).more b6.size
        have rG1 := oG1.rd
        have hl1 := claimsL_length bs
        clear b6 B5 rB oG1
        go_wp2_with fail
        refine (good_any G1 _ cg1 _ (claimsL bs) w6 rG1 rfl (by omega)).mono ?_
        rintro e w6' ⟨rfl, rfl⟩
        clear rG1
        go_wp2_with fail
        refine (hCm X nx cx ks w6 rX (by omega) (by omega)).mono ?_
        rintro e w7 ⟨G2, cg2, rfl, oG2, b7⟩
        have B7 := below_more B6 b7 B6.size
        replace rX := (rX.below b7).more b7.size
        have rG2 := oG2.rd
        have hl2 := claimsL_length ks
        clear b7 B6 oG2
        go_wp2_with fail
        refine (good_any G2 _ cg2 _ (claimsL ks) w7 rG2 rfl (by omega)).mono ?_
        rintro e w7' ⟨rfl, rfl⟩
        clear rG2
        go_wp2_with fail
        refine (specNames_any X nx cx ks w7 rX (by omega)).mono ?_
        rintro e w8 ⟨N, nn, cn, rfl, oN, b8⟩
        have B8 := below_more B7 b8 B7.size
        have lN := Lib.hid oN.len
        have hg1 := gd_le (claimsL bs)
        have hg2 := gd_le (claimsL ks)
        clear b8 B7 oN rX
        rcases HM.out with h | ⟨h1, h2⟩
        · have hqq : (((gd (claimsL ks)).length : Int) == ((gd (claimsL bs)).length : Int)) = true := by rw [h]; simp
          generalize (gd (claimsL ks)).length = a1 at *
          generalize (gd (claimsL bs)).length = a2 at *
          clear h
          by_cases hn0 : 0 < nn
          · have hd : decide ((0 : Int) < (nn : Int)) = true := by simp; omega
            go_wp2_with fail
            go_ret
            exact ⟨rfl, B8⟩
          · have hd : decide ((0 : Int) < (nn : Int)) = false := by simp; omega
            go_wp2_with fail
            go_ret
            exact ⟨rfl, B8⟩
        · have hn0 : nn = 0 := by rw [← lN.out]; exact h1
          subst hn0
          generalize (gd (claimsL ks)).length = a1 at *
          generalize (gd (claimsL bs)).length = a2 at *
          obtain rfl : a2 = a1 + 1 := by omega
          have hqq : ((a1 : Int) == ((a1 + 1 : Nat) : Int)) = false := by simp; omega
          have hq2 : ((a1 : Int) == ((a1 + 1 : Nat) : Int) - 1) = true := by simp
          clear h1 h2
          go_wp2_with fail
          go_ret
          exact ⟨rfl, B8⟩
end Go.Proofs.YtpnnbenehajipabGreat
