/- The law FnWords, walked. -/
import Derived.Test.YtkodcmpiaokklaaDq
import Derived.Test.YtkodcmpiaokklaaWci
namespace Go.Proofs.Ytkodcmpiaokklaa
open Go.RowKit

/-- What a written image is, in one place. -/
structure WithFacts (xs : List Int) (at_ : Int) (ws ys : List Int) (m : Nat) : Prop where
  many : manyI xs = m
  lo : 0 ≤ at_
  hi : at_ ≤ m
  eight : ys.length % 8 = 0
  cnt : manyI ys = if at_ = m then (m : Int) + 1 else m
  same : clusterL ys at_ = ws
  other : ∀ k : Nat, k < m → (k : Int) ≠ at_ → clusterL ys k = clusterL xs k

theorem cl_set_same {zs ws : List Int} {a : Nat} (ha : a * 8 ≤ zs.length) (hw : ws.length = 8) : cl (setCl zs a ws) a = ws := by
  refine List.ext_getElem? fun j => ?_
  by_cases hj : j < 8
  · have h1 := cl_word_get (setCl zs a ws) a j hj
    rw [setCl_get ha hw, if_pos (by omega), show a * 8 + j - a * 8 = j by omega] at h1
    have e1 : (cl (setCl zs a ws) a)[j]? = some ((cl (setCl zs a ws) a).getD j 0) := by
      rw [List.getD_eq_getElem?_getD, List.getElem?_eq_getElem (by rw [cl_length]; exact hj)]; rfl
    have e2 : ws[j]? = some (ws.getD j 0) := by
      rw [List.getD_eq_getElem?_getD, List.getElem?_eq_getElem (by omega)]; rfl
    rw [e1, e2, h1]
  · rw [List.getElem?_eq_none (by rw [cl_length]; omega), List.getElem?_eq_none (by omega)]
theorem cl_set_other {zs ws : List Int} {a k : Nat} (ha : a * 8 ≤ zs.length) (hw : ws.length = 8) (hk : k ≠ a) : cl (setCl zs a ws) k = cl zs k := by
  unfold cl f8
  refine List.map_congr_left fun j hj => ?_
  have hj' := List.mem_range.1 hj
  rw [setCl_get ha hw, if_neg (by omega)]

theorem with_facts {xs : List Int} {at_ : Int} {ws : List Int} (h : (withL xs at_ ws).length ≠ 0) : WithFacts xs at_ ws (withL xs at_ ws) (manyN xs) := by
  unfold withL at *
  split at h
  · rename_i hb
    rw [if_pos hb]
    simp [withB] at hb
    obtain ⟨h1, h2, h3, h4⟩ := hb
    obtain ⟨h5, h6⟩ := inB_true.1 h3
    obtain ⟨a, rfl⟩ := Int.eq_ofNat_of_zero_le h5
    rw [Int.toNat_natCast]
    have h8 := eightB_len h2
    have hwl := whole_length xs
    have hM := manyN_le h1
    have hlen := setCl_long (whole xs) (manyN xs) a ws hwl h8 (by omega)
    have hw : ∀ x ∈ ws, wordB x = true := by
      intro x hx
      have := h2
      unfold eightB at this
      rw [Bool.and_eq_true] at this
      exact List.all_eq_true.1 this.2 x hx
    have hl512 : (setCl (whole xs) a ws).length ≤ 512 := by rw [hlen]; split <;> omega
    have himg := setCl_img (a := a) (img_whole h1) hw hl512
    have hmany : manyN (setCl (whole xs) a ws) = if a = manyN xs then manyN xs + 1 else manyN xs := by
      show ((setCl (whole xs) a ws).length + 7) / 8 = _
      rw [hlen]; split <;> omega
    refine ⟨by unfold manyI; rw [if_pos h1], h5, h6, by rw [hlen]; omega, ?_, ?_, ?_⟩
    · unfold manyI
      rw [if_pos himg, hmany]
      split <;> rename_i e
      · rw [if_pos (by omega)]; omega
      · rw [if_neg (by omega)]
    · unfold clusterL
      rw [if_pos ⟨himg, inB_true.2 ⟨h5, by rw [hmany]; split <;> omega⟩⟩, Int.toNat_natCast]
      exact cl_set_same (by omega) h8
    · intro k hk hne
      unfold clusterL
      rw [if_pos ⟨himg, inB_true.2 ⟨by omega, by rw [hmany]; split <;> omega⟩⟩, if_pos ⟨h1, inB_true.2 ⟨by omega, by omega⟩⟩, Int.toNat_natCast, cl_set_other (by omega) h8 (by omega), cl_whole]
  · exact absurd rfl h

theorem big_words (A : Option Addr) (n c : Nat) (w : World) :
    Calls Try.prog 4 #[.slice A n c] w fun e w' => e = .returned (.bool (decide ((4096 : Int) < (n : Int)))) ∧ w = w' := by
  go_enter Try.func4, Try.ntmps4
  go_wp2_with fail
  go_ret
  exact ⟨rfl, rfl⟩
theorem withL_short (xs : List Int) (at_ : Int) (ws : List Int) : (withL xs at_ ws).length ≤ 600 := by
  unfold withL
  split
  · rename_i hb
    simp [withB] at hb
    obtain ⟨h1, h2, h3, h4⟩ := hb
    obtain ⟨h5, h6⟩ := inB_true.1 h3
    have hM := manyN_le h1
    rw [setCl_long (whole xs) (manyN xs) at_.toNat ws (whole_length xs) (eightB_len h2) (by omega)]
    split <;> omega
  · simp
theorem clusterL_short (xs : List Int) (k : Int) : (clusterL xs k).length ≤ 8 := by
  unfold clusterL
  split
  · rw [cl_length]; omega
  · simp

set_option maxRecDepth 100000 in
set_option maxHeartbeats 8000000 in
theorem law_Words (A : Option Addr) (n c : Nat) (xs : List Int) (w : World) (hr : Rd8 w w.heap.size A n xs) :
    Calls Try.prog 3 #[.slice A n c] w fun e w' => e = .returned (.bool true) ∧ Below w.heap.size w w' := by
  by_cases hbig : 4096 < n
  · have hb : decide ((4096 : Int) < (n : Int)) = true := by simp; omega
    go_enter Try.func3, Try.ntmps3
    go_wp2_with fail
    refine (big_words _ _ _ _).mono ?_
    rintro e w' ⟨rfl, rfl⟩
    rw [hb]
    go_wp2_with fail
    go_ret
    exact ⟨rfl, Below.refl _ _⟩
  · have hb : decide ((4096 : Int) < (n : Int)) = false := by simp; omega
    go_enter Try.func3, Try.ntmps3
    go_wp2_with fail
    refine (big_words _ _ _ _).mono ?_
    rintro e w' ⟨rfl, rfl⟩
    rw [hb]
    go_wp2_with fail
    refine (drawWithCluster_any A n c xs w hr (by omega)).mono ?_
    rintro e w1 ⟨B, nb, cb, bs, at_, W, nw, cw, ws, hnb, hnw, rfl, rB, rW, b1⟩
    go_wp2_with fail
    refine (implWcl_any B nb cb bs at_ W nw cw ws _ rB rW (by omega) (by omega)).mono ?_
    rintro e w2 ⟨X, nx, cx, rfl, oX, b2⟩
    have lX := oX.len
    have rX := oX.rd
    have B2 := below_more b1 b2 b1.size
    have rB := (rB.below b2).more b2.size
    have rW := (rW.below b2).more b2.size
    have HF := Lib.hid (fun h => with_facts (xs := bs) (at_ := at_) (ws := ws) h)
    have hXl : (withL bs at_ ws).length ≤ 2097152 := by
      by_cases h0 : (withL bs at_ ws).length = 0
      · omega
      · have hwf := withL_short bs at_ ws
        omega
    obtain ⟨ys, hys⟩ : ∃ ys, ys = withL bs at_ ws := ⟨_, rfl⟩
    rw [← hys] at lX rX hXl HF
    have HY := Lib.hid hys
    clear hys oX b1 b2
    go_wp2_with fail
    refine (drawClusterAt_any A n c xs _ ((hr.below B2).more B2.size) (by omega)).mono ?_
    rintro e w3 ⟨C, nc, cc, cs, i, hnc, rfl, rC, b3⟩
    have B3 := below_more B2 b3 B2.size
    have rB := (rB.below b3).more b3.size
    have rW := (rW.below b3).more b3.size
    have rX := (rX.below b3).more b3.size
    clear b3 B2
    go_wp2_with fail
    refine (drawClustersIn_any A n c xs _ ((hr.below B3).more B3.size) (by omega)).mono ?_
    rintro e w4 ⟨M, nm, cm, ms, hnm, rfl, rM, b4⟩
    have B4 := below_more B3 b4 B3.size
    have rB := (rB.below b4).more b4.size
    have rW := (rW.below b4).more b4.size
    have rX := (rX.below b4).more b4.size
    have rC := (rC.below b4).more b4.size
    clear b4 B3
    go_wp2_with fail
    refine (drawImageOk_any A n c xs _ ((hr.below B4).more B4.size) (by omega)).mono ?_
    rintro e w5 ⟨K, nk, ck, ks, hnk, rfl, rK, b5⟩
    have B5 := below_more B4 b5 B4.size
    have rB := (rB.below b5).more b5.size
    have rW := (rW.below b5).more b5.size
    have rX := (rX.below b5).more b5.size
    have rC := (rC.below b5).more b5.size
    have rM := (rM.below b5).more b5.size
    clear b5 B4
    go_wp2_with fail
    refine (specWcl_any B nb cb bs at_ W nw cw ws _ rB rW (by omega) (by omega)).mono ?_
    rintro e w6 ⟨S, ns, csp, rfl, oS, b6⟩
    rw [← HY.out] at oS
    have rS := oS.rd
    have B6 := below_more B5 b6 B5.size
    have rB := (rB.below b6).more b6.size
    have rW := (rW.below b6).more b6.size
    have rX := (rX.below b6).more b6.size
    have rC := (rC.below b6).more b6.size
    have rM := (rM.below b6).more b6.size
    have rK := (rK.below b6).more b6.size
    clear b6 B5 oS
    have hyy : (ys == ys) = true := by simp
    go_wp2_with fail
    refine (like_any X S nx cx ns csp ys ys w6.heap.size w6 rX rS (by omega)).mono ?_
    rintro e w6' ⟨rfl, d6, rfl⟩
    rw [hyy]
    have B6 := below_drewN B6 d6
    have rB := rB.drewN d6
    have rW := rW.drewN d6
    have rX := rX.drewN d6
    have rC := rC.drewN d6
    have rM := rM.drewN d6
    have rK := rK.drewN d6
    clear rS hyy
    go_wp2_with fail
    refine (implClat_any C nc cc cs i _ rC (by omega)).mono ?_
    rintro e w7 ⟨P, np, cp, rfl, oP, b7⟩
    have rP := oP.rd
    have B7 := below_more B6 b7 B6.size
    have rB := (rB.below b7).more b7.size
    have rW := (rW.below b7).more b7.size
    have rX := (rX.below b7).more b7.size
    have rC := (rC.below b7).more b7.size
    have rM := (rM.below b7).more b7.size
    have rK := (rK.below b7).more b7.size
    clear b7 B6 oP
    go_wp2_with fail
    refine (specClat_any C nc cc cs i _ rC (by omega)).mono ?_
    rintro e w8 ⟨Q, nq, cq, rfl, oQ, b8⟩
    have rQ := oQ.rd
    have B8 := below_more B7 b8 B7.size
    have rB := (rB.below b8).more b8.size
    have rW := (rW.below b8).more b8.size
    have rX := (rX.below b8).more b8.size
    have rM := (rM.below b8).more b8.size
    have rK := (rK.below b8).more b8.size
    have rP := (rP.below b8).more b8.size
    have hcl := clusterL_short cs i
    have hnp : np ≤ 8 := by rw [← rP.len]; exact hcl
    clear b8 B7 oQ rC hcl
    generalize clusterL cs i = ps at rP rQ
    have hpp : (ps == ps) = true := by simp
    go_wp2_with fail
    refine (like_any P Q np cp nq cq ps ps w8.heap.size w8 rP rQ (by omega)).mono ?_
    rintro e w8' ⟨rfl, d8, rfl⟩
    rw [hpp]
    have B8 := below_drewN B8 d8
    have rB := rB.drewN d8
    have rW := rW.drewN d8
    have rX := rX.drewN d8
    have rM := rM.drewN d8
    have rK := rK.drewN d8
    clear rP rQ hpp
    go_wp2_with fail
    refine (implClin_any M nm cm ms _ rM (by omega)).mono ?_
    rintro e w9 ⟨rfl, b9⟩
    have B9 := below_more B8 b9 B8.size
    have rB := (rB.below b9).more b9.size
    have rW := (rW.below b9).more b9.size
    have rX := (rX.below b9).more b9.size
    have rM := (rM.below b9).more b9.size
    have rK := (rK.below b9).more b9.size
    clear b9 B8
    go_wp2_with fail
    refine (specClin_any M nm cm ms _ _ rM (by omega)).mono ?_
    rintro e w' ⟨rfl, rfl⟩
    generalize manyI ms = mm
    have hmm : (mm != mm) = false := by simp
    go_wp2_with fail
    refine (implImg_any K nk ck ks _ _ rK (by omega)).mono ?_
    rintro e w' ⟨rfl, rfl⟩
    go_wp2_with fail
    refine (specImg_any K nk ck ks _ _ rK (by omega)).mono ?_
    rintro e w' ⟨rfl, rfl⟩
    generalize imgB ks = kb
    have hkb : (kb != kb) = false := by simp
    clear rM rK
    by_cases hx0 : nx = 0
    · have hx0' : ((nx : Int) == 0) = true := by simp [hx0]
      go_wp2_with fail
      go_ret
      exact ⟨rfl, B9⟩
    · have hx0' : ((nx : Int) == 0) = false := by simp; omega
      have F := HF.out (by omega)
      have hmb : manyN bs ≤ 100 := by unfold manyN; have := rB.len; omega
      generalize manyN bs = m at F hmb
      obtain ⟨f1, f2, f3, f4, f5, f6, f7⟩ := F
      have F4 := Lib.hid f4
      have F5 := Lib.hid f5
      have F6 := Lib.hid f6
      have F7 := Lib.hid f7
      clear HF f4 f5 f6 f7
      go_wp2_with fail
      refine (specClin_any B nb cb bs _ _ rB (by omega)).mono ?_
      rintro e w' ⟨rfl, rfl⟩
      rw [f1]
      clear f1
      go_wp2_with fail
      go_loopw [12] (fun v wr => ∃ k : Nat, k ≤ m ∧ v = .int .i64 k ∧ Below w9.heap.size w9 wr) (fun v _ => m - (intOf v).toNat)
      case atStart => exact ⟨0, Nat.zero_le _, rfl, Below.refl _ _⟩
      case round =>
        obtain ⟨k, hk, rfl, bk⟩ := hrel
        by_cases hlt : k < m
        · by_cases hne : (k : Int) = at_
          · have hne' : ((k : Int) != at_) = false := by simp [hne]
            have HE := Lib.hid hne
            clear hne
            go_wp2_with fail
            go_roundw
            case rel => exact ⟨k + 1, by omega, by go_num, bk⟩
            case measure => simp [intOf]; omega
          · have hne' : ((k : Int) != at_) = true := by simp [hne]
            have HO := Lib.hid (F7.out k hlt hne)
            clear hne
            go_wp2_with fail
            refine (implClat_any X nx cx ys k _ ((rX.below bk).more bk.size) (by omega)).mono ?_
            rintro e w10 ⟨P, np, cp, rfl, oP, b10⟩
            have bk10 := below_more bk b10 bk.size
            go_wp2_with fail
            refine (specClat_any B nb cb bs k _ ((rB.below bk10).more bk10.size) (by omega)).mono ?_
            rintro e w11 ⟨Q, nq, cq, rfl, oQ, b11⟩
            rw [← HO.out] at oQ
            have bk11 := below_more bk10 b11 bk10.size
            have rP := (oP.rd.below b11).more b11.size
            have rQ := oQ.rd
            have hcl := clusterL_short ys k
            have hnp : np ≤ 8 := by rw [← rP.len]; exact hcl
            clear oP oQ b10 b11 bk10 hcl HO
            generalize clusterL ys k = ps at rP rQ
            have hpp : (ps == ps) = true := by simp
            go_wp2_with fail
            refine (like_any P Q np cp nq cq ps ps w11.heap.size w11 rP rQ (by omega)).mono ?_
            rintro e w12 ⟨rfl, d, rfl⟩
            rw [hpp]
            clear rP rQ hpp
            go_wp2_with fail
            go_roundw
            case rel => exact ⟨k + 1, by omega, by go_num, below_drewN bk11 d⟩
            case measure => simp [intOf]; omega
        · have rB := (rB.below bk).more bk.size
          have rW := (rW.below bk).more bk.size
          have rX := (rX.below bk).more bk.size
          have B10 := below_more B9 bk B9.size
          have hmod : ((nx : Int) % 8 == 0) = true := by
            have h := F4.out
            rw [lX] at h
            have e : (nx : Int) % 8 = 0 := by omega
            rw [e]
            rfl
          clear bk B9
          by_cases hat : at_ = m
          case' pos =>
            have hat' : (at_ == (m : Int)) = true := by simp [hat]
            have HC : Hid (manyI ys = (m : Int) + 1) := Lib.hid (F5.out.trans (if_pos hat))
          case' neg =>
            have hat' : (at_ == (m : Int)) = false := by simp [hat]
            have HC : Hid (manyI ys = (m : Int)) := Lib.hid (F5.out.trans (if_neg hat))
          all_goals
            have HA := Lib.hid hat
            clear hat
            go_wp2_with fail
            refine (implClat_any X nx cx ys at_ _ rX (by omega)).mono ?_
            rintro e w11 ⟨P, np, cp, rfl, oP, b11⟩
            rw [F6.out] at oP
            have B11 := below_more B10 b11 B10.size
            have rX := (rX.below b11).more b11.size
            have rW := (rW.below b11).more b11.size
            have rP := oP.rd
            have hnp : np ≤ 600 := by rw [← rP.len, rW.len]; exact hnw
            have hww : (ws == ws) = true := by simp
            clear oP b11 B10
            go_wp2_with fail
            refine (like_any P W np cp nw cw ws ws _ _ rP rW (by omega)).mono ?_
            rintro e w12 ⟨rfl, d, rfl⟩
            rw [hww]
            have B12 := below_drewN B11 d
            have rX := rX.drewN d
            clear rP rW hww B11
            go_wp2_with fail
            refine (implClin_any X nx cx ys _ rX (by omega)).mono ?_
            rintro e w13 ⟨rfl, b13⟩
            have B13 := below_more B12 b13 B12.size
            rw [HC.out]
            clear b13 B12
            have e1 : ((m : Int) == (m : Int)) = true := by simp
            have e2 : ((m : Int) + 1 == (m : Int) + 1) = true := by simp
            go_wp2_with fail
            go_ret
            exact ⟨rfl, B13⟩

end Go.Proofs.Ytkodcmpiaokklaa
