/- The law FnTables, walked, given what the program's own functions answer. -/
import Derived.Test.YtdmmdibcgffenabD4
import Derived.Test.YtdmmdibcgffenabLawTb
import Derived.Test.YtdmmdibcgffenabLawWords
namespace Go.Proofs.Ytdmmdibcgffenab
open Go.RowKit

theorem shots_head {xs : List Int} (h : 0 < (shotsL xs).length) : hasHead xs = true := by
  cases hb : hasHead xs
  · have : shotsL xs = [] := shotsL_none (headIn_no hb) (there_hd0 xs)
    rw [this] at h
    simp at h
  · rfl
theorem first_shot {xs : List Int} {k : Nat} (h : k < (shotsL xs).length) : firstOf xs ((k : Int) + 1) = ((shotsL xs).getD k (0, 0)).2 := by
  rw [firstOf_in (shots_head (by omega)) (by omega) (inB_true.2 ⟨by omega, by omega⟩)]
  congr 2
  omega
theorem table_cluster {xs : List Int} {t : Int} (h : (tableL xs t).length ≠ 0) : clusterL xs t = tableL xs t ∧ 0 < t := by
  cases hb : hasHead xs
  · rw [tableL_no hb] at h; exact absurd rfl h
  · cases ht : thereB xs t
    · rw [tableL_out ht] at h; exact absurd rfl h
    · have hi := inB_true.1 ht
      exact ⟨by rw [tableL_in hb ht, clusterL_in (hasHead_img hb) (inB_true.2 ⟨by omega, by omega⟩)], by omega⟩

set_option maxRecDepth 100000 in
set_option maxHeartbeats 8000000 in
theorem law_Tables (hT : TableC) (hS : ShotsC) (hF : FirstC) (A : Option Addr) (n c : Nat) (xs : List Int) (w : World) (hr : Rd8 w w.heap.size A n xs) :
    Calls Try.prog 3 #[.slice A n c] w fun e w' => e = .returned (.bool true) ∧ Below w.heap.size w w' := by
  by_cases hbig : 4096 < n
  · have hb : decide ((4096 : Int) < (n : Int)) = true := by simp; omega
    go_enter Try.func3, Try.ntmps3
    go_wp2_with fail
    refine (big_words _ _ _ _).mono ?_
    rintro e w' ⟨rfl, rfl⟩
    rw [hb]
    go_wp2_with fail
    go_ret
    exact ⟨rfl, Below.refl _ _⟩
  have hb : decide ((4096 : Int) < (n : Int)) = false := by simp; omega
  go_enter Try.func3, Try.ntmps3
  go_wp2_with fail
  refine (big_words _ _ _ _).mono ?_
  rintro e w' ⟨rfl, rfl⟩
  rw [hb]
  clear hb
  go_wp2_with fail
  refine (drawTableAt_any A n c xs w hr (by omega)).mono ?_
  rintro e w1 ⟨B, nb, cb, bs, at_, hnb, rfl, rB, b1⟩
  go_wp2_with fail
  refine (hT B nb cb bs at_ w1 rB (by omega) (by omega)).mono ?_
  rintro e w2 ⟨X, nx, cx, rfl, oX, b2⟩
  have rX := oX.rd
  have B2 := below_more b1 b2 b1.size
  replace rB := (rB.below b2).more b2.size
  have HTC := Lib.hid (fun h => table_cluster (xs := bs) (t := at_) h)
  have hyl := tableL_length bs at_
  obtain ⟨ys, hys⟩ : ∃ ys, ys = tableL bs at_ := ⟨_, rfl⟩
  rw [← hys] at rX HTC hyl
  have HY := Lib.hid hys
  have lX := Lib.hid rX.len
  have hnx : nx ≤ 8 := by have := lX.out; omega
  clear hys oX b1 b2 hyl
  go_wp2_with fail
  refine (drawShotsIn_any A n c xs w2 ((hr.below B2).more B2.size) (by omega)).mono ?_
  rintro e w3 ⟨S, ns, cs, ss, hns, rfl, rS, b3⟩
  have B3 := below_more B2 b3 B2.size
  replace rB := (rB.below b3).more b3.size
  replace rX := (rX.below b3).more b3.size
  clear b3 B2
  obtain ⟨l, hl⟩ : ∃ l, l = shotsL ss := ⟨_, rfl⟩
  have hll : l.length ≤ 4 := by rw [hl]; exact shotsL_length ss
  have HFS := Lib.hid (fun k h => first_shot (xs := ss) (k := k) h)
  rw [← hl] at HFS
  have HL := Lib.hid hl
  clear hl
  obtain ⟨nl, hnl⟩ : ∃ nl, l.length = nl := ⟨_, rfl⟩
  have hn4 : nl ≤ 4 := by omega
  go_wp2_with fail
  refine (hS S ns cs ss w3 rS (by omega) (by omega)).mono ?_
  rintro e w4 ⟨L, cl', rfl, oL, b4⟩
  rw [← HL.out, hnl] at oL ⊢
  have rL := oL.rd
  have B4 := below_more B3 b4 B3.size
  replace rB := (rB.below b4).more b4.size
  replace rX := (rX.below b4).more b4.size
  replace rS := (rS.below b4).more b4.size
  clear b4 B3 oL
  go_wp2_with fail
  refine (drawFirstOf_any A n c xs w4 ((hr.below B4).more B4.size) (by omega)).mono ?_
  rintro e w5 ⟨F, nf, cf, fs, q, hnf, rfl, rF, b5⟩
  have B5 := below_more B4 b5 B4.size
  replace rB := (rB.below b5).more b5.size
  replace rX := (rX.below b5).more b5.size
  replace rS := (rS.below b5).more b5.size
  replace rL := (rL.below b5).more b5.size
  clear b5 B4
  have hyy : (ys == ys) = true := by simp
  have hff : (firstOf fs q != firstOf fs q) = false := by simp
  go_wp2_with fail
  refine (specTable_any B nb cb bs at_ w5 rB (by omega)).mono ?_
  rintro e w6 ⟨T, nt, ct, rfl, oT, b6⟩
  rw [← HY.out] at oT
  have B6 := below_more B5 b6 B5.size
  replace rB := (rB.below b6).more b6.size
  replace rX := (rX.below b6).more b6.size
  replace rS := (rS.below b6).more b6.size
  replace rL := (rL.below b6).more b6.size
  replace rF := (rF.below b6).more b6.size
  clear b6 B5
  go_wp2_with fail
  refine (like_any X T nx cx nt ct ys ys w6.heap.size w6 rX oT.rd (by omega)).mono ?_
  rintro e w6' ⟨rfl, d6, rfl⟩
  rw [hyy]
  replace B6 := below_drewN B6 d6
  replace rB := rB.drewN d6
  replace rX := rX.drewN d6
  replace rS := rS.drewN d6
  replace rL := rL.drewN d6
  replace rF := rF.drewN d6
  clear oT
  go_wp2_with fail
  refine (specShotsIn_any S ns cs ss _ rS (by omega)).mono ?_
  rintro e w7 ⟨M, cm, rfl, oM, b7⟩
  rw [← HL.out, hnl] at oM ⊢
  have B7 := below_more B6 b7 B6.size
  replace rB := (rB.below b7).more b7.size
  replace rX := (rX.below b7).more b7.size
  replace rS := (rS.below b7).more b7.size
  replace rL := (rL.below b7).more b7.size
  replace rF := (rF.below b7).more b7.size
  clear b7 B6
  go_wp2_with fail
  refine (likeShots_any L M nl cl' cm l w7.heap.size w7 rL oM.rd hnl (by omega)).mono ?_
  rintro e w7' ⟨rfl, d7, rfl⟩
  replace B7 := below_drewN B7 d7
  replace rB := rB.drewN d7
  replace rX := rX.drewN d7
  replace rS := rS.drewN d7
  replace rL := rL.drewN d7
  replace rF := rF.drewN d7
  clear oM
  go_wp2_with fail
  refine (hF F nf cf fs q _ rF (by omega) (by omega)).mono ?_
  rintro e w8 ⟨rfl, b8⟩
  have B8 := below_more B7 b8 B7.size
  replace rB := (rB.below b8).more b8.size
  replace rX := (rX.below b8).more b8.size
  replace rS := (rS.below b8).more b8.size
  replace rL := (rL.below b8).more b8.size
  replace rF := (rF.below b8).more b8.size
  clear b8 B7
  go_wp2_with fail
  refine (specFirstOf_any F nf cf fs q w8 rF (by omega)).mono ?_
  rintro e w9 ⟨rfl, b9⟩
  have B9 := below_more B8 b9 B8.size
  replace rB := (rB.below b9).more b9.size
  replace rX := (rX.below b9).more b9.size
  replace rS := (rS.below b9).more b9.size
  replace rL := (rL.below b9).more b9.size
  clear b9 B8 rF hyy
  go_wp2_with fail
  clear hff
  go_loopw [10] (fun v wr => ∃ k : Nat, k ≤ nl ∧ v = .int .i64 k ∧ Below w9.heap.size w9 wr) (fun v _ => nl - (intOf v).toNat)
  case atStart => exact ⟨0, Nat.zero_le _, rfl, Below.refl _ _⟩
  case round =>
    obtain ⟨k, hk, rfl, bk⟩ := hrel
    by_cases hlt : k < nl
    · have hkl : k < l.length := by omega
      have HO := Lib.hid (HFS.out k hkl)
      obtain ⟨b, off, rfl, hbb, _⟩ := rL.2 (by omega)
      obtain ⟨_, p2, _⟩ := (rL.below bk).sh hkl hnl
      generalize (l.getD k (0, 0)).2 = y at *
      have hbz := bk.size
      have z1 : b < wr.heap.size := by omega
      have rS0 : Rd wr.drew wr.heap.size S ns ss := (rS.below bk).more bk.size
      have n1 : (0 : Int) ≤ (k : Int) := by omega
      have n2 : (k : Int) < (nl : Int) := by omega
      have n3 : IntKind.i64.wrap ((k : Int) + 1) = (k : Int) + 1 := IntWalk.i64_in _ (by omega)
      have hyy : (y != y) = false := by simp
      clear rB rX rL
      go_wp2_with fail
      go_region_held3 (fun w' => w'.cell? ⟨b, off + k * 2 + 1, none⟩ = some (.int .i64 y))
        (first
          | go_keep
          | exact (bE.cell (p := ⟨b, off + k * 2 + 1, none⟩) z1).trans (by assumption))
        ((go_at_call 14; refine (hF S ns cs ss ((k : Int) + 1) wr.drew rS0 (by omega) (by omega)).mono ?_; rintro e w10 ⟨rfl, bE⟩; rw [HO.out]))
      go_wp2_with fail
      go_roundw
      case rel => exact ⟨k + 1, by omega, by go_num, below_more bk.drew bE bk.size⟩
      case measure => simp [intOf]; omega
    · have B10 := below_more B9 bk B9.size
      by_cases hx0 : nx = 0
      · have hx0' : ((nx : Int) == 0) = true := by simp [hx0]
        go_wp2_with fail
        go_ret
        exact ⟨rfl, B10⟩
      · have hx0' : ((nx : Int) == 0) = false := by simp; omega
        obtain ⟨F1, F2⟩ := HTC.out (by have := lX.out; omega)
        have HF1 := Lib.hid F1
        have F3 : decide ((0 : Int) < at_) = true := by simpa using F2
        clear F1
        have hyy : (ys == ys) = true := by simp
        go_wp2_with fail
        refine (implClat_any B nb cb bs at_ wr ((rB.below bk).more bk.size) (by omega)).mono ?_
        rintro e w11 ⟨P, np, cp, rfl, oP, b11⟩
        rw [HF1.out] at oP
        have B11 := below_more B10 b11 B10.size
        go_wp2_with fail
        refine (like_any X P nx cx np cp ys ys w11.heap.size w11 ((((rX.below bk).more bk.size).below b11).more b11.size) oP.rd (by omega)).mono ?_
        rintro e w12 ⟨rfl, d, rfl⟩
        rw [hyy]
        go_wp2_with fail
        go_ret
        exact ⟨rfl, below_drewN B11 d⟩
end Go.Proofs.Ytdmmdibcgffenab
