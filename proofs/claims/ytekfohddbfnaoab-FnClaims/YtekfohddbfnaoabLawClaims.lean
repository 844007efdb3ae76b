/- The law FnClaims, walked, given what the program's own function answers. -/
import Derived.Test.YtekfohddbfnaoabD6
import Derived.Test.YtekfohddbfnaoabLawCm
import Derived.Test.YtekfohddbfnaoabCmQ
import Derived.Test.YtekfohddbfnaoabLawWords
namespace Go.Proofs.Ytekfohddbfnaoab
open Go.RowKit

set_option maxRecDepth 100000 in
set_option maxHeartbeats 16000000 in
theorem law_Claims (hC : ClaimsC) (A : Option Addr) (n c : Nat) (xs : List Int) (w : World) (hr : Rd8 w w.heap.size A n xs) :
    Calls Try.prog 3 #[.slice A n c] w fun e w' => e = .returned (.bool true) ∧ Below w.heap.size w w' := by
  by_cases hbig : 4096 < n
  · have hb : decide ((4096 : Int) < (n : Int)) = true := by simp; omega
    go_enter Try.func3, Try.ntmps3
    go_wp2_with fail
    refine (big_words _ _ _ _).mono ?_
    rintro e w' ⟨rfl, rfl⟩
    rw [hb]
    go_wp2_with fail
    go_ret
    exact ⟨rfl, Below.refl _ _⟩
  have hb : decide ((4096 : Int) < (n : Int)) = false := by simp; omega
  go_enter Try.func3, Try.ntmps3
  go_wp2_with fail
  refine (big_words _ _ _ _).mono ?_
  rintro e w' ⟨rfl, rfl⟩
  rw [hb]
  clear hb
  go_wp2_with fail
  refine (drawClaimsIn_any A n c xs w hr (by omega)).mono ?_
  rintro e w1 ⟨B, nb, cb, bs, hnb, rfl, rB, b1⟩
  obtain ⟨l, hl⟩ : ∃ l, l = claimsL bs := ⟨_, rfl⟩
  have hll : l.length ≤ 1296 := by rw [hl]; exact claimsL_length bs
  have HA := Lib.hid (fun i k hi hk => claimsL_apart (xs := bs) (i := i) (k := k) hi hk)
  have HB := Lib.hid (fun i hi hg => claimsL_lead (xs := bs) (i := i) hi hg)
  have HH := Lib.hid (claimsL_head bs)
  rw [← hl] at HA HB HH
  have HL := Lib.hid hl
  clear hl
  obtain ⟨nl, hnl⟩ : ∃ nl, l.length = nl := ⟨_, rfl⟩
  have hn4 : nl ≤ 1296 := by omega
  go_wp2_with fail
  refine (hC B nb cb bs w1 rB (by omega) (by omega)).mono ?_
  rintro e w2 ⟨L, cl', rfl, oL, b2⟩
  rw [← HL.out, hnl] at oL ⊢
  have rL := oL.rd
  have B2 := below_more b1 b2 b1.size
  replace rB := (rB.below b2).more b2.size
  clear b1 b2 oL
  go_wp2_with fail
  refine (specClaimsInR_any B nb cb bs w2 rB (by omega)).mono ?_
  rintro e w3 ⟨M, cm, rfl, oM, b3⟩
  rw [← HL.out, hnl] at oM ⊢
  have B3 := below_more B2 b3 B2.size
  replace rB := (rB.below b3).more b3.size
  replace rL := (rL.below b3).more b3.size
  clear b3 B2
  go_wp2_with fail
  refine (likeClaims_any L M nl cl' cm l w3.heap.size w3 rL oM.rd hnl (by omega)).mono ?_
  rintro e w3' ⟨rfl, d3, rfl⟩
  clear oM HL
  go_wp2_with fail
  go_loopw [5] (fun v wr => ∃ i : Nat, i ≤ nl ∧ v = .int .i64 i ∧ ∃ d, wr = w3.drewN d) (fun v _ => nl - (intOf v).toNat)
  case atStart => exact ⟨0, Nat.zero_le _, rfl, d3, rfl⟩
  case round =>
    obtain ⟨i, hi, rfl, d, rfl⟩ := hrel
    by_cases hlt : i < nl
    · have hil : i < l.length := by omega
      obtain ⟨b, off, rfl, hbb, _⟩ := rL.2 (by omega)
      obtain ⟨p0, _, _, _, p4, p5, _⟩ := rL.cm hil hnl
      have HBi := Lib.hid (HB.out i hil)
      have HAi := Lib.hid (fun k hk => HA.out i k hil hk)
      generalize l.getD i cm0 = x at *
      obtain ⟨xk, xf, xs', xp, xt, xg⟩ := x
      simp only at p0 p4 p5
      have p0' : w3.cell? ⟨b, off + i * 6 + 0, none⟩ = some (.int .i64 xk) := p0
      have n1 : (0 : Int) ≤ (i : Int) := by omega
      have n2 : (i : Int) < (nl : Int) := by omega
      cases xg
      · clear HBi HAi
        go_wp2_with fail
        go_quiet (fail)
        go_wp2_with fail
        go_loopw [6] (fun v wr => ∃ k : Nat, k ≤ i ∧ v = .int .i64 k ∧ ∃ d, wr = w3.drewN d) (fun v _ => i - (intOf v).toNat)
        case atStart => exact ⟨0, Nat.zero_le _, rfl, _, World.drewN_drewN _ _ _⟩
        case round =>
          obtain ⟨k, hk, rfl, d5, rfl⟩ := hrel
          by_cases hlk : k < i
          · have m1 : (0 : Int) ≤ (k : Int) := by omega
            have m2 : (k : Int) < (nl : Int) := by omega
            go_wp2_with fail
            go_quiet (fail)
            go_wp2_with fail
            go_roundw
            case rel => exact ⟨k + 1, by omega, by go_num, _, (by first | rfl | exact World.drewN_drewN _ _ _)⟩
            case measure => simp [intOf]; omega
          · go_wp2_with fail
            go_roundw
            case rel => exact ⟨i + 1, by omega, by go_num, _, rfl⟩
            case measure => simp [intOf]; omega
      · obtain ⟨t0, t1, t2⟩ := HBi.out rfl
        simp only at t0 t1 t2
        have d0 : decide (xt < 0) = false := by simp; omega
        have d1 : decide (manyI bs ≤ xt) = false := by simp; omega
        by_cases hz : xt = 0
        case' pos =>
          have hk1 := t2 hz
          have d2 : (xt == 0) = true := by simp [hz]
          have d4 : (xk != 1) = false := by simp [hk1]
          clear hk1
        case' neg =>
          have d2 : (xt == 0) = false := by simpa using hz
        case' pos =>
          clear hz t2 HBi t0 t1 p0'
          obtain ⟨wr, hwr⟩ : ∃ wr, wr = w3.drewN d := ⟨_, rfl⟩
          change (w3.drewN d).cell? _ = _ at p0 p4 p5
          rw [← hwr] at p0 p4 p5 ⊢
          have HW := Lib.hid hwr
          have rB0 : Rd wr.drew w3.heap.size B nb bs := by rw [hwr]; exact rB
          clear hwr
          go_wp2_with fail
          go_region_held3 (fun w' => w'.cell? ⟨b, off + i * 6, none⟩ = some (.int .i64 xk) ∧ w'.cell? ⟨b, off + i * 6 + 4, none⟩ = some (.int .i64 xt) ∧ w'.cell? ⟨b, off + i * 6 + 5, none⟩ = some (.bool true)) (first | (go_split_ands; exact ⟨by assumption, by assumption, by assumption⟩) | go_keep)
            ((go_at_call 9; refine (specClin_any B nb cb bs w3.heap.size wr.drew rB0 (by omega)).mono ?_; rintro e w' ⟨rfl, rfl⟩))
          obtain rfl := HW.out
          clear rB0 HW
          change w3.cell? _ = _ at p0 p4 p5
        case' neg =>
          clear hz t2 HBi t0 t1
          go_wp2_with fail
          go_quiet ((go_at_call 9; exact (specClin_any B nb cb bs w3.heap.size _ (rB.drewN _) (by omega)).mono (fun _ _ h => ⟨h.1, _, h.2.symm⟩)))
        all_goals
          clear d0 d1 d2
          go_wp2_with fail
          go_loopw [6] (fun v wr => ∃ k : Nat, k ≤ i ∧ v = .int .i64 k ∧ ∃ d, wr = w3.drewN d) (fun v _ => i - (intOf v).toNat)
          case atStart => first | exact ⟨0, Nat.zero_le _, rfl, d + 1, rfl⟩ | exact ⟨0, Nat.zero_le _, rfl, _, World.drewN_drewN _ _ _⟩
          case round =>
            obtain ⟨k, hk, rfl, d5, rfl⟩ := hrel
            by_cases hlk : k < i
            · have hkl : k < l.length := by omega
              obtain ⟨q0, _, _, _, q4, q5, _⟩ := rL.cm hkl hnl
              have HAk := Lib.hid (HAi.out k hlk)
              generalize l.getD k cm0 = y at *
              obtain ⟨yk, yf, ys', yp, yt, yg⟩ := y
              simp only at q0 q4 q5
              have q0' : w3.cell? ⟨b, off + k * 6 + 0, none⟩ = some (.int .i64 yk) := q0
              have m1 : (0 : Int) ≤ (k : Int) := by omega
              have m2 : (k : Int) < (nl : Int) := by omega
              cases yg
              · clear HAk
                go_wp2_with fail
                go_quiet (fail)
                go_wp2_with fail
                go_roundw
                case rel => exact ⟨k + 1, by omega, by go_num, _, (by first | rfl | exact World.drewN_drewN _ _ _)⟩
                case measure => simp [intOf]; omega
              · by_cases ht : xt = yt
                · obtain ⟨k1, k2⟩ := HAk.out rfl rfl ht
                  simp only at k1 k2
                  have f1 : (xt == yt) = true := by simp [ht]
                  have f2 : (xk != yk) = false := by simp [k1]
                  have f3 : decide (xk < 7) = false := by simp; omega
                  clear ht k1 k2 HAk q0'
                  obtain ⟨wr, hwr⟩ : ∃ wr, wr = w3.drewN d5 := ⟨_, rfl⟩
                  change (w3.drewN d5).cell? _ = _ at p0 p4 p5 q0 q4 q5
                  rw [← hwr] at p0 p4 p5 q0 q4 q5 ⊢
                  have HW := Lib.hid hwr
                  clear hwr
                  go_wp2_with fail
                  go_region_held3 (fun w' => w'.cell? ⟨b, off + i * 6, none⟩ = some (.int .i64 xk) ∧ w'.cell? ⟨b, off + i * 6 + 4, none⟩ = some (.int .i64 xt) ∧ w'.cell? ⟨b, off + i * 6 + 5, none⟩ = some (.bool true) ∧ w'.cell? ⟨b, off + k * 6, none⟩ = some (.int .i64 yk) ∧ w'.cell? ⟨b, off + k * 6 + 4, none⟩ = some (.int .i64 yt) ∧ w'.cell? ⟨b, off + k * 6 + 5, none⟩ = some (.bool true)) (first | (go_split_ands; exact ⟨by assumption, by assumption, by assumption, by assumption, by assumption, by assumption⟩) | go_keep) (fail)
                  go_wp2_with fail
                  go_roundw
                  case rel => exact ⟨k + 1, by omega, by go_num, d5 + 1, by rw [HW.out]; rfl⟩
                  case measure => simp [intOf]; omega
                · have f1 : (xt == yt) = false := by simp [ht]
                  clear ht HAk
                  go_wp2_with fail
                  go_quiet (fail)
                  go_wp2_with fail
                  go_roundw
                  case rel => exact ⟨k + 1, by omega, by go_num, _, (by first | rfl | exact World.drewN_drewN _ _ _)⟩
                  case measure => simp [intOf]; omega
            · go_wp2_with fail
              go_roundw
              case rel => exact ⟨i + 1, by omega, by go_num, _, rfl⟩
              case measure => simp [intOf]; omega
    · have rB' := rB.drewN d
      have B4 := below_drewN B3 d
      go_wp2_with fail
      refine (specHeadIn_any B nb cb bs _ rB' (by omega)).mono ?_
      rintro e w5 ⟨rfl, b5⟩
      have B5 := below_more B4 b5 B4.size
      generalize hh : headIn bs = r
      obtain ⟨⟨s, f, r, u, m⟩, is⟩ := r
      have his : is = hasHead bs := by
        cases hb : hasHead bs
        · rw [headIn_no hb] at hh; cases hh; rfl
        · rw [headIn_yes hb] at hh; cases hh; rfl
      have hfin : (is == decide (0 < nl)) = true := by
        rw [his, ← HH.out, hnl]
        simp
      clear hh his HH HA HB
      have B6 := B5.alloc B5.size (.cells #[.int .i64 s, .int .i64 f, .int .i64 r, .int .i64 u, .int .i64 m] 33)
      unfold hdV
      dsimp only
      go_wp2_with fail
      go_ret
      exact ⟨rfl, B6⟩
end Go.Proofs.Ytekfohddbfnaoab
