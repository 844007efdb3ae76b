/- The law FnRoles, walked, given what the program's own functions answer. -/
import Derived.Test.YtkgmopeocmppfabD6
import Derived.Test.YtkgmopeocmppfabLawRo
import Derived.Test.YtkgmopeocmppfabRoQ
import Derived.Test.YtkgmopeocmppfabLawWords
namespace Go.Proofs.Ytkgmopeocmppfab
open Go.RowKit

theorem good_step (l : List Cm) (k : Nat) (hk : k < l.length) : ((l.take (k + 1)).filter (fun c => c.good)).length = ((l.take k).filter (fun c => c.good)).length + (if (l.getD k cm0).good = true then 1 else 0) := by
  rw [List.take_succ_eq_append_getElem hk, List.filter_append, List.getD_eq_getElem?_getD, List.getElem?_eq_getElem hk, List.length_append]
  simp only [Option.getD_some]
  by_cases h : l[k].good = true
  · rw [if_pos h]; simp [h]
  · rw [if_neg h]; simp [h]

set_option maxRecDepth 100000 in
set_option maxHeartbeats 16000000 in
theorem law_Roles (hRo : RolesC) (hLo : LooseC) (hC : ClaimsC) (A : Option Addr) (n c : Nat) (xs : List Int) (w : World) (hr : Rd8 w w.heap.size A n xs) :
    Calls Try.prog 3 #[.slice A n c] w fun e w' => e = .returned (.bool true) ∧ Below w.heap.size w w' := by
  by_cases hbig : 4096 < n
  · have hb : decide ((4096 : Int) < (n : Int)) = true := by simp; omega
    go_enter Try.func3, Try.ntmps3
    go_wp2_with fail
    refine (big_words _ _ _ _).mono ?_
    rintro e w' ⟨rfl, rfl⟩
    rw [hb]
    go_wp2_with fail
    go_ret
    exact ⟨rfl, Below.refl _ _⟩
  have hb : decide ((4096 : Int) < (n : Int)) = false := by simp; omega
  go_enter Try.func3, Try.ntmps3
  go_wp2_with fail
  refine (big_words _ _ _ _).mono ?_
  rintro e w' ⟨rfl, rfl⟩
  rw [hb]
  clear hb
  go_wp2_with fail
  refine (drawRolesIn_any A n c xs w hr (by omega)).mono ?_
  rintro e w1 ⟨B, nb, cb, bs, hnb, rfl, rB, b1⟩
  have HQ := Lib.hid (fun x hx hg => role_at (xs := bs) (x := x) hx hg)
  have hrl := rolesL_length (xs := bs)
  have hll := looseL_length bs
  have hkl := claimsL_length bs
  obtain ⟨rs, hrs⟩ : ∃ rs, rs = rolesL bs := ⟨_, rfl⟩
  obtain ⟨l, hl⟩ : ∃ l, l = looseL bs := ⟨_, rfl⟩
  obtain ⟨k, hk⟩ : ∃ k, k = claimsL bs := ⟨_, rfl⟩
  have HF : Hid (l = k.filter (fun c => !c.good)) := by rw [hl, hk]; exact rfl
  rw [← hrs] at HQ hrl
  rw [← hl] at hll
  rw [← hk] at HQ hkl
  have HR := Lib.hid hrs
  have HL := Lib.hid hl
  have HK := Lib.hid hk
  clear hrs hl hk
  obtain ⟨nl, hnl⟩ : ∃ nl, l.length = nl := ⟨_, rfl⟩
  obtain ⟨nk, hnk⟩ : ∃ nk, k.length = nk := ⟨_, rfl⟩
  have hnl4 : nl ≤ 1296 := by omega
  have hnk4 : nk ≤ 1296 := by omega
  have hyy : (rs == rs) = true := by simp
  go_wp2_with fail
  refine (hRo B nb cb bs w1 rB (by omega) (by omega)).mono ?_
  rintro e w2 ⟨R, nr, cr, rfl, oR, b2⟩
  rw [← HR.out] at oR
  have rR := oR.rd
  have B2 := below_more b1 b2 b1.size
  replace rB := (rB.below b2).more b2.size
  have lR := Lib.hid rR.len
  have hnr : nr ≤ 64 := by have := lR.out; omega
  clear b1 b2 oR
  go_wp2_with fail
  refine (hLo B nb cb bs w2 rB (by omega) (by omega)).mono ?_
  rintro e w3 ⟨L, cL, rfl, oL, b3⟩
  rw [← HL.out, hnl] at oL ⊢
  have rL := oL.rd
  have B3 := below_more B2 b3 B2.size
  replace rB := (rB.below b3).more b3.size
  replace rR := (rR.below b3).more b3.size
  clear b3 oL B2
  go_wp2_with fail
  refine (drawLooseIn_any A n c xs w3 ((hr.below B3).more B3.size) (by omega)).mono ?_
  rintro e w4 ⟨C, nc, cc, cs, hnc, rfl, rC, b4⟩
  have B4 := below_more B3 b4 B3.size
  replace rB := (rB.below b4).more b4.size
  replace rR := (rR.below b4).more b4.size
  replace rL := (rL.below b4).more b4.size
  clear b4 B3
  go_wp2_with fail
  refine (specRolesIn_any B nb cb bs w4 rB (by omega)).mono ?_
  rintro e w5 ⟨Y, ny, cy, rfl, oY, b5⟩
  rw [← HR.out] at oY
  have B5 := below_more B4 b5 B4.size
  replace rB := (rB.below b5).more b5.size
  replace rR := (rR.below b5).more b5.size
  replace rL := (rL.below b5).more b5.size
  replace rC := (rC.below b5).more b5.size
  clear b5 B4
  go_wp2_with fail
  refine (like_any R Y nr cr ny cy rs rs w5.heap.size w5 rR oY.rd (by omega)).mono ?_
  rintro e w5' ⟨rfl, d5, rfl⟩
  rw [hyy]
  replace rB := rB.drewN d5
  replace rR := rR.drewN d5
  replace rL := rL.drewN d5
  replace rC := rC.drewN d5
  replace B5 := below_drewN B5 d5
  clear oY hyy
  go_wp2_with fail
  refine (specLooseR_any B nb cb bs _ rB (by omega)).mono ?_
  rintro e w6 ⟨Z, cz, rfl, oZ, b6⟩
  rw [← HL.out, hnl] at oZ ⊢
  have B6 := below_more B5 b6 B5.size
  replace rB := (rB.below b6).more b6.size
  replace rR := (rR.below b6).more b6.size
  replace rL := (rL.below b6).more b6.size
  replace rC := (rC.below b6).more b6.size
  clear b6 B5
  go_wp2_with fail
  refine (likeClaims_any L Z nl cL cz l w6.heap.size w6 rL oZ.rd hnl (by omega)).mono ?_
  rintro e w6' ⟨rfl, d6, rfl⟩
  replace rB := rB.drewN d6
  replace rR := rR.drewN d6
  replace rC := rC.drewN d6
  replace B6 := below_drewN B6 d6
  clear oZ rL HL
  obtain ⟨q, hq⟩ : ∃ q, q = looseL cs := ⟨_, rfl⟩
  have hql : q.length ≤ 1296 := by rw [hq]; exact looseL_length cs
  have HQ2 := Lib.hid hq
  clear hq
  obtain ⟨nq', hnq⟩ : ∃ nq', q.length = nq' := ⟨_, rfl⟩
  have hnq4 : nq' ≤ 1296 := by omega
  go_wp2_with fail
  refine (hLo C nc cc cs _ rC (by omega) (by omega)).mono ?_
  rintro e w7 ⟨P, cp, rfl, oP, b7⟩
  rw [← HQ2.out, hnq] at oP ⊢
  have rP := oP.rd
  have B7 := below_more B6 b7 B6.size
  replace rB := (rB.below b7).more b7.size
  replace rR := (rR.below b7).more b7.size
  replace rC := (rC.below b7).more b7.size
  clear b7 B6 oP
  go_wp2_with fail
  refine (specLooseR_any C nc cc cs w7 rC (by omega)).mono ?_
  rintro e w8 ⟨S, cS, rfl, oS, b8⟩
  rw [← HQ2.out, hnq] at oS ⊢
  have B8 := below_more B7 b8 B7.size
  replace rB := (rB.below b8).more b8.size
  replace rR := (rR.below b8).more b8.size
  replace rP := (rP.below b8).more b8.size
  clear b8 B7 rC
  go_wp2_with fail
  refine (likeClaims_any P S nq' cp cS q w8.heap.size w8 rP oS.rd hnq (by omega)).mono ?_
  rintro e w8' ⟨rfl, d8, rfl⟩
  replace rB := rB.drewN d8
  replace rR := rR.drewN d8
  replace B8 := below_drewN B8 d8
  clear oS rP HQ2
  go_wp2_with fail
  refine (hC B nb cb bs _ rB (by omega) (by omega)).mono ?_
  rintro e w9 ⟨K, ck, rfl, oK, b9⟩
  rw [← HK.out, hnk] at oK ⊢
  have rK := oK.rd
  have B9 := below_more B8 b9 B8.size
  replace rR := (rR.below b9).more b9.size
  clear b9 B8 oK rB HK HR hrl hll hkl hql
  go_wp2_with fail
  go_loopw [8, 9] (fun u v wr => ∃ i : Nat, i ≤ nk ∧ v = .int .i64 i ∧ u = .int .i64 (((k.take i).filter (fun c => c.good)).length : Nat) ∧ ∃ d, wr = w9.drewN d) (fun _ v _ => nk - (intOf v).toNat)
  case atStart => exact ⟨0, Nat.zero_le _, rfl, rfl, 0, rfl⟩
  case round =>
    obtain ⟨i, hi, rfl, rfl, d, rfl⟩ := hrel
    by_cases hlt : i < nk
    · have hil : i < k.length := by omega
      obtain ⟨b, off, rfl, _, _⟩ := rK.2 (by omega)
      obtain ⟨p0, _, _, _, p4, p5, _⟩ := rK.cm hil hnk
      have hmem : k.getD i cm0 ∈ k := by
        rw [List.getD_eq_getElem?_getD, List.getElem?_eq_getElem hil]
        exact List.getElem_mem hil
      have HQi := Lib.hid (HQ.out _ hmem)
      have HS := Lib.hid (good_step k i hil)
      have hgl : ((k.take i).filter (fun c => c.good)).length ≤ 1296 := by
        have h1 := List.length_filter_le (fun c : Cm => c.good) (k.take i)
        have h2 : (k.take i).length ≤ i := List.length_take_le _ _
        omega
      clear hmem
      generalize ((k.take i).filter (fun c => c.good)).length = gl at *
      generalize k.getD i cm0 = x at *
      obtain ⟨xk, xf, xs', xp, xt, xg⟩ := x
      simp only at p0 p4 p5
      have n1 : (0 : Int) ≤ (i : Int) := by omega
      have n2 : (i : Int) < (nk : Int) := by omega
      cases xg
      · have HE : Hid (((k.take (i + 1)).filter (fun c => c.good)).length = gl) := by rw [HS.out]; simp [Hid]
        clear HS HQi
        go_wp2_with fail
        go_roundw
        case rel => exact ⟨i + 1, by omega, by go_num, by rw [HE.out], _, rfl⟩
        case measure => simp [intOf]; omega
      · have HE : Hid (((k.take (i + 1)).filter (fun c => c.good)).length = gl + 1) := by rw [HS.out]; simp [Hid]
        obtain ⟨t0, t1, t2⟩ := HQi.out rfl
        simp only at t0 t1 t2
        obtain ⟨τ, rfl⟩ := Int.eq_ofNat_of_zero_le t0
        have hτ : τ < nr := by have := lR.out; omega
        obtain ⟨b', off', rfl, _, hcr⟩ := rR.2 (by omega)
        have pr := hcr τ hτ
        rw [Int.toNat_natCast] at t2
        rw [t2] at pr
        have d0 : decide ((τ : Int) < 0) = false := by simp
        have d1 : decide ((nr : Int) ≤ (τ : Int)) = false := by simp; omega
        have d1' : decide (nr ≤ τ) = false := by simp; omega
        have d2 : (xk != xk) = false := by simp
        have m1 : (0 : Int) ≤ (τ : Int) := by omega
        have m2 : (τ : Int) < (nr : Int) := by omega
        clear hcr HS HQi t0 t1 t2
        obtain ⟨wr, hwr⟩ : ∃ wr, wr = w9.drewN d := ⟨_, rfl⟩
        change (w9.drewN d).cell? _ = _ at p0 p4 p5 pr
        rw [← hwr] at p0 p4 p5 pr ⊢
        have HW := Lib.hid hwr
        clear hwr
        go_wp2_with fail
        go_region_held3 (fun w' => w'.cell? ⟨b, off + i * 6, none⟩ = some (.int .i64 xk) ∧ w'.cell? ⟨b, off + i * 6 + 4, none⟩ = some (.int .i64 τ) ∧ w'.cell? ⟨b', off' + τ, none⟩ = some (.int .i64 xk)) (first | (go_split_ands; exact ⟨by assumption, by assumption, by assumption⟩) | go_keep) (fail)
        go_wp2_with fail
        go_roundw
        case rel => exact ⟨i + 1, by omega, by go_num, by rw [HE.out]; go_num, d + 1, by rw [HW.out]; rfl⟩
        case measure => simp [intOf]; omega
    · obtain rfl : i = nk := by omega
      have B10 := below_drewN B9 d
      have hsum := good_loose k
      rw [← HF.out, hnl, hnk] at hsum
      have htk : k.take i = k := List.take_of_length_le (by omega)
      rw [htk]
      generalize (k.filter (fun c => c.good)).length = gl at *
      have hfin : ((gl : Int) + (nl : Int) == (i : Int)) = true := by simp; omega
      have g1 : gl ≤ 1296 := by omega
      clear hsum htk HF HQ
      go_wp2_with fail
      go_ret
      exact ⟨rfl, B10⟩
end Go.Proofs.Ytkgmopeocmppfab
