/- The law FnDisks, walked, given what the program's own functions answer. -/
import Derived.Test.YtiokfhdkbpoadabGreatDoorY3
import Derived.Test.YtiokfhdkbpoadabGreatDoorLawWrt
import Derived.Test.YtiokfhdkbpoadabGreatDoorLawPic
import Derived.Test.YtiokfhdkbpoadabGreatDoorLawCon
import Derived.Test.YtiokfhdkbpoadabGreatDoorY4
import Derived.Test.YtiokfhdkbpoadabGreatDoorQ5
import Derived.Test.YtiokfhdkbpoadabGreatDoorLawWords
namespace Go.Proofs.YtiokfhdkbpoadabGreatDoor
open Go.RowKit

theorem size_of {b : List Int} (h : soundB b = true) : 1 ≤ (headOf b).size ∧ (headOf b).size ≤ 64 := by
  have := headB_all (hasHead_ok (sound_head h))
  exact this.1

set_option maxRecDepth 100000 in
set_option maxHeartbeats 16000000 in
theorem law_Disks (w : World) (hW : WrittenC w) (hP : PicturedC w) (hC : ContentC) (hSo : SoundC w) (A : Option Addr) (n c : Nat) (xs : List Int) (hr : Rd8 w w.heap.size A n xs) :
    Calls Tryz.prog 3 #[.slice A n c] w fun e w' => e = .returned (.bool true) ∧ Below w.heap.size w w' := by
  by_cases hbig : 4096 < n
  · have hb : decide ((4096 : Int) < (n : Int)) = true := by simp; omega
    go_enter Tryz.func3, Tryz.ntmps3
    go_wp2_with fail
    refine (big_words _ _ _ _).mono ?_
    rintro e w' ⟨rfl, rfl⟩
    rw [hb]
    go_wp2_with fail
    go_ret
    exact ⟨rfl, Below.refl _ _⟩
  have hb : decide ((4096 : Int) < (n : Int)) = false := by simp; omega
  go_enter Tryz.func3, Tryz.ntmps3
  go_wp2_with fail
  refine (big_words _ _ _ _).mono ?_
  rintro e w' ⟨rfl, rfl⟩
  rw [hb]
  clear hb
  go_wp2_with fail
  refine (drawWritten_any A n c xs w hr (by omega)).mono ?_
  rintro e w1 ⟨B, nb, cb, bs, g, V, nv, cv, vs, hnb, hnv, rfl, rB, rV, b1⟩
  have hxl := writtenL_length bs g vs
  have HW := Lib.hid (fun h => written_law (b := bs) (ws := vs) (g := g) h)
  obtain ⟨ks, hks⟩ : ∃ ks, ks = writtenL bs g vs := ⟨_, rfl⟩
  rw [← hks] at hxl HW
  have HK := Lib.hid hks
  clear hks
  have hkk : (ks == ks) = true := by simp
  go_wp2_with fail
  refine (hW B nb cb bs g V nv cv vs w1 b1 rB (by omega) (by omega) rV (by omega) (by omega)).mono ?_
  rintro e w2 ⟨X, nx, cx, rfl, oX, b2⟩
  rw [← HK.out] at oX
  have rX := oX.rd
  have lX := Lib.hid rX.len
  have hnx : nx ≤ 512 := by have := lX.out; omega
  have hcx : nx ≤ cx := by
    rcases oX.form with ⟨_, h0, h1⟩ | ⟨_, _, _, _, _, h1⟩
    · omega
    · exact h1
  have B2 := below_more b1 b2 b1.size
  replace rB := (rB.below b2).more b2.size
  replace rV := (rV.below b2).more b2.size
  clear b1 b2 oX
  go_wp2_with fail
  refine (drawPictured_any A n c xs w2 ((hr.below B2).more B2.size) (by omega)).mono ?_
  rintro e w3 ⟨C, nc, cc, cs', nm, hnc, rfl, rC, b3⟩
  have B3 := below_more B2 b3 B2.size
  replace rB := (rB.below b3).more b3.size
  replace rV := (rV.below b3).more b3.size
  replace rX := (rX.below b3).more b3.size
  clear b3 B2
  have hyl := picturedL_length cs' nm
  have HP := Lib.hid (fun h => pictured_law (b := cs') (name := nm) h)
  obtain ⟨ps, hps⟩ : ∃ ps, ps = picturedL cs' nm := ⟨_, rfl⟩
  rw [← hps] at hyl HP
  have HQ := Lib.hid hps
  clear hps
  have hpp : (ps == ps) = true := by simp
  go_wp2_with fail
  refine (hP C nc cc cs' nm w3 B3 rC (by omega) (by omega)).mono ?_
  rintro e w4 ⟨Y, ny, cy, rfl, oY, b4⟩
  rw [← HQ.out] at oY
  have rY := oY.rd
  have lY := Lib.hid rY.len
  have hny : ny ≤ 512 := by have := lY.out; omega
  have hcy : ny ≤ cy := by
    rcases oY.form with ⟨_, h0, h1⟩ | ⟨_, _, _, _, _, h1⟩
    · omega
    · exact h1
  have B4 := below_more B3 b4 B3.size
  replace rB := (rB.below b4).more b4.size
  replace rV := (rV.below b4).more b4.size
  replace rX := (rX.below b4).more b4.size
  replace rC := (rC.below b4).more b4.size
  clear b4 B3 oY
  go_wp2_with fail
  refine (specWritten_any B nb cb bs g V nv cv vs w4 rB (by omega) rV (by omega) (by omega)).mono ?_
  rintro e w5 ⟨Z, nz, cz, rfl, oZ, b5⟩
  rw [← HK.out] at oZ
  have B5 := below_more B4 b5 B4.size
  replace rB := (rB.below b5).more b5.size
  replace rV := (rV.below b5).more b5.size
  replace rX := (rX.below b5).more b5.size
  replace rC := (rC.below b5).more b5.size
  replace rY := (rY.below b5).more b5.size
  clear b5 B4
  go_wp2_with fail
  refine (like_any X Z nx cx nz cz ks ks w5.heap.size w5 rX oZ.rd (by omega)).mono ?_
  rintro e w5' ⟨rfl, d5, rfl⟩
  rw [hkk]
  replace rB := rB.drewN d5
  replace rV := rV.drewN d5
  replace rX := rX.drewN d5
  replace rC := rC.drewN d5
  replace rY := rY.drewN d5
  replace B5 := below_drewN B5 d5
  clear oZ
  replace rB : Rd (w5.drewN d5) (w5.drewN d5).heap.size B nb bs := rB
  replace rV : Rd (w5.drewN d5) (w5.drewN d5).heap.size V nv vs := rV
  replace rX : Rd (w5.drewN d5) (w5.drewN d5).heap.size X nx ks := rX
  replace rC : Rd (w5.drewN d5) (w5.drewN d5).heap.size C nc cs' := rC
  replace rY : Rd (w5.drewN d5) (w5.drewN d5).heap.size Y ny ps := rY
  go_wp2_with fail
  generalize w5.drewN d5 = v5 at *
  refine (specPictured_any C nc cc cs' nm v5 rC (by omega)).mono ?_
  rintro e w6 ⟨Z6, nz6, cz6, rfl, oZ, b6⟩
  rw [← HQ.out] at oZ
  have B6 := below_more B5 b6 B5.size
  replace rB := (rB.below b6).more b6.size
  replace rV := (rV.below b6).more b6.size
  replace rX := (rX.below b6).more b6.size
  replace rC := (rC.below b6).more b6.size
  replace rY := (rY.below b6).more b6.size
  clear b6 B5
  go_wp2_with fail
  refine (like_any Y Z6 ny cy nz6 cz6 ps ps w6.heap.size w6 rY oZ.rd (by omega)).mono ?_
  rintro e w6' ⟨rfl, d6, rfl⟩
  rw [hpp]
  replace rB : Rd (w6.drewN d6) (w6.drewN d6).heap.size B nb bs := rB
  replace rV : Rd (w6.drewN d6) (w6.drewN d6).heap.size V nv vs := rV
  replace rX : Rd (w6.drewN d6) (w6.drewN d6).heap.size X nx ks := rX
  replace rC : Rd (w6.drewN d6) (w6.drewN d6).heap.size C nc cs' := rC
  replace rY : Rd (w6.drewN d6) (w6.drewN d6).heap.size Y ny ps := rY
  replace B6 := below_drewN B6 d6
  clear oZ HK HQ hkk hpp
  by_cases h0 : nx = 0
  case pos =>
    subst h0
    generalize w6.drewN d6 = v9 at *
    have B9 := B6
    clear B6
    clear HW lX
    by_cases h1 : ny = 0
    · subst h1
      go_wp2_with fail
      go_ret
      exact ⟨rfl, B9⟩
    · obtain ⟨q1, q2, q3, q4, q5⟩ := HP.out (fun e => h1 (by rw [← lY.out, e]; rfl))
      have hd1 : decide (0 < ny) = true := by simp; omega
      have hp1 : 0 < ny := by omega
      obtain ⟨pz0, pz1⟩ := size_of q1
      have HHC := Lib.hid (headIn_yes (sound_head q1))
      have HSY := Lib.hid q2
      have HNY := Lib.hid q3
      have HCY := Lib.hid q5
      clear q1 q2 q3 q4 q5 h1 HP
      generalize headOf cs' = hc at *
      obtain ⟨s2, f2, r2, u2, m2⟩ := hc
      simp only at pz0 pz1 HCY
      obtain ⟨S2, rfl⟩ := Int.eq_ofNat_of_zero_le (show 0 ≤ s2 by omega)
      have hn4 := names_length cs'
      obtain ⟨M2, hM2⟩ : ∃ M2, M2 = (namesL cs').length := ⟨_, rfl⟩
      rw [← hM2] at hn4 HCY
      have HCZ : Hid (∀ k : Nat, (k : Int) < (S2 : Int) → contentL ps 0 k = contentL cs' 0 k ∧ contentL ps ((M2 : Int) + 1) k = contentL cs' 0 k) := fun k hk => HCY.out k hk
      clear HCY
      have HM2 := Lib.hid hM2
      have HML : Hid ((namesL ps).length = M2 + 1) := by rw [HNY.out, List.length_append, hM2]; exact rfl
      clear hM2
      go_wp2_with fail
      refine (specHeadIn_any _ _ _ cs' v9 rC (by omega)).mono ?_
      rintro e x1 ⟨rfl, t1⟩
      rw [HHC.out]
      unfold hdV
      have a1 := t1.alloc t1.size (.cells #[.int .i64 S2, .int .i64 f2, .int .i64 r2, .int .i64 u2, .int .i64 m2] 33)
      have C1 := below_more B9 a1 B9.size
      have hy1 : HBox (x1.alloc (.cells #[.int .i64 S2, .int .i64 f2, .int .i64 r2, .int .i64 u2, .int .i64 m2] 33)) x1.heap.size ⟨S2, f2, r2, u2, m2⟩ := HBox.new x1 ⟨S2, f2, r2, u2, m2⟩
      replace rC := (rC.below a1).more a1.size
      replace rY := (rY.below a1).more a1.size
      clear t1 a1 B9
      go_wp2_with fail
      generalize (x1.alloc (.cells #[.int .i64 S2, .int .i64 f2, .int .i64 r2, .int .i64 u2, .int .i64 m2] 33)) = y1 at *
      generalize x1.heap.size = pc at *
      refine (specNames_any Y ny cy ps y1 rY (by omega)).mono ?_
      rintro e y2 ⟨L2, nl2, cl2, rfl, oL2, t2⟩
      obtain rfl : M2 + 1 = nl2 := by rw [← HML.out]; exact oL2.len
      have C2 := below_more C1 t2 C1.size
      have hy2 := hy1.keep (t2.block _ hy1.lt)
      replace rC := (rC.below t2).more t2.size
      replace rY := (rY.below t2).more t2.size
      clear hy1 oL2 t2 C1
      have HY2 := Lib.hid hy2
      clear hy2
      go_wp2_with fail
      go_loopw [18] (fun v wz => ∃ k : Nat, k ≤ S2 ∧ v = .int .i64 k ∧ Below y2.heap.size y2 wz) (fun v _ => S2 - (intOf v).toNat)
      case atStart => exact ⟨0, by omega, rfl, Below.refl _ _⟩
      case round =>
        obtain ⟨k2, hk2, rfl, bz⟩ := hrel
        obtain ⟨vz, hvz⟩ : ∃ vz, vz = wr := ⟨_, rfl⟩
        rw [← hvz] at bz ⊢
        clear hvz
        have hxz := HY2.out.keep (bz.block _ HY2.out.lt)
        have z2 : vz.cell? ⟨pc, 0, none⟩ = some (.int .i64 (S2 : Int)) := hxz.cell 0
        clear hxz
        by_cases hkS2 : k2 < S2
        · have HE := Lib.hid (HCZ.out k2 (by omega))
          have hct := contentL_length cs' 0 k2
          go_wp2_with fail
          refine (hC Y ny cy ps _ k2 vz ((rY.below bz).more bz.size) (by omega) hcy).mono ?_
          rintro e y3 ⟨T1, n1, c1, rfl, o1, t3⟩
          rw [HE.out.2] at o1
          have d3 := below_more bz t3 bz.size
          have r1 := o1.rd
          have l1 := Lib.hid r1.len
          clear o1 t3 bz z2
          go_wp2_with fail
          refine (specContent_any C nc cc cs' 0 k2 y3 ((rC.below d3).more d3.size) (by omega)).mono ?_
          rintro e y4 ⟨T2, n2, c2, rfl, o2, t4⟩
          have d4 := below_more d3 t4 d3.size
          replace r1 := (r1.below t4).more t4.size
          clear d3 t4
          have HE1 : Hid (contentL ps 0 k2 = contentL cs' 0 k2) := HE.out.1
          clear HE
          obtain ⟨ts, hts⟩ : ∃ ts, ts = contentL cs' 0 k2 := ⟨_, rfl⟩
          rw [← hts] at r1 o2 HE1 hct
          have HTS := Lib.hid hts
          clear hts
          have hvv : (ts == ts) = true := by simp
          go_wp2_with fail
          refine (like_any T1 T2 n1 c1 n2 c2 ts ts y4.heap.size y4 r1 o2.rd (by have := r1.len; omega)).mono ?_
          rintro e y4' ⟨rfl, e4, rfl⟩
          rw [hvv]
          replace d4 := below_drewN d4 e4
          clear r1 o2 l1
          go_wp2_with fail
          generalize y4.drewN e4 = y5 at *
          refine (hC Y ny cy ps 0 k2 y5 ((rY.below d4).more d4.size) (by omega) hcy).mono ?_
          rintro e y6 ⟨T3, n3, c3, rfl, o3, t6⟩
          rw [HE1.out] at o3
          have d6 := below_more d4 t6 d4.size
          have r3 := o3.rd
          have l3 := Lib.hid r3.len
          clear o3 t6 d4
          go_wp2_with fail
          refine (specContent_any C nc cc cs' 0 k2 y6 ((rC.below d6).more d6.size) (by omega)).mono ?_
          rintro e y7 ⟨T4, n4, c4, rfl, o4, t7⟩
          have d7 := below_more d6 t7 d6.size
          replace r3 := (r3.below t7).more t7.size
          rw [← HTS.out] at o4
          clear d6 t7
          go_wp2_with fail
          refine (like_any T3 T4 n3 c3 n4 c4 ts ts y7.heap.size y7 r3 o4.rd (by have := r3.len; omega)).mono ?_
          rintro e y7' ⟨rfl, e7, rfl⟩
          rw [hvv]
          go_wp2_with fail
          go_roundw
          case rel => exact ⟨k2 + 1, by omega, by go_num, below_drewN d7 e7⟩
          case measure => simp [intOf]; omega
        · have D1 := below_more C2 bz C2.size
          replace rC := (rC.below bz).more bz.size
          replace rY := (rY.below bz).more bz.size
          clear bz HCZ
          go_wp2_with fail
          refine (hSo Y ny cy ps vz D1 rY (by omega) hcy).mono ?_
          rintro e y8 ⟨rfl, t8⟩
          rw [HSY.out]
          have D2 := below_more D1 t8 D1.size
          replace rC := (rC.below t8).more t8.size
          clear t8 D1
          go_wp2_with fail
          refine (specNames_any C nc cc cs' y8 rC (by omega)).mono ?_
          rintro e y9 ⟨L3, nl3, cl3, rfl, oL3, t9⟩
          obtain rfl : M2 = nl3 := by rw [HM2.out]; exact oL3.len
          have D3 := below_more D2 t9 D2.size
          have hq1 : ((M2 + 1 : Nat) : Int) = (M2 : Int) + 1 := by omega
          go_wp2_with fail
          go_ret
          exact ⟨rfl, D3⟩
  case neg =>
    obtain ⟨q1, q2, q3, q4, q5, q6, q7⟩ := HW.out (fun e => h0 (by rw [← lX.out, e]; rfl))
    have hd0 : decide (0 < nx) = true := by simp; omega
    have hp0 : 0 < nx := by omega
    obtain ⟨sz0, sz1⟩ := size_of q1
    have HHD := Lib.hid (headIn_yes (sound_head q1))
    obtain ⟨gn, rfl⟩ := Int.eq_ofNat_of_zero_le q2
    have HCT := Lib.hid q7
    have HSX := Lib.hid q5
    have HV8 := Lib.hid q4
    clear q1 q2 q4 q5 q6 q7 h0
    generalize headOf bs = hb at *
    obtain ⟨s, f, r, u, m⟩ := hb
    simp only at sz0 sz1 q3 HCT
    obtain ⟨S, rfl⟩ := Int.eq_ofNat_of_zero_le (show 0 ≤ s by omega)
    have hNn := names_length bs
    have HNn : Hid (∀ q : Nat, q ≤ (namesL bs).length → ∀ k : Nat, k < S → contentL ks q k = if q = 0 ∧ k = gn then vs else contentL bs q k) := fun q hq k hk => by
      rw [HCT.out q hq k (by omega)]
      by_cases hc : q = 0 ∧ k = gn
      · rw [if_pos hc, if_pos ⟨hc.1, by omega⟩]
      · rw [if_neg hc, if_neg (fun h => hc ⟨h.1, by omega⟩)]
    clear HCT
    obtain ⟨M, hM⟩ : ∃ M, M = (namesL bs).length := ⟨_, rfl⟩
    rw [← hM] at hNn HNn
    have HM := Lib.hid hM
    clear hM
    go_wp2_with fail
    generalize w6.drewN d6 = v6 at *
    refine (specHeadIn_any _ _ _ bs v6 rB (by omega)).mono ?_
    rintro e w7 ⟨rfl, b7⟩
    rw [HHD.out]
    unfold hdV
    have a7 := b7.alloc b7.size (.cells #[.int .i64 S, .int .i64 f, .int .i64 r, .int .i64 u, .int .i64 m] 33)
    have B7 := below_more B6 a7 B6.size
    have hx7 : HBox (w7.alloc (.cells #[.int .i64 S, .int .i64 f, .int .i64 r, .int .i64 u, .int .i64 m] 33)) w7.heap.size ⟨S, f, r, u, m⟩ := HBox.new w7 ⟨S, f, r, u, m⟩
    replace rB := (rB.below a7).more a7.size
    replace rV := (rV.below a7).more a7.size
    replace rX := (rX.below a7).more a7.size
    replace rC := (rC.below a7).more a7.size
    replace rY := (rY.below a7).more a7.size
    clear b7 a7 B6
    go_wp2_with fail
    generalize (w7.alloc (.cells #[.int .i64 S, .int .i64 f, .int .i64 r, .int .i64 u, .int .i64 m] 33)) = v7 at *
    generalize w7.heap.size = ph at *
    have HX7 := Lib.hid hx7
    clear hx7
    go_loopw [12] (fun v wr => ∃ q : Nat, q ≤ M + 1 ∧ v = .int .i64 q ∧ Below v7.heap.size v7 wr) (fun v _ => M + 1 - (intOf v).toNat)
    case atStart => exact ⟨0, by omega, rfl, Below.refl _ _⟩
    case round =>
      obtain ⟨q, hq, rfl, bq⟩ := hrel
      obtain ⟨vq, hvq⟩ : ∃ vq, vq = wr := ⟨_, rfl⟩
      rw [← hvq] at bq ⊢
      clear hvq
      rcases Nat.eq_zero_or_pos q with rfl | hqp
      · rw [show (((0 : Nat) : Nat) : Int) = 0 from rfl]
        go_wp2_with fail
        refine (specNames_any B nb cb bs vq ((rB.below bq).more bq.size) (by omega)).mono ?_
        rintro e v8 ⟨L, nl, cl, rfl, oL, b8⟩
        obtain rfl : M = nl := by rw [HM.out]; exact oL.len
        have c8 := below_more bq b8 bq.size
        clear oL b8 bq
        go_wp2_with fail
        go_loopw [13] (fun v ws => ∃ k : Nat, k ≤ S ∧ v = .int .i64 k ∧ Below v7.heap.size v7 ws) (fun v _ => S - (intOf v).toNat)
        case atStart => exact ⟨0, by omega, rfl, c8⟩
        case round =>
          obtain ⟨k, hk, rfl, bk⟩ := hrel
          have hxk := HX7.out.keep (bk.block _ HX7.out.lt)
          have z0 : wr.cell? ⟨ph, 0, none⟩ = some (.int .i64 (S : Int)) := hxk.cell 0
          clear hxk
          by_cases hkS : k < S
          · have HE : Hid (contentL ks 0 k = if k = gn then vs else contentL bs 0 k) := by have hx := HNn.out 0 (Nat.zero_le _) k hkS; by_cases hc : k = gn; (· rw [if_pos hc]; exact hx.trans (if_pos ⟨by trivial, hc⟩)); (· rw [if_neg hc]; exact hx.trans (if_neg (fun hh => hc hh.2)))
            go_wp2_with fail
            refine (specContent_any B nb cb bs 0 k wr ((rB.below bk).more bk.size) (by omega)).mono ?_
            rintro e u1 ⟨T, nt, ct, rfl, oT, t1⟩
            have c1 := below_more bk t1 bk.size
            have rT := oT.rd
            clear oT t1 bk z0
            by_cases hc : k = gn
            · have hkg : ((k : Int) == (gn : Int)) = true := by simp; omega
              have HE2 : Hid (contentL ks 0 k = vs) := by have := HE.out; rw [if_pos hc] at this; exact this
              clear HE hc rT
              have hv8 : vs.length ≤ 8 := by have := HV8.out; omega
              generalize vs = ts at *
              have hvv : (ts == ts) = true := by simp
              go_wp2_with fail
              refine (hC X nx cx ks 0 k u1 ((rX.below c1).more c1.size) (by omega) hcx).mono ?_
              rintro e u2 ⟨U, nu, cu, rfl, oU, t2⟩
              rw [HE2.out] at oU
              have c2 := below_more c1 t2 c1.size
              go_wp2_with fail
              refine (like_any U V nu cu nv cv ts ts u2.heap.size u2 oU.rd ((rV.below c2).more c2.size) (by have := oU.len; omega)).mono ?_
              rintro e u2' ⟨rfl, d2, rfl⟩
              rw [hvv]
              go_wp2_with fail
              go_roundw
              case rel => exact ⟨k + 1, by omega, by go_num, below_drewN c2 d2⟩
              case measure => simp [intOf]; omega
            · have hkg : ((k : Int) == (gn : Int)) = false := by simp; omega
              have HE2 : Hid (contentL ks 0 k = contentL bs 0 k) := by have := HE.out; rw [if_neg hc] at this; exact this
              clear HE hc
              have hct := contentL_length bs 0 k
              generalize contentL bs 0 k = ts at *
              have hvv : (ts == ts) = true := by simp
              go_wp2_with fail
              refine (hC X nx cx ks 0 k u1 ((rX.below c1).more c1.size) (by omega) hcx).mono ?_
              rintro e u2 ⟨U, nu, cu, rfl, oU, t2⟩
              rw [HE2.out] at oU
              have c2 := below_more c1 t2 c1.size
              go_wp2_with fail
              refine (like_any U T nu cu nt ct ts ts u2.heap.size u2 oU.rd ((rT.below t2).more t2.size) (by have := oU.len; omega)).mono ?_
              rintro e u2' ⟨rfl, d2, rfl⟩
              rw [hvv]
              go_wp2_with fail
              go_roundw
              case rel => exact ⟨k + 1, by omega, by go_num, below_drewN c2 d2⟩
              case measure => simp [intOf]; omega
          · go_wp2_with fail
            go_roundw
            case rel => exact ⟨1, by omega, by go_num, bk⟩
            case measure => simp [intOf]
      go_wp2_with fail
      refine (specNames_any B nb cb bs vq ((rB.below bq).more bq.size) (by omega)).mono ?_
      rintro e v8 ⟨L, nl, cl, rfl, oL, b8⟩
      obtain rfl : M = nl := by rw [HM.out]; exact oL.len
      have c8 := below_more bq b8 bq.size
      clear oL b8 bq
      by_cases hqM : q ≤ M
      · have HNq := Lib.hid (HNn.out q hqM)
        go_wp2_with fail
        go_loopw [13] (fun v ws => ∃ k : Nat, k ≤ S ∧ v = .int .i64 k ∧ Below v7.heap.size v7 ws) (fun v _ => S - (intOf v).toNat)
        case atStart => exact ⟨0, by omega, rfl, c8⟩
        case round =>
          obtain ⟨k, hk, rfl, bk⟩ := hrel
          have hxk := HX7.out.keep (bk.block _ HX7.out.lt)
          have z0 : wr.cell? ⟨ph, 0, none⟩ = some (.int .i64 (S : Int)) := hxk.cell 0
          clear hxk
          by_cases hkS : k < S
          · have HE : Hid (contentL ks q k = contentL bs q k) := by have := HNq.out k hkS; rw [if_neg (by omega)] at this; exact this
            go_wp2_with fail
            refine (specContent_any B nb cb bs q k wr ((rB.below bk).more bk.size) (by omega)).mono ?_
            rintro e u1 ⟨T, nt, ct, rfl, oT, t1⟩
            have c1 := below_more bk t1 bk.size
            have rT := oT.rd
            clear oT t1 bk z0
            have hqz : ((q : Int) == 0) = false := by simp; omega
            have HE2 : Hid (contentL ks q k = contentL bs q k) := HE
            clear HE
            have hct := contentL_length bs q k
            generalize contentL bs q k = ts at *
            have hvv : (ts == ts) = true := by simp
            go_wp2_with fail
            refine (hC X nx cx ks q k u1 ((rX.below c1).more c1.size) (by omega) hcx).mono ?_
            rintro e u2 ⟨U, nu, cu, rfl, oU, t2⟩
            rw [HE2.out] at oU
            have c2 := below_more c1 t2 c1.size
            go_wp2_with fail
            refine (like_any U T nu cu nt ct ts ts u2.heap.size u2 oU.rd ((rT.below t2).more t2.size) (by have := oU.len; omega)).mono ?_
            rintro e u2' ⟨rfl, d2, rfl⟩
            rw [hvv]
            go_wp2_with fail
            go_roundw
            case rel => exact ⟨k + 1, by omega, by go_num, below_drewN c2 d2⟩
            case measure => simp [intOf]; omega
          · go_wp2_with fail
            go_roundw
            case rel => exact ⟨q + 1, by omega, by go_num, bk⟩
            case measure => simp [intOf]; omega
      · replace rC := (rC.below c8).more c8.size
        replace rY := (rY.below c8).more c8.size
        replace rX := (rX.below c8).more c8.size
        have C8 := below_more B7 c8 B7.size
        clear HNn HX7 rB rV B7 c8
        go_wp2_with fail
        refine (hSo X nx cx ks v8 C8 rX (by omega) hcx).mono ?_
        rintro e v9 ⟨rfl, b9⟩
        rw [HSX.out]
        have B9 := below_more C8 b9 C8.size
        replace rC := (rC.below b9).more b9.size
        replace rY := (rY.below b9).more b9.size
        clear b9 C8
        clear HW lX
        by_cases h1 : ny = 0
        · subst h1
          go_wp2_with fail
          go_ret
          exact ⟨rfl, B9⟩
        · obtain ⟨q1, q2, q3, q4, q5⟩ := HP.out (fun e => h1 (by rw [← lY.out, e]; rfl))
          have hd1 : decide (0 < ny) = true := by simp; omega
          have hp1 : 0 < ny := by omega
          obtain ⟨pz0, pz1⟩ := size_of q1
          have HHC := Lib.hid (headIn_yes (sound_head q1))
          have HSY := Lib.hid q2
          have HNY := Lib.hid q3
          have HCY := Lib.hid q5
          clear q1 q2 q3 q4 q5 h1 HP
          generalize headOf cs' = hc at *
          obtain ⟨s2, f2, r2, u2, m2⟩ := hc
          simp only at pz0 pz1 HCY
          obtain ⟨S2, rfl⟩ := Int.eq_ofNat_of_zero_le (show 0 ≤ s2 by omega)
          have hn4 := names_length cs'
          obtain ⟨M2, hM2⟩ : ∃ M2, M2 = (namesL cs').length := ⟨_, rfl⟩
          rw [← hM2] at hn4 HCY
          have HCZ : Hid (∀ k : Nat, (k : Int) < (S2 : Int) → contentL ps 0 k = contentL cs' 0 k ∧ contentL ps ((M2 : Int) + 1) k = contentL cs' 0 k) := fun k hk => HCY.out k hk
          clear HCY
          have HM2 := Lib.hid hM2
          have HML : Hid ((namesL ps).length = M2 + 1) := by rw [HNY.out, List.length_append, hM2]; exact rfl
          clear hM2
          go_wp2_with fail
          refine (specHeadIn_any _ _ _ cs' v9 rC (by omega)).mono ?_
          rintro e x1 ⟨rfl, t1⟩
          rw [HHC.out]
          unfold hdV
          have a1 := t1.alloc t1.size (.cells #[.int .i64 S2, .int .i64 f2, .int .i64 r2, .int .i64 u2, .int .i64 m2] 33)
          have C1 := below_more B9 a1 B9.size
          have hy1 : HBox (x1.alloc (.cells #[.int .i64 S2, .int .i64 f2, .int .i64 r2, .int .i64 u2, .int .i64 m2] 33)) x1.heap.size ⟨S2, f2, r2, u2, m2⟩ := HBox.new x1 ⟨S2, f2, r2, u2, m2⟩
          replace rC := (rC.below a1).more a1.size
          replace rY := (rY.below a1).more a1.size
          clear t1 a1 B9
          go_wp2_with fail
          generalize (x1.alloc (.cells #[.int .i64 S2, .int .i64 f2, .int .i64 r2, .int .i64 u2, .int .i64 m2] 33)) = y1 at *
          generalize x1.heap.size = pc at *
          refine (specNames_any Y ny cy ps y1 rY (by omega)).mono ?_
          rintro e y2 ⟨L2, nl2, cl2, rfl, oL2, t2⟩
          obtain rfl : M2 + 1 = nl2 := by rw [← HML.out]; exact oL2.len
          have C2 := below_more C1 t2 C1.size
          have hy2 := hy1.keep (t2.block _ hy1.lt)
          replace rC := (rC.below t2).more t2.size
          replace rY := (rY.below t2).more t2.size
          clear hy1 oL2 t2 C1
          have HY2 := Lib.hid hy2
          clear hy2
          go_wp2_with fail
          go_loopw [18] (fun v wz => ∃ k : Nat, k ≤ S2 ∧ v = .int .i64 k ∧ Below y2.heap.size y2 wz) (fun v _ => S2 - (intOf v).toNat)
          case atStart => exact ⟨0, by omega, rfl, Below.refl _ _⟩
          case round =>
            obtain ⟨k2, hk2, rfl, bz⟩ := hrel
            obtain ⟨vz, hvz⟩ : ∃ vz, vz = wr := ⟨_, rfl⟩
            rw [← hvz] at bz ⊢
            clear hvz
            have hxz := HY2.out.keep (bz.block _ HY2.out.lt)
            have z2 : vz.cell? ⟨pc, 0, none⟩ = some (.int .i64 (S2 : Int)) := hxz.cell 0
            clear hxz
            by_cases hkS2 : k2 < S2
            · have HE := Lib.hid (HCZ.out k2 (by omega))
              have hct := contentL_length cs' 0 k2
              go_wp2_with fail
              refine (hC Y ny cy ps _ k2 vz ((rY.below bz).more bz.size) (by omega) hcy).mono ?_
              rintro e y3 ⟨T1, n1, c1, rfl, o1, t3⟩
              rw [HE.out.2] at o1
              have d3 := below_more bz t3 bz.size
              have r1 := o1.rd
              have l1 := Lib.hid r1.len
              clear o1 t3 bz z2
              go_wp2_with fail
              refine (specContent_any C nc cc cs' 0 k2 y3 ((rC.below d3).more d3.size) (by omega)).mono ?_
              rintro e y4 ⟨T2, n2, c2, rfl, o2, t4⟩
              have d4 := below_more d3 t4 d3.size
              replace r1 := (r1.below t4).more t4.size
              clear d3 t4
              have HE1 : Hid (contentL ps 0 k2 = contentL cs' 0 k2) := HE.out.1
              clear HE
              obtain ⟨ts, hts⟩ : ∃ ts, ts = contentL cs' 0 k2 := ⟨_, rfl⟩
              rw [← hts] at r1 o2 HE1 hct
              have HTS := Lib.hid hts
              clear hts
              have hvv : (ts == ts) = true := by simp
              go_wp2_with fail
              refine (like_any T1 T2 n1 c1 n2 c2 ts ts y4.heap.size y4 r1 o2.rd (by have := r1.len; omega)).mono ?_
              rintro e y4' ⟨rfl, e4, rfl⟩
              rw [hvv]
              replace d4 := below_drewN d4 e4
              clear r1 o2 l1
              go_wp2_with fail
              generalize y4.drewN e4 = y5 at *
              refine (hC Y ny cy ps 0 k2 y5 ((rY.below d4).more d4.size) (by omega) hcy).mono ?_
              rintro e y6 ⟨T3, n3, c3, rfl, o3, t6⟩
              rw [HE1.out] at o3
              have d6 := below_more d4 t6 d4.size
              have r3 := o3.rd
              have l3 := Lib.hid r3.len
              clear o3 t6 d4
              go_wp2_with fail
              refine (specContent_any C nc cc cs' 0 k2 y6 ((rC.below d6).more d6.size) (by omega)).mono ?_
              rintro e y7 ⟨T4, n4, c4, rfl, o4, t7⟩
              have d7 := below_more d6 t7 d6.size
              replace r3 := (r3.below t7).more t7.size
              rw [← HTS.out] at o4
              clear d6 t7
              go_wp2_with fail
              refine (like_any T3 T4 n3 c3 n4 c4 ts ts y7.heap.size y7 r3 o4.rd (by have := r3.len; omega)).mono ?_
              rintro e y7' ⟨rfl, e7, rfl⟩
              rw [hvv]
              go_wp2_with fail
              go_roundw
              case rel => exact ⟨k2 + 1, by omega, by go_num, below_drewN d7 e7⟩
              case measure => simp [intOf]; omega
            · have D1 := below_more C2 bz C2.size
              replace rC := (rC.below bz).more bz.size
              replace rY := (rY.below bz).more bz.size
              clear bz HCZ
              go_wp2_with fail
              refine (hSo Y ny cy ps vz D1 rY (by omega) hcy).mono ?_
              rintro e y8 ⟨rfl, t8⟩
              rw [HSY.out]
              have D2 := below_more D1 t8 D1.size
              replace rC := (rC.below t8).more t8.size
              clear t8 D1
              go_wp2_with fail
              refine (specNames_any C nc cc cs' y8 rC (by omega)).mono ?_
              rintro e y9 ⟨L3, nl3, cl3, rfl, oL3, t9⟩
              obtain rfl : M2 = nl3 := by rw [HM2.out]; exact oL3.len
              have D3 := below_more D2 t9 D2.size
              have hq1 : ((M2 + 1 : Nat) : Int) = (M2 : Int) + 1 := by omega
              go_wp2_with fail
              go_ret
              exact ⟨rfl, D3⟩
end Go.Proofs.YtiokfhdkbpoadabGreatDoor
