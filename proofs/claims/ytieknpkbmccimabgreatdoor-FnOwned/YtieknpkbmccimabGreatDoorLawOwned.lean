/- The law FnOwned, walked, given what the program's own functions answer. -/
import Derived.Test.YtieknpkbmccimabGreatDoorY3
import Derived.Test.YtieknpkbmccimabGreatDoorH3
import Derived.Test.YtieknpkbmccimabGreatDoorZ1
import Derived.Test.YtieknpkbmccimabGreatDoorY2
import Derived.Test.YtieknpkbmccimabGreatDoorY5
import Derived.Test.YtieknpkbmccimabGreatDoorY4
import Derived.Test.YtieknpkbmccimabGreatDoorLawWords
namespace Go.Proofs.YtieknpkbmccimabGreatDoor
open Go.RowKit

/-- What is flagged anew: its defects, its claims, what is stored. -/
theorem owned_law (b : List Int) : (∀ d ∈ defectsL (ownedL b), d.kind ≠ 7) ∧ (ownedL b ≠ [] → claimsL (ownedL b) = claimsL b ∧ storedL (ownedL b) = storedL b) := by
  unfold ownedL
  by_cases hh : hasHead b = true
  · rw [if_pos hh]
    refine ⟨owned_none hh, fun _ => ⟨?_, owned_stored hh⟩⟩
    unfold claimsL
    rw [if_pos hh, if_pos (owned_head hh).1, owned_claims hh]
  · rw [if_neg hh]
    refine ⟨?_, fun h => absurd rfl h⟩
    have e : defectsL ([] : List Int) = [⟨1, 0, 0⟩] := by decide
    rw [e]
    intro d hd
    rw [List.mem_singleton] at hd
    subst hd
    simp

set_option maxRecDepth 100000 in
set_option maxHeartbeats 8000000 in
theorem law_Owned_ (w : World) (hK : OwnedC w) (hD : DefectsC w) (hCm : ClaimsC) (hS : StoredC) (A : Option Addr) (n c : Nat) (xs : List Int) (hr : Rd8 w w.heap.size A n xs) :
    Calls Tryz.prog 4 #[.slice A n c] w fun e w' => e = .returned (.bool true) ∧ Below w.heap.size w w' := by
  by_cases hbig : 4096 < n
  · have hb : decide ((4096 : Int) < (n : Int)) = true := by simp; omega
    go_enter Tryz.func4, Tryz.ntmps4
    go_wp2_with fail
    refine (big_words _ _ _ _).mono ?_
    rintro e w' ⟨rfl, rfl⟩
    rw [hb]
    go_wp2_with fail
    go_ret
    exact ⟨rfl, Below.refl _ _⟩
  have hb : decide ((4096 : Int) < (n : Int)) = false := by simp; omega
  go_enter Tryz.func4, Tryz.ntmps4
  go_wp2_with fail
  refine (big_words _ _ _ _).mono ?_
  rintro e w' ⟨rfl, rfl⟩
  rw [hb]
  clear hb
  go_wp2_with fail
  refine (drawOwned_any A n c xs w hr (by omega)).mono ?_
  rintro e w1 ⟨B, nb, cb, bs, hnb, rfl, rB, b1⟩
  have hkl := ownedL_length bs
  have HQ := Lib.hid (owned_law bs)
  obtain ⟨ks, hks⟩ : ∃ ks, ks = ownedL bs := ⟨_, rfl⟩
  rw [← hks] at hkl HQ
  have HK := Lib.hid hks
  clear hks
  have hyy : (ks == ks) = true := by simp
  go_wp2_with fail
  refine (hK B nb cb bs w1 b1 rB (by omega) (by omega)).mono ?_
  rintro e w2 ⟨X, nx, cx, rfl, oX, b2⟩
  rw [← HK.out] at oX
  have rX := oX.rd
  have B2 := below_more b1 b2 b1.size
  replace rB := (rB.below b2).more b2.size
  have lX := Lib.hid rX.len
  have hnx : nx ≤ 512 := by have := lX.out; omega
  have hcx : nx ≤ cx := by
    rcases oX.form with ⟨_, h0, h1⟩ | ⟨_, _, _, _, _, h1⟩
    · omega
    · exact h1
  clear b1 b2 oX
  go_wp2_with fail
  refine (specOwnedF_any B nb cb bs w2 rB (by omega)).mono ?_
  rintro e w3 ⟨Y, ny, cy, rfl, oY, b3⟩
  rw [← HK.out] at oY
  have B3 := below_more B2 b3 B2.size
  replace rB := (rB.below b3).more b3.size
  replace rX := (rX.below b3).more b3.size
  clear b3 B2
  go_wp2_with fail
  refine (like_any X Y nx cx ny cy ks ks w3.heap.size w3 rX oY.rd (by omega)).mono ?_
  rintro e w3' ⟨rfl, d3, rfl⟩
  rw [hyy]
  replace rB := rB.drewN d3
  replace rX := rX.drewN d3
  replace B3 := below_drewN B3 d3
  clear oY hyy HK
  go_wp2_with fail
  replace rX : Rd (w3.drewN d3) (w3.drewN d3).heap.size X nx ks := rX
  replace rB : Rd (w3.drewN d3) (w3.drewN d3).heap.size B nb bs := rB
  generalize w3.drewN d3 = v3 at *
  refine (hD X nx cx ks v3 B3 rX (by omega) hcx).mono ?_
  rintro e w4 ⟨G, cg, rfl, oG, b4⟩
  have HG := Lib.hid oG
  have B4 := below_more B3 b4 B3.size
  replace rB := (rB.below b4).more b4.size
  replace rX := (rX.below b4).more b4.size
  have hll := defects_length ks
  have HN := Lib.hid HQ.out.1
  clear b4 B3 oG
  generalize defectsL ks = l at *
  obtain ⟨nl, hnl⟩ : ∃ nl, l.length = nl := ⟨_, rfl⟩
  rw [hnl] at hll ⊢
  go_wp2_with fail
  go_loop [6] (fun v => ∃ k : Nat, k ≤ nl ∧ v = .int .i64 k) (fun v => nl - (intOf v).toNat)
  case atStart => exact ⟨0, Nat.zero_le _, rfl⟩
  case round =>
    obtain ⟨k, hk, rfl⟩ := hrel
    by_cases hlt : k < nl
    · obtain ⟨g, rfl⟩ : ∃ g, G = some ⟨g, 0, none⟩ := by
        rcases HG.out.form with ⟨_, h0, _⟩ | ⟨g, e, _⟩
        · omega
        · exact ⟨g, e⟩
      obtain ⟨p0, _, _, _⟩ := HG.out.rd.dc (show k < l.length by omega) rfl
      rw [Nat.zero_add] at p0
      have h2 := HN.out (l.getD k dc0) (by rw [show l.getD k dc0 = l[k]'(by omega) by simp [List.getD_eq_getElem?_getD, show k < l.length by omega]]; exact List.getElem_mem _)
      generalize l.getD k dc0 = x at *
      obtain ⟨xk, xa, xb⟩ := x
      simp only at h2 p0
      have hd : (xk == 7) = false := by simpa using h2
      clear h2
      have n1 : (0 : Int) ≤ (k : Int) := by omega
      have n2 : (k : Int) < (nl : Int) := by omega
      go_wp2_with fail
      go_round
      case rel => exact ⟨k + 1, by omega, by go_num⟩
      case measure => simp [intOf]; omega
    · clear HG HN
      by_cases h0 : nx = 0
      · have hz : ((nx : Int) == 0) = true := by simp; omega
        go_wp2_with fail
        go_ret
        exact ⟨rfl, B4⟩
      · have hz : ((nx : Int) == 0) = false := by simp; omega
        have HQ2 := Lib.hid (HQ.out.2 (fun e => h0 (by rw [← lX.out, e]; rfl)))
        clear HQ h0
        go_wp2_with fail
        refine (hCm X nx cx ks w4 rX (by omega) hcx).mono ?_
        rintro e w5 ⟨P, cp, rfl, oP, b5⟩
        rw [HQ2.out.1] at oP ⊢
        have B5 := below_more B4 b5 B4.size
        replace rB := (rB.below b5).more b5.size
        replace rX := (rX.below b5).more b5.size
        have rP := oP.rd
        have hcl := claimsL_length bs
        clear b5 B4 oP
        go_wp2_with fail
        refine (specClaimsInR_any B nb cb bs w5 rB (by omega)).mono ?_
        rintro e w6 ⟨Q, cq, rfl, oQ, b6⟩
        have B6 := below_more B5 b6 B5.size
        replace rB := (rB.below b6).more b6.size
        replace rX := (rX.below b6).more b6.size
        replace rP := (rP.below b6).more b6.size
        clear b6 B5
        obtain ⟨nc, hnc⟩ : ∃ nc, (claimsL bs).length = nc := ⟨_, rfl⟩
        have rQ := oQ.rd
        clear oQ
        rw [hnc] at rP rQ hcl ⊢
        go_wp2_with fail
        refine (likeClaims_any P Q nc cp cq (claimsL bs) w6.heap.size w6 rP rQ hnc (by omega)).mono ?_
        rintro e w6' ⟨rfl, d6, rfl⟩
        replace rB := rB.drewN d6
        replace rX := rX.drewN d6
        replace B6 := below_drewN B6 d6
        clear rP rQ
        have hsl := storedL_length bs
        go_wp2_with fail
        replace rX : Rd (w6.drewN d6) (w6.drewN d6).heap.size X nx ks := rX
        replace rB : Rd (w6.drewN d6) (w6.drewN d6).heap.size B nb bs := rB
        generalize w6.drewN d6 = v6 at *
        refine (hS X nx cx ks v6 rX (by omega) hcx).mono ?_
        rintro e w7 ⟨Z, nz, cz, rfl, oZ, b7⟩
        rw [HQ2.out.2] at oZ
        have rZ := oZ.rd
        have lZ := Lib.hid rZ.len
        have B7 := below_more B6 b7 B6.size
        replace rB := (rB.below b7).more b7.size
        clear b7 B6 oZ rX
        go_wp2_with fail
        refine (specStored_any B nb cb bs w7 rB (by omega)).mono ?_
        rintro e w8 ⟨V, nv, cv, rfl, oV, b8⟩
        have B8 := below_more B7 b8 B7.size
        replace rZ := (rZ.below b8).more b8.size
        clear b8 B7 rB
        generalize storedL bs = ss at *
        have hss : (ss == ss) = true := by simp
        go_wp2_with fail
        refine (like_any Z V nz cz nv cv ss ss w8.heap.size w8 rZ oV.rd (by have := lZ.out; omega)).mono ?_
        rintro e w8' ⟨rfl, d8, rfl⟩
        rw [hss]
        go_wp2_with fail
        go_ret
        exact ⟨rfl, below_drewN B8 d8⟩
end Go.Proofs.YtieknpkbmccimabGreatDoor
