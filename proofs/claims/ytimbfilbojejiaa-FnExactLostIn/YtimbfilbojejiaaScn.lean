/- Scans (chapter 13): plain functions, and that the model's Go functions compute them. -/
import Derived.Test.YtimbfilbojejiaaRo
import Derived.Test.YtimbfilbojejiaaIm
namespace Go.Proofs.Ytimbfilbojejiaa
open Go.RowKit

/-- SecondLike. -/
def secLikeB (b : List Int) (at_ : Int) : Bool := (inB at_ 1 (((rolesL b).length : Int) - 1) && ((rolesL b).getD at_.toNat 0 == 0)) && ((cl b at_.toNat).all (fun w => w == 0 || thereB b (targetOf w)) && (cl b at_.toNat).any ownIn)
def lostStep (b : List Int) (o : List Int) (a : Nat) : List Int := if secLikeB b ((a : Int) + 1) = true ∧ (o.length : Int) < ((headIn b).1.size + 7) / 8 then o ++ [(a : Int) + 1] else o
/-- LostIn. -/
def lostL (b : List Int) : List Int := (List.range ((rolesL b).length - 1)).foldl (lostStep b) []
def lostT (b : List Int) : List Int := (List.range 8).map (fun i => if i < (lostL b).length then entryOf ((lostL b).getD i 0) true else 0)
/-- Refound. -/
def refoundL (b : List Int) : List Int := if hasHead b = true ∧ manyN b < 64 then setCl (moreL b (lostT b)) 0 (hdW { headOf b with first := manyN b }) else []
def secW (b : List Int) (x : Int) : Bool := x == 0 || thereB b (targetOf x)
theorem sec_parts (b : List Int) (a : Int) : secLikeB b a = ((inB a 1 (((rolesL b).length : Int) - 1) && ((rolesL b).getD a.toNat 0 == 0)) && ((cl b a.toNat).all (secW b) && (cl b a.toNat).any ownIn)) := rfl
theorem roles_many {b : List Int} (h : 0 < (rolesL b).length) : hasHead b = true ∧ (rolesL b).length = manyN b := by
  unfold rolesL at h ⊢
  cases hh : hasHead b
  · rw [hh] at h; simp at h
  · rw [if_pos rfl, rolesC_length]; exact ⟨rfl, rfl⟩
theorem all_next (p : Int → Bool) (l : List Int) (k : Nat) (hk : k < l.length) (h : (l.take k).all p = true) : (l.take (k + 1)).all p = p (l.getD k 0) := by
  rw [List.take_succ_eq_append_getElem hk, List.all_append, h, List.getD_eq_getElem?_getD, List.getElem?_eq_getElem hk]; simp
theorem any_next (p : Int → Bool) (l : List Int) (k : Nat) (hk : k < l.length) : (l.take (k + 1)).any p = ((l.take k).any p || p (l.getD k 0)) := by
  rw [List.take_succ_eq_append_getElem hk, List.any_append, List.getD_eq_getElem?_getD, List.getElem?_eq_getElem hk]; simp
theorem all_fails (p : Int → Bool) (l : List Int) (k : Nat) (hk : k < l.length) (h : p (l.getD k 0) = false) : l.all p = false := by
  rw [List.all_eq_false]
  refine ⟨l.getD k 0, ?_, by rw [h]; simp⟩
  rw [List.getD_eq_getElem?_getD, List.getElem?_eq_getElem hk]
  exact List.getElem_mem hk

set_option maxRecDepth 100000 in
set_option maxHeartbeats 4000000 in
theorem specSecLike_any (A : Option Addr) (n c : Nat) (xs : List Int) (a : Int) (w : World) (h : Rd w w.heap.size A n xs) (hn : n ≤ 2097152) :
    Calls Try.prog 6 #[.slice A n c, .int .i64 a] w (RetB w (secLikeB xs a)) := by
  have HL := Lib.hid h.len
  go_enter Try.func6, Try.ntmps6
  go_wp2_with fail
  refine (specRolesIn_any A n c xs w h hn).mono ?_
  rintro e w1 ⟨G, ng, cg, rfl, oG, b1⟩
  have HS := Lib.hid (sec_parts xs a)
  have hlen := oG.len
  have h64 := rolesL_length (xs := xs)
  rw [hlen] at HS h64
  have HM := Lib.hid (fun h => roles_many (b := xs) h)
  rw [hlen] at HM
  have HG := Lib.hid oG
  clear oG hlen
  generalize rolesL xs = rl at *
  go_wp2_with fail
  refine (in_any _ _ _ _).mono ?_
  rintro e w' ⟨rfl, rfl⟩
  cases hi : inB a 1 ((ng : Int) - 1)
  · have HN : Hid (secLikeB xs a = false) := by rw [HS.out, hi]; exact rfl
    go_wp2_with fail
    go_ret
    exact RetB.mk HN.out.symm b1
  · obtain ⟨i1, i2⟩ := inB_true.1 hi
    obtain ⟨τ, rfl⟩ := Int.eq_ofNat_of_zero_le (show 0 ≤ a by omega)
    have hτ : τ < ng := by omega
    obtain ⟨hh, hmn⟩ := HM.out (by omega)
    rcases HG.out.form with ⟨_, h0, _⟩ | ⟨gr, rfl, g1, g2, g3, g4⟩
    · omega
    have hc := HG.out.cell hτ
    rw [Int.toNat_natCast] at HS
    generalize rl.getD τ 0 = rv at *
    by_cases hrv : rv = 0
    · subst hrv
      have d0 : ((0 : Int) != 0) = false := by simp
      have HE : Hid (secLikeB xs τ = ((cl xs τ).all (secW xs) && (cl xs τ).any ownIn)) := by rw [HS.out, hi]; exact rfl
      clear HS HM HG
      go_wp2_with fail
      refine (specCluster_any A n c τ xs w1 ((h.below b1).more b1.size) hn (by omega)).mono ?_
      rintro e w2 ⟨C, nc, cc, rfl, oC, b2⟩
      obtain rfl : 8 = nc := by have := oC.len; rw [cl_length] at this; exact this
      have b02 := below_more b1 b2 b1.size
      rcases oC.form with ⟨_, h0, _⟩ | ⟨gc, rfl, _, _, _, _⟩
      · omega
      have HC := Lib.hid (fun (j : Nat) (hj : j < 8) => oC.cell hj)
      have hl8 := cl_length xs τ
      clear oC b2
      generalize cl xs τ = ws at *
      go_wp2_with fail
      go_loop [7, 8] (fun v i => ∃ k : Nat, k ≤ 8 ∧ i = .int .i64 k ∧ v = .bool ((ws.take k).any ownIn) ∧ (ws.take k).all (secW xs) = true) (fun _ i => 8 - (intOf i).toNat)
      case atStart => exact ⟨0, by omega, rfl, rfl, rfl⟩
      case round =>
        obtain ⟨k, hk, rfl, rfl, ha⟩ := hrel
        by_cases hlt : k < 8
        · have hcell := HC.out k hlt
          have HA := Lib.hid (all_next (secW xs) ws k (by omega) ha)
          have HY := Lib.hid (any_next ownIn ws k (by omega))
          have HF := Lib.hid (all_fails (secW xs) ws k (by omega))
          clear ha
          generalize ws.getD k 0 = x at *
          generalize (ws.take k).any ownIn = bk at *
          by_cases hx : x = 0
          · subst hx
            have HA' : Hid ((ws.take (k + 1)).all (secW xs) = true) := by rw [HA.out]; exact rfl
            clear HA HF
            cases bk
            · go_wp2_with fail
              refine (specOwn_any _ _).mono ?_
              rintro e w' ⟨rfl, rfl⟩
              go_wp2_with fail
              go_round
              case rel => exact ⟨k + 1, by omega, by go_num, by rw [HY.out, Bool.false_or], HA'.out⟩
              case measure => simp [intOf]; omega
            · go_wp2_with fail
              go_round
              case rel => exact ⟨k + 1, by omega, by go_num, by rw [HY.out, Bool.true_or], HA'.out⟩
              case measure => simp [intOf]; omega
          · have dx : (x != 0) = true := by simpa using hx
            cases hth : thereB xs (targetOf x)
            · have HFF : Hid (ws.all (secW xs) = false) := HF.out (by unfold secW; rw [hth]; simp [hx])
              clear HA HF HY
              go_wp2_with fail
              refine (specTarget_any _ _).mono ?_
              rintro e w' ⟨rfl, rfl⟩
              go_wp2_with fail
              refine (specThere_any A n c xs _ _ HL.out hn).mono ?_
              rintro e w' ⟨rfl, rfl⟩
              rw [hth]
              go_wp2_with fail
              go_ret
              exact RetB.mk (by rw [HE.out, HFF.out, Bool.false_and]) b02
            · have HA' : Hid ((ws.take (k + 1)).all (secW xs) = true) := by rw [HA.out]; unfold secW; rw [hth]; exact Bool.or_true _
              clear HA HF
              cases bk
              · go_wp2_with fail
                refine (specTarget_any _ _).mono ?_
                rintro e w' ⟨rfl, rfl⟩
                go_wp2_with fail
                refine (specThere_any A n c xs _ _ HL.out hn).mono ?_
                rintro e w' ⟨rfl, rfl⟩
                rw [hth]
                go_wp2_with fail
                refine (specOwn_any _ _).mono ?_
                rintro e w' ⟨rfl, rfl⟩
                go_wp2_with fail
                go_round
                case rel => exact ⟨k + 1, by omega, by go_num, by rw [HY.out, Bool.false_or], HA'.out⟩
                case measure => simp [intOf]; omega
              · go_wp2_with fail
                refine (specTarget_any _ _).mono ?_
                rintro e w' ⟨rfl, rfl⟩
                go_wp2_with fail
                refine (specThere_any A n c xs _ _ HL.out hn).mono ?_
                rintro e w' ⟨rfl, rfl⟩
                rw [hth]
                go_wp2_with fail
                go_round
                case rel => exact ⟨k + 1, by omega, by go_num, by rw [HY.out, Bool.true_or], HA'.out⟩
                case measure => simp [intOf]; omega
        · obtain rfl : k = 8 := by omega
          have HA : Hid (ws.all (secW xs) = true) := by rw [List.take_of_length_le (by omega)] at ha; exact ha
          rw [List.take_of_length_le (by omega)]
          clear ha
          go_wp2_with fail
          go_ret
          exact RetB.mk (by rw [HE.out, HA.out, Bool.true_and]) b02
    · have d0 : (rv != 0) = true := by simpa using hrv
      have HN : Hid (secLikeB xs τ = false) := by rw [HS.out]; simp [hrv, Hid]
      clear HS HM HG
      go_wp2_with fail
      go_ret
      exact RetB.mk HN.out.symm b1
end Go.Proofs.Ytimbfilbojejiaa
