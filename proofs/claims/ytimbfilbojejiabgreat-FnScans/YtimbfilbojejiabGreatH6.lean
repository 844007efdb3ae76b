/- What is stored of a sound image is what is counted: plain mathematics. Contents and names (chapter 10): plain functions, and that the model's Go functions compute them. Mild (chapter 11): a plain function, and that the model's Go function computes it. Scans (chapter 13): plain functions, and that the model's Go functions compute them. -/
import Derived.Test.YtimbfilbojejiabGreatG4
import Derived.Test.YtimbfilbojejiabGreatY2
import Derived.Test.YtimbfilbojejiabGreatY5
import Derived.Test.YtimbfilbojejiabGreatCmc
import Derived.Test.YtimbfilbojejiabGreatG3
namespace Go.Proofs.YtimbfilbojejiabGreat
open Go.RowKit

theorem cd_none (st ct : List Int) : ∀ k : Nat, (List.range k).foldl (cdStep st ct) [] = [] → ∀ c, c < k → st.getD c 0 = ct.getD c 0
  | 0, _, c, hc => by omega
  | k + 1, h, c, hc => by
    rw [List.range_succ, List.foldl_append, List.foldl_cons, List.foldl_nil] at h
    unfold cdStep at h
    split at h
    · simp at h
    · split at h
      · simp at h
      · by_cases hk : c = k
        · subst hk; omega
        · exact cd_none st ct k h c (by omega)
theorem list64 {a b : List Int} (ha : a.length = 64) (hb : b.length = 64) (h : ∀ c, c < 64 → a.getD c 0 = b.getD c 0) : a = b := by
  apply List.ext_getElem?
  intro j
  by_cases hj : j < 64
  · have := h j hj
    rw [List.getD_eq_getElem?_getD, List.getD_eq_getElem?_getD, List.getElem?_eq_getElem (by omega), List.getElem?_eq_getElem (by omega), Option.getD_some, Option.getD_some] at this
    rw [List.getElem?_eq_getElem (by omega), List.getElem?_eq_getElem (by omega), this]
  · rw [List.getElem?_eq_none (by omega), List.getElem?_eq_none (by omega)]
theorem sound_stored {xs : List Int} (h : soundB xs = true) : storedL xs = countsL xs := by
  have hh := sound_head h
  have h5 := sound_d5 h
  unfold d5L at h5
  rw [List.append_eq_nil_iff] at h5
  obtain ⟨h4, _⟩ := h5
  unfold d4L at h4
  rw [List.append_eq_nil_iff] at h4
  have e1 : countsL xs = countsC (claimsC xs) := by unfold countsL; rw [if_pos hh]
  have e2 : (storedL xs).length = 64 := by unfold storedL; rw [if_pos hh, storedC_length]
  rw [e1]
  exact list64 e2 (counts_length _) (cd_none _ _ 64 h4.2)

/-- What is read. -/
def orZero (l : List Int) : List Int := if l = [] then List.replicate 8 0 else l
def contentL (b : List Int) (which g : Int) : List Int := if hasHead b = true ∧ inB which 0 ((shotsL b).length : Int) = true ∧ inB g 0 ((headOf b).size - 1) = true then orZero (tableL b (targetOf (entryAt b which g))) else []
def namesL (b : List Int) : List Int := (shotsL b).map (·.1)
theorem orZero_length {b : List Int} (t : Int) : (orZero (tableL b t)).length = 8 := by
  unfold orZero
  split
  · simp
  · rcases tableL_length b t with h | h
    · rename_i hn
      exact absurd (List.eq_nil_of_length_eq_zero h) hn
    · exact h
theorem names_length (b : List Int) : (namesL b).length ≤ 4 := by unfold namesL; rw [List.length_map]; exact shotsL_length b
theorem names_step (l : List (Int × Int)) (k : Nat) (hk : k < l.length) : (l.take (k + 1)).map (·.1) = (l.take k).map (·.1) ++ [(l.getD k (0, 0)).1] := by
  rw [List.take_succ_eq_append_getElem hk, List.map_append, List.getD_eq_getElem?_getD, List.getElem?_eq_getElem hk]
  rfl

/-- Mild. -/
def mildK (d : Dc) : Bool := d.kind == 6 || d.kind == 7
def mildB (b : List Int) : Bool := hasHead b && (defectsL b).all mildK
theorem dc_cells {w : World} {B g : Nat} {l : List Dc} (h : RdV 3 w B (some ⟨g, 0, none⟩) l.length (l.flatMap dcV)) {k : Nat} (hk : k < l.length) : w.cell? ⟨g, k * 3, none⟩ = some (.int .i64 (l[k]).kind) := by
  obtain ⟨b, off, e, _, hc⟩ := h.2 (by omega)
  injection e with e
  injection e with e1 e2
  subst e1; subst e2
  have := hc (k * 3 + 0) (by omega)
  rw [Nat.zero_add, flat_get dcV 3 dcV_length l k 0 hk (by omega)] at this
  exact this
theorem defects_length (xs : List Int) : (defectsL xs).length ≤ 40000 := by
  unfold defectsL
  have h1 := looseL_length xs
  have h2 := wrongs_length xs
  have h3 := cntDefs_length (storedL xs) (countsC (claimsC xs))
  split
  · split
    · unfold d5L d4L d3L d2L d1L
      split <;> split <;> simp <;> omega
    · simp
  · simp

/-- SecondLike. -/
def secLikeB (b : List Int) (at_ : Int) : Bool := (inB at_ 1 (((rolesL b).length : Int) - 1) && ((rolesL b).getD at_.toNat 0 == 0)) && ((cl b at_.toNat).all (fun w => w == 0 || thereB b (targetOf w)) && (cl b at_.toNat).any ownIn)
def lostStep (b : List Int) (o : List Int) (a : Nat) : List Int := if secLikeB b ((a : Int) + 1) = true ∧ (o.length : Int) < ((headIn b).1.size + 7) / 8 then o ++ [(a : Int) + 1] else o
/-- LostIn. -/
def lostL (b : List Int) : List Int := (List.range ((rolesL b).length - 1)).foldl (lostStep b) []
def lostT (b : List Int) : List Int := (List.range 8).map (fun i => if i < (lostL b).length then entryOf ((lostL b).getD i 0) true else 0)
/-- Refound. -/
def refoundL (b : List Int) : List Int := if hasHead b = true ∧ manyN b < 64 then setCl (moreL b (lostT b)) 0 (hdW { headOf b with first := manyN b }) else []
def secW (b : List Int) (x : Int) : Bool := x == 0 || thereB b (targetOf x)
theorem sec_parts (b : List Int) (a : Int) : secLikeB b a = ((inB a 1 (((rolesL b).length : Int) - 1) && ((rolesL b).getD a.toNat 0 == 0)) && ((cl b a.toNat).all (secW b) && (cl b a.toNat).any ownIn)) := rfl
theorem roles_many {b : List Int} (h : 0 < (rolesL b).length) : hasHead b = true ∧ (rolesL b).length = manyN b := by
  unfold rolesL at h ⊢
  cases hh : hasHead b
  · rw [hh] at h; simp at h
  · rw [if_pos rfl, rolesC_length]; exact ⟨rfl, rfl⟩
theorem all_next (p : Int → Bool) (l : List Int) (k : Nat) (hk : k < l.length) (h : (l.take k).all p = true) : (l.take (k + 1)).all p = p (l.getD k 0) := by
  rw [List.take_succ_eq_append_getElem hk, List.all_append, h, List.getD_eq_getElem?_getD, List.getElem?_eq_getElem hk]; simp
theorem any_next (p : Int → Bool) (l : List Int) (k : Nat) (hk : k < l.length) : (l.take (k + 1)).any p = ((l.take k).any p || p (l.getD k 0)) := by
  rw [List.take_succ_eq_append_getElem hk, List.any_append, List.getD_eq_getElem?_getD, List.getElem?_eq_getElem hk]; simp
theorem all_fails (p : Int → Bool) (l : List Int) (k : Nat) (hk : k < l.length) (h : p (l.getD k 0) = false) : l.all p = false := by
  rw [List.all_eq_false]
  refine ⟨l.getD k 0, ?_, by rw [h]; simp⟩
  rw [List.getD_eq_getElem?_getD, List.getElem?_eq_getElem hk]
  exact List.getElem_mem hk

set_option maxRecDepth 100000 in
set_option maxHeartbeats 4000000 in
theorem specSecLike_any (A : Option Addr) (n c : Nat) (xs : List Int) (a : Int) (w : World) (h : Rd w w.heap.size A n xs) (hn : n ≤ 2097152) :
    Calls Tryz.prog 14 #[.slice A n c, .int .i64 a] w (RetB w (secLikeB xs a)) := by
  have HL := Lib.hid h.len
  go_enter Tryz.func14, Tryz.ntmps14
  go_wp2_with fail
  refine (specRolesIn_any A n c xs w h hn).mono ?_
  rintro e w1 ⟨G, ng, cg, rfl, oG, b1⟩
  have HS := Lib.hid (sec_parts xs a)
  have hlen := oG.len
  have h64 := rolesL_length (xs := xs)
  rw [hlen] at HS h64
  have HM := Lib.hid (fun h => roles_many (b := xs) h)
  rw [hlen] at HM
  have HG := Lib.hid oG
  clear oG hlen
  generalize rolesL xs = rl at *
  go_wp2_with fail
  refine (in_any _ _ _ _).mono ?_
  rintro e w' ⟨rfl, rfl⟩
  cases hi : inB a 1 ((ng : Int) - 1)
  · have HN : Hid (secLikeB xs a = false) := by rw [HS.out, hi]; exact rfl
    go_wp2_with fail
    go_ret
    exact RetB.mk HN.out.symm b1
  · obtain ⟨i1, i2⟩ := inB_true.1 hi
    obtain ⟨τ, rfl⟩ := Int.eq_ofNat_of_zero_le (show 0 ≤ a by omega)
    have hτ : τ < ng := by omega
    obtain ⟨hh, hmn⟩ := HM.out (by omega)
    rcases HG.out.form with ⟨_, h0, _⟩ | ⟨gr, rfl, g1, g2, g3, g4⟩
    · omega
    have hc := HG.out.cell hτ
    rw [Int.toNat_natCast] at HS
    generalize rl.getD τ 0 = rv at *
    by_cases hrv : rv = 0
    · subst hrv
      have d0 : ((0 : Int) != 0) = false := by simp
      have HE : Hid (secLikeB xs τ = ((cl xs τ).all (secW xs) && (cl xs τ).any ownIn)) := by rw [HS.out, hi]; exact rfl
      clear HS HM HG
      go_wp2_with fail
      refine (specCluster_any A n c τ xs w1 ((h.below b1).more b1.size) hn (by omega)).mono ?_
      rintro e w2 ⟨C, nc, cc, rfl, oC, b2⟩
      obtain rfl : 8 = nc := by have := oC.len; rw [cl_length] at this; exact this
      have b02 := below_more b1 b2 b1.size
      rcases oC.form with ⟨_, h0, _⟩ | ⟨gc, rfl, _, _, _, _⟩
      · omega
      have HC := Lib.hid (fun (j : Nat) (hj : j < 8) => oC.cell hj)
      have hl8 := cl_length xs τ
      clear oC b2
      generalize cl xs τ = ws at *
      go_wp2_with fail
      go_loop [7, 8] (fun v i => ∃ k : Nat, k ≤ 8 ∧ i = .int .i64 k ∧ v = .bool ((ws.take k).any ownIn) ∧ (ws.take k).all (secW xs) = true) (fun _ i => 8 - (intOf i).toNat)
      case atStart => exact ⟨0, by omega, rfl, rfl, rfl⟩
      case round =>
        obtain ⟨k, hk, rfl, rfl, ha⟩ := hrel
        by_cases hlt : k < 8
        · have hcell := HC.out k hlt
          have HA := Lib.hid (all_next (secW xs) ws k (by omega) ha)
          have HY := Lib.hid (any_next ownIn ws k (by omega))
          have HF := Lib.hid (all_fails (secW xs) ws k (by omega))
          clear ha
          generalize ws.getD k 0 = x at *
          generalize (ws.take k).any ownIn = bk at *
          by_cases hx : x = 0
          · subst hx
            have HA' : Hid ((ws.take (k + 1)).all (secW xs) = true) := by rw [HA.out]; exact rfl
            clear HA HF
            cases bk
            · go_wp2_with fail
              refine (specOwn_any _ _).mono ?_
              rintro e w' ⟨rfl, rfl⟩
              go_wp2_with fail
              go_round
              case rel => exact ⟨k + 1, by omega, by go_num, by rw [HY.out, Bool.false_or], HA'.out⟩
              case measure => simp [intOf]; omega
            · go_wp2_with fail
              go_round
              case rel => exact ⟨k + 1, by omega, by go_num, by rw [HY.out, Bool.true_or], HA'.out⟩
              case measure => simp [intOf]; omega
          · have dx : (x != 0) = true := by simpa using hx
            cases hth : thereB xs (targetOf x)
            · have HFF : Hid (ws.all (secW xs) = false) := HF.out (by unfold secW; rw [hth]; simp [hx])
              clear HA HF HY
              go_wp2_with fail
              refine (specTarget_any _ _).mono ?_
              rintro e w' ⟨rfl, rfl⟩
              go_wp2_with fail
              refine (specThere_any A n c xs _ _ HL.out hn).mono ?_
              rintro e w' ⟨rfl, rfl⟩
              rw [hth]
              go_wp2_with fail
              go_ret
              exact RetB.mk (by rw [HE.out, HFF.out, Bool.false_and]) b02
            · have HA' : Hid ((ws.take (k + 1)).all (secW xs) = true) := by rw [HA.out]; unfold secW; rw [hth]; exact Bool.or_true _
              clear HA HF
              cases bk
              · go_wp2_with fail
                refine (specTarget_any _ _).mono ?_
                rintro e w' ⟨rfl, rfl⟩
                go_wp2_with fail
                refine (specThere_any A n c xs _ _ HL.out hn).mono ?_
                rintro e w' ⟨rfl, rfl⟩
                rw [hth]
                go_wp2_with fail
                refine (specOwn_any _ _).mono ?_
                rintro e w' ⟨rfl, rfl⟩
                go_wp2_with fail
                go_round
                case rel => exact ⟨k + 1, by omega, by go_num, by rw [HY.out, Bool.false_or], HA'.out⟩
                case measure => simp [intOf]; omega
              · go_wp2_with fail
                refine (specTarget_any _ _).mono ?_
                rintro e w' ⟨rfl, rfl⟩
                go_wp2_with fail
                refine (specThere_any A n c xs _ _ HL.out hn).mono ?_
                rintro e w' ⟨rfl, rfl⟩
                rw [hth]
                go_wp2_with fail
                go_round
                case rel => exact ⟨k + 1, by omega, by go_num, by rw [HY.out, Bool.true_or], HA'.out⟩
                case measure => simp [intOf]; omega
        · obtain rfl : k = 8 := by omega
          have HA : Hid (ws.all (secW xs) = true) := by rw [List.take_of_length_le (by omega)] at ha; exact ha
          rw [List.take_of_length_le (by omega)]
          clear ha
          go_wp2_with fail
          go_ret
          exact RetB.mk (by rw [HE.out, HA.out, Bool.true_and]) b02
    · have d0 : (rv != 0) = true := by simpa using hrv
      have HN : Hid (secLikeB xs τ = false) := by rw [HS.out]; simp [hrv, Hid]
      clear HS HM HG
      go_wp2_with fail
      go_ret
      exact RetB.mk HN.out.symm b1

end Go.Proofs.YtimbfilbojejiabGreat
