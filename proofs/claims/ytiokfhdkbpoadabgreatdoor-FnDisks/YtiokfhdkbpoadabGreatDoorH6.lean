/- What is stored of a sound image is what is counted: plain mathematics. Contents and names (chapter 10): plain functions, and that the model's Go functions compute them. Mild (chapter 11): a plain function, and that the model's Go function computes it. Scans (chapter 13): plain functions, and that the model's Go functions compute them. -/
import Derived.Test.YtiokfhdkbpoadabGreatDoorG4
import Derived.Test.YtiokfhdkbpoadabGreatDoorY2
import Derived.Test.YtiokfhdkbpoadabGreatDoorY5
import Derived.Test.YtiokfhdkbpoadabGreatDoorG2
import Derived.Test.YtiokfhdkbpoadabGreatDoorG3
namespace Go.Proofs.YtiokfhdkbpoadabGreatDoor
open Go.RowKit

theorem cd_none (st ct : List Int) : ∀ k : Nat, (List.range k).foldl (cdStep st ct) [] = [] → ∀ c, c < k → st.getD c 0 = ct.getD c 0
  | 0, _, c, hc => by omega
  | k + 1, h, c, hc => by
    rw [List.range_succ, List.foldl_append, List.foldl_cons, List.foldl_nil] at h
    unfold cdStep at h
    split at h
    · simp at h
    · split at h
      · simp at h
      · by_cases hk : c = k
        · subst hk; omega
        · exact cd_none st ct k h c (by omega)
theorem list64 {a b : List Int} (ha : a.length = 64) (hb : b.length = 64) (h : ∀ c, c < 64 → a.getD c 0 = b.getD c 0) : a = b := by
  apply List.ext_getElem?
  intro j
  by_cases hj : j < 64
  · have := h j hj
    rw [List.getD_eq_getElem?_getD, List.getD_eq_getElem?_getD, List.getElem?_eq_getElem (by omega), List.getElem?_eq_getElem (by omega), Option.getD_some, Option.getD_some] at this
    rw [List.getElem?_eq_getElem (by omega), List.getElem?_eq_getElem (by omega), this]
  · rw [List.getElem?_eq_none (by omega), List.getElem?_eq_none (by omega)]
theorem sound_stored {xs : List Int} (h : soundB xs = true) : storedL xs = countsL xs := by
  have hh := sound_head h
  have h5 := sound_d5 h
  unfold d5L at h5
  rw [List.append_eq_nil_iff] at h5
  obtain ⟨h4, _⟩ := h5
  unfold d4L at h4
  rw [List.append_eq_nil_iff] at h4
  have e1 : countsL xs = countsC (claimsC xs) := by unfold countsL; rw [if_pos hh]
  have e2 : (storedL xs).length = 64 := by unfold storedL; rw [if_pos hh, storedC_length]
  rw [e1]
  exact list64 e2 (counts_length _) (cd_none _ _ 64 h4.2)

/-- What is read. -/
def orZero (l : List Int) : List Int := if l = [] then List.replicate 8 0 else l
def contentL (b : List Int) (which g : Int) : List Int := if hasHead b = true ∧ inB which 0 ((shotsL b).length : Int) = true ∧ inB g 0 ((headOf b).size - 1) = true then orZero (tableL b (targetOf (entryAt b which g))) else []
def namesL (b : List Int) : List Int := (shotsL b).map (·.1)
theorem orZero_length {b : List Int} (t : Int) : (orZero (tableL b t)).length = 8 := by
  unfold orZero
  split
  · simp
  · rcases tableL_length b t with h | h
    · rename_i hn
      exact absurd (List.eq_nil_of_length_eq_zero h) hn
    · exact h
theorem names_length (b : List Int) : (namesL b).length ≤ 4 := by unfold namesL; rw [List.length_map]; exact shotsL_length b
theorem names_step (l : List (Int × Int)) (k : Nat) (hk : k < l.length) : (l.take (k + 1)).map (·.1) = (l.take k).map (·.1) ++ [(l.getD k (0, 0)).1] := by
  rw [List.take_succ_eq_append_getElem hk, List.map_append, List.getD_eq_getElem?_getD, List.getElem?_eq_getElem hk]
  rfl

set_option maxRecDepth 100000 in
set_option maxHeartbeats 2000000 in
theorem specNames_any (A : Option Addr) (n c : Nat) (xs : List Int) (w : World) (h : Rd w w.heap.size A n xs) (hn : n ≤ 2097152) :
    Calls Tryz.prog 13 #[.slice A n c] w (Ret w (namesL xs)) := by
  obtain ⟨i0, hi0, hz0, hz1, hz2⟩ := info_parts info2
  have b1 := (Below.refl w.heap.size w).alloc (Nat.le_refl _) (.cells #[] 2)
  have o1 := emptyV 2 1 w w.heap.size (w.heap.size + 1) w.heap.size (Nat.le_refl _) rfl (by omega)
  go_enter Tryz.func13, Tryz.ntmps13
  go_wp2_with fail
  refine (specShotsIn_any A n c xs _ ((h.below b1).more b1.size) hn).mono ?_
  rintro e w2 ⟨G, cg, rfl, oG, b2⟩
  have hs2 := b2.size
  have hsz : (w.alloc (.cells #[] 2)).heap.size = w.heap.size + 1 := by simp
  rw [hsz] at hs2
  have o2 := o1.below b2 (by omega)
  have b02 := below_more b1 b2 b1.size
  have HL : Hid (namesL xs = (shotsL xs).map (·.1)) := rfl
  have hll := shotsL_length xs
  have HG := Lib.hid oG
  have HZ := Lib.hid hsz
  clear hsz b1 b2 o1 oG
  generalize shotsL xs = l at *
  go_wp2_with fail
  go_loopw [3, 5] (fun v i wr => ∃ (k g' c' : Nat), k ≤ l.length ∧ i = .int .i64 k ∧ v = .slice (some ⟨g', 0, none⟩) k c' ∧
    OwV 2 1 wr w.heap.size wr.heap.size g' k c' (iv ((l.take k).map (·.1))) ∧ w2.grownBy wr (some w.heap.size) ∧ (g' = w.heap.size ∨ w2.heap.size ≤ g')) (fun _ i _ => l.length - (intOf i).toNat)
  case atStart => exact ⟨0, w.heap.size, 0, Nat.zero_le _, rfl, rfl, o2.more (Nat.le_refl _) (by omega), grown_refl _ _, .inl rfl⟩
  case round =>
    obtain ⟨k, g', c', hk, rfl, rfl, hok, hg, hat⟩ := hrel
    have AT := Lib.hid hat
    clear hat
    have sr := hg.size
    by_cases hlt : k < l.length
    · rcases HG.out.form with ⟨_, h0, _⟩ | ⟨g, rfl, g1, g2, g3, _⟩
      · omega
      have hgw : w.heap.size + 1 ≤ g := by rw [← HZ.out]; exact g1
      have e0 : wr.cell? ⟨g, k * 2, none⟩ = some (.int .i64 (l.getD k (0, 0)).1) := by
        refine hg.cell ?_ (fun e => by injection e with e; have : g = w.heap.size := e; omega)
        have := HG.out.cell (j := k * 2 + 0) (by omega)
        rw [sh_cell hlt (by omega)] at this
        exact this
      have HS := Lib.hid (names_step l k hlt)
      generalize (l.take k).map (·.1) = fs at *
      generalize (l.getD k (0, 0)).1 = x at *
      have HE : Hid ((l.take (k + 1)).map (·.1) = fs ++ [x]) := HS.out
      clear HS
      go_wp2_with (at_builtin; refine wpList_append_lit rfl (.tmp 15) (.tmp 21) 24 rfl 2 1 8 _ i0 Tryz.underlying24 hi0 hz0 hz1 hz2 rfl (by omega) (by omega) w.heap.size wr.heap.size g' k c' _ rfl hok #[.int .i64 x] 1 1 rfl rfl (by simp [Value.oneCell']) (by omega) (by omega) ?_; intro g3 cd w5 ho5 hgr hat _)
      go_roundw
      case rel =>
        refine ⟨k + 1, g3, cd, by omega, by go_num, rfl, ?_, grown_next hg AT.out hgr, by have := AT.out; omega⟩
        rw [HE.out, ← iv_one]
        exact ho5
      case measure => simp [intOf]; omega
    · obtain rfl : k = l.length := by omega
      go_wp2_with fail
      go_ret
      rw [List.take_length] at hok
      rw [HL.out]
      exact ⟨_, _, c', rfl, hok.toI, below_of_grown b02 hg (Nat.le_refl _)⟩

set_option maxRecDepth 100000 in
set_option maxHeartbeats 2000000 in
theorem specContent_any (A : Option Addr) (n c : Nat) (xs : List Int) (q g : Int) (w : World) (h : Rd w w.heap.size A n xs) (hn : n ≤ 2097152) :
    Calls Tryz.prog 14 #[.slice A n c, .int .i64 q, .int .i64 g] w (Ret w (contentL xs q g)) := by
  obtain ⟨i0, hi0, hz0, hz1, hz2⟩ := info_parts info2
  go_enter Tryz.func14, Tryz.ntmps14
  go_wp2_with fail
  refine (specHeadIn_any _ _ _ xs _ h hn).mono ?_
  rintro e w1 ⟨rfl, b1⟩
  generalize hr : headIn xs = r
  obtain ⟨⟨s, f, r, u, m⟩, is⟩ := r
  have HR := Lib.hid hr
  clear hr
  unfold hdV
  have b2 := b1.alloc b1.size (.cells #[.int .i64 s, .int .i64 f, .int .i64 r, .int .i64 u, .int .i64 m] 33)
  cases is
  · have HN : Hid (contentL xs q g = []) := by unfold contentL; rw [if_neg (fun e => by rw [(headIn_false HR.out).1] at e; cases e.1)]; exact rfl
    go_wp2_with fail
    go_ret
    rw [HN.out]
    exact Ret.emptyAt _ (by simp) b2
  · have HY := Lib.hid (headIn_true HR.out)
    have hall := headB_all (hasHead_ok HY.out.1)
    rw [HY.out.2] at hall
    obtain ⟨⟨z1, z2⟩, _⟩ := hall
    simp only at z1 z2
    have hsl := shotsL_length xs
    go_wp2_with fail
    refine (specShots_any A n c xs _ ((h.below b2).more b2.size) hn).mono ?_
    rintro e w3 ⟨g0, cg, rfl, oG, b3⟩
    have b03 := below_more b2 b3 b2.size
    have q0 : w3.cell? ⟨w1.heap.size, 0, none⟩ = some (.int .i64 s) := (b3.cell (by simp)).trans (by rw [World.cell?_alloc_new]; rfl)
    clear oG
    cases hq : inB q 0 ((shotsL xs).length : Int)
    · have HN : Hid (contentL xs q g = []) := by unfold contentL; rw [if_neg (fun e => by rw [hq] at e; cases e.2.1)]; exact rfl
      go_wp2_with fail
      refine (in_any _ _ _ _).mono ?_
      rintro e w' ⟨rfl, rfl⟩
      rw [hq]
      go_wp2_with fail
      go_ret
      rw [HN.out]
      exact Ret.emptyAt _ (by simp) b03
    · go_wp2_with fail
      refine (in_any _ _ _ _).mono ?_
      rintro e w' ⟨rfl, rfl⟩
      rw [hq]
      cases hi : inB g 0 (s - 1)
      · have HN : Hid (contentL xs q g = []) := by unfold contentL; rw [if_neg (fun e => by rw [HY.out.2, hi] at e; cases e.2.2)]; exact rfl
        go_wp2_with fail
        refine (in_any _ _ _ _).mono ?_
        rintro e w' ⟨rfl, rfl⟩
        rw [hi]
        go_wp2_with fail
        go_ret
        rw [HN.out]
        exact Ret.emptyAt _ (by simp) b03
      · have HN : Hid (contentL xs q g = orZero (tableL xs (targetOf (entryAt xs q g)))) := by unfold contentL; rw [if_pos ⟨HY.out.1, hq, by rw [HY.out.2]; exact hi⟩]; exact rfl
        go_wp2_with fail
        refine (in_any _ _ _ _).mono ?_
        rintro e w' ⟨rfl, rfl⟩
        rw [hi]
        go_wp2_with fail
        refine (specEntryAt_any A n c xs q g w3 ((h.below b03).more b03.size) hn).mono ?_
        rintro e w4 ⟨rfl, b4⟩
        have b04 := below_more b03 b4 b03.size
        go_wp2_with fail
        refine (specTarget_any _ _).mono ?_
        rintro e w' ⟨rfl, rfl⟩
        go_wp2_with fail
        refine (specTable_any A n c xs _ w4 ((h.below b04).more b04.size) hn).mono ?_
        rintro e w5 ⟨G, ng, cg', rfl, oG, b5⟩
        have b05 := below_more b04 b5 b04.size
        have HL := Lib.hid oG.len
        have h08 := tableL_length xs (targetOf (entryAt xs q g))
        rw [HL.out] at h08
        have HO := Lib.hid oG
        clear oG
        rcases h08 with h0 | h8
        · subst h0
          have hd : (((0 : Nat) : Int) == 0) = true := by simp
          go_wp2_with (at_make; refine wpList_make_full _ rfl _ _ 24 rfl w5.heap.size 2 i0 (.int .i64 0) 1 Tryz.underlying24 hi0 hz0 hz1 .i64 .i64 _ _ 8 rfl rfl rfl rfl (by rw [hz2]; omega) (by simp only [maxLen]; omega) (Nat.le_refl _) ?_; intro w6 hown hg; rw [made_iv] at hown)
          go_ret
          rw [HN.out]
          have hb6 : Below w5.heap.size w5 w6 := below_grown hg (Nat.le_refl _) (fun _ h => by cases h)
          have e : orZero (tableL xs (targetOf (entryAt xs q g))) = List.replicate 8 0 := by unfold orZero; rw [if_pos (List.eq_nil_of_length_eq_zero HL.out)]
          rw [e]
          exact Ret.of b05 hown hb6
        · subst h8
          have hd : (((8 : Nat) : Int) == 0) = false := by simp
          go_wp2_with fail
          go_ret
          rw [HN.out]
          have e : orZero (tableL xs (targetOf (entryAt xs q g))) = tableL xs (targetOf (entryAt xs q g)) := by unfold orZero; rw [if_neg (fun e => by have := HL.out; rw [e] at this; simp at this)]
          rw [e]
          exact ⟨G, 8, cg', rfl, HO.out.more b04.size (Nat.le_refl _), b05⟩

/-- Mild. -/
def mildK (d : Dc) : Bool := d.kind == 6 || d.kind == 7
def mildB (b : List Int) : Bool := hasHead b && (defectsL b).all mildK
theorem dc_cells {w : World} {B g : Nat} {l : List Dc} (h : RdV 3 w B (some ⟨g, 0, none⟩) l.length (l.flatMap dcV)) {k : Nat} (hk : k < l.length) : w.cell? ⟨g, k * 3, none⟩ = some (.int .i64 (l[k]).kind) := by
  obtain ⟨b, off, e, _, hc⟩ := h.2 (by omega)
  injection e with e
  injection e with e1 e2
  subst e1; subst e2
  have := hc (k * 3 + 0) (by omega)
  rw [Nat.zero_add, flat_get dcV 3 dcV_length l k 0 hk (by omega)] at this
  exact this
theorem defects_length (xs : List Int) : (defectsL xs).length ≤ 40000 := by
  unfold defectsL
  have h1 := looseL_length xs
  have h2 := wrongs_length xs
  have h3 := cntDefs_length (storedL xs) (countsC (claimsC xs))
  split
  · split
    · unfold d5L d4L d3L d2L d1L
      split <;> split <;> simp <;> omega
    · simp
  · simp

/-- SecondLike. -/
def secLikeB (b : List Int) (at_ : Int) : Bool := (inB at_ 1 (((rolesL b).length : Int) - 1) && ((rolesL b).getD at_.toNat 0 == 0)) && ((cl b at_.toNat).all (fun w => w == 0 || thereB b (targetOf w)) && (cl b at_.toNat).any ownIn)
def lostStep (b : List Int) (o : List Int) (a : Nat) : List Int := if secLikeB b ((a : Int) + 1) = true ∧ (o.length : Int) < ((headIn b).1.size + 7) / 8 then o ++ [(a : Int) + 1] else o
/-- LostIn. -/
def lostL (b : List Int) : List Int := (List.range ((rolesL b).length - 1)).foldl (lostStep b) []
def lostT (b : List Int) : List Int := (List.range 8).map (fun i => if i < (lostL b).length then entryOf ((lostL b).getD i 0) true else 0)
/-- Refound. -/
def refoundL (b : List Int) : List Int := if hasHead b = true ∧ manyN b < 64 then setCl (moreL b (lostT b)) 0 (hdW { headOf b with first := manyN b }) else []
def secW (b : List Int) (x : Int) : Bool := x == 0 || thereB b (targetOf x)
theorem sec_parts (b : List Int) (a : Int) : secLikeB b a = ((inB a 1 (((rolesL b).length : Int) - 1) && ((rolesL b).getD a.toNat 0 == 0)) && ((cl b a.toNat).all (secW b) && (cl b a.toNat).any ownIn)) := rfl
theorem roles_many {b : List Int} (h : 0 < (rolesL b).length) : hasHead b = true ∧ (rolesL b).length = manyN b := by
  unfold rolesL at h ⊢
  cases hh : hasHead b
  · rw [hh] at h; simp at h
  · rw [if_pos rfl, rolesC_length]; exact ⟨rfl, rfl⟩
theorem all_next (p : Int → Bool) (l : List Int) (k : Nat) (hk : k < l.length) (h : (l.take k).all p = true) : (l.take (k + 1)).all p = p (l.getD k 0) := by
  rw [List.take_succ_eq_append_getElem hk, List.all_append, h, List.getD_eq_getElem?_getD, List.getElem?_eq_getElem hk]; simp
theorem any_next (p : Int → Bool) (l : List Int) (k : Nat) (hk : k < l.length) : (l.take (k + 1)).any p = ((l.take k).any p || p (l.getD k 0)) := by
  rw [List.take_succ_eq_append_getElem hk, List.any_append, List.getD_eq_getElem?_getD, List.getElem?_eq_getElem hk]; simp
theorem all_fails (p : Int → Bool) (l : List Int) (k : Nat) (hk : k < l.length) (h : p (l.getD k 0) = false) : l.all p = false := by
  rw [List.all_eq_false]
  refine ⟨l.getD k 0, ?_, by rw [h]; simp⟩
  rw [List.getD_eq_getElem?_getD, List.getElem?_eq_getElem hk]
  exact List.getElem_mem hk

end Go.Proofs.YtiokfhdkbpoadabGreatDoor
