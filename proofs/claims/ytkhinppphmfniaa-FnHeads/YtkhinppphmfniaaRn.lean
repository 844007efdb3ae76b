/- Counting anew (Counted), the model's side. -/
import Derived.Test.YtkhinppphmfniaaRw
namespace Go.Proofs.Ytkhinppphmfniaa
open Go.RowKit

theorem addC_prefix (xs : List Int) (size : Int) (l : List Cm) (c : Cm) : l <+: addC xs size l c := List.prefix_append _ _
theorem c2_prefix (xs : List Int) (h : Hd) : c2C xs h <+: c6C xs h := by
  have h3 : c2C xs h <+: c3C xs h := by
    unfold c3C; split
    · exact tabFold_prefix _ _ _ _ _ _ _ _
    · exact List.prefix_refl _
  have h4 : c3C xs h <+: c4C xs h := by
    unfold c4C shotsC
    split
    · exact List.prefix_refl _
    · split
      · exact (addC_prefix _ _ _ _).trans (shotFold_prefix _ _ _ _)
      · exact addC_prefix _ _ _ _
  have h5 : c4C xs h <+: c5C xs h := foldl_prefix _ (fun l a => tabFold_prefix _ _ _ _ _ _ _ _) _ _
  have h6 : c5C xs h <+: c6C xs h := foldl_prefix _ (fun l a => datStep_prefix l a) _ _
  exact h3.trans (h4.trans (h5.trans h6))
/-- The claim of Refs is one of all. -/
theorem refs_claim (xs : List Int) : (⟨3, 0, 0, 0, (headOf xs).refs, goodB xs (headOf xs).size (c1C xs (headOf xs)) ⟨3, 0, 0, 0, (headOf xs).refs, false⟩⟩ : Cm) ∈ claimsC xs := by
  refine (c2_prefix xs (headOf xs)).subset ?_
  unfold c2C addC
  simp
theorem ready_head {xs : List Int} (h : readyB xs = true) : hasHead xs = true := by unfold readyB at h; rw [Bool.and_eq_true] at h; exact h.1
theorem ready_refs {xs : List Int} (h : readyB xs = true) (hr : (headOf xs).refs ≠ 0) : thereB xs (headOf xs).refs = true := by
  have hh := ready_head h
  have hc := refs_claim xs
  cases hg : goodB xs (headOf xs).size (c1C xs (headOf xs)) ⟨3, 0, 0, 0, (headOf xs).refs, false⟩
  · rw [hg] at hc
    unfold readyB at h
    rw [Bool.and_eq_true, List.all_eq_true] at h
    have hl : (⟨3, 0, 0, 0, (headOf xs).refs, false⟩ : Cm) ∈ looseL xs := by
      unfold looseL claimsL
      rw [hh, if_pos rfl, List.mem_filter]
      exact ⟨hc, rfl⟩
    have := h.2 _ hl
    rw [headIn_yes hh] at this
    simp at this
    exact absurd this hr
  · exact goodB_there hg

theorem hdW_length (h : Hd) : (hdW h).length = 8 := rfl
theorem hd_set {zs : List Int} {h : Hd} (hz : imgB zs = true) (h8 : zs.length % 8 = 0) (hpos : 0 < zs.length) (hb : headB h = true) :
    hasHead (setCl zs 0 (hdW h)) = true ∧ headOf (setCl zs 0 (hdW h)) = h ∧ (setCl zs 0 (hdW h)).length = zs.length := by
  have hl : (setCl zs 0 (hdW h)).length = zs.length := by rw [setCl_length h8 (by omega) (hdW_length h), if_neg (by omega)]
  have hall := headB_all hb
  have hw : ∀ x ∈ hdW h, wordB x = true := by
    intro x hx
    simp [hdW] at hx
    rw [wordB, inB_true]
    rcases hx with h | h | h | h | h | h | h | h <;> subst h <;> omega
  have hi : imgB (setCl zs 0 (hdW h)) = true := setCl_img hz hw (by rw [hl]; exact imgB_len hz)
  have hg : ∀ j, j < 8 → (setCl zs 0 (hdW h)).getD j 0 = (hdW h).getD j 0 := fun j hj => by
    rw [setCl_get (by omega) (hdW_length h), if_pos (by omega)]; simp
  have hho : headOf (setCl zs 0 (hdW h)) = h := by
    unfold headOf; rw [hg 2 (by omega), hg 3 (by omega), hg 4 (by omega), hg 5 (by omega), hg 6 (by omega)]; rfl
  refine ⟨?_, hho, hl⟩
  unfold hasHead
  have hne : (setCl zs 0 (hdW h)).length ≠ 0 := by omega
  rw [hho, hi, hg 0 (by omega), hg 1 (by omega), hg 7 (by omega), hb, decide_eq_true hne]
  rfl

/-- With a new table Refs, where there was none. -/
def refsL (xs : List Int) : List Int := setCl (moreL (whole xs) (List.replicate 8 0)) 0 (hdW { headOf xs with refs := manyN (whole xs) })
def countBase (xs : List Int) : Option (List Int) := if (headOf xs).refs = 0 then (if manyN (whole xs) < 64 then some (refsL xs) else none) else some (whole xs)
def countEnd : Option (List Int) → List Int
  | none => []
  | some zs => writeC zs
def countMid : Option (List Int) → List Int
  | none => []
  | some ys => countEnd (blocksL ys)
def countedL (xs : List Int) : List Int := if readyB xs = true then countMid (countBase xs) else []

theorem refsL_head {xs : List Int} (h : hasHead xs = true) (hm : manyN (whole xs) < 64) : hasHead (refsL xs) = true ∧ headOf (refsL xs) = { headOf xs with refs := manyN (whole xs) } ∧ (refsL xs).length = manyN xs * 8 + 8 := by
  obtain ⟨hw, hwo⟩ := head_whole h
  have hl := more_length (whole xs) (List.replicate 8 0) (by simp)
  rw [many_whole] at hl
  have hall := headB_all (hasHead_ok h)
  have hb : headB { headOf xs with refs := manyN (whole xs) } = true := by
    simp only [headB, wordB, Bool.and_eq_true, inB_true]
    omega
  obtain ⟨h1, h2, h3⟩ := hd_set (more_img (hasHead_img hw) zeros8 hm) (by rw [hl]; omega) (by rw [hl]; omega) hb
  exact ⟨h1, h2, h3.trans hl⟩
theorem there_many {xs ys : List Int} (h : manyN ys = manyN xs) (t : Int) : thereB ys t = thereB xs t := by unfold thereB; rw [h]

theorem Ret.emptyS {w w1 : World} (g : Nat) (hg : w1.heap.size = g) (hb : Below w.heap.size w w1) : Ret w [] (.returned (.slice (some ⟨g, 0, none⟩) 0 0)) (w1.alloc (.cells #[] 2)) := Ret.emptyAt g hg hb

set_option maxRecDepth 100000 in
set_option maxHeartbeats 8000000 in
theorem specCounted_any (A : Option Addr) (n cb : Nat) (xs : List Int) (w : World) (hr : Rd w w.heap.size A n xs) (hn : n ≤ 2097152) :
    Calls Try.prog 65 #[.slice A n cb] w (Ret w (countedL xs)) := by
  obtain ⟨i0, hi0, hz0, hz1, hz2⟩ := info_parts info2
  go_enter Try.func65, Try.ntmps65
  go_wp2_with fail
  refine (specHeadIn_any _ _ _ xs _ hr hn).mono ?_
  rintro e w1 ⟨rfl, b1⟩
  generalize hh : headIn xs = r
  obtain ⟨⟨s, f, r, u, m⟩, is⟩ := r
  have HR := Lib.hid hh
  clear hh
  unfold hdV
  have b2 := b1.alloc b1.size (.cells #[.int .i64 s, .int .i64 f, .int .i64 r, .int .i64 u, .int .i64 m] 26)
  have hbox : (w1.alloc (.cells #[.int .i64 s, .int .i64 f, .int .i64 r, .int .i64 u, .int .i64 m] 26)).heap[w1.heap.size]? = some (.cells #[.int .i64 s, .int .i64 f, .int .i64 r, .int .i64 u, .int .i64 m] 26 (0, 0)) := heap_alloc_new w1 _
  have hz : (w1.alloc (.cells #[.int .i64 s, .int .i64 f, .int .i64 r, .int .i64 u, .int .i64 m] 26)).heap.size = w1.heap.size + 1 := by simp
  have HZ := Lib.hid hz
  have HBX := Lib.hid hbox
  clear hz hbox
  go_wp2_with fail
  refine (specReady_any A n cb xs _ ((hr.below b2).more b2.size) hn).mono ?_
  rintro e w3 ⟨rfl, b3⟩
  have b03 := below_more b2 b3 b2.size
  have s3 := b3.size
  have hb1 := b1.size
  cases hq : readyB xs
  · have HN : Hid (countedL xs = []) := by unfold countedL; rw [hq]; exact rfl
    clear hq
    go_wp2_with fail
    go_ret
    rw [HN.out]
    exact Ret.emptyAt _ rfl b03
  have HQ := Lib.hid hq
  have hh := ready_head hq
  have his : is = true := by
    have e := HR.out
    rw [headIn_yes hh] at e
    cases e; rfl
  subst his
  have HHO := Lib.hid (headIn_true HR.out).2
  have HC : Hid (countedL xs = countMid (countBase xs)) := by unfold countedL; rw [hq]; exact rfl
  have HCB : Hid (countBase xs = if r = 0 then (if manyN (whole xs) < 64 then some (refsL xs) else none) else some (whole xs)) := by
    unfold countBase; rw [HHO.out]; exact rfl
  have hl512 := hasHead_len hh
  have hx := hr.len
  have hn512 : n ≤ 512 := by omega
  have HH := Lib.hid hh
  have hbx3 : w3.heap[w1.heap.size]? = some (.cells #[.int .i64 s, .int .i64 f, .int .i64 r, .int .i64 u, .int .i64 m] 26 (0, 0)) := (b3.block w1.heap.size (by have := HZ.out; omega)).trans HBX.out
  have HB3 := Lib.hid hbx3
  have s3' : w1.heap.size + 1 ≤ w3.heap.size := by have := HZ.out; omega
  have r3 := (hr.below b03).more b03.size
  clear hq hh hbx3 b3 b2 HBX HZ HR s3
  go_wp2_with fail
  refine (specWhole_any A n cb xs w3 r3 hn).mono ?_
  rintro e w4 ⟨g4, n4, c4, rfl, hc4, o4, b4⟩
  have b04 := below_more b03 b4 b03.size
  have s4 := b4.size
  have HB4 : Hid (w4.heap[w1.heap.size]? = some (.cells #[.int .i64 s, .int .i64 f, .int .i64 r, .int .i64 u, .int .i64 m] 26 (0, 0))) := (b4.block w1.heap.size (by omega)).trans HB3.out
  have hn4 := o4.len
  rw [whole_length] at hn4
  have hm4 : manyN xs * 8 ≤ 512 + 7 := by unfold manyN; omega
  have HN4 := Lib.hid hn4
  have q2 : w4.cell? ⟨w1.heap.size, 2, none⟩ = some (.int .i64 r) := by rw [cell_of_row w4 w1.heap.size 2 _ _ _ HB4.out]; rfl
  clear b4 hn4 HB3
  by_cases h0 : r = 0
  case' neg =>
    have hd : (r == 0) = false := by simpa using h0
    have HCB' : Hid (countBase xs = some (whole xs)) := by rw [HCB.out, if_neg h0]; exact rfl
    have HHy : Hid (hasHead (whole xs) = true) := (head_whole HH.out).1
    have HTy : Hid (thereB (whole xs) (headOf (whole xs)).refs = true) := by
      show _ = _
      rw [there_many (many_whole xs), (head_whole HH.out).2]
      exact ready_refs HQ.out (by rw [HHO.out]; exact h0)
    clear h0
    go_wp2_with fail
    have ry := o4.rd
    generalize whole xs = ys at *
    have b0y := b04
    clear b04
  case' pos =>
    subst h0
    go_wp2_with (at_make; refine wpList_make_full _ rfl _ _ 24 rfl w4.heap.size 2 i0 (.int .i64 0) 1 Try.underlying24 hi0 hz0 hz1 .i64 .i64 _ _ 8 rfl rfl rfl rfl (by rw [hz2]; omega) (by simp only [maxLen]; omega) (Nat.le_refl _) ?_; intro w5 hown hg5; rw [made_iv] at hown)
    have b5 : Below w4.heap.size w4 w5 := below_grown hg5 (Nat.le_refl _) (fun _ h => by cases h)
    have oz := zeros_ow hown
    have hltz := ow_lt oz
    clear hown hg5
    refine (specMore_any (some ⟨g4, 0, none⟩) n4 c4 (whole xs) (some ⟨w4.heap.size, 0, none⟩) 8 (List.replicate 8 0) w5 ((o4.rd.below b5).more b5.size) (oz.rd.more (by omega)) (by have := HN4.out; omega)).mono ?_
    have b05 := below_more b04 b5 b04.size
    have s5 := b5.size
    rintro e w6 (⟨h64, g6, n6, c6, rfl, hc6, o6, b6⟩ | ⟨h64, g6, rfl, b6⟩)
    case' inr =>
      have HN : Hid (countedL xs = []) := by rw [HC.out, HCB.out, if_pos trivial, if_neg (by omega)]; exact rfl
      go_wp2_with fail
      go_ret
      rw [HN.out]
      exact Ret.emptyAt _ rfl (below_more b05 b6 b05.size)
    have HCB' : Hid (countBase xs = some (refsL xs)) := by rw [HCB.out, if_pos trivial, if_pos h64]; exact rfl
    obtain ⟨hy1, hy2, hy3⟩ := refsL_head HH.out h64
    have HHy := Lib.hid hy1
    have HTy : Hid (thereB (refsL xs) (headOf (refsL xs)).refs = true) := by
      show _ = _
      rw [hy2, thereB, inB_true]
      have hm1 : manyN (refsL xs) = manyN xs + 1 := by show ((refsL xs).length + 7) / 8 = _; rw [hy3]; omega
      rw [hm1]
      have := many_whole xs
      have := whole_pos HH.out
      simp only
      omega
    have HYL : Hid (refsL xs = setCl (moreL (whole xs) (List.replicate 8 0)) 0 (hdW ⟨s, f, manyN (whole xs), u, m⟩)) := by unfold refsL; rw [HHO.out]; exact rfl
    have b06 := below_more b05 b6 b05.size
    have s6 := b6.size
    have HB6 : Hid (w6.heap[w1.heap.size]? = some (.cells #[.int .i64 s, .int .i64 f, .int .i64 0, .int .i64 u, .int .i64 m] 26 (0, 0))) := ((b6.block w1.heap.size (by omega)).trans (b5.block w1.heap.size (by omega))).trans HB4.out
    have hn6 := o6.len
    rw [more_length _ _ (by simp)] at hn6
    have HN6 := Lib.hid hn6
    have k0 : w6.cell? ⟨w1.heap.size, 0, none⟩ = some (.int .i64 s) := by rw [cell_of_row w6 w1.heap.size 0 _ _ _ HB6.out]; rfl
    have k1 : w6.cell? ⟨w1.heap.size, 1, none⟩ = some (.int .i64 f) := by rw [cell_of_row w6 w1.heap.size 1 _ _ _ HB6.out]; rfl
    have k2 : w6.cell? ⟨w1.heap.size, 2, none⟩ = some (.int .i64 0) := by rw [cell_of_row w6 w1.heap.size 2 _ _ _ HB6.out]; rfl
    have k3 : w6.cell? ⟨w1.heap.size, 3, none⟩ = some (.int .i64 u) := by rw [cell_of_row w6 w1.heap.size 3 _ _ _ HB6.out]; rfl
    have k4 : w6.cell? ⟨w1.heap.size, 4, none⟩ = some (.int .i64 m) := by rw [cell_of_row w6 w1.heap.size 4 _ _ _ HB6.out]; rfl
    have kf : w6.frozen? ⟨w1.heap.size, 2, none⟩ = false := frozen_of_row w6 w1.heap.size 2 _ _ HB6.out
    have b07 : Below w.heap.size w (w6.setCell ⟨w1.heap.size, 2, none⟩ (.int .i64 (manyN (whole xs)))) := b06.setCell hb1 _
    have o7 : Ow (w6.setCell ⟨w1.heap.size, 2, none⟩ (.int .i64 (manyN (whole xs)))) w5.heap.size w6.heap.size (some ⟨g6, 0, none⟩) n6 c6 (moreL (whole xs) (List.replicate 8 0)) := o6.keep fun q h1 h2 _ => Below.heap_setCell _ _ _ _ (by show q ≠ w1.heap.size; omega)
    have s7 : w6.heap.size ≤ (w6.setCell ⟨w1.heap.size, 2, none⟩ (.int .i64 (manyN (whole xs)))).heap.size := by simp [World.setCell]
    have hm64 := h64
    clear hn6 hy1 hy2 hy3 HB6 o6 b6 b5 oz o4 q2 HB4
    go_wp2_with fail
    generalize w6.setCell ⟨w1.heap.size, 2, none⟩ (.int .i64 (manyN (whole xs))) = w7 at *
    refine (specHdWords_any ⟨s, f, manyN (whole xs), u, m⟩ w7).mono ?_
    rintro e w8 ⟨g8, n8, c8, rfl, hc8, o8, b8⟩
    obtain rfl : 8 = n8 := o8.len
    have b08 := below_more b07 b8 b07.size
    have s8 := b8.size
    go_wp2_with fail
    refine (specWith_any g6 0 n6 c6 0 (moreL (whole xs) (List.replicate 8 0)) (hdW ⟨s, f, manyN (whole xs), u, m⟩) (some ⟨g8, 0, none⟩) c8 w8 ((o7.below b8 s7).rd.more (by omega)) o8.rd hc6 (by have := HN6.out; omega) (by have := HN6.out; omega) (by omega)).mono ?_
    rintro e w9 ⟨A9, n9, c9, rfl, o9, b9⟩
    rw [← HYL.out] at o9
    have b0y := below_more b08 b9 b08.size
    have ry := o9.rd
    clear o9 b9 o8 o7 b08 b07 b06 b05 b04
    generalize refsL xs = ys at *
    go_wp2_with fail
  all_goals
    have HE : Hid (countedL xs = countEnd (blocksL ys)) := by rw [HC.out, HCB'.out]; exact rfl
    refine (specBlocks14_any _ _ _ ys _ ry HHy.out HTy.out).mono ?_
    rintro e wa (⟨zs, A3, n3, c3, hb3, rfl, r3, hh3, b3⟩ | ⟨g3, hb3, rfl, b3⟩)
    · have HF : Hid (countedL xs = writeC zs) := by rw [HE.out, hb3]; exact rfl
      have b0a := below_more b0y b3 b0y.size
      clear hb3
      go_wp2_with fail
      refine (specWrite_any A3 n3 c3 zs wa r3 hh3).mono ?_
      rintro e wb ⟨gz, nz, cz, rfl, _, oz, bz⟩
      go_wp2_with fail
      go_ret
      rw [HF.out]
      exact ⟨_, _, _, rfl, oz.more b0a.size (Nat.le_refl _), below_more b0a bz b0a.size⟩
    · have HF : Hid (countedL xs = []) := by rw [HE.out, hb3]; exact rfl
      have b0a := below_more b0y b3 b0y.size
      clear hb3
      go_wp2_with fail
      go_ret
      rw [HF.out]
      exact Ret.emptyAt _ rfl b0a

end Go.Proofs.Ytkhinppphmfniaa
