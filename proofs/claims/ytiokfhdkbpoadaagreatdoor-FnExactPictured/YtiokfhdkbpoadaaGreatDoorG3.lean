/- Images that are changed: plain mathematics of whole, setCl and set. A new cluster behind the others (l14More), and whether an image may be counted (l14Ready): the model's side. Sound; counting anew (chapter 14): a new cluster (l14More), whether it is ready (l14Ready), which block lacks (l14Lacks): the model's side. Counting anew: which block lacks (l14Lacks), all that are needed (l14Blocks): the model's side. Counting anew: all blocks that are needed (l14Blocks), the model's side. Counting anew: the counts are written (l14Write), the model's side. Counting anew (Counted), the model's side. -/
import Derived.Test.YtiokfhdkbpoadaaGreatDoorG7
import Derived.Test.YtiokfhdkbpoadaaGreatDoorQ2
import Derived.Test.YtiokfhdkbpoadaaGreatDoorH0
namespace Go.Proofs.YtiokfhdkbpoadaaGreatDoor
open Go.RowKit

theorem imgB_iff {xs : List Int} : imgB xs = true ↔ (∀ x ∈ xs, wordB x = true) ∧ xs.length ≤ 512 := by
  unfold imgB wordsB
  rw [Bool.and_eq_true, List.all_eq_true, decide_eq_true_eq]
theorem wordB_zero : wordB 0 = true := rfl
theorem img_whole {xs : List Int} (h : imgB xs = true) : imgB (whole xs) = true := by
  rw [imgB_iff] at *
  refine ⟨?_, ?_⟩
  · intro x hx
    unfold whole at hx
    rw [List.mem_append] at hx
    rcases hx with hx | hx
    · exact h.1 x hx
    · have := List.eq_of_mem_replicate hx; subst this; rfl
  · rw [whole_length]; have := h.2; unfold manyN; omega
theorem many_whole (xs : List Int) : manyN (whole xs) = manyN xs := by
  show ((whole xs).length + 7) / 8 = _
  rw [whole_length]; omega
theorem cl_whole (xs : List Int) (a : Nat) : cl (whole xs) a = cl xs a := by
  unfold cl; exact f8_congr (fun j _ => whole_get xs _)
theorem headOf_congr {xs ys : List Int} (h : ∀ j, j < 8 → ys.getD j 0 = xs.getD j 0) : headOf ys = headOf xs := by
  unfold headOf; rw [h 2 (by omega), h 3 (by omega), h 4 (by omega), h 5 (by omega), h 6 (by omega)]
/-- The same first words: the same head. -/
theorem head_congr {xs ys : List Int} (h : ∀ j, j < 8 → ys.getD j 0 = xs.getD j 0) (hi : imgB ys = true) (hl : ys.length ≠ 0) (hh : hasHead xs = true) : hasHead ys = true := by
  unfold hasHead at *
  rw [headOf_congr h, h 0 (by omega), h 1 (by omega), h 7 (by omega), hi]
  simp at hh ⊢
  exact ⟨fun e => hl (by rw [e]; rfl), hh.2.2⟩
theorem whole_pos {xs : List Int} (h : hasHead xs = true) : 0 < manyN xs := by have := hasHead_len h; unfold manyN; omega
theorem head_whole {xs : List Int} (h : hasHead xs = true) : hasHead (whole xs) = true ∧ headOf (whole xs) = headOf xs := by
  have hc : ∀ j, j < 8 → (whole xs).getD j 0 = xs.getD j 0 := fun j _ => whole_get xs j
  refine ⟨head_congr hc (img_whole (hasHead_img h)) ?_ h, headOf_congr hc⟩
  rw [whole_length]; have := whole_pos h; omega

theorem setCl_length {zs ws : List Int} {a : Nat} (h8 : zs.length % 8 = 0) (ha : a * 8 ≤ zs.length) (hw : ws.length = 8) : (setCl zs a ws).length = if a * 8 = zs.length then zs.length + 8 else zs.length := by
  unfold setCl
  simp only [List.length_append, List.length_take, List.length_drop, hw]
  split <;> omega
theorem setCl_get {zs ws : List Int} {a j : Nat} (ha : a * 8 ≤ zs.length) (hw : ws.length = 8) : (setCl zs a ws).getD j 0 = if a * 8 ≤ j ∧ j < a * 8 + 8 then ws.getD (j - a * 8) 0 else zs.getD j 0 := by
  unfold setCl
  rw [List.getD_eq_getElem?_getD, List.getElem?_append, List.length_append, List.length_take, hw, Nat.min_eq_left ha]
  by_cases h1 : j < a * 8
  · rw [if_pos (by omega), List.getElem?_append_left (by simp; omega), if_neg (by omega), List.getElem?_take_of_lt h1, List.getD_eq_getElem?_getD]
  · by_cases h2 : j < a * 8 + 8
    · rw [if_pos h2, List.getElem?_append_right (by simp; omega), if_pos ⟨by omega, h2⟩, List.length_take, Nat.min_eq_left ha, List.getD_eq_getElem?_getD]
    · rw [if_neg h2, if_neg (by omega), List.getElem?_drop, List.getD_eq_getElem?_getD]
      congr 2
      omega
theorem setCl_img {zs ws : List Int} {a : Nat} (hz : imgB zs = true) (hw : ∀ x ∈ ws, wordB x = true) (hl : (setCl zs a ws).length ≤ 512) : imgB (setCl zs a ws) = true := by
  rw [imgB_iff] at *
  refine ⟨?_, hl⟩
  intro x hx
  unfold setCl at hx
  rw [List.mem_append, List.mem_append] at hx
  rcases hx with (hx | hx) | hx
  · exact hz.1 x (List.mem_of_mem_take hx)
  · exact hw x hx
  · exact hz.1 x (List.mem_of_mem_drop hx)
theorem set_img {zs : List Int} {j : Nat} {x : Int} (hz : imgB zs = true) (hx : wordB x = true) : imgB (zs.set j x) = true := by
  rw [imgB_iff] at *
  refine ⟨?_, by simpa using hz.2⟩
  intro y hy
  rcases List.mem_or_eq_of_mem_set hy with h | h
  · exact hz.1 y h
  · subst h; exact hx

/-- A new cluster behind the others. -/
def moreL (xs ws : List Int) : List Int := setCl (whole xs) (manyN xs) ws
theorem more_length (xs ws : List Int) (hw : ws.length = 8) : (moreL xs ws).length = manyN xs * 8 + 8 := by
  unfold moreL
  rw [setCl_length (by rw [whole_length]; omega) (by rw [whole_length]; exact Nat.le_refl _) hw, whole_length, if_pos rfl]
theorem more_many (xs ws : List Int) (hw : ws.length = 8) : manyN (moreL xs ws) = manyN xs + 1 := by
  show ((moreL xs ws).length + 7) / 8 = _
  rw [more_length xs ws hw]; omega
theorem more_get (xs ws : List Int) (hw : ws.length = 8) (j : Nat) : (moreL xs ws).getD j 0 = if manyN xs * 8 ≤ j then ws.getD (j - manyN xs * 8) 0 else xs.getD j 0 := by
  unfold moreL
  rw [setCl_get (by rw [whole_length]; exact Nat.le_refl _) hw, whole_get]
  by_cases h1 : manyN xs * 8 ≤ j
  · rw [if_pos h1]
    by_cases h2 : j < manyN xs * 8 + 8
    · rw [if_pos ⟨h1, h2⟩]
    · rw [if_neg (by omega), getD_past ws _ (by omega), getD_past xs _ (by unfold manyN at *; omega)]
  · rw [if_neg h1, if_neg (by omega)]
theorem more_img {xs ws : List Int} (h : imgB xs = true) (hw : eightB ws = true) (hm : manyN xs < 64) : imgB (moreL xs ws) = true := by
  have h8 := eightB_len hw
  have hww : ∀ x ∈ ws, wordB x = true := by
    simp [eightB] at hw
    have := hw.2
    unfold wordsB at this
    rw [List.all_eq_true] at this
    exact this
  refine setCl_img (img_whole h) hww ?_
  have := more_length xs ws h8
  unfold moreL at this
  omega
theorem more_head {xs ws : List Int} (h : hasHead xs = true) (hw : eightB ws = true) (hm : manyN xs < 64) : hasHead (moreL xs ws) = true ∧ headOf (moreL xs ws) = headOf xs := by
  have h8 := eightB_len hw
  have hp := whole_pos h
  have hc : ∀ j, j < 8 → (moreL xs ws).getD j 0 = xs.getD j 0 := fun j hj => by rw [more_get xs ws h8, if_neg (by omega)]
  refine ⟨head_congr hc (more_img (hasHead_img h) hw hm) ?_ h, headOf_congr hc⟩
  rw [more_length xs ws h8]; omega
theorem set_head {xs : List Int} {j : Nat} {x : Int} (h : hasHead xs = true) (hj : 8 ≤ j) (hx : wordB x = true) : hasHead (xs.set j x) = true ∧ headOf (xs.set j x) = headOf xs := by
  have hc : ∀ i, i < 8 → (xs.set j x).getD i 0 = xs.getD i 0 := fun i hi => by rw [getD_set, if_neg (by omega)]
  refine ⟨head_congr hc (set_img (hasHead_img h) hx) ?_ h, headOf_congr hc⟩
  have := hasHead_len h
  simp; intro e; rw [e] at this; simp at this
theorem set_many (xs : List Int) (j : Nat) (x : Int) : manyN (xs.set j x) = manyN xs := by unfold manyN; simp
theorem zeros8 : eightB (List.replicate 8 0) = true := by decide

theorem looseL_len (xs : List Int) : (looseL xs).length ≤ 1296 := by
  unfold looseL
  have h1 := List.length_filter_le (fun c : Cm => !c.good) (claimsL xs)
  have h2 := claimsL_length xs
  omega

/-- A new image, the number of its new cluster, and whether there was room. -/
def RetMore (w : World) (xs ws : List Int) (e : Ending) (w' : World) : Prop :=
  (manyN xs < 64 ∧ ∃ (g n c : Nat), e = .returned (.tuple #[.slice (some ⟨g, 0, none⟩) n c, .int .i64 (manyN xs), .bool true]) ∧ n ≤ c ∧ Ow w' w.heap.size w'.heap.size (some ⟨g, 0, none⟩) n c (moreL xs ws) ∧ Below w.heap.size w w') ∨
  (64 ≤ manyN xs ∧ ∃ g, e = .returned (.tuple #[.slice (some ⟨g, 0, none⟩) 0 0, .int .i64 0, .bool false]) ∧ Below w.heap.size w w')

set_option maxRecDepth 100000 in
set_option maxHeartbeats 1000000 in
theorem specMore_any (A : Option Addr) (n cb : Nat) (xs : List Int) (W : Option Addr) (cw : Nat) (ws : List Int) (w : World) (hr : Rd w w.heap.size A n xs) (hw : Rd w w.heap.size W 8 ws) (hn : n ≤ 1000) :
    Calls Tryz.prog 23 #[.slice A n cb, .slice W 8 cw] w (RetMore w xs ws) := by
  have hx := Lib.hid hr.len
  have hm : manyN xs ≤ 200 := by have := hx.out; unfold manyN; omega
  by_cases h64 : manyN xs < 64
  · have hd : decide ((64 : Int) ≤ (manyN xs : Int)) = false := by simp; omega
    have HW := Lib.hid (whole_length xs)
    have HM : Hid (moreL xs ws = setCl (whole xs) (manyN xs) ws) := rfl
    have HML := Lib.hid (more_length xs ws hw.len)
    go_enter Tryz.func23, Tryz.ntmps23
    go_wp2_with fail
    refine (specMany_any _ _ _ xs _ hx.out (by omega)).mono ?_
    rintro e w' ⟨rfl, rfl⟩
    go_wp2_with fail
    refine (specWhole_any A n cb xs w hr (by omega)).mono ?_
    rintro e w1 ⟨g1, n1, c1, rfl, hc1, o1, b1⟩
    have hl1 : Hid (n1 = manyN xs * 8) := (o1.len).symm.trans HW.out
    go_wp2_with fail
    refine (specWith_any g1 0 n1 c1 (manyN xs) (whole xs) ws W cw w1 o1.rd ((hw.below b1).more b1.size) hc1 (by have := hl1.out; omega) (by have := hl1.out; omega) (by have := hl1.out; omega)).mono ?_
    rintro e w2 ⟨A2, n2, c2, rfl, o2, b2⟩
    rw [← HM.out] at o2
    have hn2 := o2.len
    rw [HML.out] at hn2
    have hn2' : 8 ≤ n2 := by omega
    clear hn2
    rcases o2.form with ⟨_, h0, _⟩ | ⟨g2, rfl, k1, k2, k3, k4⟩
    · omega
    go_wp2_with fail
    go_ret3
    exact .inl ⟨h64, g2, n2, c2, rfl, k4, o2.more b1.size (Nat.le_refl _), below_more b1 b2 b1.size⟩
  · have hd : decide ((64 : Int) ≤ (manyN xs : Int)) = true := by simp; omega
    go_enter Tryz.func23, Tryz.ntmps23
    go_wp2_with fail
    refine (specMany_any _ _ _ xs _ hx.out (by omega)).mono ?_
    rintro e w' ⟨rfl, rfl⟩
    go_wp2_with fail
    go_ret3
    exact .inr ⟨by omega, w.heap.size, rfl, (Below.refl _ _).alloc (Nat.le_refl _) _⟩

def readyB (xs : List Int) : Bool := hasHead xs && (looseL xs).all (fun c => c.kind == 3 && (headIn xs).1.refs == 0)
theorem all_take {α : Type} (p : α → Bool) (l : List α) (k : Nat) (hk : k < l.length) (h : (l.take k).all p = true) : (l.take (k + 1)).all p = p l[k] := by
  rw [List.take_succ_eq_append_getElem hk, List.all_append, h]; simp
theorem all_not_at {α : Type} (p : α → Bool) (l : List α) (k : Nat) (hk : k < l.length) (h : p l[k] = false) : l.all p = false := by
  rw [List.all_eq_false]
  exact ⟨l[k], List.getElem_mem hk, by simp [h]⟩

set_option maxRecDepth 100000 in
set_option maxHeartbeats 4000000 in
theorem specReady_any (A : Option Addr) (n cb : Nat) (xs : List Int) (w : World) (hr : Rd w w.heap.size A n xs) (hn : n ≤ 2097152) :
    Calls Tryz.prog 83 #[.slice A n cb] w (RetB w (readyB xs)) := by
  go_enter Tryz.func83, Tryz.ntmps83
  go_wp2_with fail
  refine (specHeadIn_any _ _ _ xs _ hr hn).mono ?_
  rintro e w1 ⟨rfl, b1⟩
  have HRD : Hid (readyB xs = (hasHead xs && (looseL xs).all (fun c => c.kind == 3 && (headIn xs).1.refs == 0))) := rfl
  have HHH : Hid (hasHead xs = (headIn xs).2) := by
    cases h : hasHead xs
    · rw [headIn_no h]; exact rfl
    · rw [headIn_yes h]; exact rfl
  rw [HHH.out] at HRD
  generalize headIn xs = r at *
  obtain ⟨⟨s, f, r, u, m⟩, is⟩ := r
  unfold hdV
  have b2 := b1.alloc b1.size (.cells #[.int .i64 s, .int .i64 f, .int .i64 r, .int .i64 u, .int .i64 m] 31)
  have c2 : (w1.alloc (.cells #[.int .i64 s, .int .i64 f, .int .i64 r, .int .i64 u, .int .i64 m] 31)).cell? ⟨w1.heap.size, 2, none⟩ = some (.int .i64 r) := World.cell?_alloc_new _ _ _ _
  have hz : (w1.alloc (.cells #[.int .i64 s, .int .i64 f, .int .i64 r, .int .i64 u, .int .i64 m] 31)).heap.size = w1.heap.size + 1 := by simp
  have HZ := Lib.hid hz
  clear hz
  go_wp2_with fail
  refine (specLoose_any A n cb xs _ ((hr.below b2).more b2.size) hn).mono ?_
  rintro e w3 ⟨g, c, rfl, ol, b3⟩
  have q2 : w3.cell? ⟨w1.heap.size, 2, none⟩ = some (.int .i64 r) := (b3.cell (p := ⟨w1.heap.size, 2, none⟩) (by show w1.heap.size < _; have := HZ.out; omega)).trans c2
  have b03 := below_more b2 b3 b2.size
  have RL := ol.rd
  have hll := looseL_len xs
  clear ol b3 b2 c2 HZ
  generalize looseL xs = l at *
  go_wp2_with fail
  go_loop [6] (fun i => ∃ k : Nat, k ≤ l.length ∧ i = .int .i64 k ∧ (l.take k).all (fun c => c.kind == 3 && r == 0) = true) (fun i => l.length - (intOf i).toNat)
  case atStart => exact ⟨0, Nat.zero_le _, rfl, rfl⟩
  case round =>
    obtain ⟨k, hk, rfl, ha⟩ := hrel
    have HA := Lib.hid ha
    clear ha
    by_cases hlt : k < l.length
    · have hce := cm_cells RL hlt
      have hgd : l.getD k cm0 = l[k] := by simp [List.getD_eq_getElem?_getD, hlt]
      rw [hgd] at hce
      have HNx := Lib.hid (all_take (fun c => c.kind == 3 && r == 0) l k hlt HA.out)
      have HNo := Lib.hid (all_not_at (fun c => c.kind == 3 && r == 0) l k hlt)
      clear hgd
      generalize l[k] = x at *
      obtain ⟨xk, xf, xs', xp, xt, xg⟩ := x
      have e0 : w3.cell? ⟨g, k * 6, none⟩ = some (.int .i64 xk) := hce 0 (by omega)
      clear hce
      by_cases h3 : xk = 3
      · by_cases h0 : r = 0
        · have d1 : (xk != 3) = false := by simp [h3]
          have d2 : (r != 0) = false := by simp [h0]
          have HE : Hid ((l.take (k + 1)).all (fun c => c.kind == 3 && r == 0) = true) := by rw [HNx.out]; simp [h3, h0, Hid]
          clear HNx HNo h3 h0
          go_wp2_with fail
          go_round
          case rel => exact ⟨k + 1, by omega, by go_num, HE.out⟩
          case measure => simp [intOf]; omega
        · have d1 : (xk != 3) = false := by simp [h3]
          have d2 : (r != 0) = true := by simpa using h0
          have HE : Hid (readyB xs = false) := by rw [HRD.out, HNo.out (by simp [h0])]; exact Bool.and_false _
          clear HNx HNo h3 h0
          go_wp2_with fail
          go_ret
          exact RetB.mk HE.out.symm b03
      · have d1 : (xk != 3) = true := by simpa using h3
        have HE : Hid (readyB xs = false) := by rw [HRD.out, HNo.out (by simp [h3])]; exact Bool.and_false _
        clear HNx HNo h3
        go_wp2_with fail
        go_ret
        exact RetB.mk HE.out.symm b03
    · obtain rfl : k = l.length := by omega
      have HE : Hid (readyB xs = is) := by
        have := HA.out
        rw [List.take_length] at this
        rw [HRD.out, this]; exact Bool.and_true _
      go_wp2_with fail
      go_ret
      exact RetB.mk HE.out.symm b03

set_option maxHeartbeats 1000000 in
theorem specSound_any (A : Option Addr) (n cb : Nat) (xs : List Int) (w : World) (hr : Rd w w.heap.size A n xs) (hn : n ≤ 2097152) :
    Calls Tryz.prog 14 #[.slice A n cb] w (RetB w (soundB xs)) := by
  cases hi : imgB xs
  · have HE : Hid (soundB xs = false) := by unfold soundB; rw [hi]; exact rfl
    go_enter Tryz.func14, Tryz.ntmps14
    go_wp2_with fail
    refine (specImg_any _ _ _ xs _ _ hr hn).mono ?_
    rintro e w' ⟨rfl, rfl⟩
    rw [hi]
    go_wp2_with fail
    go_ret
    exact RetB.mk HE.out.symm (Below.refl _ _)
  · have HE : Hid (soundB xs = decide ((defectsL xs).length = 0)) := by unfold soundB; rw [hi]; exact Bool.true_and _
    have HI := Lib.hid hi
    clear hi
    go_enter Tryz.func14, Tryz.ntmps14
    go_wp2_with fail
    refine (specImg_any _ _ _ xs _ _ hr hn).mono ?_
    rintro e w' ⟨rfl, rfl⟩
    rw [HI.out]
    go_wp2_with fail
    refine (specDefects_any A n cb xs w hr hn).mono ?_
    rintro e w1 ⟨g, c, rfl, _, b1⟩
    by_cases h0 : (defectsL xs).length = 0
    · have hd : (((defectsL xs).length : Int) == 0) = true := by simpa using h0
      have HE2 : Hid (soundB xs = true) := by rw [HE.out]; exact decide_eq_true h0
      clear h0
      generalize (defectsL xs).length = q at *
      go_wp2_with fail
      go_ret
      exact RetB.mk HE2.out.symm b1
    · have hd : (((defectsL xs).length : Int) == 0) = false := by rw [beq_eq_false_iff_ne]; omega
      have HE2 : Hid (soundB xs = false) := by rw [HE.out]; exact decide_eq_false h0
      clear h0
      generalize (defectsL xs).length = q at *
      go_wp2_with fail
      go_ret
      exact RetB.mk HE2.out.symm b1

def lackAt (ct bs : List Int) (c : Nat) : Bool := decide (ct.getD c 0 ≠ 0) && decide (bs.getD (c / 8) 0 = 0)
def lacksC (ct bs : List Int) : Int := match (List.range 64).find? (lackAt ct bs) with
  | some c => ((c / 8 : Nat) : Int)
  | none => -1
def lacksL (xs : List Int) : Int := lacksC (countsC (claimsC xs)) (blocksC (claimsC xs))

theorem find_range {p : Nat → Bool} {n k : Nat} (hk : k < n) (h : (List.range k).find? p = none) (hp : p k = true) : (List.range n).find? p = some k := by
  have e : List.range n = List.range k ++ (List.range (n - k)).map (k + ·) := by
    rw [← List.range_add]; congr 1; omega
  rw [e, List.find?_append, h]
  have : List.range (n - k) = 0 :: (List.range (n - k - 1)).map (· + 1) := by
    rw [show n - k = (n - k - 1) + 1 by omega, List.range_succ_eq_map]; rfl
  rw [this]
  simp [hp]
theorem find_range_no {p : Nat → Bool} {k : Nat} (h : (List.range k).find? p = none) (hp : p k = false) : (List.range (k + 1)).find? p = none := by
  rw [List.range_succ, List.find?_append, h]; simp [hp]
theorem lacks_bound (ct bs : List Int) : lacksC ct bs < 0 ∨ (0 ≤ lacksC ct bs ∧ lacksC ct bs ≤ 7) := by
  unfold lacksC
  split
  · rename_i c hc
    have := List.mem_of_find?_eq_some hc
    rw [List.mem_range] at this
    right; omega
  · left; omega

set_option maxRecDepth 100000 in
set_option maxHeartbeats 4000000 in
theorem specLacks_any (A : Option Addr) (n cb : Nat) (xs : List Int) (w : World) (hr : Rd w w.heap.size A n xs) (hn : n ≤ 2097152) (hh : hasHead xs = true) :
    Calls Tryz.prog 112 #[.slice A n cb] w (RetI w (lacksL xs)) := by
  have HH := Lib.hid hh
  clear hh
  have HLK : Hid (lacksL xs = lacksC (countsC (claimsC xs)) (blocksC (claimsC xs))) := rfl
  go_enter Tryz.func112, Tryz.ntmps112
  go_wp2_with fail
  refine (specCounts_any A n cb xs w hr hn HH.out).mono ?_
  rintro e w1 ⟨gc, nc, c1, rfl, _, oc, b1⟩
  obtain rfl : 64 = nc := by have := oc.len; rw [counts_length] at this; exact this
  go_wp2_with fail
  refine (specBlocks_any A n cb xs w1 ((hr.below b1).more b1.size) hn HH.out).mono ?_
  rintro e w2 ⟨gb, nb, c2, rfl, _, ob, b2⟩
  obtain rfl : 8 = nb := by have := ob.len; rw [blocks_length] at this; exact this
  have oc2 := oc.below b2 (Nat.le_refl _)
  have b02 := below_more b1 b2 b1.size
  have HCC := Lib.hid (fun (j : Nat) (hj : j < 64) => oc2.cell hj)
  have HCB := Lib.hid (fun (j : Nat) (hj : j < 8) => ob.cell hj)
  clear oc oc2 ob b1 b2
  generalize countsC (claimsC xs) = ct at *
  generalize blocksC (claimsC xs) = bs at *
  go_wp2_with fail
  go_loop [5] (fun i => ∃ k : Nat, k ≤ 64 ∧ i = .int .i64 k ∧ (List.range k).find? (lackAt ct bs) = none) (fun i => 64 - (intOf i).toNat)
  case atStart => exact ⟨0, by omega, rfl, rfl⟩
  case round =>
    obtain ⟨k, hk, rfl, hf⟩ := hrel
    have HF := Lib.hid hf
    clear hf
    by_cases hlt : k < 64
    · have hcc := HCC.out k hlt
      have hcb := HCB.out (k / 8) (by omega)
      have HYes := Lib.hid (find_range hlt HF.out)
      have HNo := Lib.hid (find_range_no HF.out)
      have HP : Hid (lackAt ct bs k = (decide (ct.getD k 0 ≠ 0) && decide (bs.getD (k / 8) 0 = 0))) := rfl
      generalize ct.getD k 0 = x at *
      generalize bs.getD (k / 8) 0 = y at *
      by_cases h0 : x = 0
      · have d1 : (x != 0) = false := by simp [h0]
        have HE := Lib.hid (HNo.out (by rw [HP.out]; simp [h0]))
        clear HYes HNo HP h0
        go_wp2_with fail
        go_round
        case rel => exact ⟨k + 1, by omega, by go_num, HE.out⟩
        case measure => simp [intOf]; omega
      · have d1 : (x != 0) = true := by simpa using h0
        by_cases h1 : y = 0
        · have d2 : (y == 0) = true := by simpa using h1
          have HE : Hid (lacksL xs = ((k / 8 : Nat) : Int)) := by
            rw [HLK.out]; unfold lacksC; rw [HYes.out (by rw [HP.out]; simp [h0, h1])]; exact rfl
          clear HYes HNo HP h0 h1
          go_wp2_with fail
          go_ret
          exact RetI.mk (by rw [HE.out]; omega) b02
        · have d2 : (y == 0) = false := by simpa using h1
          have HE := Lib.hid (HNo.out (by rw [HP.out]; simp [h1]))
          clear HYes HNo HP h0 h1
          go_wp2_with fail
          go_round
          case rel => exact ⟨k + 1, by omega, by go_num, HE.out⟩
          case measure => simp [intOf]; omega
    · obtain rfl : k = 64 := by omega
      have HE : Hid (lacksL xs = -1) := by rw [HLK.out]; unfold lacksC; rw [HF.out]; exact rfl
      go_wp2_with fail
      go_ret
      exact RetI.mk HE.out.symm b02

/-- One block more. -/
def blockStep (refs : Nat) (xs : List Int) : List Int := (moreL xs (List.replicate 8 0)).set (refs * 8 + (lacksL xs).toNat) (manyN xs)
/-- All blocks that are needed; none for want of room. -/
def fixBlocks (refs : Nat) : Nat → List Int → Option (List Int)
  | 0, xs => if lacksL xs < 0 then some xs else none
  | k + 1, xs => if lacksL xs < 0 then some xs else (if 64 ≤ manyN xs then none else fixBlocks refs k (blockStep refs xs))
def blocksL (xs : List Int) : Option (List Int) := fixBlocks (headOf xs).refs.toNat 64 xs
theorem fix_done {refs : Nat} {xs : List Int} (h : lacksL xs < 0) : ∀ k, fixBlocks refs k xs = some xs
  | 0 => by simp [fixBlocks, h]
  | k + 1 => by simp [fixBlocks, h]
theorem fix_none {refs : Nat} {xs : List Int} (h : ¬ lacksL xs < 0) (h2 : 64 ≤ manyN xs) : ∀ k, fixBlocks refs k xs = none
  | 0 => by simp [fixBlocks, h]
  | k + 1 => by simp [fixBlocks, h, h2]
theorem fix_step {refs : Nat} {xs : List Int} (h : ¬ lacksL xs < 0) (h2 : manyN xs < 64) (k : Nat) : fixBlocks refs (k + 1) xs = fixBlocks refs k (blockStep refs xs) := by
  simp [fixBlocks, h]; omega
theorem block_head {refs : Nat} {xs : List Int} (h : hasHead xs = true) (hm : manyN xs < 64) (hr : 1 ≤ refs) : hasHead (blockStep refs xs) = true ∧ headOf (blockStep refs xs) = headOf xs := by
  obtain ⟨h1, h2⟩ := more_head h zeros8 hm
  obtain ⟨h3, h4⟩ := set_head (j := refs * 8 + (lacksL xs).toNat) (x := (manyN xs : Int)) h1 (by omega) (inB_true.2 (by omega))
  exact ⟨h3, h4.trans h2⟩
theorem block_many {refs : Nat} {xs : List Int} : manyN (blockStep refs xs) = manyN xs + 1 := by
  unfold blockStep; rw [set_many, more_many _ _ (by simp)]

/-- An image with room for its blocks; or nothing. -/
def RetBk (w : World) (r : Option (List Int)) (e : Ending) (w' : World) : Prop :=
  (∃ ys A n c, r = some ys ∧ e = .returned (.tuple #[.slice A n c, .bool true]) ∧ Rd w' w'.heap.size A n ys ∧ hasHead ys = true ∧ Below w.heap.size w w') ∨
  (∃ g, r = none ∧ e = .returned (.tuple #[.slice (some ⟨g, 0, none⟩) 0 0, .bool false]) ∧ Below w.heap.size w w')

def BkRel (w : World) (bx refs : Nat) (R : Option (List Int)) (v s : Value) (wr : World) : Prop :=
  ∃ (ys : List Int) (fuel : Nat) (A : Option Addr) (n c : Nat), v = .slice A n c ∧ s = .int .i64 (lacksL ys) ∧ Rd wr wr.heap.size A n ys ∧ hasHead ys = true ∧ fixBlocks refs fuel ys = R ∧ 64 ≤ fuel + manyN ys ∧ refs < manyN ys ∧ Below w.heap.size w wr ∧ wr.cell? ⟨bx, 2, none⟩ = some (.int .i64 refs) ∧ bx < wr.heap.size

set_option maxRecDepth 100000 in
set_option maxHeartbeats 8000000 in
theorem specBlocks14_any (A : Option Addr) (n cb : Nat) (xs : List Int) (w : World) (hr : Rd w w.heap.size A n xs) (hh : hasHead xs = true) (ht : thereB xs (headOf xs).refs = true) :
    Calls Tryz.prog 84 #[.slice A n cb] w (RetBk w (blocksL xs)) := by
  obtain ⟨i0, hi0, hz0, hz1, hz2⟩ := info_parts info2
  have hx := Lib.hid hr.len
  have HH := Lib.hid hh
  have hlen := hasHead_len hh
  have hn : n ≤ 512 := by have := hx.out; omega
  have HR : Hid (blocksL xs = fixBlocks (headOf xs).refs.toNat 64 xs) := rfl
  have HI := Lib.hid (headIn_yes hh)
  clear hh
  go_enter Tryz.func84, Tryz.ntmps84
  go_wp2_with fail
  refine (specHeadIn_any _ _ _ xs _ hr (by omega)).mono ?_
  rintro e w1 ⟨rfl, b1⟩
  rw [HI.out]
  generalize headOf xs = h at *
  obtain ⟨s, f, r, u, m⟩ := h
  obtain ⟨t1, t2⟩ := there_lt ht
  simp only at t1 t2
  obtain ⟨refs, rfl⟩ := Int.eq_ofNat_of_zero_le (show 0 ≤ r by omega)
  rw [Int.toNat_natCast] at HR
  clear ht
  unfold hdV
  have b2 := b1.alloc b1.size (.cells #[.int .i64 s, .int .i64 f, .int .i64 refs, .int .i64 u, .int .i64 m] 31)
  have c2 : (w1.alloc (.cells #[.int .i64 s, .int .i64 f, .int .i64 refs, .int .i64 u, .int .i64 m] 31)).cell? ⟨w1.heap.size, 2, none⟩ = some (.int .i64 refs) := World.cell?_alloc_new _ _ _ _
  have hz : (w1.alloc (.cells #[.int .i64 s, .int .i64 f, .int .i64 refs, .int .i64 u, .int .i64 m] 31)).heap.size = w1.heap.size + 1 := by simp
  have HZ := Lib.hid hz
  clear hz
  go_wp2_with fail
  refine (specLacks_any A n cb xs _ ((hr.below b2).more b2.size) (by omega) HH.out).mono ?_
  rintro e w3 ⟨rfl, b3⟩
  have q2 : w3.cell? ⟨w1.heap.size, 2, none⟩ = some (.int .i64 refs) := (b3.cell (p := ⟨w1.heap.size, 2, none⟩) (by show w1.heap.size < _; have := HZ.out; omega)).trans c2
  have hbx : w1.heap.size < w3.heap.size := by have := b3.size; have := HZ.out; omega
  have b03 := below_more b2 b3 b2.size
  have r3 := (hr.below b03).more b03.size
  clear b3 b2 c2 HZ
  generalize blocksL xs = R at *
  have HREL : Hid (BkRel w w1.heap.size refs R (.slice A n cb) (.int .i64 (lacksL xs)) w3) := ⟨xs, 64, A, n, cb, rfl, rfl, r3, HH.out, HR.out.symm, by omega, by omega, b03, q2, hbx⟩
  clear q2 r3 b03 HR
  go_wp2_with fail
  go_loopw [0, 6] (fun v s wr => BkRel w w1.heap.size refs R v s wr) (fun v _ _ => 1000 - lenV v)
  case atStart => exact HREL.out
  case round =>
    obtain ⟨ys, fuel, A2, n2, c2, rfl, rfl, hr2, hh2, hfix, hfu, hrm, hb, q2, hbxr⟩ := hrel
    have hlen2 := hasHead_len hh2
    have hl2 := hr2.len
    have hn2 : n2 ≤ 512 := by omega
    have HL2 := Lib.hid hl2
    have HH2 := Lib.hid hh2
    have HF2 := Lib.hid hfix
    have hmm : n2 ≤ manyN ys * 8 := by unfold manyN; omega
    clear hh2 hfix hl2 HREL
    rcases lacks_bound (countsC (claimsC ys)) (blocksC (claimsC ys)) with hneg | hpos
    · have hneg' : lacksL ys < 0 := hneg
      have HD := Lib.hid (fix_done (refs := refs) hneg' fuel)
      have hd : decide (0 ≤ lacksL ys) = false := by simp; omega
      clear hneg hneg'
      generalize lacksL ys = q at *
      go_wp2_with fail
      go_ret2
      exact .inl ⟨ys, A2, n2, c2, HF2.out.symm.trans HD.out, rfl, hr2, HH2.out, hb⟩
    · have hp' : 0 ≤ lacksL ys ∧ lacksL ys ≤ 7 := hpos
      have HNeg : Hid (¬ lacksL ys < 0) := by show ¬ _; omega
      have HST := Lib.hid (fun h2 k => fix_step (refs := refs) (xs := ys) HNeg.out h2 k)
      have HNN := Lib.hid (fun h2 => fix_none (refs := refs) (xs := ys) HNeg.out h2 fuel)
      have HBS : Hid (blockStep refs ys = (moreL ys (List.replicate 8 0)).set (refs * 8 + (lacksL ys).toNat) (manyN ys)) := rfl
      clear hpos
      obtain ⟨σ, hσ⟩ := Int.eq_ofNat_of_zero_le hp'.1
      have hσ7 : σ ≤ 7 := by omega
      rw [hσ, Int.toNat_natCast] at HBS
      rw [hσ]
      clear HNeg hp' hσ
      have hd : decide ((0 : Int) ≤ (σ : Int)) = true := by simp
      go_wp2_with (at_make; refine wpList_make_full _ rfl _ _ 22 rfl wr.heap.size 2 i0 (.int .i64 0) 1 Tryz.underlying22 hi0 hz0 hz1 .i64 .i64 _ _ 8 rfl rfl rfl rfl (by rw [hz2]; omega) (by simp only [maxLen]; omega) (Nat.le_refl _) ?_; intro w4 hown hg4; rw [made_iv] at hown)
      have b4 : Below wr.heap.size wr w4 := below_grown hg4 (Nat.le_refl _) (fun _ h => by cases h)
      have oz := zeros_ow hown
      have hltz := ow_lt oz
      clear hown hg4
      refine (specMore_any A2 n2 c2 ys (some ⟨wr.heap.size, 0, none⟩) 8 (List.replicate 8 0) w4 ((hr2.below b4).more b4.size) (oz.rd.more (by omega)) (by omega)).mono ?_
      rintro e w5 (⟨h64, g5, n5, c5, rfl, hc5, o5, b5⟩ | ⟨h64, g5, rfl, b5⟩)
      · have hn5 := o5.len
        rw [more_length _ _ (by simp)] at hn5
        have HN5 := Lib.hid hn5
        have hidx : refs * 8 + σ < n5 := by omega
        have hnn : n2 < n5 := by omega
        clear hn5
        have hco := o5.cell hidx
        have hfo := o5.free (refs * 8 + σ)
        have HSt := Lib.hid (o5.set (refs * 8 + σ) (manyN ys))
        have b45 := below_more b4 b5 b4.size
        have q5 := (b45.cell (p := ⟨w1.heap.size, 2, none⟩) hbxr).trans q2
        have hs45 := b45.size
        have hk5 : wr.heap.size ≤ g5 := by
          rcases o5.form with ⟨h, _⟩ | ⟨x, hx, h1, h2, _⟩
          · cases h
          · injection hx with hx; injection hx with hx; have := b4.size; omega
        have hr64 : refs < 64 := by omega
        go_wp2_with fail
        obtain ⟨o6, hg6⟩ := HSt.out
        rw [← HBS.out] at o6
        obtain ⟨hh6, _⟩ := block_head (refs := refs) HH2.out h64 (by omega)
        have b06 : Below w.heap.size w (w5.setCell ⟨g5, refs * 8 + σ, none⟩ (.int .i64 (manyN ys))) := (hb.trans (b45.mono hb.size)).grown hg6 (by have := hb.size; omega) (fun q e => by cases e; have := hb.size; omega)
        have q6 : (w5.setCell ⟨g5, refs * 8 + σ, none⟩ (.int .i64 (manyN ys))).cell? ⟨w1.heap.size, 2, none⟩ = some (.int .i64 refs) := hg6.cell q5 (fun e => by injection e with e; have : w1.heap.size = g5 := e; omega)
        have hz6 : w5.heap.size ≤ (w5.setCell ⟨g5, refs * 8 + σ, none⟩ (.int .i64 (manyN ys))).heap.size := hg6.size
        have r6 := o6.rd.more hz6
        clear hg6 HSt o5 q5 hco hfo
        generalize w5.setCell ⟨g5, refs * 8 + σ, none⟩ (.int .i64 (manyN ys)) = w6 at *
        refine (specLacks_any (some ⟨g5, 0, none⟩) n5 c5 (blockStep refs ys) w6 r6 (by have := HN5.out; omega) hh6).mono ?_
        rintro e w7 ⟨rfl, b7⟩
        go_wp2_with fail
        go_roundw
        case rel =>
          obtain ⟨fu, rfl⟩ : ∃ fu, fuel = fu + 1 := ⟨fuel - 1, by omega⟩
          have hm1 := block_many (refs := refs) (xs := ys)
          exact ⟨blockStep refs ys, fu, some ⟨g5, 0, none⟩, n5, c5, rfl, rfl, (r6.below b7).more b7.size, hh6, by rw [← HF2.out, HST.out h64 fu], by omega, by omega, b06.trans (b7.mono (by have := b06.size; omega)), (b7.cell (p := ⟨w1.heap.size, 2, none⟩) (by show w1.heap.size < _; omega)).trans q6, by have := b7.size; omega⟩
        case measure => simp [lenV]; omega
      · go_wp2_with fail
        go_ret2
        refine .inr ⟨w5.heap.size, HF2.out.symm.trans (HNN.out h64), rfl, ?_⟩
        exact (hb.trans ((below_more b4 b5 b4.size).mono (by have := hb.size; omega))).alloc (by have := hb.size; have := b4.size; have := b5.size; omega) _

def wtStep (ct bs : List Int) (o : List Int) (c : Nat) : List Int := if bs.getD (c / 8) 0 ≠ 0 then o.set ((bs.getD (c / 8) 0).toNat * 8 + c % 8) (ct.getD c 0) else o
def wtTo (xs ct bs : List Int) (k : Nat) : List Int := (List.range k).foldl (wtStep ct bs) (whole xs)
/-- Its counts are written. -/
def writeC (xs : List Int) : List Int := wtTo xs (countsC (claimsC xs)) (blocksC (claimsC xs)) 64
theorem wt_length (xs ct bs : List Int) (k : Nat) : (wtTo xs ct bs k).length = manyN xs * 8 := by
  unfold wtTo
  induction k with
  | zero => exact whole_length xs
  | succ k ih =>
    rw [range_fold_s]
    unfold wtStep
    split
    · rw [List.length_set]; exact ih
    · exact ih

def WtRel (w2 : World) (lo hi g n c : Nat) (xs ct bs : List Int) (i : Value) (wr : World) : Prop :=
  ∃ k : Nat, k ≤ 64 ∧ i = .int .i64 k ∧ Ow wr lo hi (some ⟨g, 0, none⟩) n c (wtTo xs ct bs k) ∧ w2.grownBy wr (some g)

set_option maxRecDepth 100000 in
set_option maxHeartbeats 8000000 in
theorem specWrite_any (A : Option Addr) (n cb : Nat) (xs : List Int) (w : World) (hr : Rd w w.heap.size A n xs) (hh : hasHead xs = true) :
    Calls Tryz.prog 85 #[.slice A n cb] w (RetS w (writeC xs)) := by
  have hx := Lib.hid hr.len
  have hlen := hasHead_len hh
  have hn : n ≤ 512 := by have := hx.out; omega
  have hmany := manyN_le (hasHead_img hh)
  have HH := Lib.hid hh
  have HWC : Hid (writeC xs = wtTo xs (countsC (claimsC xs)) (blocksC (claimsC xs)) 64) := rfl
  clear hh
  go_enter Tryz.func85, Tryz.ntmps85
  go_wp2_with fail
  refine (specWhole_any A n cb xs w hr (by omega)).mono ?_
  rintro e w1 ⟨g, n1, c1, rfl, hc1, o1, b1⟩
  have hgl : w.heap.size ≤ g ∧ g < w1.heap.size := by
    rcases o1.form with ⟨h, _⟩ | ⟨x, hx, h1, h2, _⟩
    · cases h
    · injection hx with hx; injection hx with hx; omega
  obtain rfl : manyN xs * 8 = n1 := by have := o1.len; rw [whole_length] at this; exact this
  go_wp2_with fail
  refine (specCounts_any A n cb xs w1 ((hr.below b1).more b1.size) (by omega) HH.out).mono ?_
  rintro e w2 ⟨gc, nc, c2, rfl, _, oc, b2⟩
  obtain rfl : 64 = nc := by have := oc.len; rw [counts_length] at this; exact this
  have hgc : w1.heap.size ≤ gc ∧ gc < w2.heap.size := by
    rcases oc.form with ⟨h, _⟩ | ⟨x, hx, h1, h2, _⟩
    · cases h
    · injection hx with hx; injection hx with hx; omega
  have b02 := below_more b1 b2 b1.size
  have o2 := o1.below b2 (Nat.le_refl _)
  go_wp2_with fail
  refine (specBlocks_any A n cb xs w2 ((hr.below b02).more b02.size) (by omega) HH.out).mono ?_
  rintro e w3 ⟨gb, nb, c3, rfl, _, ob, b3⟩
  obtain rfl : 8 = nb := by have := ob.len; rw [blocks_length] at this; exact this
  have hgb : w2.heap.size ≤ gb ∧ gb < w3.heap.size := by
    rcases ob.form with ⟨h, _⟩ | ⟨x, hx, h1, h2, _⟩
    · cases h
    · injection hx with hx; injection hx with hx; omega
  have b03 := below_more b02 b3 b02.size
  have s2 := b2.size
  have s3 := b3.size
  have o3 := o2.below b3 s2
  have oc3 := oc.below b3 (Nat.le_refl _)
  have HCC := Lib.hid (fun (j : Nat) (hj : j < 64) => oc3.cell hj)
  have HCB := Lib.hid (fun (j : Nat) (hj : j < 8) => ob.cell hj)
  have HTB := Lib.hid (blocks_there xs)
  clear oc oc3 ob b1 b2 b3 o1 o2 b02
  generalize countsC (claimsC xs) = ct at *
  generalize blocksC (claimsC xs) = bs at *
  go_wp2_with fail
  go_loopw [6] (fun i wr => WtRel w3 w.heap.size w1.heap.size g (manyN xs * 8) c1 xs ct bs i wr) (fun i _ => 64 - (intOf i).toNat)
  case atStart => exact ⟨0, by omega, rfl, o3, grown_refl _ _⟩
  case round =>
    obtain ⟨k, hk, rfl, ho, hg⟩ := hrel
    have sr := hg.size
    by_cases hlt : k < 64
    · have hcc : wr.cell? ⟨gc, k, none⟩ = some (.int .i64 (ct.getD k 0)) := hg.cell (HCC.out k hlt) (fun e => by injection e with e; have : gc = g := e; omega)
      have hcb : wr.cell? ⟨gb, k / 8, none⟩ = some (.int .i64 (bs.getD (k / 8) 0)) := hg.cell (HCB.out (k / 8) (by omega)) (fun e => by injection e with e; have : gb = g := e; omega)
      have HT := Lib.hid (HTB.out (k / 8))
      have HS : Hid (wtTo xs ct bs (k + 1) = if bs.getD (k / 8) 0 ≠ 0 then (wtTo xs ct bs k).set ((bs.getD (k / 8) 0).toNat * 8 + k % 8) (ct.getD k 0) else wtTo xs ct bs k) := by
        unfold wtTo; rw [range_fold_s]; exact rfl
      generalize bs.getD (k / 8) 0 = v at *
      generalize ct.getD k 0 = y at *
      by_cases hv : v = 0
      · subst hv
        have hd : ((0 : Int) != 0) = false := by simp
        have HE : Hid (wtTo xs ct bs (k + 1) = wtTo xs ct bs k) := by rw [HS.out]; simp [Hid]
        clear HT HS
        go_wp2_with fail
        go_roundw
        case rel => exact ⟨k + 1, by omega, by go_num, by rw [HE.out]; exact ho, hg⟩
        case measure => simp [intOf]; omega
      · have hd : (v != 0) = true := by simpa using hv
        have hth : thereB xs v = true := by rcases HT.out with h | h; exact absurd h hv; exact h
        obtain ⟨t1, t2⟩ := there_lt hth
        obtain ⟨τ, rfl⟩ := Int.eq_ofNat_of_zero_le (show 0 ≤ v by omega)
        have HE : Hid (wtTo xs ct bs (k + 1) = (wtTo xs ct bs k).set (τ * 8 + k % 8) y) := by rw [HS.out, if_pos hv, Int.toNat_natCast]; exact rfl
        have hidx : τ * 8 + k % 8 < manyN xs * 8 := by omega
        have hco := ho.cell hidx
        have hfo := ho.free (τ * 8 + k % 8)
        have HSt := Lib.hid (ho.set (τ * 8 + k % 8) y)
        clear HT HS hth hv
        generalize (wtTo xs ct bs k).getD (τ * 8 + k % 8) 0 = z at *
        go_wp2_with fail
        have n1 : (0 : Int) ≤ (k : Int) := by omega
        have n2 : (k : Int) < 64 := by omega
        have n3 : IntKind.i64.wrap ((τ : Int) * 8) = (τ : Int) * 8 := IntWalk.i64_in _ (by omega)
        have n4 : IntKind.i64.wrap ((k : Int) / 8) = (k : Int) / 8 := IntWalk.i64_in _ (by omega)
        have n4a : (0 : Int) ≤ (k : Int) / 8 := by omega
        have n4b : (k : Int) / 8 < 8 := by omega
        have n4c : ((k : Int) / 8).toNat = k / 8 := by omega
        have n5t : Int.tmod (k : Int) 8 = (k : Int) % 8 := Int.tmod_eq_emod_of_nonneg (by omega)
        have n5 : IntKind.i64.wrap ((k : Int) % 8) = (k : Int) % 8 := IntWalk.i64_in _ (by omega)
        have n6 : IntKind.i64.wrap ((τ : Int) * 8 + (k : Int) % 8) = (τ : Int) * 8 + (k : Int) % 8 := IntWalk.i64_in _ (by omega)
        have n6a : (0 : Int) ≤ (τ : Int) * 8 + (k : Int) % 8 := by omega
        have n6b : (τ : Int) * 8 + (k : Int) % 8 < (manyN xs : Int) * 8 := by omega
        have n6d : (τ : Int) * 8 + (k : Int) % 8 < ((manyN xs * 8 : Nat) : Int) := by omega
        have n6c : ((τ : Int) * 8 + (k : Int) % 8).toNat = τ * 8 + k % 8 := by omega
        go_still_tail 15, (by kernel_rfl)
        change wpList _ _ _ _ _ wr.drew
        clear n1 n2 n3 n4 n4a n4b n4c n5 n5t n6 n6a n6b n6c n6d
        go_wp2_with fail
        go_roundw
        case rel =>
          obtain ⟨h1, h2⟩ := HSt.out
          exact ⟨k + 1, by omega, by go_num, by rw [HE.out]; exact h1.drew, grown_trans hg (grown_drew h2)⟩
        case measure => simp [intOf]; omega
    · obtain rfl : k = 64 := by omega
      go_wp2_with fail
      go_ret
      rw [HWC.out]
      exact ⟨g, _, c1, rfl, by rcases ho.form with ⟨h, _⟩ | ⟨_, _, _, _, _, h⟩; cases h; exact h, ho.more (Nat.le_refl _) (by omega), below_of_grown b03 hg hgl.1⟩

theorem ready_head {xs : List Int} (h : readyB xs = true) : hasHead xs = true := by unfold readyB at h; rw [Bool.and_eq_true] at h; exact h.1
theorem ready_refs {xs : List Int} (h : readyB xs = true) (hr : (headOf xs).refs ≠ 0) : thereB xs (headOf xs).refs = true := by
  have hh := ready_head h
  have hc := refs_claim xs
  cases hg : goodB xs (headOf xs).size (c1C xs (headOf xs)) ⟨3, 0, 0, 0, (headOf xs).refs, false⟩
  · rw [hg] at hc
    unfold readyB at h
    rw [Bool.and_eq_true, List.all_eq_true] at h
    have hl : (⟨3, 0, 0, 0, (headOf xs).refs, false⟩ : Cm) ∈ looseL xs := by
      unfold looseL claimsL
      rw [hh, if_pos rfl, List.mem_filter]
      exact ⟨hc, rfl⟩
    have := h.2 _ hl
    rw [headIn_yes hh] at this
    simp at this
    exact absurd this hr
  · exact goodB_there hg

theorem hdW_length (h : Hd) : (hdW h).length = 8 := rfl
theorem hd_set {zs : List Int} {h : Hd} (hz : imgB zs = true) (h8 : zs.length % 8 = 0) (hpos : 0 < zs.length) (hb : headB h = true) :
    hasHead (setCl zs 0 (hdW h)) = true ∧ headOf (setCl zs 0 (hdW h)) = h ∧ (setCl zs 0 (hdW h)).length = zs.length := by
  have hl : (setCl zs 0 (hdW h)).length = zs.length := by rw [setCl_length h8 (by omega) (hdW_length h), if_neg (by omega)]
  have hall := headB_all hb
  have hw : ∀ x ∈ hdW h, wordB x = true := by
    intro x hx
    simp [hdW] at hx
    rw [wordB, inB_true]
    rcases hx with h | h | h | h | h | h | h | h <;> subst h <;> omega
  have hi : imgB (setCl zs 0 (hdW h)) = true := setCl_img hz hw (by rw [hl]; exact imgB_len hz)
  have hg : ∀ j, j < 8 → (setCl zs 0 (hdW h)).getD j 0 = (hdW h).getD j 0 := fun j hj => by
    rw [setCl_get (by omega) (hdW_length h), if_pos (by omega)]; simp
  have hho : headOf (setCl zs 0 (hdW h)) = h := by
    unfold headOf; rw [hg 2 (by omega), hg 3 (by omega), hg 4 (by omega), hg 5 (by omega), hg 6 (by omega)]; rfl
  refine ⟨?_, hho, hl⟩
  unfold hasHead
  have hne : (setCl zs 0 (hdW h)).length ≠ 0 := by omega
  rw [hho, hi, hg 0 (by omega), hg 1 (by omega), hg 7 (by omega), hb, decide_eq_true hne]
  rfl

/-- With a new table Refs, where there was none. -/
def refsL (xs : List Int) : List Int := setCl (moreL (whole xs) (List.replicate 8 0)) 0 (hdW { headOf xs with refs := manyN (whole xs) })
def countBase (xs : List Int) : Option (List Int) := if (headOf xs).refs = 0 then (if manyN (whole xs) < 64 then some (refsL xs) else none) else some (whole xs)
def countEnd : Option (List Int) → List Int
  | none => []
  | some zs => writeC zs
def countMid : Option (List Int) → List Int
  | none => []
  | some ys => countEnd (blocksL ys)
def countedL (xs : List Int) : List Int := if readyB xs = true then countMid (countBase xs) else []

theorem refsL_head {xs : List Int} (h : hasHead xs = true) (hm : manyN (whole xs) < 64) : hasHead (refsL xs) = true ∧ headOf (refsL xs) = { headOf xs with refs := manyN (whole xs) } ∧ (refsL xs).length = manyN xs * 8 + 8 := by
  obtain ⟨hw, hwo⟩ := head_whole h
  have hl := more_length (whole xs) (List.replicate 8 0) (by simp)
  rw [many_whole] at hl
  have hall := headB_all (hasHead_ok h)
  have hb : headB { headOf xs with refs := manyN (whole xs) } = true := by
    simp only [headB, wordB, Bool.and_eq_true, inB_true]
    omega
  obtain ⟨h1, h2, h3⟩ := hd_set (more_img (hasHead_img hw) zeros8 hm) (by rw [hl]; omega) (by rw [hl]; omega) hb
  exact ⟨h1, h2, h3.trans hl⟩

theorem Ret.emptyS {w w1 : World} (g : Nat) (hg : w1.heap.size = g) (hb : Below w.heap.size w w1) : Ret w [] (.returned (.slice (some ⟨g, 0, none⟩) 0 0)) (w1.alloc (.cells #[] 2)) := Ret.emptyAt g hg hb

set_option maxRecDepth 100000 in
set_option maxHeartbeats 8000000 in
theorem specCounted_any (A : Option Addr) (n cb : Nat) (xs : List Int) (w : World) (hr : Rd w w.heap.size A n xs) (hn : n ≤ 2097152) :
    Calls Tryz.prog 53 #[.slice A n cb] w (Ret w (countedL xs)) := by
  obtain ⟨i0, hi0, hz0, hz1, hz2⟩ := info_parts info2
  go_enter Tryz.func53, Tryz.ntmps53
  go_wp2_with fail
  refine (specHeadIn_any _ _ _ xs _ hr hn).mono ?_
  rintro e w1 ⟨rfl, b1⟩
  generalize hh : headIn xs = r
  obtain ⟨⟨s, f, r, u, m⟩, is⟩ := r
  have HR := Lib.hid hh
  clear hh
  unfold hdV
  have b2 := b1.alloc b1.size (.cells #[.int .i64 s, .int .i64 f, .int .i64 r, .int .i64 u, .int .i64 m] 31)
  have hbox : (w1.alloc (.cells #[.int .i64 s, .int .i64 f, .int .i64 r, .int .i64 u, .int .i64 m] 31)).heap[w1.heap.size]? = some (.cells #[.int .i64 s, .int .i64 f, .int .i64 r, .int .i64 u, .int .i64 m] 31 (0, 0)) := heap_alloc_new w1 _
  have hz : (w1.alloc (.cells #[.int .i64 s, .int .i64 f, .int .i64 r, .int .i64 u, .int .i64 m] 31)).heap.size = w1.heap.size + 1 := by simp
  have HZ := Lib.hid hz
  have HBX := Lib.hid hbox
  clear hz hbox
  go_wp2_with fail
  refine (specReady_any A n cb xs _ ((hr.below b2).more b2.size) hn).mono ?_
  rintro e w3 ⟨rfl, b3⟩
  have b03 := below_more b2 b3 b2.size
  have s3 := b3.size
  have hb1 := b1.size
  cases hq : readyB xs
  · have HN : Hid (countedL xs = []) := by unfold countedL; rw [hq]; exact rfl
    clear hq
    go_wp2_with fail
    go_ret
    rw [HN.out]
    exact Ret.emptyAt _ rfl b03
  have HQ := Lib.hid hq
  have hh := ready_head hq
  have his : is = true := by
    have e := HR.out
    rw [headIn_yes hh] at e
    cases e; rfl
  subst his
  have HHO := Lib.hid (headIn_true HR.out).2
  have HC : Hid (countedL xs = countMid (countBase xs)) := by unfold countedL; rw [hq]; exact rfl
  have HCB : Hid (countBase xs = if r = 0 then (if manyN (whole xs) < 64 then some (refsL xs) else none) else some (whole xs)) := by
    unfold countBase; rw [HHO.out]; exact rfl
  have hl512 := hasHead_len hh
  have hx := hr.len
  have hn512 : n ≤ 512 := by omega
  have HH := Lib.hid hh
  have hbx3 : w3.heap[w1.heap.size]? = some (.cells #[.int .i64 s, .int .i64 f, .int .i64 r, .int .i64 u, .int .i64 m] 31 (0, 0)) := (b3.block w1.heap.size (by have := HZ.out; omega)).trans HBX.out
  have HB3 := Lib.hid hbx3
  have s3' : w1.heap.size + 1 ≤ w3.heap.size := by have := HZ.out; omega
  have r3 := (hr.below b03).more b03.size
  clear hq hh hbx3 b3 b2 HBX HZ HR s3
  go_wp2_with fail
  refine (specWhole_any A n cb xs w3 r3 hn).mono ?_
  rintro e w4 ⟨g4, n4, c4, rfl, hc4, o4, b4⟩
  have b04 := below_more b03 b4 b03.size
  have s4 := b4.size
  have HB4 : Hid (w4.heap[w1.heap.size]? = some (.cells #[.int .i64 s, .int .i64 f, .int .i64 r, .int .i64 u, .int .i64 m] 31 (0, 0))) := (b4.block w1.heap.size (by omega)).trans HB3.out
  have hn4 := o4.len
  rw [whole_length] at hn4
  have hm4 : manyN xs * 8 ≤ 512 + 7 := by unfold manyN; omega
  have HN4 := Lib.hid hn4
  have q2 : w4.cell? ⟨w1.heap.size, 2, none⟩ = some (.int .i64 r) := by rw [cell_of_row w4 w1.heap.size 2 _ _ _ HB4.out]; rfl
  clear b4 hn4 HB3
  by_cases h0 : r = 0
  case' neg =>
    have hd : (r == 0) = false := by simpa using h0
    have HCB' : Hid (countBase xs = some (whole xs)) := by rw [HCB.out, if_neg h0]; exact rfl
    have HHy : Hid (hasHead (whole xs) = true) := (head_whole HH.out).1
    have HTy : Hid (thereB (whole xs) (headOf (whole xs)).refs = true) := by
      show _ = _
      rw [there_many (many_whole xs), (head_whole HH.out).2]
      exact ready_refs HQ.out (by rw [HHO.out]; exact h0)
    clear h0
    go_wp2_with fail
    have ry := o4.rd
    generalize whole xs = ys at *
    have b0y := b04
    clear b04
  case' pos =>
    subst h0
    go_wp2_with (at_make; refine wpList_make_full _ rfl _ _ 22 rfl w4.heap.size 2 i0 (.int .i64 0) 1 Tryz.underlying22 hi0 hz0 hz1 .i64 .i64 _ _ 8 rfl rfl rfl rfl (by rw [hz2]; omega) (by simp only [maxLen]; omega) (Nat.le_refl _) ?_; intro w5 hown hg5; rw [made_iv] at hown)
    have b5 : Below w4.heap.size w4 w5 := below_grown hg5 (Nat.le_refl _) (fun _ h => by cases h)
    have oz := zeros_ow hown
    have hltz := ow_lt oz
    clear hown hg5
    refine (specMore_any (some ⟨g4, 0, none⟩) n4 c4 (whole xs) (some ⟨w4.heap.size, 0, none⟩) 8 (List.replicate 8 0) w5 ((o4.rd.below b5).more b5.size) (oz.rd.more (by omega)) (by have := HN4.out; omega)).mono ?_
    have b05 := below_more b04 b5 b04.size
    have s5 := b5.size
    rintro e w6 (⟨h64, g6, n6, c6, rfl, hc6, o6, b6⟩ | ⟨h64, g6, rfl, b6⟩)
    case' inr =>
      have HN : Hid (countedL xs = []) := by rw [HC.out, HCB.out, if_pos trivial, if_neg (by omega)]; exact rfl
      go_wp2_with fail
      go_ret
      rw [HN.out]
      exact Ret.emptyAt _ rfl (below_more b05 b6 b05.size)
    have HCB' : Hid (countBase xs = some (refsL xs)) := by rw [HCB.out, if_pos trivial, if_pos h64]; exact rfl
    obtain ⟨hy1, hy2, hy3⟩ := refsL_head HH.out h64
    have HHy := Lib.hid hy1
    have HTy : Hid (thereB (refsL xs) (headOf (refsL xs)).refs = true) := by
      show _ = _
      rw [hy2, thereB, inB_true]
      have hm1 : manyN (refsL xs) = manyN xs + 1 := by show ((refsL xs).length + 7) / 8 = _; rw [hy3]; omega
      rw [hm1]
      have := many_whole xs
      have := whole_pos HH.out
      simp only
      omega
    have HYL : Hid (refsL xs = setCl (moreL (whole xs) (List.replicate 8 0)) 0 (hdW ⟨s, f, manyN (whole xs), u, m⟩)) := by unfold refsL; rw [HHO.out]; exact rfl
    have b06 := below_more b05 b6 b05.size
    have s6 := b6.size
    have HB6 : Hid (w6.heap[w1.heap.size]? = some (.cells #[.int .i64 s, .int .i64 f, .int .i64 0, .int .i64 u, .int .i64 m] 31 (0, 0))) := ((b6.block w1.heap.size (by omega)).trans (b5.block w1.heap.size (by omega))).trans HB4.out
    have hn6 := o6.len
    rw [more_length _ _ (by simp)] at hn6
    have HN6 := Lib.hid hn6
    have k0 : w6.cell? ⟨w1.heap.size, 0, none⟩ = some (.int .i64 s) := by rw [cell_of_row w6 w1.heap.size 0 _ _ _ HB6.out]; rfl
    have k1 : w6.cell? ⟨w1.heap.size, 1, none⟩ = some (.int .i64 f) := by rw [cell_of_row w6 w1.heap.size 1 _ _ _ HB6.out]; rfl
    have k2 : w6.cell? ⟨w1.heap.size, 2, none⟩ = some (.int .i64 0) := by rw [cell_of_row w6 w1.heap.size 2 _ _ _ HB6.out]; rfl
    have k3 : w6.cell? ⟨w1.heap.size, 3, none⟩ = some (.int .i64 u) := by rw [cell_of_row w6 w1.heap.size 3 _ _ _ HB6.out]; rfl
    have k4 : w6.cell? ⟨w1.heap.size, 4, none⟩ = some (.int .i64 m) := by rw [cell_of_row w6 w1.heap.size 4 _ _ _ HB6.out]; rfl
    have kf : w6.frozen? ⟨w1.heap.size, 2, none⟩ = false := frozen_of_row w6 w1.heap.size 2 _ _ HB6.out
    have b07 : Below w.heap.size w (w6.setCell ⟨w1.heap.size, 2, none⟩ (.int .i64 (manyN (whole xs)))) := b06.setCell hb1 _
    have o7 : Ow (w6.setCell ⟨w1.heap.size, 2, none⟩ (.int .i64 (manyN (whole xs)))) w5.heap.size w6.heap.size (some ⟨g6, 0, none⟩) n6 c6 (moreL (whole xs) (List.replicate 8 0)) := o6.keep fun q h1 h2 _ => Below.heap_setCell _ _ _ _ (by show q ≠ w1.heap.size; omega)
    have s7 : w6.heap.size ≤ (w6.setCell ⟨w1.heap.size, 2, none⟩ (.int .i64 (manyN (whole xs)))).heap.size := by simp [World.setCell]
    have hm64 := h64
    clear hn6 hy1 hy2 hy3 HB6 o6 b6 b5 oz o4 q2 HB4
    go_wp2_with fail
    generalize w6.setCell ⟨w1.heap.size, 2, none⟩ (.int .i64 (manyN (whole xs))) = w7 at *
    refine (specHdWords_any ⟨s, f, manyN (whole xs), u, m⟩ w7).mono ?_
    rintro e w8 ⟨g8, n8, c8, rfl, hc8, o8, b8⟩
    obtain rfl : 8 = n8 := o8.len
    have b08 := below_more b07 b8 b07.size
    have s8 := b8.size
    go_wp2_with fail
    refine (specWith_any g6 0 n6 c6 0 (moreL (whole xs) (List.replicate 8 0)) (hdW ⟨s, f, manyN (whole xs), u, m⟩) (some ⟨g8, 0, none⟩) c8 w8 ((o7.below b8 s7).rd.more (by omega)) o8.rd hc6 (by have := HN6.out; omega) (by have := HN6.out; omega) (by omega)).mono ?_
    rintro e w9 ⟨A9, n9, c9, rfl, o9, b9⟩
    rw [← HYL.out] at o9
    have b0y := below_more b08 b9 b08.size
    have ry := o9.rd
    clear o9 b9 o8 o7 b08 b07 b06 b05 b04
    generalize refsL xs = ys at *
    go_wp2_with fail
  all_goals
    have HE : Hid (countedL xs = countEnd (blocksL ys)) := by rw [HC.out, HCB'.out]; exact rfl
    refine (specBlocks14_any _ _ _ ys _ ry HHy.out HTy.out).mono ?_
    rintro e wa (⟨zs, A3, n3, c3, hb3, rfl, r3, hh3, b3⟩ | ⟨g3, hb3, rfl, b3⟩)
    · have HF : Hid (countedL xs = writeC zs) := by rw [HE.out, hb3]; exact rfl
      have b0a := below_more b0y b3 b0y.size
      clear hb3
      go_wp2_with fail
      refine (specWrite_any A3 n3 c3 zs wa r3 hh3).mono ?_
      rintro e wb ⟨gz, nz, cz, rfl, _, oz, bz⟩
      go_wp2_with fail
      go_ret
      rw [HF.out]
      exact ⟨_, _, _, rfl, oz.more b0a.size (Nat.le_refl _), below_more b0a bz b0a.size⟩
    · have HF : Hid (countedL xs = []) := by rw [HE.out, hb3]; exact rfl
      have b0a := below_more b0y b3 b0y.size
      clear hb3
      go_wp2_with fail
      go_ret
      rw [HF.out]
      exact Ret.emptyAt _ rfl b0a

end Go.Proofs.YtiokfhdkbpoadaaGreatDoor
