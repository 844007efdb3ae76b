/- Counting anew (chapter 14), the program's side: the greatest of a row, slots, what gives up by a panic. Counting anew (chapter 14), the program's side: a new cluster of zeros, the slot that lacks a block, what can be counted, Refs. -/
import Derived.Test.YtfolbhjljpnjlabGreatCtq
import Derived.Test.YtfolbhjljpnjlabGreatTbi
import Derived.Test.YtfolbhjljpnjlabGreatHdk
import Derived.Test.YtfolbhjljpnjlabGreatY2
import Derived.Test.YtfolbhjljpnjlabGreatLawCo
import Derived.Test.YtfolbhjljpnjlabGreatY5
import Derived.WalkLawsBesides
namespace Go.Proofs.YtfolbhjljpnjlabGreat
open Go.RowKit

/-- What gives up by a panic: the words, or a panic. -/
def RetG (w : World) (r : Option (List Int)) (e : Ending) (w' : World) : Prop :=
  match r with
  | some ys => ∃ (A : Option Addr) (n c : Nat), e = .returned (.slice A n c) ∧ Rd w' w'.heap.size A n ys ∧ n ≤ c ∧ Below w.heap.size w w'
  | none => (∃ (u : TypeId) (v : Value), e = .panicked [{ v := .iface u v, recovered := false }]) ∧ Below w.heap.size w w'

/-- The greatest word. -/
def maxN (xs : List Int) : Int := xs.foldl max 0
theorem maxN_ge : ∀ (xs : List Int) (a : Int), a ≤ xs.foldl max a ∧ ∀ x ∈ xs, x ≤ xs.foldl max a
  | [], a => ⟨Int.le_refl _, fun x h => by cases h⟩
  | y :: xs, a => by
    obtain ⟨h1, h2⟩ := maxN_ge xs (max a y)
    refine ⟨by rw [List.foldl_cons]; omega, fun x hx => ?_⟩
    rw [List.foldl_cons]
    rcases List.mem_cons.1 hx with rfl | hx
    · omega
    · exact h2 x hx
theorem maxN_le : ∀ (xs : List Int) (a b : Int), a ≤ b → (∀ x ∈ xs, x ≤ b) → xs.foldl max a ≤ b
  | [], a, b, h, _ => h
  | y :: xs, a, b, h, hx => by
    rw [List.foldl_cons]
    exact maxN_le xs _ b (by have := hx y (by simp); omega) (fun x h' => hx x (by simp [h']))
theorem maxN_zero {xs : List Int} (h : ∀ x ∈ xs, 0 ≤ x) : (maxN xs != 0) = !xs.all (fun x => x == 0) := by
  cases ha : xs.all (fun x => x == 0)
  · simp only [Bool.not_false]
    rw [List.all_eq_false] at ha
    obtain ⟨x, hx, hz⟩ := ha
    have h1 := (maxN_ge xs 0).2 x hx
    have h2 := h x hx
    have h3 : x ≠ 0 := by simpa using hz
    simp only [bne_iff_ne, ne_eq]
    unfold maxN
    omega
  · rw [List.all_eq_true] at ha
    have h1 := maxN_le xs 0 0 (Int.le_refl _) (fun x hx => by have := ha x hx; simp at this; omega)
    have h2 := (maxN_ge xs 0).1
    have : maxN xs = 0 := by unfold maxN; omega
    rw [this]
    rfl
theorem maxN_bound {xs : List Int} (h : ∀ x ∈ xs, x ≤ 65535) : 0 ≤ maxN xs ∧ maxN xs ≤ 65535 := ⟨(maxN_ge xs 0).1, maxN_le xs 0 65535 (by omega) h⟩
theorem maxN_take (xs : List Int) (k : Nat) (hk : k < xs.length) : maxN (xs.take (k + 1)) = max (maxN (xs.take k)) (xs.getD k 0) := by
  have e : xs.getD k 0 = xs[k] := by simp [List.getD_eq_getElem?_getD, hk]
  unfold maxN
  rw [List.take_succ_eq_append_getElem hk, List.foldl_append, e]
  rfl

set_option maxRecDepth 100000 in
set_option maxHeartbeats 2000000 in
theorem max_any (b off n c : Nat) (xs : List Int) (w : World) (hr : Rd w w.heap.size (some ⟨b, off, none⟩) n xs) (hn : n ≤ 64) (h1 : 1 ≤ n) (h0 : ∀ x ∈ xs, 0 ≤ x) :
    Calls Tryz.prog 86 #[.slice (some ⟨b, off, none⟩) n c] w fun e w' => e = .returned (.int .i64 (maxN xs)) ∧ w' = w := by
  have hl := Lib.hid hr.len
  obtain ⟨b', off', he, hb, hc⟩ := hr.2 (by omega)
  cases he
  have hd : decide ((n : Int) < 1) = false := by simp; omega
  have hc0 : w.cell? ⟨b, off, none⟩ = some (.int .i64 (xs.getD 0 0)) := hc 0 (by omega)
  have hm1 : Hid (maxN (xs.take 1) = xs.getD 0 0) := by
    show _ = _
    rw [maxN_take xs 0 (by have := hl.out; omega)]
    have : 0 ≤ xs.getD 0 0 := by
      rw [List.getD_eq_getElem?_getD, List.getElem?_eq_getElem (by have := hl.out; omega)]
      exact h0 _ (List.getElem_mem _)
    have e : maxN (xs.take 0) = 0 := rfl
    rw [e]
    omega
  have HT := Lib.hid (maxN_take xs)
  have HA : Hid (maxN (xs.take n) = maxN xs) := by
    show _ = _
    rw [List.take_of_length_le (by have := hl.out; omega)]
  clear h0 hr
  go_enter Tryz.func86, Tryz.ntmps86
  go_wp2_with fail
  go_loop [3, 4] (fun m i => ∃ k : Nat, 1 ≤ k ∧ k ≤ n ∧ i = .int .i64 k ∧ m = .int .i64 (maxN (xs.take k))) (fun _ i => n - (intOf i).toNat)
  case atStart => exact ⟨1, Nat.le_refl _, h1, rfl, by rw [hm1.out, List.getD_eq_getElem?_getD]⟩
  case round =>
    obtain ⟨k, hk1, hk, rfl, rfl⟩ := hrel
    by_cases hlt : k < n
    · have hck := hc k hlt
      have HE := Lib.hid (HT.out k (by have := hl.out; omega))
      clear hc hc0
      generalize maxN (xs.take k) = mk at *
      generalize xs.getD k 0 = y at *
      go_wp2
      go_round
      case rel => exact ⟨k + 1, by omega, by omega, by go_num, by rw [HE.out, Int.max_def]; congr 1; split <;> split <;> omega⟩
      case measure => simp [intOf]; omega
    · obtain rfl : k = n := by omega
      go_wp2
      go_ret
      rw [HA.out]
      exact ⟨rfl, rfl⟩

set_option maxRecDepth 100000 in
theorem eightOf_any (g s cc : Nat) (q : Int) (hq : q = (s : Int)) (hs : s < 8) (hcc : 64 ≤ cc) (w : World) :
    Calls Tryz.prog 46 #[.slice (some ⟨g, 0, none⟩) 64 cc, .int .i64 q] w fun e w' => e = .returned (.slice (some ⟨g, s * 8, none⟩) 8 8) ∧ w = w' := by
  subst hq
  have n1 : IntKind.i64.wrap ((s : Int) * 8) = ((s * 8 : Nat) : Int) := by rw [IntWalk.i64_in _ (by omega)]; omega
  go_enter Tryz.func46, Tryz.ntmps46
  go_wp2_with fail
  refine (cutOf_any g 0 64 cc (s * 8) 8 _ _ w (by omega) rfl (by omega) (by omega) (by omega) (by omega) (by omega)).mono ?_
  rintro e w' ⟨rfl, rfl⟩
  rw [show min 8 (64 - s * 8) = 8 by omega, Nat.zero_add]
  go_wp2_with fail
  go_ret
  exact ⟨rfl, rfl⟩

theorem with_more {xs : List Int} (hi : imgB xs = true) (h : manyN xs < 64) : withL xs (manyN xs : Int) (List.replicate 8 0) = moreL xs (List.replicate 8 0) := by
  unfold withL
  rw [if_pos]
  · rw [Int.toNat_natCast]; exact rfl
  · unfold withB
    rw [hi, zeros8, inB_true.2 (by omega)]
    simp
    omega
theorem with_full {xs : List Int} (h : ¬ manyN xs < 64) (ws : List Int) : withL xs (manyN xs : Int) ws = [] := by
  unfold withL
  rw [if_neg]
  unfold withB
  rw [show decide ((manyN xs : Int) < 64) = false from by simp; omega]
  simp

set_option maxRecDepth 100000 in
set_option maxHeartbeats 2000000 in
theorem withZeros_any (A : Option Addr) (n c : Nat) (xs : List Int) (w : World) (hr : Rd w w.heap.size A n xs) (hn : n ≤ 2097152) (hi : imgB xs = true) :
    Calls Tryz.prog 49 #[.slice A n c] w fun e w' =>
      (manyN xs < 64 ∧ ∃ g n' c', e = .returned (.tuple #[.slice (some ⟨g, 0, none⟩) n' c', .int .i64 (manyN xs)]) ∧ n' ≤ c' ∧ Ow w' w.heap.size w'.heap.size (some ⟨g, 0, none⟩) n' c' (moreL xs (List.replicate 8 0)) ∧ Below w.heap.size w w') ∨
      (¬ manyN xs < 64 ∧ (∃ (u : TypeId) (v : Value), e = .panicked [{ v := .iface u v, recovered := false }]) ∧ Below w.heap.size w w') := by
  obtain ⟨i0, hi0, hz0, hz1, hz2⟩ := info_parts info2
  have HM := Lib.hid (show manyI xs = (manyN xs : Int) by simp [manyI, hi])
  have H1 := Lib.hid (with_more hi)
  have H2 := Lib.hid (with_full (xs := xs))
  have H3 := Lib.hid (more_length xs (List.replicate 8 0) (by simp))
  clear hi
  go_enter Tryz.func49, Tryz.ntmps49
  go_wp2_with fail
  refine (implClin_any _ _ _ _ _ hr hn).mono ?_
  rintro e w1 ⟨rfl, b1⟩
  rw [HM.out]
  go_wp2_with (at_make; refine wpList_make_full _ rfl _ _ 24 rfl w1.heap.size 2 i0 (.int .i64 0) 1 Tryz.underlying24 hi0 hz0 hz1 .i64 .i64 _ _ 8 rfl rfl rfl rfl (by rw [hz2]; omega) (by simp only [maxLen]; omega) (Nat.le_refl _) ?_; intro w2 hown hg; rw [made_iv] at hown)
  have b2 : Below w1.heap.size w1 w2 := below_grown hg (Nat.le_refl _) (fun _ h => by cases h)
  have B2 := below_more b1 b2 b1.size
  have oz := zeros_ow hown
  have hlt := ow_lt oz
  clear hown hg b1 b2
  refine (implWcl_any A n c xs (manyN xs) (some ⟨w1.heap.size, 0, none⟩) 8 8 (List.replicate 8 0) w2 ((hr.below B2).more B2.size) (oz.rd.more (by omega)) hn (by omega)).mono ?_
  rintro e w3 ⟨X, nx, cx, rfl, oX, b3⟩
  have B3 := below_more B2 b3 B2.size
  have s2 := B2.size
  by_cases hm : manyN xs < 64
  · rw [H1.out hm] at oX
    have hl := oX.len
    rw [H3.out] at hl
    rcases oX.form with ⟨_, h0, _⟩ | ⟨g, rfl, g1, g2, g3, g4⟩
    · omega
    have hd : ((nx : Int) == 0) = false := by simp; omega
    have HL := Lib.hid hl
    clear hl b3 oz H1 H2
    go_wp2_with fail
    go_ret2
    exact .inl ⟨hm, g, nx, cx, rfl, g4, oX.more (by omega) (Nat.le_refl _), B3⟩
  · rw [H2.out hm] at oX
    have hl := oX.len
    obtain rfl : 0 = nx := hl
    clear b3 oz H1 H2
    go_wp2_with fail
    exact ⟨rfl, .inr ⟨hm, ⟨_, _, rfl⟩, B3⟩⟩

set_option maxRecDepth 100000 in
set_option maxHeartbeats 4000000 in
theorem slotLacks_any (gc cc gt ct8 : Nat) (ct ts : List Int) (w : World) (hc : Rd w w.heap.size (some ⟨gc, 0, none⟩) 64 ct) (ht : Rd w w.heap.size (some ⟨gt, 0, none⟩) 8 ts) (hcc : 64 ≤ cc) (h0 : ∀ x ∈ ct, 0 ≤ x) :
    Calls Tryz.prog 48 #[.slice (some ⟨gc, 0, none⟩) 64 cc, .slice (some ⟨gt, 0, none⟩) 8 ct8] w fun e w' => w' = w ∧
      ((∃ k : Nat, k < 8 ∧ e = .returned (.tuple #[.int .i64 k, .bool true]) ∧ passedB ct ts k = true ∧ slotB ct ts k = true) ∨ (e = .returned (.tuple #[.int .i64 0, .bool false]) ∧ passedB ct ts 8 = true)) := by
  have HCl := Lib.hid hc.len
  obtain ⟨b, off, he, hb, hcells⟩ := hc.2 (by omega)
  cases he
  obtain ⟨b', off', he, hb', htc⟩ := ht.2 (by omega)
  cases he
  have HC := Lib.hid hcells
  have HT := Lib.hid htc
  have H0 := Lib.hid h0
  clear hcells htc h0 hc ht
  go_enter Tryz.func48, Tryz.ntmps48
  go_wp2_with fail
  go_loop [7] (fun i => ∃ k : Nat, k ≤ 8 ∧ i = .int .i64 k ∧ passedB ct ts k = true) (fun i => 8 - (intOf i).toNat)
  case atStart => exact ⟨0, by omega, rfl, rfl⟩
  case round =>
    obtain ⟨k, hk, rfl, hp⟩ := hrel
    have HP := Lib.hid hp
    clear hp
    by_cases hlt : k < 8
    · have hck := HT.out k hlt
      rw [Nat.zero_add] at hck
      have HX : Hid (slotB ct ts k = (decide (targetOf (ts.getD k 0) = 0) && !((ct.drop (k * 8)).take 8).all (fun x => x == 0))) := rfl
      generalize ts.getD k 0 = y at *
      by_cases hz : targetOf y = 0
      · have hd : (targetOf y == 0) = true := by simpa using hz
        have hds : decide (targetOf y = 0) = true := by simpa using hz
        rw [hds, Bool.true_and] at HX
        clear hz hds
        have HR8 : Hid (Rd w w.heap.size (some ⟨gc, k * 8, none⟩) 8 ((ct.drop (k * 8)).take 8)) := by
          refine ⟨by rw [List.length_take, List.length_drop, HCl.out]; omega, fun _ => ⟨gc, k * 8, rfl, hb, fun j hj => ?_⟩⟩
          have := HC.out (k * 8 + j) (by omega)
          rw [Nat.zero_add] at this
          rw [this, List.getD_eq_getElem?_getD, List.getD_eq_getElem?_getD, List.getElem?_take, if_pos hj, List.getElem?_drop]
        have HN := Lib.hid (maxN_zero (xs := (ct.drop (k * 8)).take 8) (fun x hx => H0.out x (List.mem_of_mem_drop (List.mem_of_mem_take hx))))
        have HG := Lib.hid (fun x hx => H0.out x (List.mem_of_mem_drop (i := k * 8) (List.mem_of_mem_take (i := 8) hx)))
        rw [← HN.out] at HX
        generalize hcut : (ct.drop (k * 8)).take 8 = cut at *
        cases hm : (maxN cut != 0)
        · have HS : Hid (passedB ct ts (k + 1) = true) := passed_step HP.out (by rw [HX.out, hm])
          clear hcut
          go_wp2_with fail
          refine (implTarget_any y w).mono ?_
          rintro e w' ⟨rfl, rfl⟩
          go_wp2_with fail
          refine (eightOf_any gc k cc k rfl hlt hcc w).mono ?_
          rintro e w' ⟨rfl, rfl⟩
          go_wp2_with fail
          refine (max_any gc (k * 8) 8 8 cut w HR8.out (by omega) (by omega) HG.out).mono ?_
          rintro e w' ⟨rfl, rfl⟩
          go_wp2_with fail
          go_round
          case rel => exact ⟨k + 1, by omega, by go_num, HS.out⟩
          case measure => simp [intOf]; omega
        · have HS : Hid (slotB ct ts k = true) := by show _ = _; rw [HX.out, hm]
          clear hcut
          go_wp2_with fail
          refine (implTarget_any y w).mono ?_
          rintro e w' ⟨rfl, rfl⟩
          go_wp2_with fail
          refine (eightOf_any gc k cc k rfl hlt hcc w).mono ?_
          rintro e w' ⟨rfl, rfl⟩
          go_wp2_with fail
          refine (max_any gc (k * 8) 8 8 cut w HR8.out (by omega) (by omega) HG.out).mono ?_
          rintro e w' ⟨rfl, rfl⟩
          go_wp2_with fail
          go_ret2
          exact ⟨rfl, .inl ⟨k, hlt, rfl, HP.out, HS.out⟩⟩
      · have hd : (targetOf y == 0) = false := by simpa using hz
        have HS : Hid (passedB ct ts (k + 1) = true) := passed_step HP.out (by
          rw [HX.out, show decide (targetOf y = 0) = false from by simpa using hz]
          rfl)
        clear hz HX
        go_wp2_with fail
        refine (implTarget_any y w).mono ?_
        rintro e w' ⟨rfl, rfl⟩
        go_wp2_with fail
        go_round
        case rel => exact ⟨k + 1, by omega, by go_num, HS.out⟩
        case measure => simp [intOf]; omega
    · obtain rfl : k = 8 := by omega
      go_wp2_with fail
      go_ret2
      exact ⟨rfl, .inr ⟨rfl, HP.out⟩⟩

end Go.Proofs.YtfolbhjljpnjlabGreat
