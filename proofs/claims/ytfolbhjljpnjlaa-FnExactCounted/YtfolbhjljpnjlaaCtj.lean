/- Counting anew (chapter 14), the program's side: a new cluster of zeros, the slot that lacks a block, what can be counted, Refs. -/
import Derived.Test.YtfolbhjljpnjlaaCti
namespace Go.Proofs.Ytfolbhjljpnjlaa
open Go.RowKit

theorem with_more {xs : List Int} (hi : imgB xs = true) (h : manyN xs < 64) : withL xs (manyN xs : Int) (List.replicate 8 0) = moreL xs (List.replicate 8 0) := by
  unfold withL
  rw [if_pos]
  · rw [Int.toNat_natCast]; exact rfl
  · unfold withB
    rw [hi, zeros8, inB_true.2 (by omega)]
    simp
    omega
theorem with_full {xs : List Int} (h : ¬ manyN xs < 64) (ws : List Int) : withL xs (manyN xs : Int) ws = [] := by
  unfold withL
  rw [if_neg]
  unfold withB
  rw [show decide ((manyN xs : Int) < 64) = false from by simp; omega]
  simp

set_option maxRecDepth 100000 in
set_option maxHeartbeats 2000000 in
theorem withZeros_any (A : Option Addr) (n c : Nat) (xs : List Int) (w : World) (hr : Rd w w.heap.size A n xs) (hn : n ≤ 2097152) (hi : imgB xs = true) :
    Calls Try.prog 39 #[.slice A n c] w fun e w' =>
      (manyN xs < 64 ∧ ∃ g n' c', e = .returned (.tuple #[.slice (some ⟨g, 0, none⟩) n' c', .int .i64 (manyN xs)]) ∧ n' ≤ c' ∧ Ow w' w.heap.size w'.heap.size (some ⟨g, 0, none⟩) n' c' (moreL xs (List.replicate 8 0)) ∧ Below w.heap.size w w') ∨
      (¬ manyN xs < 64 ∧ (∃ (u : TypeId) (v : Value), e = .panicked [{ v := .iface u v, recovered := false }]) ∧ Below w.heap.size w w') := by
  obtain ⟨i0, hi0, hz0, hz1, hz2⟩ := info_parts info2
  have HM := Lib.hid (show manyI xs = (manyN xs : Int) by simp [manyI, hi])
  have H1 := Lib.hid (with_more hi)
  have H2 := Lib.hid (with_full (xs := xs))
  have H3 := Lib.hid (more_length xs (List.replicate 8 0) (by simp))
  clear hi
  go_enter Try.func39, Try.ntmps39
  go_wp2_with fail
  refine (implClin_any _ _ _ _ _ hr hn).mono ?_
  rintro e w1 ⟨rfl, b1⟩
  rw [HM.out]
  go_wp2_with (at_make; refine wpList_make_full _ rfl _ _ 22 rfl w1.heap.size 2 i0 (.int .i64 0) 1 Try.underlying22 hi0 hz0 hz1 .i64 .i64 _ _ 8 rfl rfl rfl rfl (by rw [hz2]; omega) (by simp only [maxLen]; omega) (Nat.le_refl _) ?_; intro w2 hown hg; rw [made_iv] at hown)
  have b2 : Below w1.heap.size w1 w2 := below_grown hg (Nat.le_refl _) (fun _ h => by cases h)
  have B2 := below_more b1 b2 b1.size
  have oz := zeros_ow hown
  have hlt := ow_lt oz
  clear hown hg b1 b2
  refine (implWcl_any A n c xs (manyN xs) (some ⟨w1.heap.size, 0, none⟩) 8 8 (List.replicate 8 0) w2 ((hr.below B2).more B2.size) (oz.rd.more (by omega)) hn (by omega)).mono ?_
  rintro e w3 ⟨X, nx, cx, rfl, oX, b3⟩
  have B3 := below_more B2 b3 B2.size
  have s2 := B2.size
  by_cases hm : manyN xs < 64
  · rw [H1.out hm] at oX
    have hl := oX.len
    rw [H3.out] at hl
    rcases oX.form with ⟨_, h0, _⟩ | ⟨g, rfl, g1, g2, g3, g4⟩
    · omega
    have hd : ((nx : Int) == 0) = false := by simp; omega
    have HL := Lib.hid hl
    clear hl b3 oz H1 H2
    go_wp2_with fail
    go_ret2
    exact .inl ⟨hm, g, nx, cx, rfl, g4, oX.more (by omega) (Nat.le_refl _), B3⟩
  · rw [H2.out hm] at oX
    have hl := oX.len
    obtain rfl : 0 = nx := hl
    clear b3 oz H1 H2
    go_wp2_with fail
    exact ⟨rfl, .inr ⟨hm, ⟨_, _, rfl⟩, B3⟩⟩

set_option maxRecDepth 100000 in
set_option maxHeartbeats 4000000 in
theorem slotLacks_any (gc cc gt ct8 : Nat) (ct ts : List Int) (w : World) (hc : Rd w w.heap.size (some ⟨gc, 0, none⟩) 64 ct) (ht : Rd w w.heap.size (some ⟨gt, 0, none⟩) 8 ts) (hcc : 64 ≤ cc) (h0 : ∀ x ∈ ct, 0 ≤ x) :
    Calls Try.prog 38 #[.slice (some ⟨gc, 0, none⟩) 64 cc, .slice (some ⟨gt, 0, none⟩) 8 ct8] w fun e w' => w' = w ∧
      ((∃ k : Nat, k < 8 ∧ e = .returned (.tuple #[.int .i64 k, .bool true]) ∧ passedB ct ts k = true ∧ slotB ct ts k = true) ∨ (e = .returned (.tuple #[.int .i64 0, .bool false]) ∧ passedB ct ts 8 = true)) := by
  have HCl := Lib.hid hc.len
  obtain ⟨b, off, he, hb, hcells⟩ := hc.2 (by omega)
  cases he
  obtain ⟨b', off', he, hb', htc⟩ := ht.2 (by omega)
  cases he
  have HC := Lib.hid hcells
  have HT := Lib.hid htc
  have H0 := Lib.hid h0
  clear hcells htc h0 hc ht
  go_enter Try.func38, Try.ntmps38
  go_wp2_with fail
  go_loop [7] (fun i => ∃ k : Nat, k ≤ 8 ∧ i = .int .i64 k ∧ passedB ct ts k = true) (fun i => 8 - (intOf i).toNat)
  case atStart => exact ⟨0, by omega, rfl, rfl⟩
  case round =>
    obtain ⟨k, hk, rfl, hp⟩ := hrel
    have HP := Lib.hid hp
    clear hp
    by_cases hlt : k < 8
    · have hck := HT.out k hlt
      rw [Nat.zero_add] at hck
      have HX : Hid (slotB ct ts k = (decide (targetOf (ts.getD k 0) = 0) && !((ct.drop (k * 8)).take 8).all (fun x => x == 0))) := rfl
      generalize ts.getD k 0 = y at *
      by_cases hz : targetOf y = 0
      · have hd : (targetOf y == 0) = true := by simpa using hz
        have hds : decide (targetOf y = 0) = true := by simpa using hz
        rw [hds, Bool.true_and] at HX
        clear hz hds
        have HR8 : Hid (Rd w w.heap.size (some ⟨gc, k * 8, none⟩) 8 ((ct.drop (k * 8)).take 8)) := by
          refine ⟨by rw [List.length_take, List.length_drop, HCl.out]; omega, fun _ => ⟨gc, k * 8, rfl, hb, fun j hj => ?_⟩⟩
          have := HC.out (k * 8 + j) (by omega)
          rw [Nat.zero_add] at this
          rw [this, List.getD_eq_getElem?_getD, List.getD_eq_getElem?_getD, List.getElem?_take, if_pos hj, List.getElem?_drop]
        have HN := Lib.hid (maxN_zero (xs := (ct.drop (k * 8)).take 8) (fun x hx => H0.out x (List.mem_of_mem_drop (List.mem_of_mem_take hx))))
        have HG := Lib.hid (fun x hx => H0.out x (List.mem_of_mem_drop (i := k * 8) (List.mem_of_mem_take (i := 8) hx)))
        rw [← HN.out] at HX
        generalize hcut : (ct.drop (k * 8)).take 8 = cut at *
        cases hm : (maxN cut != 0)
        · have HS : Hid (passedB ct ts (k + 1) = true) := passed_step HP.out (by rw [HX.out, hm])
          clear hcut
          go_wp2_with fail
          refine (implTarget_any y w).mono ?_
          rintro e w' ⟨rfl, rfl⟩
          go_wp2_with fail
          refine (eightOf_any gc k cc k rfl hlt hcc w).mono ?_
          rintro e w' ⟨rfl, rfl⟩
          go_wp2_with fail
          refine (max_any gc (k * 8) 8 8 cut w HR8.out (by omega) (by omega) HG.out).mono ?_
          rintro e w' ⟨rfl, rfl⟩
          go_wp2_with fail
          go_round
          case rel => exact ⟨k + 1, by omega, by go_num, HS.out⟩
          case measure => simp [intOf]; omega
        · have HS : Hid (slotB ct ts k = true) := by show _ = _; rw [HX.out, hm]
          clear hcut
          go_wp2_with fail
          refine (implTarget_any y w).mono ?_
          rintro e w' ⟨rfl, rfl⟩
          go_wp2_with fail
          refine (eightOf_any gc k cc k rfl hlt hcc w).mono ?_
          rintro e w' ⟨rfl, rfl⟩
          go_wp2_with fail
          refine (max_any gc (k * 8) 8 8 cut w HR8.out (by omega) (by omega) HG.out).mono ?_
          rintro e w' ⟨rfl, rfl⟩
          go_wp2_with fail
          go_ret2
          exact ⟨rfl, .inl ⟨k, hlt, rfl, HP.out, HS.out⟩⟩
      · have hd : (targetOf y == 0) = false := by simpa using hz
        have HS : Hid (passedB ct ts (k + 1) = true) := passed_step HP.out (by
          rw [HX.out, show decide (targetOf y = 0) = false from by simpa using hz]
          rfl)
        clear hz HX
        go_wp2_with fail
        refine (implTarget_any y w).mono ?_
        rintro e w' ⟨rfl, rfl⟩
        go_wp2_with fail
        go_round
        case rel => exact ⟨k + 1, by omega, by go_num, HS.out⟩
        case measure => simp [intOf]; omega
    · obtain rfl : k = 8 := by omega
      go_wp2_with fail
      go_ret2
      exact ⟨rfl, .inr ⟨rfl, HP.out⟩⟩
end Go.Proofs.Ytfolbhjljpnjlaa
