/- The image: plain functions on lists, and that the Go functions of both sides compute them. -/
import Derived.Test.YtiokfhdkbpoadaaUtil
import Derived.Test.YtiokfhdkbpoadaaWord
namespace Go.Proofs.Ytiokfhdkbpoadaa
open Go.RowKit

theorem all_step (xs : List Int) (k n : Nat) (hx : xs.length = n) (hk : k < n) (h : wordsB (xs.take k) = true) (e : wordB (xs.getD k 0) = true) : wordsB (xs.take (k + 1)) = true := by
  have h1 : k < xs.length := by omega
  simp only [List.getD_eq_getElem?_getD, List.getElem?_eq_getElem h1, Option.getD_some] at e
  unfold wordsB at *
  rw [List.take_succ_eq_append_getElem h1, List.all_append, h, List.all_cons, e]
  rfl
theorem all_not (xs : List Int) (k n : Nat) (hx : xs.length = n) (hk : k < n) (e : wordB (xs.getD k 0) = false) : wordsB xs = false := by
  have h1 : k < xs.length := by omega
  simp only [List.getD_eq_getElem?_getD, List.getElem?_eq_getElem h1, Option.getD_some] at e
  unfold wordsB
  rw [List.all_eq_false]
  exact ⟨xs[k], List.getElem_mem h1, by simp [e]⟩

set_option maxHeartbeats 400000 in
theorem specImg_any (A : Option Addr) (n c : Nat) (xs : List Int) (B : Nat) (w : World) (h : Rd w B A n xs) (hn : n ≤ 2097152) :
    Calls Try.prog 16 #[.slice A n c] w fun e w' => e = .returned (.bool (imgB xs)) ∧ w = w' := by
  have hx := Lib.hid h.len
  go_enter Try.func16, Try.ntmps16
  go_wp2
  go_loop [3] (fun i => ∃ k : Nat, k ≤ n ∧ i = .int .i64 k ∧ wordsB (xs.take k) = true) (fun i => n - (intOf i).toNat)
  case atStart => exact ⟨0, Nat.zero_le _, rfl, rfl⟩
  case round =>
    obtain ⟨k, hk, rfl, ht⟩ := hrel
    have HT := Lib.hid ht
    clear ht
    by_cases hlt : k < n
    · obtain ⟨b, off, rfl, hbb, hc⟩ := h.2 (by omega)
      have hcx := hc k hlt
      have HE := Lib.hid (all_step xs k n hx.out hlt HT.out)
      have HN := Lib.hid (all_not xs k n hx.out hlt)
      clear hc
      generalize xs.getD k 0 = x at *
      cases hb : wordB x
      · have HN2 := Lib.hid (HN.out hb)
        clear HE HN
        go_wp2_with (go_at_call 28; refine (word_any _ _).mono ?_; rintro e w' ⟨rfl, rfl⟩)
        go_ret
        exact ⟨ret_bool (by simp [imgB, HN2.out]), rfl⟩
      · have HE2 := Lib.hid (HE.out hb)
        clear HE HN
        go_wp2_with (go_at_call 28; refine (word_any _ _).mono ?_; rintro e w' ⟨rfl, rfl⟩)
        go_round
        case rel => exact ⟨k + 1, by omega, by go_num, HE2.out⟩
        case measure => simp [intOf]; omega
    · go_wp2
      go_ret
      have hkn : k = n := by omega
      subst hkn
      have e := HT.out
      have hl := hx.out
      rw [List.take_of_length_le (Nat.le_of_eq hl)] at e
      refine ⟨ret_bool ?_, rfl⟩
      rw [imgB, e, hl, Bool.true_and]
      exact decide_eq_decide.2 (by omega)

set_option maxHeartbeats 400000 in
theorem implWords_any (A : Option Addr) (n c : Nat) (xs : List Int) (B : Nat) (w : World) (h : Rd w B A n xs) (hn : n ≤ 2097152) :
    Calls Try.prog 29 #[.slice A n c] w fun e w' => e = .returned (.bool (wordsB xs)) ∧ w = w' := by
  have hx := Lib.hid h.len
  go_enter Try.func29, Try.ntmps29
  go_wp2
  go_loop [7] (fun i => ∃ k : Nat, k ≤ n ∧ i = .int .i64 k ∧ wordsB (xs.take k) = true) (fun i => n - (intOf i).toNat)
  case atStart => exact ⟨0, Nat.zero_le _, rfl, rfl⟩
  case round =>
    obtain ⟨k, hk, rfl, ht⟩ := hrel
    have HT := Lib.hid ht
    clear ht
    by_cases hlt : k < n
    · obtain ⟨b, off, rfl, hbb, hc⟩ := h.2 (by omega)
      have hcx := hc k hlt
      have HE := Lib.hid (all_step xs k n hx.out hlt HT.out)
      have HN := Lib.hid (all_not xs k n hx.out hlt)
      clear hc
      generalize xs.getD k 0 = x at *
      cases hb : wordB x
      · have HN2 := Lib.hid (HN.out hb)
        clear HE HN
        go_wp2_with (go_at_call 31; refine (implWord_any _ _).mono ?_; rintro e w' ⟨rfl, rfl⟩)
        go_ret
        exact ⟨ret_bool (by simp [HN2.out]), rfl⟩
      · have HE2 := Lib.hid (HE.out hb)
        clear HE HN
        go_wp2_with (go_at_call 31; refine (implWord_any _ _).mono ?_; rintro e w' ⟨rfl, rfl⟩)
        go_round
        case rel => exact ⟨k + 1, by omega, by go_num, HE2.out⟩
        case measure => simp [intOf]; omega
    · go_wp2
      go_ret
      have hkn : k = n := by omega
      subst hkn
      have e := HT.out
      have hl := hx.out
      rw [List.take_of_length_le (Nat.le_of_eq hl)] at e
      exact ⟨ret_bool e.symm, rfl⟩

set_option maxHeartbeats 400000 in
theorem implImg_any (A : Option Addr) (n c : Nat) (xs : List Int) (B : Nat) (w : World) (h : Rd w B A n xs) (hn : n ≤ 2097152) :
    Calls Try.prog 18 #[.slice A n c] w fun e w' => e = .returned (.bool (imgB xs)) ∧ w = w' := by
  have hx := Lib.hid h.len
  by_cases hs : n ≤ 512
  · go_enter Try.func18, Try.ntmps18
    go_wp2_with (go_at_call 29; refine (implWords_any _ _ _ _ _ _ h hn).mono ?_; rintro e w' ⟨rfl, rfl⟩)
    go_ret
    have hl := hx.out
    exact ⟨ret_bool (by simp [imgB, hl, hs]), rfl⟩
  · have hs' : decide ((n : Int) ≤ 512) = false := by simp; omega
    go_enter Try.func18, Try.ntmps18
    go_wp2_with (go_at_call 29; refine (implWords_any _ _ _ _ _ _ h hn).mono ?_; rintro e w' ⟨rfl, rfl⟩)
    go_ret
    have hl := hx.out
    exact ⟨ret_bool (by simp [imgB, hl, hs]), rfl⟩
end Go.Proofs.Ytiokfhdkbpoadaa
