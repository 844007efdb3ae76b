/- Counting anew (chapter 14), the program's side: the greatest of a row, slots, what gives up by a panic. -/
import Derived.Test.YtfolbhjljpnjlaaCtq
import Derived.Test.YtfolbhjljpnjlaaTbi
import Derived.Test.YtfolbhjljpnjlaaHdk
import Derived.Test.YtfolbhjljpnjlaaY2
import Derived.Test.YtfolbhjljpnjlaaLawCo
import Derived.Test.YtfolbhjljpnjlaaY5
import Derived.WalkLawsBesides
namespace Go.Proofs.Ytfolbhjljpnjlaa
open Go.RowKit

/-- What gives up by a panic: the words, or a panic. -/
def RetG (w : World) (r : Option (List Int)) (e : Ending) (w' : World) : Prop :=
  match r with
  | some ys => ∃ (A : Option Addr) (n c : Nat), e = .returned (.slice A n c) ∧ Rd w' w'.heap.size A n ys ∧ n ≤ c ∧ Below w.heap.size w w'
  | none => (∃ (u : TypeId) (v : Value), e = .panicked [{ v := .iface u v, recovered := false }]) ∧ Below w.heap.size w w'

/-- The greatest word. -/
def maxN (xs : List Int) : Int := xs.foldl max 0
theorem maxN_ge : ∀ (xs : List Int) (a : Int), a ≤ xs.foldl max a ∧ ∀ x ∈ xs, x ≤ xs.foldl max a
  | [], a => ⟨Int.le_refl _, fun x h => by cases h⟩
  | y :: xs, a => by
    obtain ⟨h1, h2⟩ := maxN_ge xs (max a y)
    refine ⟨by rw [List.foldl_cons]; omega, fun x hx => ?_⟩
    rw [List.foldl_cons]
    rcases List.mem_cons.1 hx with rfl | hx
    · omega
    · exact h2 x hx
theorem maxN_le : ∀ (xs : List Int) (a b : Int), a ≤ b → (∀ x ∈ xs, x ≤ b) → xs.foldl max a ≤ b
  | [], a, b, h, _ => h
  | y :: xs, a, b, h, hx => by
    rw [List.foldl_cons]
    exact maxN_le xs _ b (by have := hx y (by simp); omega) (fun x h' => hx x (by simp [h']))
theorem maxN_zero {xs : List Int} (h : ∀ x ∈ xs, 0 ≤ x) : (maxN xs != 0) = !xs.all (fun x => x == 0) := by
  cases ha : xs.all (fun x => x == 0)
  · simp only [Bool.not_false]
    rw [List.all_eq_false] at ha
    obtain ⟨x, hx, hz⟩ := ha
    have h1 := (maxN_ge xs 0).2 x hx
    have h2 := h x hx
    have h3 : x ≠ 0 := by simpa using hz
    simp only [bne_iff_ne, ne_eq]
    unfold maxN
    omega
  · rw [List.all_eq_true] at ha
    have h1 := maxN_le xs 0 0 (Int.le_refl _) (fun x hx => by have := ha x hx; simp at this; omega)
    have h2 := (maxN_ge xs 0).1
    have : maxN xs = 0 := by unfold maxN; omega
    rw [this]
    rfl
theorem maxN_bound {xs : List Int} (h : ∀ x ∈ xs, x ≤ 65535) : 0 ≤ maxN xs ∧ maxN xs ≤ 65535 := ⟨(maxN_ge xs 0).1, maxN_le xs 0 65535 (by omega) h⟩
theorem maxN_take (xs : List Int) (k : Nat) (hk : k < xs.length) : maxN (xs.take (k + 1)) = max (maxN (xs.take k)) (xs.getD k 0) := by
  have e : xs.getD k 0 = xs[k] := by simp [List.getD_eq_getElem?_getD, hk]
  unfold maxN
  rw [List.take_succ_eq_append_getElem hk, List.foldl_append, e]
  rfl

set_option maxRecDepth 100000 in
set_option maxHeartbeats 2000000 in
theorem max_any (b off n c : Nat) (xs : List Int) (w : World) (hr : Rd w w.heap.size (some ⟨b, off, none⟩) n xs) (hn : n ≤ 64) (h1 : 1 ≤ n) (h0 : ∀ x ∈ xs, 0 ≤ x) :
    Calls Try.prog 60 #[.slice (some ⟨b, off, none⟩) n c] w fun e w' => e = .returned (.int .i64 (maxN xs)) ∧ w' = w := by
  have hl := Lib.hid hr.len
  obtain ⟨b', off', he, hb, hc⟩ := hr.2 (by omega)
  cases he
  have hd : decide ((n : Int) < 1) = false := by simp; omega
  have hc0 : w.cell? ⟨b, off, none⟩ = some (.int .i64 (xs.getD 0 0)) := hc 0 (by omega)
  have hm1 : Hid (maxN (xs.take 1) = xs.getD 0 0) := by
    show _ = _
    rw [maxN_take xs 0 (by have := hl.out; omega)]
    have : 0 ≤ xs.getD 0 0 := by
      rw [List.getD_eq_getElem?_getD, List.getElem?_eq_getElem (by have := hl.out; omega)]
      exact h0 _ (List.getElem_mem _)
    have e : maxN (xs.take 0) = 0 := rfl
    rw [e]
    omega
  have HT := Lib.hid (maxN_take xs)
  have HA : Hid (maxN (xs.take n) = maxN xs) := by
    show _ = _
    rw [List.take_of_length_le (by have := hl.out; omega)]
  clear h0 hr
  go_enter Try.func60, Try.ntmps60
  go_wp2_with fail
  go_loop [3, 4] (fun m i => ∃ k : Nat, 1 ≤ k ∧ k ≤ n ∧ i = .int .i64 k ∧ m = .int .i64 (maxN (xs.take k))) (fun _ i => n - (intOf i).toNat)
  case atStart => exact ⟨1, Nat.le_refl _, h1, rfl, by rw [hm1.out, List.getD_eq_getElem?_getD]⟩
  case round =>
    obtain ⟨k, hk1, hk, rfl, rfl⟩ := hrel
    by_cases hlt : k < n
    · have hck := hc k hlt
      have HE := Lib.hid (HT.out k (by have := hl.out; omega))
      clear hc hc0
      generalize maxN (xs.take k) = mk at *
      generalize xs.getD k 0 = y at *
      go_wp2
      go_round
      case rel => exact ⟨k + 1, by omega, by omega, by go_num, by rw [HE.out, Int.max_def]; congr 1; split <;> split <;> omega⟩
      case measure => simp [intOf]; omega
    · obtain rfl : k = n := by omega
      go_wp2
      go_ret
      rw [HA.out]
      exact ⟨rfl, rfl⟩

set_option maxRecDepth 100000 in
theorem eightOf_any (g s cc : Nat) (q : Int) (hq : q = (s : Int)) (hs : s < 8) (hcc : 64 ≤ cc) (w : World) :
    Calls Try.prog 35 #[.slice (some ⟨g, 0, none⟩) 64 cc, .int .i64 q] w fun e w' => e = .returned (.slice (some ⟨g, s * 8, none⟩) 8 8) ∧ w = w' := by
  subst hq
  have n1 : IntKind.i64.wrap ((s : Int) * 8) = ((s * 8 : Nat) : Int) := by rw [IntWalk.i64_in _ (by omega)]; omega
  go_enter Try.func35, Try.ntmps35
  go_wp2_with fail
  refine (cutOf_any g 0 64 cc (s * 8) 8 _ _ w (by omega) rfl (by omega) (by omega) (by omega) (by omega) (by omega)).mono ?_
  rintro e w' ⟨rfl, rfl⟩
  rw [show min 8 (64 - s * 8) = 8 by omega, Nat.zero_add]
  go_wp2_with fail
  go_ret
  exact ⟨rfl, rfl⟩
end Go.Proofs.Ytfolbhjljpnjlaa
