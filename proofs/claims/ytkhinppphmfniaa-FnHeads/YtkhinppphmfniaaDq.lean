/- What the law of the words draws: an image and a place, a cluster; and how it compares (likeInts). -/
import Derived.Test.YtkhinppphmfniaaDa
namespace Go.Proofs.Ytkhinppphmfniaa
open Go.RowKit

theorem cur_under {w w' : World} {g B : Nat} (hc : Cur w g B) (hB : B ≤ w.heap.size) (hg : w.grownBy w' (some g)) : Below B w w' := below_grown hg hB (fun k e => by cases e; exact hc.lo)

set_option maxHeartbeats 400000 in
theorem like_any (A A' : Option Addr) (n c n' c' : Nat) (xs ys : List Int) (B : Nat) (w : World) (h : Rd w B A n xs) (h' : Rd w B A' n' ys) (hn : n ≤ 2097152) :
    Calls Try.prog 12 #[.slice A n c, .slice A' n' c'] w fun e w' => e = .returned (.bool (xs == ys)) ∧ ∃ d, w' = w.drewN d := by
  have hx := Lib.hid h.len
  have hy := Lib.hid h'.len
  by_cases hne : n = n'
  · subst hne
    have hd : ((n : Int) != (n : Int)) = false := by simp
    go_enter Try.func12, Try.ntmps12
    go_wp2
    go_loopw [5] (fun i wr => ∃ k : Nat, k ≤ n ∧ i = .int .i64 k ∧ xs.take k = ys.take k ∧ ∃ d, wr = w.drewN d) (fun i _ => n - (intOf i).toNat)
    case atStart => exact ⟨0, Nat.zero_le _, rfl, rfl, 0, rfl⟩
    case round =>
      obtain ⟨k, hk, rfl, ht, d, rfl⟩ := hrel
      have HT := Lib.hid ht
      clear ht
      by_cases hlt : k < n
      · obtain ⟨b, off, rfl, hbb, hc⟩ := h.2 (by omega)
        obtain ⟨b', off', rfl, hbb', hc'⟩ := h'.2 (by omega)
        have hcx : w.cell? ⟨b, off + k, none⟩ = some (.int .i64 (xs.getD k 0)) := hc k hlt
        have hcy : w.cell? ⟨b', off' + k, none⟩ = some (.int .i64 (ys.getD k 0)) := hc' k hlt
        have HE := Lib.hid (eq_step xs ys k n hx.out hy.out hlt HT.out)
        have HN := Lib.hid (eq_not xs ys k)
        clear hc hc'
        generalize xs.getD k 0 = x at *
        generalize ys.getD k 0 = y at *
        by_cases hxy : x = y
        · subst hxy
          have HE2 := Lib.hid (HE.out rfl)
          clear HE HN
          have hb : (x != x) = false := by simp
          go_wp2
          go_quiet (fail)
          go_wp2
          go_roundw
          case rel => exact ⟨k + 1, by omega, by go_num, HE2.out, _, rfl⟩
          case measure => simp [intOf]; omega
        · have HN2 := Lib.hid (HN.out hxy)
          clear HE HN
          have hb : (x != y) = true := by simp [hxy]
          go_wp2
          go_quiet (fail)
          go_wp2
          go_ret
          exact ⟨by rw [HN2.out]; rfl, _, World.drewN_drewN _ _ _⟩
      · go_wp2
        go_ret
        have hkn : k = n := by omega
        subst hkn
        have e := HT.out
        rw [List.take_of_length_le (Nat.le_of_eq hx.out), List.take_of_length_le (Nat.le_of_eq hy.out)] at e
        subst e
        exact ⟨by simp, _, rfl⟩
  · have hd : ((n : Int) != (n' : Int)) = true := by simp; omega
    go_enter Try.func12, Try.ntmps12
    go_wp2
    go_ret
    refine ⟨?_, 0, rfl⟩
    have : (xs == ys) = false := by
      rw [beq_eq_false_iff_ne]; rintro rfl; exact hne (hx.out.symm.trans hy.out)
    rw [this]; rfl

/-- It answers a new row and a number; the cursor goes on; nothing else has turned. -/
def DrawTwo (g B : Nat) (w : World) (e : Ending) (w' : World) : Prop :=
  ∃ (h n c : Nat) (ys : List Int) (x : Int), n ≤ 600 ∧ e = .returned (.tuple #[.slice (some ⟨h, 0, none⟩) n c, .int .i64 x]) ∧ OwV 2 1 w' w.heap.size w'.heap.size h n c (iv ys) ∧ Cur w' g B ∧ w.grownBy w' (some g)

/-- It answers a slice that reads; nothing that was there has turned. -/
def SomeRow (w : World) (e : Ending) (w' : World) : Prop :=
  ∃ (A : Option Addr) (n c : Nat) (ys : List Int), n ≤ 600 ∧ e = .returned (.slice A n c) ∧ Rd w' w'.heap.size A n ys ∧ Below w.heap.size w w'
def SomeRowInt (w : World) (e : Ending) (w' : World) : Prop :=
  ∃ (A : Option Addr) (n c : Nat) (ys : List Int) (x : Int), n ≤ 600 ∧ e = .returned (.tuple #[.slice A n c, .int .i64 x]) ∧ Rd w' w'.heap.size A n ys ∧ Below w.heap.size w w'
def SomeRowIntRow (w : World) (e : Ending) (w' : World) : Prop :=
  ∃ (A : Option Addr) (n c : Nat) (ys : List Int) (x : Int) (W : Option Addr) (nw cw : Nat) (ws : List Int), n ≤ 600 ∧ nw ≤ 600 ∧ e = .returned (.tuple #[.slice A n c, .int .i64 x, .slice W nw cw]) ∧ Rd w' w'.heap.size A n ys ∧ Rd w' w'.heap.size W nw ws ∧ Below w.heap.size w w'

end Go.Proofs.Ytkhinppphmfniaa
