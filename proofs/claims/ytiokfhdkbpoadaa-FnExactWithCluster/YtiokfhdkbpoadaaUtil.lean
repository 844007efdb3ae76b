/- What the laws' own helpers do: toInt64S copies, eqInt64S compares, markInt64S numbers the cells of a slice, heldInt64S looks whether they are so numbered. -/
import Derived.Test.YtiokfhdkbpoadaaProg
import Derived.Test.YtiokfhdkbpoadaaMem
import Derived.WalkLawsBesides
import Derived.Lib.Hide
import Derived.BigQuiet
import Derived.Deep.QuietTactic
namespace Go.Proofs.Ytiokfhdkbpoadaa
open Go.RowKit

theorem info2 : (Try.prog.info? 2).map (fun i => (i.zero, i.size, i.bytes)) = some (some (.int .i64 0), 1, 8) := by kernel_rfl

theorem made_iv (n : Nat) : (madeCells (Value.int .i64 0).cells (n * 1)).toList = iv (List.replicate n 0) := by
  rw [Nat.mul_one]; show (madeCells #[Value.int .i64 0] n).toList = _
  rw [toList_madeCells_one]; simp [iv]

theorem take_step (xs : List Int) (k n : Nat) (hn : xs.length = n) (hk : k < n) :
    (xs.take k ++ List.replicate (n - k) 0).set k (xs.getD k 0) = xs.take (k + 1) ++ List.replicate (n - (k + 1)) 0 := by
  subst hn
  have hl : (xs.take k).length = k := by simp; omega
  rw [List.set_append, if_neg (by omega), hl, Nat.sub_self, List.take_succ_eq_append_getElem hk,
    show xs.length - k = (xs.length - (k + 1)) + 1 from by omega, List.replicate_succ, List.set_cons_zero, List.append_assoc]
  simp [List.getD_eq_getElem?_getD, hk]

set_option maxHeartbeats 400000 in
theorem to_any (A : Option Addr) (n c : Nat) (xs : List Int) (w : World) (h : Rd w w.heap.size A n xs) (hn : n ≤ 2097152) :
    Calls Try.prog 7 #[.slice A n c] w fun e w' => ∃ B : Option Addr, e = .returned (.slice B n n) ∧ Ow w' w.heap.size w'.heap.size B n n xs ∧ Below w.heap.size w w' := by
  obtain ⟨i0, hi0, hz0, hz1, hz2⟩ := info_parts info2
  have hxl := Lib.hid h.len
  go_enter Try.func7, Try.ntmps7
  go_wp2_with (at_make; refine wpList_make_full _ rfl _ _ 22 rfl w.heap.size 2 i0 (.int .i64 0) 1 Try.underlying22 hi0 hz0 hz1 .i64 .i64 _ _ n rfl rfl rfl rfl (by rw [hz2]; omega) (by simp only [maxLen]; omega) (Nat.le_refl _) ?_; intro w1 hown hg; rw [made_iv] at hown)
  have hlt := (hown.lt w.heap.size rfl).2
  have hb1 : Below w.heap.size w w1 := below_grown hg (Nat.le_refl _) (fun _ h => by cases h)
  have ho1 : Ow w1 w.heap.size (w.heap.size + 1) (some ⟨w.heap.size, 0, none⟩) n n (List.replicate n 0) := ⟨hown, fun g hg => by simp [Value.ownBlock] at hg; omega⟩
  clear hown hg hi0 hz0 hz1 hz2
  go_loopw [4] (fun i wr => ∃ k : Nat, k ≤ n ∧ i = .int .i64 k ∧ Ow wr w.heap.size (w.heap.size + 1) (some ⟨w.heap.size, 0, none⟩) n n (xs.take k ++ List.replicate (n - k) 0) ∧ Below w.heap.size w wr)
    (fun i _ => n - (intOf i).toNat)
  case atStart => exact ⟨0, Nat.zero_le _, rfl, by simpa using ho1, hb1⟩
  case round =>
    obtain ⟨k, hk, rfl, ho, hb⟩ := hrel
    by_cases hlt : k < n
    · obtain ⟨b, off, rfl, hbb, hc⟩ := h.2 (by omega)
      have hcx : wr.cell? ⟨b, off + k, none⟩ = some (.int .i64 (xs.getD k 0)) := (hb.cell (p := ⟨b, off + k, none⟩) hbb).trans (hc k hlt)
      have hco := ho.cell hlt
      have hfo := ho.free k
      have HS := Lib.hid (ho.set k (xs.getD k 0))
      have HT := Lib.hid (take_step xs k n hxl.out hlt)
      clear hc ho ho1
      go_wp2
      go_roundw
      case rel =>
        obtain ⟨h1, h2⟩ := HS.out
        rw [HT.out] at h1
        exact ⟨k + 1, by omega, by go_num, h1, hb.grown h2 hb.size (fun k hk => by cases hk; exact Nat.le_refl _)⟩
      case measure => simp [intOf]; omega
    · go_wp2
      go_ret
      have hkn : k = n := by omega
      subst hkn
      have hl := hxl.out
      refine ⟨_, rfl, ?_, hb⟩
      have := ho.more (Nat.le_refl _) (show w.heap.size + 1 ≤ wr.heap.size from by have := (ho.own.lt w.heap.size rfl).2; omega)
      simpa [List.take_of_length_le (Nat.le_of_eq hl)] using this

theorem eq_step (xs ys : List Int) (k n : Nat) (hx : xs.length = n) (hy : ys.length = n) (hk : k < n) (h : xs.take k = ys.take k) (e : xs.getD k 0 = ys.getD k 0) : xs.take (k + 1) = ys.take (k + 1) := by
  have h1 : k < xs.length := by omega
  have h2 : k < ys.length := by omega
  rw [List.take_succ_eq_append_getElem h1, List.take_succ_eq_append_getElem h2, h]
  simp only [List.getD_eq_getElem?_getD, List.getElem?_eq_getElem h1, List.getElem?_eq_getElem h2, Option.getD_some] at e
  rw [e]
theorem eq_not (xs ys : List Int) (k : Nat) (e : xs.getD k 0 ≠ ys.getD k 0) : (xs == ys) = false := by
  rw [beq_eq_false_iff_ne]; rintro rfl; exact e rfl

set_option maxHeartbeats 400000 in
theorem eq_any (A A' : Option Addr) (n c n' c' : Nat) (xs ys : List Int) (B : Nat) (w : World) (h : Rd w B A n xs) (h' : Rd w B A' n' ys) (hn : n ≤ 2097152) :
    Calls Try.prog 9 #[.slice A n c, .slice A' n' c'] w fun e w' => e = .returned (.bool (xs == ys)) ∧ ∃ d, w' = w.drewN d := by
  have hx := Lib.hid h.len
  have hy := Lib.hid h'.len
  by_cases hne : n = n'
  · subst hne
    have hd : ((n : Int) != (n : Int)) = false := by simp
    go_enter Try.func9, Try.ntmps9
    go_wp2
    go_loopw [5] (fun i wr => ∃ k : Nat, k ≤ n ∧ i = .int .i64 k ∧ xs.take k = ys.take k ∧ ∃ d, wr = w.drewN d) (fun i _ => n - (intOf i).toNat)
    case atStart => exact ⟨0, Nat.zero_le _, rfl, rfl, 0, rfl⟩
    case round =>
      obtain ⟨k, hk, rfl, ht, d, rfl⟩ := hrel
      have HT := Lib.hid ht
      clear ht
      by_cases hlt : k < n
      · obtain ⟨b, off, rfl, hbb, hc⟩ := h.2 (by omega)
        obtain ⟨b', off', rfl, hbb', hc'⟩ := h'.2 (by omega)
        have hcx : w.cell? ⟨b, off + k, none⟩ = some (.int .i64 (xs.getD k 0)) := hc k hlt
        have hcy : w.cell? ⟨b', off' + k, none⟩ = some (.int .i64 (ys.getD k 0)) := hc' k hlt
        have HE := Lib.hid (eq_step xs ys k n hx.out hy.out hlt HT.out)
        have HN := Lib.hid (eq_not xs ys k)
        clear hc hc'
        generalize xs.getD k 0 = x at *
        generalize ys.getD k 0 = y at *
        by_cases hxy : x = y
        · subst hxy
          have HE2 := Lib.hid (HE.out rfl)
          clear HE HN
          have hb : (x != x) = false := by simp
          go_wp2
          go_quiet (fail)
          go_wp2
          go_roundw
          case rel => exact ⟨k + 1, by omega, by go_num, HE2.out, _, rfl⟩
          case measure => simp [intOf]; omega
        · have HN2 := Lib.hid (HN.out hxy)
          clear HE HN
          have hb : (x != y) = true := by simp [hxy]
          go_wp2
          go_quiet (fail)
          go_wp2
          go_ret
          exact ⟨by rw [HN2.out]; rfl, _, World.drewN_drewN _ _ _⟩
      · go_wp2
        go_ret
        have hkn : k = n := by omega
        subst hkn
        have e := HT.out
        rw [List.take_of_length_le (Nat.le_of_eq hx.out), List.take_of_length_le (Nat.le_of_eq hy.out)] at e
        subst e
        exact ⟨by simp, _, rfl⟩
  · have hd : ((n : Int) != (n' : Int)) = true := by simp; omega
    go_enter Try.func9, Try.ntmps9
    go_wp2
    go_ret
    refine ⟨?_, 0, rfl⟩
    have : (xs == ys) = false := by
      rw [beq_eq_false_iff_ne]; rintro rfl; exact hne (hx.out.symm.trans hy.out)
    rw [this]; rfl

/-- k, k + 1, .. : n numbers. -/
def upTo (k : Int) : Nat → List Int
  | 0 => []
  | n + 1 => k :: upTo (k + 1) n
theorem upTo_length (k : Int) (n : Nat) : (upTo k n).length = n := by
  induction n generalizing k with
  | zero => rfl
  | succ n ih => simp [upTo, ih]
theorem upTo_get (k : Int) (n j : Nat) (h : j < n) : (upTo k n).getD j 0 = k + j := by
  induction n generalizing k j with
  | zero => omega
  | succ n ih =>
    cases j with
    | zero => simp [upTo]
    | succ j =>
      have := ih (k + 1) j (by omega)
      simp only [upTo, List.getD_cons_succ, this]
      omega
theorem upTo_snoc (k : Int) (n : Nat) : upTo k (n + 1) = upTo k n ++ [k + n] := by
  induction n generalizing k with
  | zero => simp [upTo]
  | succ n ih =>
    have h := ih (k + 1)
    rw [upTo, h]
    simp only [upTo, List.cons_append]
    rw [show k + 1 + (n : Int) = k + ((n + 1 : Nat) : Int) from by omega]
theorem mark_step (xs : List Int) (q : Int) (k n : Nat) (hn : xs.length = n) (hk : k < n) : (upTo q k ++ xs.drop k).set k (q + k) = upTo q (k + 1) ++ xs.drop (k + 1) := by
  subst hn
  rw [List.set_append, if_neg (by rw [upTo_length]; omega), upTo_length, Nat.sub_self, upTo_snoc, List.drop_eq_getElem_cons hk, List.set_cons_zero, List.append_assoc]
  rfl

set_option maxHeartbeats 400000 in
theorem mark_any (A : Option Addr) (n c lo hi : Nat) (xs : List Int) (q : Int) (w : World) (h : Ow w lo hi A n c xs) (hn : n ≤ 2097152) (hq : 0 ≤ q) (hq2 : q ≤ 100000000) :
    Calls Try.prog 12 #[.slice A n c, .int .i64 q] w fun e w' => e = .returned (.int .i64 (q + n)) ∧ Ow w' lo hi A n c (upTo q n) ∧ w.grownBy w' (Value.ownBlock (.slice A n c)) := by
  have hx := Lib.hid h.len
  go_enter Try.func12, Try.ntmps12
  go_wp2
  go_loopw [1, 5] (fun u i wr => ∃ k : Nat, k ≤ n ∧ i = .int .i64 k ∧ u = .int .i64 (q + k) ∧ Ow wr lo hi A n c (upTo q k ++ xs.drop k) ∧ w.grownBy wr (Value.ownBlock (.slice A n c))) (fun _ i _ => n - (intOf i).toNat)
  case atStart => exact ⟨0, Nat.zero_le _, rfl, by simp, by simpa [upTo] using h, grown_refl _ _⟩
  case round =>
    obtain ⟨k, hk, rfl, rfl, ho, hg⟩ := hrel
    have HG := Lib.hid hg
    clear hg
    by_cases hlt : k < n
    · rcases ho.form with ⟨_, h0, _⟩ | ⟨g, rfl, h1, h2, h3, h4⟩
      · omega
      · have hco := ho.cell hlt
        have hfo := ho.free k
        have HS := Lib.hid (ho.set k (q + k))
        have HT := Lib.hid (mark_step xs q k n hx.out hlt)
        clear ho
        go_wp2
        go_roundw
        case rel =>
          obtain ⟨s1, s2⟩ := HS.out
          rw [HT.out] at s1
          exact ⟨k + 1, by omega, by go_num, by go_num, s1, grown_trans HG.out s2⟩
        case measure => simp [intOf]; omega
    · go_wp2
      go_ret
      have hkn : k = n := by omega
      subst hkn
      refine ⟨rfl, ?_, HG.out⟩
      have hd : xs.drop k = [] := List.drop_of_length_le (Nat.le_of_eq hx.out)
      rw [hd, List.append_nil] at ho
      exact ho

set_option maxHeartbeats 400000 in
theorem held_any (A : Option Addr) (n c B : Nat) (q : Int) (w : World) (h : Rd w B A n (upTo q n)) (hn : n ≤ 2097152) (hq : 0 ≤ q) (hq2 : q ≤ 100000000) :
    Calls Try.prog 13 #[.slice A n c, .int .i64 q] w fun e w' => e = .returned (.int .i64 (q + n)) ∧ w = w' := by
  go_enter Try.func13, Try.ntmps13
  go_wp2
  go_loop [1, 5] (fun u i => ∃ k : Nat, k ≤ n ∧ i = .int .i64 k ∧ u = .int .i64 (q + k)) (fun _ i => n - (intOf i).toNat)
  case atStart => exact ⟨0, Nat.zero_le _, rfl, by simp⟩
  case round =>
    obtain ⟨k, hk, rfl, rfl⟩ := hrel
    by_cases hlt : k < n
    · obtain ⟨b, off, rfl, hbb, hc⟩ := h.2 (by omega)
      have hcx := hc k hlt
      rw [upTo_get q n k hlt] at hcx
      have hb : (q + (k : Int) != q + (k : Int)) = false := by simp
      clear hc
      go_wp2
      go_round
      case rel => exact ⟨k + 1, by omega, by go_num, by go_num⟩
      case measure => simp [intOf]; omega
    · go_wp2
      go_ret
      have hkn : k = n := by omega
      subst hkn
      exact ⟨rfl, rfl⟩
end Go.Proofs.Ytiokfhdkbpoadaa
