/- Words for memory: a slice of int64 that reads as a list; one that the call itself made. Plain theorems on worlds; no program is named here. What the laws' own helpers do: toInt64S copies, eqInt64S compares, markInt64S numbers the cells of a slice, heldInt64S looks whether they are so numbered. The word: plain functions on numbers, and that the Go functions of both sides compute them. -/
import Derived.WalkKit
import Derived.Below
import Derived.Laws.OwnMore
import Derived.Deep.Draws
import Derived.Test.YtiokfhdkbpoadaaGreatDoorProg
import Derived.WalkLawsBesides
import Derived.Lib.Hide
import Derived.BigQuiet
import Derived.Deep.QuietTactic
namespace Go.Proofs.YtiokfhdkbpoadaaGreatDoor
open Go.RowKit

def iv (xs : List Int) : List Value := xs.map (Value.int .i64)

theorem iv_length (xs : List Int) : (iv xs).length = xs.length := by simp [iv]
theorem iv_get (xs : List Int) (j : Nat) (h : j < xs.length) : (iv xs)[j]? = some (.int .i64 (xs.getD j 0)) := by
  simp [iv, List.getD_eq_getElem?_getD, h]
theorem iv_set (xs : List Int) (j : Nat) (x : Int) : (iv xs).set j (.int .i64 x) = iv (xs.set j x) := by simp [iv, List.map_set]
theorem iv_append (xs ys : List Int) : iv (xs ++ ys) = iv xs ++ iv ys := by simp [iv]

/-- The slice value '.slice A n c' reads as the numbers xs, and lies below block B. -/
def Rd (w : World) (B : Nat) (A : Option Addr) (n : Nat) (xs : List Int) : Prop :=
  xs.length = n ∧ (0 < n → ∃ b off, A = some ⟨b, off, none⟩ ∧ b < B ∧ ∀ j, j < n → w.cell? ⟨b, off + j, none⟩ = some (.int .i64 (xs.getD j 0)))

section
variable {w w' : World} {B B' n : Nat} {A : Option Addr} {xs : List Int}
theorem Rd.nil (w : World) (B : Nat) (A : Option Addr) : Rd w B A 0 [] := ⟨rfl, fun h => absurd h (by omega)⟩
theorem Rd.len (h : Rd w B A n xs) : xs.length = n := h.1
theorem Rd.keep (h : Rd w B A n xs) (hk : ∀ p : Addr, p.block < B → w'.cell? p = w.cell? p) : Rd w' B A n xs :=
  ⟨h.1, fun hn => by
    obtain ⟨b, off, e, hb, hc⟩ := h.2 hn
    exact ⟨b, off, e, hb, fun j hj => (hk ⟨b, off + j, none⟩ hb).trans (hc j hj)⟩⟩
theorem Rd.more (h : Rd w B A n xs) (hB : B ≤ B') : Rd w B' A n xs :=
  ⟨h.1, fun hn => by
    obtain ⟨b, off, e, hb, hc⟩ := h.2 hn
    exact ⟨b, off, e, by omega, hc⟩⟩
theorem Rd.below (h : Rd w B A n xs) (hb : Below B w w') : Rd w' B A n xs := h.keep fun _ hp => hb.cell hp
theorem Rd.drewN (h : Rd w B A n xs) (k : Nat) : Rd (w.drewN k) B A n xs := h
end

/-- The slice value '.slice A n c' is a row of the call's own, in a block from lo on and below hi, and its elements are xs. -/
structure Ow (w : World) (lo hi : Nat) (A : Option Addr) (n c : Nat) (xs : List Int) : Prop where
  own : w.ownsRow lo 2 1 (.slice A n c) n (iv xs)
  top : ∀ g, Value.ownBlock (.slice A n c) = some g → g < hi

section
variable {w w' : World} {lo hi n c : Nat} {A : Option Addr} {xs : List Int}
theorem Ow.len (h : Ow w lo hi A n c xs) : xs.length = n := by
  have := h.own.1
  rw [iv_length] at this
  omega
theorem Ow.form (h : Ow w lo hi A n c xs) : (A = none ∧ n = 0 ∧ c = 0) ∨ ∃ g, A = some ⟨g, 0, none⟩ ∧ lo ≤ g ∧ g < hi ∧ g < w.heap.size ∧ n ≤ c := by
  have hl := h.own.lt
  rcases h.own.2 with ⟨hv, hn⟩ | ⟨g, cap, cur, hv, hb, hg, hnc, _⟩
  · injection hv with h1 h2 h3
    exact .inl ⟨h1, h2, h3⟩
  · injection hv with h1 h2 h3
    subst h1
    exact .inr ⟨g, rfl, hb, h.top g rfl, (hl g rfl).2, by omega⟩
theorem Ow.rd (h : Ow w lo hi A n c xs) : Rd w hi A n xs := by
  refine ⟨h.len, fun hn => ?_⟩
  have hle := h.len
  have hw := h.own
  rcases h.form with ⟨_, h0, _⟩ | ⟨g, rfl, h1, h2, h3, h4⟩
  · omega
  · refine ⟨g, 0, rfl, h2, fun j hj => ?_⟩
    rw [Nat.zero_add, hw.cellAt j (by omega), iv_get xs j (by omega)]
theorem Ow.cell {g : Nat} (h : Ow w lo hi (some ⟨g, 0, none⟩) n c xs) {j : Nat} (hj : j < n) : w.cell? ⟨g, j, none⟩ = some (.int .i64 (xs.getD j 0)) := by
  have hle := h.len
  rw [h.own.cellAt j (by omega), iv_get xs j (by omega)]
theorem Ow.free {g : Nat} (h : Ow w lo hi (some ⟨g, 0, none⟩) n c xs) (j : Nat) : w.frozen? ⟨g, j, none⟩ = false := h.own.frozenAt j
theorem Ow.keep (h : Ow w lo hi A n c xs) (hk : ∀ g, lo ≤ g → g < hi → g < w.heap.size → w'.heap[g]? = w.heap[g]?) : Ow w' lo hi A n c xs := by
  refine ⟨⟨h.own.1, ?_⟩, h.top⟩
  have ht := h.top
  have hl := h.own.lt
  rcases h.own.2 with hn | ⟨g, cap, cur, hv, hb, hg, rest⟩
  · exact .inl hn
  · refine .inr ⟨g, cap, cur, hv, hb, ?_, rest⟩
    rw [hv] at ht hl
    rw [hk g hb (ht g rfl) (hl g rfl).2]
    exact hg
theorem Ow.below {B : Nat} (h : Ow w lo hi A n c xs) (hb : Below B w w') (hB : hi ≤ B) : Ow w' lo hi A n c xs := h.keep fun g _ h2 _ => hb.block g (by omega)
theorem Ow.grown {row : Option Nat} (h : Ow w lo hi A n c xs) (hg : w.grownBy w' row) (hr : ∀ g, row = some g → g < lo ∨ hi ≤ g) : Ow w' lo hi A n c xs :=
  h.keep fun g h1 h2 h3 => hg.block g h3 (fun e => by have := hr g e.symm; omega)
theorem Ow.drewN (h : Ow w lo hi A n c xs) (k : Nat) : Ow (w.drewN k) lo hi A n c xs := h.keep fun _ _ _ _ => rfl
theorem Ow.more {lo' hi' : Nat} (h : Ow w lo hi A n c xs) (h1 : lo' ≤ lo) (h2 : hi ≤ hi') : Ow w lo' hi' A n c xs := by
  refine ⟨⟨h.own.1, ?_⟩, fun g hg => by have := h.top g hg; omega⟩
  rcases h.own.2 with hn | ⟨g, cap, cur, hv, hb, rest⟩
  · exact .inl hn
  · exact .inr ⟨g, cap, cur, hv, by omega, rest⟩
theorem Ow.set {g : Nat} (h : Ow w lo hi (some ⟨g, 0, none⟩) n c xs) (j : Nat) (x : Int) :
    Ow (w.setCell ⟨g, j, none⟩ (.int .i64 x)) lo hi (some ⟨g, 0, none⟩) n c (xs.set j x) ∧ w.grownBy (w.setCell ⟨g, j, none⟩ (.int .i64 x)) (some g) := by
  obtain ⟨h1, h2⟩ := h.own.stored j (.int .i64 x)
  rw [iv_set] at h1
  exact ⟨⟨h1, h.top⟩, h2⟩
end

/-- Out of a law that ends in 'ownsRow'. -/
theorem Ow.of {w : World} {lo n : Nat} {v : Value} {xs : List Int} (h : w.ownsRow lo 2 1 v n (iv xs)) : ∃ A c, v = .slice A n c ∧ Ow w lo w.heap.size A n c xs := by
  have hl := h.lt
  rcases h.2 with ⟨hv, hn⟩ | ⟨g, cap, cur, hv, _⟩
  · subst hv; subst hn
    exact ⟨none, 0, rfl, h, fun g hg => (hl g hg).2⟩
  · subst hv
    exact ⟨_, _, rfl, h, fun g hg => (hl g hg).2⟩

theorem below_drewN {B : Nat} {a w : World} (h : Below B a w) (n : Nat) : Below B a (w.drewN n) := ⟨h.os, h.tape, h.output, h.size, h.block⟩
theorem grown_refl (w : World) (r : Option Nat) : w.grownBy w r := ⟨rfl, rfl, rfl, Nat.le_refl _, fun _ _ _ => rfl⟩
theorem grown_trans {a b c : World} {r : Option Nat} (h : a.grownBy b r) (k : b.grownBy c r) : a.grownBy c r :=
  ⟨k.os.trans h.os, k.tape.trans h.tape, k.output.trans h.output, Nat.le_trans h.size k.size, fun i hi hn => (k.block i (Nat.lt_of_lt_of_le hi h.size) hn).trans (h.block i hi hn)⟩
theorem below_grown {B : Nat} {w w' : World} {r : Option Nat} (h : w.grownBy w' r) (hB : B ≤ w.heap.size) (hr : ∀ k, r = some k → B ≤ k) : Below B w w' :=
  (Below.refl _ _).grown h hB hr
theorem below_more {B : Nat} {a b c : World} (h : Below B a b) (k : Below b.heap.size b c) (hB : B ≤ b.heap.size) : Below B a c := h.trans (k.mono hB)

theorem info2 : (Tryz.prog.info? 2).map (fun i => (i.zero, i.size, i.bytes)) = some (some (.int .i64 0), 1, 8) := by kernel_rfl

theorem made_iv (n : Nat) : (madeCells (Value.int .i64 0).cells (n * 1)).toList = iv (List.replicate n 0) := by
  rw [Nat.mul_one]; show (madeCells #[Value.int .i64 0] n).toList = _
  rw [toList_madeCells_one]; simp [iv]

theorem take_step (xs : List Int) (k n : Nat) (hn : xs.length = n) (hk : k < n) :
    (xs.take k ++ List.replicate (n - k) 0).set k (xs.getD k 0) = xs.take (k + 1) ++ List.replicate (n - (k + 1)) 0 := by
  subst hn
  have hl : (xs.take k).length = k := by simp; omega
  rw [List.set_append, if_neg (by omega), hl, Nat.sub_self, List.take_succ_eq_append_getElem hk,
    show xs.length - k = (xs.length - (k + 1)) + 1 from by omega, List.replicate_succ, List.set_cons_zero, List.append_assoc]
  simp [List.getD_eq_getElem?_getD, hk]

set_option maxHeartbeats 400000 in
theorem to_any (A : Option Addr) (n c : Nat) (xs : List Int) (w : World) (h : Rd w w.heap.size A n xs) (hn : n ≤ 2097152) :
    Calls Tryz.prog 6 #[.slice A n c] w fun e w' => ∃ B : Option Addr, e = .returned (.slice B n n) ∧ Ow w' w.heap.size w'.heap.size B n n xs ∧ Below w.heap.size w w' := by
  obtain ⟨i0, hi0, hz0, hz1, hz2⟩ := info_parts info2
  have hxl := Lib.hid h.len
  go_enter Tryz.func6, Tryz.ntmps6
  go_wp2_with (at_make; refine wpList_make_full _ rfl _ _ 22 rfl w.heap.size 2 i0 (.int .i64 0) 1 Tryz.underlying22 hi0 hz0 hz1 .i64 .i64 _ _ n rfl rfl rfl rfl (by rw [hz2]; omega) (by simp only [maxLen]; omega) (Nat.le_refl _) ?_; intro w1 hown hg; rw [made_iv] at hown)
  have hlt := (hown.lt w.heap.size rfl).2
  have hb1 : Below w.heap.size w w1 := below_grown hg (Nat.le_refl _) (fun _ h => by cases h)
  have ho1 : Ow w1 w.heap.size (w.heap.size + 1) (some ⟨w.heap.size, 0, none⟩) n n (List.replicate n 0) := ⟨hown, fun g hg => by simp [Value.ownBlock] at hg; omega⟩
  clear hown hg hi0 hz0 hz1 hz2
  go_loopw [4] (fun i wr => ∃ k : Nat, k ≤ n ∧ i = .int .i64 k ∧ Ow wr w.heap.size (w.heap.size + 1) (some ⟨w.heap.size, 0, none⟩) n n (xs.take k ++ List.replicate (n - k) 0) ∧ Below w.heap.size w wr)
    (fun i _ => n - (intOf i).toNat)
  case atStart => exact ⟨0, Nat.zero_le _, rfl, by simpa using ho1, hb1⟩
  case round =>
    obtain ⟨k, hk, rfl, ho, hb⟩ := hrel
    by_cases hlt : k < n
    · obtain ⟨b, off, rfl, hbb, hc⟩ := h.2 (by omega)
      have hcx : wr.cell? ⟨b, off + k, none⟩ = some (.int .i64 (xs.getD k 0)) := (hb.cell (p := ⟨b, off + k, none⟩) hbb).trans (hc k hlt)
      have hco := ho.cell hlt
      have hfo := ho.free k
      have HS := Lib.hid (ho.set k (xs.getD k 0))
      have HT := Lib.hid (take_step xs k n hxl.out hlt)
      clear hc ho ho1
      go_wp2
      go_roundw
      case rel =>
        obtain ⟨h1, h2⟩ := HS.out
        rw [HT.out] at h1
        exact ⟨k + 1, by omega, by go_num, h1, hb.grown h2 hb.size (fun k hk => by cases hk; exact Nat.le_refl _)⟩
      case measure => simp [intOf]; omega
    · go_wp2
      go_ret
      have hkn : k = n := by omega
      subst hkn
      have hl := hxl.out
      refine ⟨_, rfl, ?_, hb⟩
      have := ho.more (Nat.le_refl _) (show w.heap.size + 1 ≤ wr.heap.size from by have := (ho.own.lt w.heap.size rfl).2; omega)
      simpa [List.take_of_length_le (Nat.le_of_eq hl)] using this

theorem eq_step (xs ys : List Int) (k n : Nat) (hx : xs.length = n) (hy : ys.length = n) (hk : k < n) (h : xs.take k = ys.take k) (e : xs.getD k 0 = ys.getD k 0) : xs.take (k + 1) = ys.take (k + 1) := by
  have h1 : k < xs.length := by omega
  have h2 : k < ys.length := by omega
  rw [List.take_succ_eq_append_getElem h1, List.take_succ_eq_append_getElem h2, h]
  simp only [List.getD_eq_getElem?_getD, List.getElem?_eq_getElem h1, List.getElem?_eq_getElem h2, Option.getD_some] at e
  rw [e]
theorem eq_not (xs ys : List Int) (k : Nat) (e : xs.getD k 0 ≠ ys.getD k 0) : (xs == ys) = false := by
  rw [beq_eq_false_iff_ne]; rintro rfl; exact e rfl

set_option maxHeartbeats 400000 in
theorem eq_any (A A' : Option Addr) (n c n' c' : Nat) (xs ys : List Int) (B : Nat) (w : World) (h : Rd w B A n xs) (h' : Rd w B A' n' ys) (hn : n ≤ 2097152) :
    Calls Tryz.prog 8 #[.slice A n c, .slice A' n' c'] w fun e w' => e = .returned (.bool (xs == ys)) ∧ ∃ d, w' = w.drewN d := by
  have hx := Lib.hid h.len
  have hy := Lib.hid h'.len
  by_cases hne : n = n'
  · subst hne
    have hd : ((n : Int) != (n : Int)) = false := by simp
    go_enter Tryz.func8, Tryz.ntmps8
    go_wp2
    go_loopw [5] (fun i wr => ∃ k : Nat, k ≤ n ∧ i = .int .i64 k ∧ xs.take k = ys.take k ∧ ∃ d, wr = w.drewN d) (fun i _ => n - (intOf i).toNat)
    case atStart => exact ⟨0, Nat.zero_le _, rfl, rfl, 0, rfl⟩
    case round =>
      obtain ⟨k, hk, rfl, ht, d, rfl⟩ := hrel
      have HT := Lib.hid ht
      clear ht
      by_cases hlt : k < n
      · obtain ⟨b, off, rfl, hbb, hc⟩ := h.2 (by omega)
        obtain ⟨b', off', rfl, hbb', hc'⟩ := h'.2 (by omega)
        have hcx : w.cell? ⟨b, off + k, none⟩ = some (.int .i64 (xs.getD k 0)) := hc k hlt
        have hcy : w.cell? ⟨b', off' + k, none⟩ = some (.int .i64 (ys.getD k 0)) := hc' k hlt
        have HE := Lib.hid (eq_step xs ys k n hx.out hy.out hlt HT.out)
        have HN := Lib.hid (eq_not xs ys k)
        clear hc hc'
        generalize xs.getD k 0 = x at *
        generalize ys.getD k 0 = y at *
        by_cases hxy : x = y
        · subst hxy
          have HE2 := Lib.hid (HE.out rfl)
          clear HE HN
          have hb : (x != x) = false := by simp
          go_wp2
          go_quiet (fail)
          go_wp2
          go_roundw
          case rel => exact ⟨k + 1, by omega, by go_num, HE2.out, _, rfl⟩
          case measure => simp [intOf]; omega
        · have HN2 := Lib.hid (HN.out hxy)
          clear HE HN
          have hb : (x != y) = true := by simp [hxy]
          go_wp2
          go_quiet (fail)
          go_wp2
          go_ret
          exact ⟨by rw [HN2.out]; rfl, _, World.drewN_drewN _ _ _⟩
      · go_wp2
        go_ret
        have hkn : k = n := by omega
        subst hkn
        have e := HT.out
        rw [List.take_of_length_le (Nat.le_of_eq hx.out), List.take_of_length_le (Nat.le_of_eq hy.out)] at e
        subst e
        exact ⟨by simp, _, rfl⟩
  · have hd : ((n : Int) != (n' : Int)) = true := by simp; omega
    go_enter Tryz.func8, Tryz.ntmps8
    go_wp2
    go_ret
    refine ⟨?_, 0, rfl⟩
    have : (xs == ys) = false := by
      rw [beq_eq_false_iff_ne]; rintro rfl; exact hne (hx.out.symm.trans hy.out)
    rw [this]; rfl

/-- k, k + 1, .. : n numbers. -/
def upTo (k : Int) : Nat → List Int
  | 0 => []
  | n + 1 => k :: upTo (k + 1) n
theorem upTo_length (k : Int) (n : Nat) : (upTo k n).length = n := by
  induction n generalizing k with
  | zero => rfl
  | succ n ih => simp [upTo, ih]
theorem upTo_get (k : Int) (n j : Nat) (h : j < n) : (upTo k n).getD j 0 = k + j := by
  induction n generalizing k j with
  | zero => omega
  | succ n ih =>
    cases j with
    | zero => simp [upTo]
    | succ j =>
      have := ih (k + 1) j (by omega)
      simp only [upTo, List.getD_cons_succ, this]
      omega
theorem upTo_snoc (k : Int) (n : Nat) : upTo k (n + 1) = upTo k n ++ [k + n] := by
  induction n generalizing k with
  | zero => simp [upTo]
  | succ n ih =>
    have h := ih (k + 1)
    rw [upTo, h]
    simp only [upTo, List.cons_append]
    rw [show k + 1 + (n : Int) = k + ((n + 1 : Nat) : Int) from by omega]
theorem mark_step (xs : List Int) (q : Int) (k n : Nat) (hn : xs.length = n) (hk : k < n) : (upTo q k ++ xs.drop k).set k (q + k) = upTo q (k + 1) ++ xs.drop (k + 1) := by
  subst hn
  rw [List.set_append, if_neg (by rw [upTo_length]; omega), upTo_length, Nat.sub_self, upTo_snoc, List.drop_eq_getElem_cons hk, List.set_cons_zero, List.append_assoc]
  rfl

set_option maxHeartbeats 400000 in
theorem mark_any (A : Option Addr) (n c lo hi : Nat) (xs : List Int) (q : Int) (w : World) (h : Ow w lo hi A n c xs) (hn : n ≤ 2097152) (hq : 0 ≤ q) (hq2 : q ≤ 100000000) :
    Calls Tryz.prog 9 #[.slice A n c, .int .i64 q] w fun e w' => e = .returned (.int .i64 (q + n)) ∧ Ow w' lo hi A n c (upTo q n) ∧ w.grownBy w' (Value.ownBlock (.slice A n c)) := by
  have hx := Lib.hid h.len
  go_enter Tryz.func9, Tryz.ntmps9
  go_wp2
  go_loopw [1, 5] (fun u i wr => ∃ k : Nat, k ≤ n ∧ i = .int .i64 k ∧ u = .int .i64 (q + k) ∧ Ow wr lo hi A n c (upTo q k ++ xs.drop k) ∧ w.grownBy wr (Value.ownBlock (.slice A n c))) (fun _ i _ => n - (intOf i).toNat)
  case atStart => exact ⟨0, Nat.zero_le _, rfl, by simp, by simpa [upTo] using h, grown_refl _ _⟩
  case round =>
    obtain ⟨k, hk, rfl, rfl, ho, hg⟩ := hrel
    have HG := Lib.hid hg
    clear hg
    by_cases hlt : k < n
    · rcases ho.form with ⟨_, h0, _⟩ | ⟨g, rfl, h1, h2, h3, h4⟩
      · omega
      · have hco := ho.cell hlt
        have hfo := ho.free k
        have HS := Lib.hid (ho.set k (q + k))
        have HT := Lib.hid (mark_step xs q k n hx.out hlt)
        clear ho
        go_wp2
        go_roundw
        case rel =>
          obtain ⟨s1, s2⟩ := HS.out
          rw [HT.out] at s1
          exact ⟨k + 1, by omega, by go_num, by go_num, s1, grown_trans HG.out s2⟩
        case measure => simp [intOf]; omega
    · go_wp2
      go_ret
      have hkn : k = n := by omega
      subst hkn
      refine ⟨rfl, ?_, HG.out⟩
      have hd : xs.drop k = [] := List.drop_of_length_le (Nat.le_of_eq hx.out)
      rw [hd, List.append_nil] at ho
      exact ho

set_option maxHeartbeats 400000 in
theorem held_any (A : Option Addr) (n c B : Nat) (q : Int) (w : World) (h : Rd w B A n (upTo q n)) (hn : n ≤ 2097152) (hq : 0 ≤ q) (hq2 : q ≤ 100000000) :
    Calls Tryz.prog 10 #[.slice A n c, .int .i64 q] w fun e w' => e = .returned (.int .i64 (q + n)) ∧ w = w' := by
  go_enter Tryz.func10, Tryz.ntmps10
  go_wp2
  go_loop [1, 5] (fun u i => ∃ k : Nat, k ≤ n ∧ i = .int .i64 k ∧ u = .int .i64 (q + k)) (fun _ i => n - (intOf i).toNat)
  case atStart => exact ⟨0, Nat.zero_le _, rfl, by simp⟩
  case round =>
    obtain ⟨k, hk, rfl, rfl⟩ := hrel
    by_cases hlt : k < n
    · obtain ⟨b, off, rfl, hbb, hc⟩ := h.2 (by omega)
      have hcx := hc k hlt
      rw [upTo_get q n k hlt] at hcx
      have hb : (q + (k : Int) != q + (k : Int)) = false := by simp
      clear hc
      go_wp2
      go_round
      case rel => exact ⟨k + 1, by omega, by go_num, by go_num⟩
      case measure => simp [intOf]; omega
    · go_wp2
      go_ret
      have hkn : k = n := by omega
      subst hkn
      exact ⟨rfl, rfl⟩

def inB (x lo hi : Int) : Bool := decide (lo ≤ x) && decide (x ≤ hi)
theorem inB_true {x lo hi : Int} : inB x lo hi = true ↔ lo ≤ x ∧ x ≤ hi := by simp [inB]
theorem inB_false {x lo hi : Int} : inB x lo hi = false ↔ ¬ (lo ≤ x ∧ x ≤ hi) := by rw [← inB_true]; simp
def wordB (x : Int) : Bool := inB x 0 65535
def wordsB (xs : List Int) : Bool := xs.all wordB
def imgB (xs : List Int) : Bool := wordsB xs && decide (xs.length ≤ 512)

theorem ret_bool {a b : Bool} (h : a = b) : Ending.returned (.bool a) = .returned (.bool b) := by rw [h]
theorem ret_int {k : IntKind} {a b : Int} (h : a = b) : Ending.returned (.int k a) = .returned (.int k b) := by rw [h]

theorem in_any (x lo hi : Int) (w : World) : Calls Tryz.prog 15 #[.int .i64 x, .int .i64 lo, .int .i64 hi] w fun e w' => e = .returned (.bool (inB x lo hi)) ∧ w = w' := by
  by_cases h1 : lo ≤ x
  · by_cases h2 : x ≤ hi
    · go_enter Tryz.func15, Tryz.ntmps15
      go_wp2
      go_ret
      exact ⟨ret_bool (by simp [inB, h1, h2]), rfl⟩
    · have h2' : decide (x ≤ hi) = false := by simpa using h2
      go_enter Tryz.func15, Tryz.ntmps15
      go_wp2
      go_ret
      exact ⟨ret_bool (by simp [inB, h1, h2']), rfl⟩
  · have h1' : decide (lo ≤ x) = false := by simpa using h1
    go_enter Tryz.func15, Tryz.ntmps15
    go_wp2
    go_ret
    exact ⟨ret_bool (by simp [inB, h1']), rfl⟩

theorem word_any (x : Int) (w : World) : Calls Tryz.prog 38 #[.int .i64 x] w fun e w' => e = .returned (.bool (wordB x)) ∧ w = w' := by
  go_enter Tryz.func38, Tryz.ntmps38
  go_wp2_with (go_at_call 15; refine (in_any _ _ _ _).mono ?_; rintro e w' ⟨rfl, rfl⟩)
  go_ret
  exact ⟨rfl, rfl⟩

theorem implWord_any (x : Int) (w : World) : Calls Tryz.prog 42 #[.int .i64 x] w fun e w' => e = .returned (.bool (wordB x)) ∧ w = w' := by
  by_cases h1 : 0 ≤ x
  · by_cases h2 : x ≤ 65535
    · go_enter Tryz.func42, Tryz.ntmps42
      go_wp2
      go_ret
      exact ⟨ret_bool (by simp [wordB, inB, h1, h2]), rfl⟩
    · have h2' : decide (x ≤ 65535) = false := by simpa using h2
      go_enter Tryz.func42, Tryz.ntmps42
      go_wp2
      go_ret
      exact ⟨ret_bool (by simp [wordB, inB, h1, h2']), rfl⟩
  · have h1' : decide (0 ≤ x) = false := by simpa using h1
    go_enter Tryz.func42, Tryz.ntmps42
    go_wp2
    go_ret
    exact ⟨ret_bool (by simp [wordB, inB, h1']), rfl⟩

end Go.Proofs.YtiokfhdkbpoadaaGreatDoor
