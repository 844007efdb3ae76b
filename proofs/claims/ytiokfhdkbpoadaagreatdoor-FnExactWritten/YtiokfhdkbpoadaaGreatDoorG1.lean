/- The image: plain functions on lists, and that the Go functions of both sides compute them. The program's clusters: clustersOf lays the words into arrays of eight, joined lays them end to end again. How many clusters: both sides. One cluster: both sides. append of a slice that reads as numbers onto a row of the call's own: one law for the walk, whatever the source is (nil, empty, cut). No program is named here. A cluster written: the model's side. -/
import Derived.Test.YtiokfhdkbpoadaaGreatDoorG0
import Derived.Laws.AppendOwnNone
import Derived.OwnWalk
namespace Go.Proofs.YtiokfhdkbpoadaaGreatDoor
open Go.RowKit

theorem all_step (xs : List Int) (k n : Nat) (hx : xs.length = n) (hk : k < n) (h : wordsB (xs.take k) = true) (e : wordB (xs.getD k 0) = true) : wordsB (xs.take (k + 1)) = true := by
  have h1 : k < xs.length := by omega
  simp only [List.getD_eq_getElem?_getD, List.getElem?_eq_getElem h1, Option.getD_some] at e
  unfold wordsB at *
  rw [List.take_succ_eq_append_getElem h1, List.all_append, h, List.all_cons, e]
  rfl
theorem all_not (xs : List Int) (k n : Nat) (hx : xs.length = n) (hk : k < n) (e : wordB (xs.getD k 0) = false) : wordsB xs = false := by
  have h1 : k < xs.length := by omega
  simp only [List.getD_eq_getElem?_getD, List.getElem?_eq_getElem h1, Option.getD_some] at e
  unfold wordsB
  rw [List.all_eq_false]
  exact ⟨xs[k], List.getElem_mem h1, by simp [e]⟩

set_option maxHeartbeats 400000 in
theorem specImg_any (A : Option Addr) (n c : Nat) (xs : List Int) (B : Nat) (w : World) (h : Rd w B A n xs) (hn : n ≤ 2097152) :
    Calls Tryz.prog 45 #[.slice A n c] w fun e w' => e = .returned (.bool (imgB xs)) ∧ w = w' := by
  have hx := Lib.hid h.len
  go_enter Tryz.func45, Tryz.ntmps45
  go_wp2
  go_loop [3] (fun i => ∃ k : Nat, k ≤ n ∧ i = .int .i64 k ∧ wordsB (xs.take k) = true) (fun i => n - (intOf i).toNat)
  case atStart => exact ⟨0, Nat.zero_le _, rfl, rfl⟩
  case round =>
    obtain ⟨k, hk, rfl, ht⟩ := hrel
    have HT := Lib.hid ht
    clear ht
    by_cases hlt : k < n
    · obtain ⟨b, off, rfl, hbb, hc⟩ := h.2 (by omega)
      have hcx := hc k hlt
      have HE := Lib.hid (all_step xs k n hx.out hlt HT.out)
      have HN := Lib.hid (all_not xs k n hx.out hlt)
      clear hc
      generalize xs.getD k 0 = x at *
      cases hb : wordB x
      · have HN2 := Lib.hid (HN.out hb)
        clear HE HN
        go_wp2_with (go_at_call 38; refine (word_any _ _).mono ?_; rintro e w' ⟨rfl, rfl⟩)
        go_ret
        exact ⟨ret_bool (by simp [imgB, HN2.out]), rfl⟩
      · have HE2 := Lib.hid (HE.out hb)
        clear HE HN
        go_wp2_with (go_at_call 38; refine (word_any _ _).mono ?_; rintro e w' ⟨rfl, rfl⟩)
        go_round
        case rel => exact ⟨k + 1, by omega, by go_num, HE2.out⟩
        case measure => simp [intOf]; omega
    · go_wp2
      go_ret
      have hkn : k = n := by omega
      subst hkn
      have e := HT.out
      have hl := hx.out
      rw [List.take_of_length_le (Nat.le_of_eq hl)] at e
      refine ⟨ret_bool ?_, rfl⟩
      rw [imgB, e, hl, Bool.true_and]
      exact decide_eq_decide.2 (by omega)

set_option maxHeartbeats 400000 in
theorem implWords_any (A : Option Addr) (n c : Nat) (xs : List Int) (B : Nat) (w : World) (h : Rd w B A n xs) (hn : n ≤ 2097152) :
    Calls Tryz.prog 60 #[.slice A n c] w fun e w' => e = .returned (.bool (wordsB xs)) ∧ w = w' := by
  have hx := Lib.hid h.len
  go_enter Tryz.func60, Tryz.ntmps60
  go_wp2
  go_loop [7] (fun i => ∃ k : Nat, k ≤ n ∧ i = .int .i64 k ∧ wordsB (xs.take k) = true) (fun i => n - (intOf i).toNat)
  case atStart => exact ⟨0, Nat.zero_le _, rfl, rfl⟩
  case round =>
    obtain ⟨k, hk, rfl, ht⟩ := hrel
    have HT := Lib.hid ht
    clear ht
    by_cases hlt : k < n
    · obtain ⟨b, off, rfl, hbb, hc⟩ := h.2 (by omega)
      have hcx := hc k hlt
      have HE := Lib.hid (all_step xs k n hx.out hlt HT.out)
      have HN := Lib.hid (all_not xs k n hx.out hlt)
      clear hc
      generalize xs.getD k 0 = x at *
      cases hb : wordB x
      · have HN2 := Lib.hid (HN.out hb)
        clear HE HN
        go_wp2_with (go_at_call 42; refine (implWord_any _ _).mono ?_; rintro e w' ⟨rfl, rfl⟩)
        go_ret
        exact ⟨ret_bool (by simp [HN2.out]), rfl⟩
      · have HE2 := Lib.hid (HE.out hb)
        clear HE HN
        go_wp2_with (go_at_call 42; refine (implWord_any _ _).mono ?_; rintro e w' ⟨rfl, rfl⟩)
        go_round
        case rel => exact ⟨k + 1, by omega, by go_num, HE2.out⟩
        case measure => simp [intOf]; omega
    · go_wp2
      go_ret
      have hkn : k = n := by omega
      subst hkn
      have e := HT.out
      have hl := hx.out
      rw [List.take_of_length_le (Nat.le_of_eq hl)] at e
      exact ⟨ret_bool e.symm, rfl⟩

set_option maxHeartbeats 400000 in
theorem implImg_any (A : Option Addr) (n c : Nat) (xs : List Int) (B : Nat) (w : World) (h : Rd w B A n xs) (hn : n ≤ 2097152) :
    Calls Tryz.prog 67 #[.slice A n c] w fun e w' => e = .returned (.bool (imgB xs)) ∧ w = w' := by
  have hx := Lib.hid h.len
  by_cases hs : n ≤ 512
  · go_enter Tryz.func67, Tryz.ntmps67
    go_wp2_with (go_at_call 60; refine (implWords_any _ _ _ _ _ _ h hn).mono ?_; rintro e w' ⟨rfl, rfl⟩)
    go_ret
    have hl := hx.out
    exact ⟨ret_bool (by simp [imgB, hl, hs]), rfl⟩
  · have hs' : decide ((n : Int) ≤ 512) = false := by simp; omega
    go_enter Tryz.func67, Tryz.ntmps67
    go_wp2_with (go_at_call 60; refine (implWords_any _ _ _ _ _ _ h hn).mono ?_; rintro e w' ⟨rfl, rfl⟩)
    go_ret
    have hl := hx.out
    exact ⟨ret_bool (by simp [imgB, hl, hs]), rfl⟩

theorem infoC : (Tryz.prog.info? 64).map (fun i => (i.zero, i.size, i.bytes)) = some (some (.agg #[.int .i64 0, .int .i64 0, .int .i64 0, .int .i64 0, .int .i64 0, .int .i64 0, .int .i64 0, .int .i64 0]), 8, 64) := by kernel_rfl

/-- A row of clusters of the call's own: ys are its words, eight to a cluster. -/
structure OwC (w : World) (lo hi : Nat) (A : Option Addr) (n c : Nat) (ys : List Int) : Prop where
  own : w.ownsRow lo 64 8 (.slice A n c) n (iv ys)
  top : ∀ g, Value.ownBlock (.slice A n c) = some g → g < hi

/-- A slice of clusters that reads as the words ys. -/
def RdC (w : World) (B : Nat) (A : Option Addr) (n : Nat) (ys : List Int) : Prop :=
  ys.length = n * 8 ∧ (0 < n → ∃ b off, A = some ⟨b, off, none⟩ ∧ b < B ∧ ∀ j, j < n * 8 → w.cell? ⟨b, off + j, none⟩ = some (.int .i64 (ys.getD j 0)))

section
variable {w w' : World} {lo hi n c : Nat} {A : Option Addr} {ys : List Int}
theorem OwC.len (h : OwC w lo hi A n c ys) : ys.length = n * 8 := by
  have := h.own.1
  rwa [iv_length] at this
theorem OwC.form (h : OwC w lo hi A n c ys) : (A = none ∧ n = 0 ∧ c = 0) ∨ ∃ g, A = some ⟨g, 0, none⟩ ∧ lo ≤ g ∧ g < hi ∧ g < w.heap.size ∧ n ≤ c := by
  have hl := h.own.lt
  rcases h.own.2 with ⟨hv, hn⟩ | ⟨g, cap, cur, hv, hb, hg, hnc, _⟩
  · injection hv with h1 h2 h3
    exact .inl ⟨h1, h2, h3⟩
  · injection hv with h1 h2 h3
    subst h1
    exact .inr ⟨g, rfl, hb, h.top g rfl, (hl g rfl).2, by omega⟩
theorem OwC.cell {g : Nat} (h : OwC w lo hi (some ⟨g, 0, none⟩) n c ys) {j : Nat} (hj : j < n * 8) : w.cell? ⟨g, j, none⟩ = some (.int .i64 (ys.getD j 0)) := by
  have hle := h.len
  rw [h.own.cellAt j (by omega), iv_get ys j (by omega)]
theorem OwC.free {g : Nat} (h : OwC w lo hi (some ⟨g, 0, none⟩) n c ys) (j : Nat) : w.frozen? ⟨g, j, none⟩ = false := h.own.frozenAt j
theorem OwC.keep (h : OwC w lo hi A n c ys) (hk : ∀ g, lo ≤ g → g < hi → g < w.heap.size → w'.heap[g]? = w.heap[g]?) : OwC w' lo hi A n c ys := by
  refine ⟨⟨h.own.1, ?_⟩, h.top⟩
  have ht := h.top
  have hl := h.own.lt
  rcases h.own.2 with hn | ⟨g, cap, cur, hv, hb, hg, rest⟩
  · exact .inl hn
  · refine .inr ⟨g, cap, cur, hv, hb, ?_, rest⟩
    rw [hv] at ht hl
    rw [hk g hb (ht g rfl) (hl g rfl).2]
    exact hg
theorem OwC.below {B : Nat} (h : OwC w lo hi A n c ys) (hb : Below B w w') (hB : hi ≤ B) : OwC w' lo hi A n c ys := h.keep fun g _ h2 _ => hb.block g (by omega)
theorem OwC.more {lo' hi' : Nat} (h : OwC w lo hi A n c ys) (h1 : lo' ≤ lo) (h2 : hi ≤ hi') : OwC w lo' hi' A n c ys := by
  refine ⟨⟨h.own.1, ?_⟩, fun g hg => by have := h.top g hg; omega⟩
  rcases h.own.2 with hn | ⟨g, cap, cur, hv, hb, rest⟩
  · exact .inl hn
  · exact .inr ⟨g, cap, cur, hv, by omega, rest⟩
theorem OwC.set {g : Nat} (h : OwC w lo hi (some ⟨g, 0, none⟩) n c ys) (j : Nat) (x : Int) :
    OwC (w.setCell ⟨g, j, none⟩ (.int .i64 x)) lo hi (some ⟨g, 0, none⟩) n c (ys.set j x) ∧ w.grownBy (w.setCell ⟨g, j, none⟩ (.int .i64 x)) (some g) := by
  obtain ⟨h1, h2⟩ := h.own.stored j (.int .i64 x)
  rw [iv_set] at h1
  exact ⟨⟨h1, h.top⟩, h2⟩
theorem OwC.rd (h : OwC w lo hi A n c ys) : RdC w hi A n ys := by
  refine ⟨h.len, fun hn => ?_⟩
  rcases h.form with ⟨_, h0, _⟩ | ⟨g, rfl, h1, h2, h3, h4⟩
  · omega
  · exact ⟨g, 0, rfl, h2, fun j hj => by rw [Nat.zero_add]; exact h.cell hj⟩
end

theorem madeC (n : Nat) : (madeCells (Value.agg #[.int .i64 0, .int .i64 0, .int .i64 0, .int .i64 0, .int .i64 0, .int .i64 0, .int .i64 0, .int .i64 0]).cells (n * 8)).toList = iv (List.replicate (n * 8) 0) := by
  show (madeCells #[.int .i64 0, .int .i64 0, .int .i64 0, .int .i64 0, .int .i64 0, .int .i64 0, .int .i64 0, .int .i64 0] (n * 8)).toList = _
  apply List.ext_getElem?
  intro j
  by_cases hj : j < n * 8
  · have h8 : j % 8 < 8 := Nat.mod_lt _ (by omega)
    have hz : ∀ i, i < 8 → ([Value.int .i64 0, .int .i64 0, .int .i64 0, .int .i64 0, .int .i64 0, .int .i64 0, .int .i64 0, .int .i64 0] : List Value)[i]?.getD default = .int .i64 0 := by
      intro i hi
      match i, hi with
      | 0, _ => rfl
      | 1, _ => rfl
      | 2, _ => rfl
      | 3, _ => rfl
      | 4, _ => rfl
      | 5, _ => rfl
      | 6, _ => rfl
      | 7, _ => rfl
    have := hz (j % 8) h8
    simp [madeCells, iv, hj, this]
  · simp [madeCells, iv, hj]

theorem pad_step (xs : List Int) (k M : Nat) (hk : k < xs.length) (hM : xs.length ≤ M) :
    (xs.take k ++ List.replicate (M - k) 0).set k (xs.getD k 0) = xs.take (k + 1) ++ List.replicate (M - (k + 1)) 0 := by
  have hl : (xs.take k).length = k := by simp; omega
  rw [List.set_append, if_neg (by omega), hl, Nat.sub_self, List.take_succ_eq_append_getElem hk,
    show M - k = (M - (k + 1)) + 1 from by omega, List.replicate_succ, List.set_cons_zero, List.append_assoc]
  simp [List.getD_eq_getElem?_getD, hk]

/-- The words, the last cluster whole. -/
def whole (xs : List Int) : List Int := xs ++ List.replicate ((xs.length + 7) / 8 * 8 - xs.length) 0

theorem clustersFor_any (n : Nat) (w : World) (hn : n ≤ 2097152) : Calls Tryz.prog 95 #[.int .i64 (n : Int)] w fun e w' => e = .returned (.int .i64 (((n + 7) / 8 : Nat) : Int)) ∧ w = w' := by
  go_enter Tryz.func95, Tryz.ntmps95
  go_wp2
  go_ret
  exact ⟨ret_int (by omega), rfl⟩

set_option maxRecDepth 100000 in
set_option maxHeartbeats 400000 in
theorem clustersOf_any (A : Option Addr) (n c : Nat) (xs : List Int) (w : World) (h : Rd w w.heap.size A n xs) (hn : n ≤ 2097152) :
    Calls Tryz.prog 65 #[.slice A n c] w fun e w' => ∃ (B : Option Addr) (m : Nat), m = (n + 7) / 8 ∧ e = .returned (.slice B m m) ∧ OwC w' w.heap.size w'.heap.size B m m (whole xs) ∧ Below w.heap.size w w' := by
  obtain ⟨i0, hi0, hz0, hz1, hz2⟩ := info_parts infoC
  have hxl := Lib.hid h.len
  obtain ⟨m, hm⟩ : ∃ m, m = (n + 7) / 8 := ⟨_, rfl⟩
  have hm1 : m * 8 < n + 8 := by omega
  have hm2 : n ≤ m * 8 := by omega
  have HM := Lib.hid hm
  clear hm
  go_enter Tryz.func65, Tryz.ntmps65
  go_wp2_with fail
  refine (clustersFor_any n w hn).mono ?_
  rintro e w' ⟨rfl, rfl⟩
  rw [← HM.out]
  go_wp2_with (at_make; refine wpList_make_full _ rfl _ _ 61 rfl w.heap.size 64 i0 _ 8 Tryz.underlying61 hi0 hz0 hz1 .i64 .i64 _ _ m rfl rfl (by have := HM.out; omega) (by have := HM.out; omega) (by rw [hz2]; omega) (by simp only [maxLen]; omega) (Nat.le_refl _) ?_; intro w1 hown hg; rw [madeC] at hown)
  have hlt := (hown.lt w.heap.size rfl).2
  have hb1 : Below w.heap.size w w1 := below_grown hg (Nat.le_refl _) (fun _ h => by cases h)
  have ho1 : OwC w1 w.heap.size (w.heap.size + 1) (some ⟨w.heap.size, 0, none⟩) m m (List.replicate (m * 8) 0) := ⟨hown, fun g hg => by simp [Value.ownBlock] at hg; omega⟩
  clear hown hg hi0 hz0 hz1 hz2
  go_loopw [12] (fun i wr => ∃ k : Nat, k ≤ n ∧ i = .int .i64 k ∧ OwC wr w.heap.size (w.heap.size + 1) (some ⟨w.heap.size, 0, none⟩) m m (xs.take k ++ List.replicate (m * 8 - k) 0) ∧ Below w.heap.size w wr)
    (fun i _ => n - (intOf i).toNat)
  case atStart => exact ⟨0, Nat.zero_le _, rfl, by simpa using ho1, hb1⟩
  case round =>
    obtain ⟨k, hk, rfl, ho, hb⟩ := hrel
    by_cases hlt : k < n
    · obtain ⟨b, off, rfl, hbb, hc⟩ := h.2 (by omega)
      have hcx : wr.cell? ⟨b, off + k, none⟩ = some (.int .i64 (xs.getD k 0)) := (hb.cell (p := ⟨b, off + k, none⟩) hbb).trans (hc k hlt)
      have hco := ho.cell (j := k / 8 * 8 + k % 8) (by omega)
      have hfo := ho.free (k / 8 * 8 + k % 8)
      have HS := Lib.hid (ho.set (k / 8 * 8 + k % 8) (xs.getD k 0))
      have HT := Lib.hid (show (xs.take k ++ List.replicate (m * 8 - k) 0).set (k / 8 * 8 + k % 8) (xs.getD k 0) = xs.take (k + 1) ++ List.replicate (m * 8 - (k + 1)) 0 by
        rw [show k / 8 * 8 + k % 8 = k from by omega]; exact pad_step xs k (m * 8) (by rw [hxl.out]; exact hlt) (by rw [hxl.out]; exact hm2))
      clear hc ho ho1
      go_wp2
      go_roundw
      case rel =>
        obtain ⟨h1, h2⟩ := HS.out
        rw [HT.out] at h1
        exact ⟨k + 1, by omega, by go_num, h1, hb.grown h2 hb.size (fun k hk => by cases hk; exact Nat.le_refl _)⟩
      case measure => simp [intOf]; omega
    · go_wp2
      go_ret
      have hkn : k = n := by omega
      subst hkn
      have hl := hxl.out
      refine ⟨_, m, HM.out, rfl, ?_, hb⟩
      have := ho.more (Nat.le_refl _) (show w.heap.size + 1 ≤ wr.heap.size from by have := (ho.own.lt w.heap.size rfl).2; omega)
      rw [whole, hl, ← HM.out]
      rwa [List.take_of_length_le (Nat.le_of_eq hl)] at this

theorem take8 (zs : List Int) (h : 8 ≤ zs.length) : zs.take 8 = [zs.getD 0 0, zs.getD 1 0, zs.getD 2 0, zs.getD 3 0, zs.getD 4 0, zs.getD 5 0, zs.getD 6 0, zs.getD 7 0] := by
  match zs, h with
  | _ :: _ :: _ :: _ :: _ :: _ :: _ :: _ :: _, _ => rfl
theorem take8_next (ys : List Int) (k : Nat) (h : k * 8 + 8 ≤ ys.length) : ys.take ((k + 1) * 8) = ys.take (k * 8) ++ [ys.getD (k * 8) 0, ys.getD (k * 8 + 1) 0, ys.getD (k * 8 + 2) 0, ys.getD (k * 8 + 3) 0, ys.getD (k * 8 + 4) 0, ys.getD (k * 8 + 5) 0, ys.getD (k * 8 + 6) 0, ys.getD (k * 8 + 7) 0] := by
  rw [Nat.add_mul, Nat.one_mul, List.take_add, take8 (ys.drop (k * 8)) (by simp; omega)]
  simp [List.getD_eq_getElem?_getD, List.getElem?_drop]
theorem new_cells (w : World) (cs : Array Value) (t : TypeId) : ∀ j u, cs.toList[j]? = some u → (w.alloc (.cells cs t)).cell? ((⟨w.heap.size, 0, none⟩ : Addr).add j) = some u := by
  intro j u hu
  rw [Addr.add_lit, Nat.zero_add, cell_of_row _ w.heap.size j cs t (0, 0) (heap_alloc_new w _)]
  simpa using hu
theorem eight_cells (w : World) (b o : Nat) (f : Nat → Int) (h : ∀ j, j < 8 → w.cell? ⟨b, o + j, none⟩ = some (.int .i64 (f j))) :
    w.cell? ⟨b, o, none⟩ = some (.int .i64 (f 0)) ∧ w.cell? ⟨b, o + 1, none⟩ = some (.int .i64 (f 1)) ∧ w.cell? ⟨b, o + 2, none⟩ = some (.int .i64 (f 2)) ∧ w.cell? ⟨b, o + 3, none⟩ = some (.int .i64 (f 3)) ∧
    w.cell? ⟨b, o + 4, none⟩ = some (.int .i64 (f 4)) ∧ w.cell? ⟨b, o + 5, none⟩ = some (.int .i64 (f 5)) ∧ w.cell? ⟨b, o + 6, none⟩ = some (.int .i64 (f 6)) ∧ w.cell? ⟨b, o + 7, none⟩ = some (.int .i64 (f 7)) :=
  ⟨h 0 (by omega), h 1 (by omega), h 2 (by omega), h 3 (by omega), h 4 (by omega), h 5 (by omega), h 6 (by omega), h 7 (by omega)⟩

set_option maxRecDepth 100000 in
set_option maxHeartbeats 400000 in
theorem joined_any (A : Option Addr) (n c : Nat) (ys : List Int) (w : World) (h : RdC w w.heap.size A n ys) (hn : n ≤ 2097152) :
    Calls Tryz.prog 66 #[.slice A n c] w fun e w' => ∃ v, e = .returned v ∧ w'.ownsRow w.heap.size 2 1 v (n * 8) (iv ys) ∧ Below w.heap.size w w' := by
  obtain ⟨i0, hi0, hz0, hz1, hz2⟩ := info_parts info2
  have hyl := Lib.hid h.1
  go_enter Tryz.func66, Tryz.ntmps66
  go_wp2_with (at_make; refine wpList_make_own _ rfl _ _ 22 rfl w.heap.size 2 i0 (.int .i64 0) 1 Tryz.underlying22 hi0 hz0 hz1 .i64 .i64 _ (n * 8) rfl rfl (by omega) (by rw [hz2]; omega) (by simp only [maxLen]; omega) (Nat.le_refl _) ?_; intro w1 hown hg)
  have hb1 : Below w.heap.size w w1 := below_grown hg (Nat.le_refl _) (fun _ h => by cases h)
  clear hg
  go_loopw [3, 12] (fun v i wr => ∃ k : Nat, k ≤ n ∧ i = .int .i64 k ∧ wr.ownsRow w.heap.size 2 1 v (k * 8) (iv (ys.take (k * 8))) ∧ Below w.heap.size w wr)
    (fun _ i _ => n - (intOf i).toNat)
  case atStart => exact ⟨0, Nat.zero_le _, rfl, by simpa [iv] using hown, hb1⟩
  case round =>
    obtain ⟨k, hk, rfl, ho, hb⟩ := hrel
    by_cases hlt : k < n
    · obtain ⟨b, off, rfl, hbb, hc⟩ := h.2 (by omega)
      obtain ⟨c0, c1, c2, c3, c4, c5, c6, c7⟩ := eight_cells wr b (off + k * 8) (fun j => ys.getD (k * 8 + j) 0) (fun j hj => by
        have := (hb.cell (p := ⟨b, off + (k * 8 + j), none⟩) hbb).trans (hc (k * 8 + j) (by omega))
        rw [Nat.add_assoc]; exact this)
      have hT := Lib.hid (show ys.take ((k + 1) * 8) = ys.take (k * 8) ++ [ys.getD (k * 8) 0, ys.getD (k * 8 + 1) 0, ys.getD (k * 8 + 2) 0, ys.getD (k * 8 + 3) 0, ys.getD (k * 8 + 4) 0, ys.getD (k * 8 + 5) 0, ys.getD (k * 8 + 6) 0, ys.getD (k * 8 + 7) 0] from take8_next ys k (by rw [hyl.out]; omega))
      clear hc
      rw [Nat.add_zero] at c0
      generalize ys.getD (k * 8) 0 = y0 at *
      generalize ys.getD (k * 8 + 1) 0 = y1 at *
      generalize ys.getD (k * 8 + 2) 0 = y2 at *
      generalize ys.getD (k * 8 + 3) 0 = y3 at *
      generalize ys.getD (k * 8 + 4) 0 = y4 at *
      generalize ys.getD (k * 8 + 5) 0 = y5 at *
      generalize ys.getD (k * 8 + 6) 0 = y6 at *
      generalize ys.getD (k * 8 + 7) 0 = y7 at *
      go_wp2_with (at_builtin; refine wpList_append_own _ rfl _ _ 22 rfl w.heap.size 2 i0 (.int .i64 0) 1 8 Tryz.underlying22 hi0 hz0 hz1 hz2 rfl (by decide) _ _ _ rfl (ho.alloc _) ⟨wr.heap.size, 0, none⟩ 8 8 [.int .i64 y0, .int .i64 y1, .int .i64 y2, .int .i64 y3, .int .i64 y4, .int .i64 y5, .int .i64 y6, .int .i64 y7] rfl rfl ?c1 ?c2 ?c3 ?c4 ?c5 ?_)
      case c1 => exact new_cells wr #[.int .i64 y0, .int .i64 y1, .int .i64 y2, .int .i64 y3, .int .i64 y4, .int .i64 y5, .int .i64 y6, .int .i64 y7] 64
      case c2 => exact ints_oneCell .i64 [y0, y1, y2, y3, y4, y5, y6, y7]
      case c3 => simp only [maxLen]; omega
      case c4 => omega
      case c5 => have := hb.size; simp; omega
      intro v' w2 hown' hg' _
      have hb2 : Below w.heap.size w w2 := (hb.alloc hb.size _).grown hg' (by have := hb.size; simp; omega) (fun g hg => (ho.lt g hg).1)
      have hown2 : w2.ownsRow w.heap.size 2 1 v' ((k + 1) * 8) (iv (ys.take ((k + 1) * 8))) := by
        rw [hT.out, iv_append, Nat.add_mul]; exact hown'
      clear hown' hg' ho hb c0 c1 c2 c3 c4 c5 c6 c7
      go_wp2
      go_roundw
      case rel => exact ⟨k + 1, by omega, by go_num, hown2, hb2⟩
      case measure => simp [intOf]; omega
    · go_wp2
      go_ret
      have hkn : k = n := by omega
      subst hkn
      have hl := hyl.out
      rw [List.take_of_length_le (Nat.le_of_eq hl)] at ho
      exact ⟨_, rfl, ho, hb⟩

def manyN (xs : List Int) : Nat := (xs.length + 7) / 8
def manyI (xs : List Int) : Int := if imgB xs = true then (manyN xs : Int) else -1

theorem specMany_any (A : Option Addr) (n c : Nat) (xs : List Int) (w : World) (h : xs.length = n) (hn : n ≤ 2097152) :
    Calls Tryz.prog 51 #[.slice A n c] w fun e w' => e = .returned (.int .i64 (manyN xs)) ∧ w = w' := by
  have H := Lib.hid h
  clear h
  go_enter Tryz.func51, Tryz.ntmps51
  go_wp2
  go_ret
  have := H.out
  exact ⟨ret_int (by unfold manyN; omega), rfl⟩

theorem implClin_any (A : Option Addr) (n c : Nat) (xs : List Int) (w : World) (h : Rd w w.heap.size A n xs) (hn : n ≤ 2097152) :
    Calls Tryz.prog 64 #[.slice A n c] w fun e w' => e = .returned (.int .i64 (manyI xs)) ∧ Below w.heap.size w w' := by
  have H := Lib.hid h.len
  cases hi : imgB xs
  · have H2 := Lib.hid hi
    go_enter Tryz.func64, Tryz.ntmps64
    go_wp2_with (go_at_call 67; refine (implImg_any _ _ _ _ _ _ h hn).mono ?_; rintro e w' ⟨rfl, rfl⟩)
    go_ret
    exact ⟨ret_int (by simp [manyI, H2.out]), Below.refl _ _⟩
  · have H2 := Lib.hid hi
    go_enter Tryz.func64, Tryz.ntmps64
    go_wp2_with (go_at_call 67; refine (implImg_any _ _ _ _ _ _ h hn).mono ?_; rintro e w' ⟨rfl, rfl⟩)
    refine (clustersFor_any n w hn).mono ?_
    rintro e w' ⟨rfl, rfl⟩
    go_wp2
    go_ret
    refine ⟨ret_int ?_, Below.refl _ _⟩
    have h2 := H.out
    simp [manyI, H2.out, manyN, h2]

/-- It answers a new slice whose numbers are ys; nothing that was there has turned. -/
def Ret (w : World) (ys : List Int) (e : Ending) (w' : World) : Prop :=
  ∃ (A : Option Addr) (n c : Nat), e = .returned (.slice A n c) ∧ Ow w' w.heap.size w'.heap.size A n c ys ∧ Below w.heap.size w w'

theorem Ret.of {w w1 w' : World} {v : Value} {n : Nat} {ys : List Int} (hb : Below w.heap.size w w1) (ho : w'.ownsRow w1.heap.size 2 1 v n (iv ys)) (hb2 : Below w1.heap.size w1 w') : Ret w ys (.returned v) w' := by
  obtain ⟨A, c, rfl, h⟩ := Ow.of ho
  exact ⟨A, n, c, rfl, h.more hb.size (Nat.le_refl _), below_more hb hb2 hb.size⟩
theorem Ret.nil (w : World) (w' : World) (hb : Below w.heap.size w w') : Ret w [] (.returned (.slice none 0 0)) w' :=
  ⟨none, 0, 0, rfl, ⟨World.ownsRow_nil _ _ _ _, fun g hg => by cases hg⟩, hb⟩
theorem Ret.empty (w : World) (t : TypeId) (ht : t = 2) : Ret w [] (.returned (.slice (some ⟨w.heap.size, 0, none⟩) 0 0)) (w.alloc (.cells #[] t)) := by
  subst ht
  have h : (w.alloc (.cells #[] 2)).ownsRow w.heap.size 2 1 (.slice (some ⟨w.heap.size, 0, none⟩) 0 0) 0 (iv []) := World.ownsRow_made w #[] 0 (Nat.le_refl _) (by simp [maxLen]) rfl
  exact ⟨_, 0, 0, rfl, ⟨h, fun g hg => (h.lt g hg).2⟩, (Below.refl _ _).alloc (Nat.le_refl _) _⟩

def f8 (f : Nat → Int) : List Int := (List.range 8).map f
theorem f8_length (f : Nat → Int) : (f8 f).length = 8 := by simp [f8]
theorem f8_get (f : Nat → Int) (j : Nat) (h : j < 8) : (f8 f).getD j 0 = f j := by
  simp [f8, List.getD_eq_getElem?_getD, h]
theorem f8_congr {f g : Nat → Int} (h : ∀ j, j < 8 → f j = g j) : f8 f = f8 g := by
  unfold f8
  exact List.map_congr_left (fun j hj => h j (by simpa using hj))
theorem f8_eq (f : Nat → Int) (ys : List Int) (hl : ys.length = 8) (h : ∀ j, j < 8 → ys.getD j 0 = f j) : ys = f8 f := by
  apply List.ext_getElem?
  intro j
  by_cases hj : j < 8
  · have := h j hj
    rw [List.getD_eq_getElem?_getD, List.getElem?_eq_getElem (by omega), Option.getD_some] at this
    rw [List.getElem?_eq_getElem (by omega), this]
    simp [f8, hj]
  · rw [List.getElem?_eq_none (by omega), List.getElem?_eq_none (by rw [f8_length]; omega)]
theorem f8_set (f : Nat → Int) (k : Nat) (x : Int) (hk : k < 8) : (f8 f).set k x = f8 (fun j => if j = k then x else f j) := by
  apply f8_eq
  · simp [f8_length]
  · intro j hj
    rw [List.getD_eq_getElem?_getD, List.getElem?_set, f8_length]
    by_cases h : k = j
    · subst h; simp [hk]
    · have := f8_get f j hj
      rw [List.getD_eq_getElem?_getD] at this
      simp only [h, if_false, this]
      rw [if_neg (fun e => h e.symm)]

theorem f8_zero (f : Nat → Int) : List.replicate 8 0 = f8 (fun j => if j < 0 then f j else 0) := by
  apply f8_eq
  · simp
  · intro j hj
    rw [List.getD_eq_getElem?_getD, List.getElem?_replicate, if_pos hj, if_neg (by omega)]; rfl

/-- The eight words of cluster a. -/
def cl (xs : List Int) (a : Nat) : List Int := f8 (fun j => xs.getD (a * 8 + j) 0)
/-- ClusterAt. -/
def clusterL (xs : List Int) (at_ : Int) : List Int := if imgB xs = true ∧ inB at_ 0 ((manyN xs : Int) - 1) = true then cl xs at_.toNat else []

theorem imgB_len {xs : List Int} (h : imgB xs = true) : xs.length ≤ 512 := by
  simp [imgB] at h
  exact h.2
theorem getD_past (xs : List Int) (j : Nat) (h : xs.length ≤ j) : xs.getD j 0 = 0 := by
  rw [List.getD_eq_getElem?_getD, List.getElem?_eq_none h]; rfl
theorem whole_length (xs : List Int) : (whole xs).length = manyN xs * 8 := by
  unfold whole manyN; simp; omega
theorem whole_get (xs : List Int) (j : Nat) : (whole xs).getD j 0 = xs.getD j 0 := by
  unfold whole
  rw [List.getD_eq_getElem?_getD, List.getD_eq_getElem?_getD, List.getElem?_append]
  split
  · rfl
  · rw [List.getElem?_eq_none (l := xs) (by omega), List.getElem?_replicate]
    split <;> rfl

set_option maxHeartbeats 400000 in
theorem specCluster_any (A : Option Addr) (n c a : Nat) (xs : List Int) (w : World) (h : Rd w w.heap.size A n xs) (hn : n ≤ 2097152) (ha : a ≤ 2097152) :
    Calls Tryz.prog 40 #[.slice A n c, .int .i64 a] w (Ret w (cl xs a)) := by
  obtain ⟨i0, hi0, hz0, hz1, hz2⟩ := info_parts info2
  have hxl := Lib.hid h.len
  go_enter Tryz.func40, Tryz.ntmps40
  go_wp2_with (at_make; refine wpList_make_full _ rfl _ _ 22 rfl w.heap.size 2 i0 (.int .i64 0) 1 Tryz.underlying22 hi0 hz0 hz1 .i64 .i64 _ _ 8 rfl rfl rfl rfl (by rw [hz2]; omega) (by simp only [maxLen]; omega) (Nat.le_refl _) ?_; intro w1 hown hg; rw [made_iv] at hown)
  have hlt := (hown.lt w.heap.size rfl).2
  have hb1 : Below w.heap.size w w1 := below_grown hg (Nat.le_refl _) (fun _ h => by cases h)
  have ho1 : Ow w1 w.heap.size (w.heap.size + 1) (some ⟨w.heap.size, 0, none⟩) 8 8 (List.replicate 8 0) := ⟨hown, fun g hg => by simp [Value.ownBlock] at hg; omega⟩
  clear hown hg hi0 hz0 hz1 hz2
  go_loopw [6] (fun i wr => ∃ k : Nat, k ≤ 8 ∧ (k = 0 ∨ a * 8 + k ≤ n) ∧ i = .int .i64 k ∧ Ow wr w.heap.size (w.heap.size + 1) (some ⟨w.heap.size, 0, none⟩) 8 8 (f8 (fun j => if j < k then xs.getD (a * 8 + j) 0 else 0)) ∧ Below w.heap.size w wr)
    (fun i _ => 8 - (intOf i).toNat)
  case atStart => exact ⟨0, Nat.zero_le _, .inl rfl, rfl, by rw [f8_zero (fun j => xs.getD (a * 8 + j) 0)] at ho1; exact ho1, hb1⟩
  case round =>
    obtain ⟨k, hk, hk2, rfl, ho, hb⟩ := hrel
    by_cases hlt : k < 8
    · by_cases hlt2 : a * 8 + k < n
      · obtain ⟨b, off, rfl, hbb, hc⟩ := h.2 (by omega)
        have hcx : wr.cell? ⟨b, off + (a * 8 + k), none⟩ = some (.int .i64 (xs.getD (a * 8 + k) 0)) := (hb.cell (p := ⟨b, off + (a * 8 + k), none⟩) hbb).trans (hc (a * 8 + k) hlt2)
        have hco := ho.cell hlt
        have hfo := ho.free k
        have HS := Lib.hid (ho.set k (xs.getD (a * 8 + k) 0))
        have HT := Lib.hid (f8_set (fun j => if j < k then xs.getD (a * 8 + j) 0 else 0) k (xs.getD (a * 8 + k) 0) hlt)
        clear hc ho ho1
        generalize hx : xs.getD (a * 8 + k) 0 = x at *
        have HX := Lib.hid hx
        clear hx
        go_wp2
        go_roundw
        case rel =>
          obtain ⟨h1, h2⟩ := HS.out
          rw [HT.out] at h1
          refine ⟨k + 1, by omega, .inr (by omega), by go_num, ?_, hb.grown h2 hb.size (fun k hk => by cases hk; exact Nat.le_refl _)⟩
          have e : f8 (fun j => if j = k then x else if j < k then xs.getD (a * 8 + j) 0 else 0) = f8 (fun j => if j < k + 1 then xs.getD (a * 8 + j) 0 else 0) := f8_congr (fun j _ => by
            by_cases hjk : j = k
            · subst hjk; rw [if_pos rfl, if_pos (by omega), HX.out]
            · rw [if_neg hjk]
              by_cases hj2 : j < k
              · rw [if_pos hj2, if_pos (by omega)]
              · rw [if_neg hj2, if_neg (by omega)])
          rw [e] at h1
          exact h1
        case measure => simp [intOf]; omega
      · go_wp2
        go_ret
        have hl := hxl.out
        refine ⟨_, 8, 8, rfl, ?_, hb⟩
        have e : f8 (fun j => if j < k then xs.getD (a * 8 + j) 0 else 0) = cl xs a := f8_congr (fun j _ => by
          by_cases hj2 : j < k
          · rw [if_pos hj2]
          · rw [if_neg hj2, getD_past xs _ (by omega)])
        rw [e] at ho
        exact ho.more (Nat.le_refl _) (by have := (ho.own.lt w.heap.size rfl).2; omega)
    · have hd : decide ((k : Int) < 8) = false := by simp; omega
      go_wp2
      go_ret
      refine ⟨_, 8, 8, rfl, ?_, hb⟩
      have e : f8 (fun j => if j < k then xs.getD (a * 8 + j) 0 else 0) = cl xs a := f8_congr (fun j _ => by
        rw [if_pos (by omega)])
      rw [e] at ho
      exact ho.more (Nat.le_refl _) (by have := (ho.own.lt w.heap.size rfl).2; omega)

theorem clusterL_no {xs : List Int} {at_ : Int} (h : imgB xs = false) : clusterL xs at_ = [] := by simp [clusterL, h]
theorem clusterL_out {xs : List Int} {at_ : Int} (h : inB at_ 0 ((manyN xs : Int) - 1) = false) : clusterL xs at_ = [] := by simp [clusterL, h]
theorem clusterL_in {xs : List Int} {at_ : Int} (h : imgB xs = true) (h2 : inB at_ 0 ((manyN xs : Int) - 1) = true) : clusterL xs at_ = cl xs at_.toNat := by simp [clusterL, h, h2]

theorem Rd.take {w : World} {B n k : Nat} {A : Option Addr} {xs : List Int} (h : Rd w B A n xs) (hk : k ≤ n) : Rd w B A k (xs.take k) := by
  have hl := h.len
  refine ⟨by simp; omega, fun h0 => ?_⟩
  obtain ⟨b, off, e, hb, hc⟩ := h.2 (by omega)
  refine ⟨b, off, e, hb, fun j hj => ?_⟩
  rw [hc j (by omega)]
  simp [List.getD_eq_getElem?_getD, hj]
theorem Rd.drop {w : World} {B n k b off : Nat} {xs : List Int} (h : Rd w B (some ⟨b, off, none⟩) n xs) (hk : k ≤ n) : Rd w B (some ⟨b, off + k, none⟩) (n - k) (xs.drop k) := by
  have hl := h.len
  refine ⟨by simp; omega, fun h0 => ?_⟩
  obtain ⟨b', off', e, hb, hc⟩ := h.2 (by omega)
  injection e with e
  injection e with e1 e2
  subst e1; subst e2
  refine ⟨b, off + k, rfl, hb, fun j hj => ?_⟩
  rw [Nat.add_assoc, hc (k + j) (by omega)]
  simp [List.getD_eq_getElem?_getD]
theorem OwC.rdTop {w : World} {lo hi n c : Nat} {A : Option Addr} {ys : List Int} (h : OwC w lo hi A n c ys) : RdC w w.heap.size A n ys := (OwC.mk (hi := w.heap.size) h.own (fun g hg => (h.own.lt g hg).2)).rd
theorem one_cl {xs : List Int} {a n : Nat} (hx : xs.length = n) (ha : a * 8 < n) : whole ((xs.drop (a * 8)).take (min 8 (n - a * 8))) = cl xs a := by
  unfold cl
  have hl : ((xs.drop (a * 8)).take (min 8 (n - a * 8))).length = min 8 (n - a * 8) := by simp; omega
  refine f8_eq _ _ (by rw [whole_length]; unfold manyN; omega) (fun j hj => ?_)
  rw [whole_get, List.getD_eq_getElem?_getD, List.getD_eq_getElem?_getD, List.getElem?_take]
  by_cases h : j < min 8 (n - a * 8)
  · rw [if_pos h, List.getElem?_drop]
  · rw [if_neg h, List.getElem?_eq_none (by omega)]

set_option maxHeartbeats 400000 in
theorem implClat_any (A : Option Addr) (n c : Nat) (xs : List Int) (at_ : Int) (w : World) (h : Rd w w.heap.size A n xs) (hn : n ≤ 2097152) (hnc : n ≤ c := by omega) :
    Calls Tryz.prog 55 #[.slice A n c, .int .i64 at_] w (Ret w (clusterL xs at_)) := by
  have hxl := Lib.hid h.len
  by_cases h0 : at_ < 0
  · have hd : decide (at_ < 0) = true := by simpa using h0
    have H2 := Lib.hid (clusterL_out (xs := xs) (inB_false.2 (fun hh => by omega)) : clusterL xs at_ = [])
    go_enter Tryz.func55, Tryz.ntmps55
    go_wp2
    go_ret
    rw [H2.out]
    exact Ret.nil _ _ (Below.refl _ _)
  · have hd : decide (at_ < 0) = false := by simpa using h0
    by_cases h1 : manyI xs ≤ at_
    · have hd1 : decide (manyI xs ≤ at_) = true := by simpa using h1
      have H2 : Hid (clusterL xs at_ = []) := by
        cases hi : imgB xs
        · exact clusterL_no hi
        · refine clusterL_out (inB_false.2 (fun hh => ?_))
          simp [manyI, hi] at h1
          omega
      go_enter Tryz.func55, Tryz.ntmps55
      go_wp2_with fail
      refine (implClin_any _ _ _ _ _ h hn).mono ?_
      rintro e w1 ⟨rfl, b1⟩
      go_wp2
      go_ret
      rw [H2.out]
      exact Ret.nil _ _ b1
    · have hd1 : decide (manyI xs ≤ at_) = false := by simpa using h1
      have hi : imgB xs = true := by
        cases hi : imgB xs
        · simp [manyI, hi] at h1; omega
        · rfl
      have hlt : at_ < (manyN xs : Int) := by simp [manyI, hi] at h1; omega
      have H2 := Lib.hid (clusterL_in hi (inB_true.2 ⟨by omega, by omega⟩) : clusterL xs at_ = cl xs at_.toNat)
      have hl := imgB_len hi
      have hm : manyN xs ≤ 64 := by unfold manyN; omega
      obtain ⟨a, rfl⟩ := Int.eq_ofNat_of_zero_le (show 0 ≤ at_ by omega)
      have HI := Lib.hid hi
      have han : a * 8 < n := by have := hxl.out; unfold manyN at hlt; omega
      have hn512 : n ≤ 512 := by have := hxl.out; omega
      obtain ⟨b, off, rfl, hbb, hcx⟩ := h.2 (by omega)
      have r0 := (h.drop (k := a * 8) (by omega)).take (k := min 8 (n - a * 8)) (by omega)
      have HE := Lib.hid (one_cl hxl.out han)
      have n1 : IntKind.i64.wrap ((a : Int) * 8) = (a : Int) * 8 := IntWalk.i64_in _ (by omega)
      have hca : ¬ c = a * 8 := by omega
      clear hcx hbb hi
      by_cases hlt8 : a * 8 + 8 ≤ n
      case' pos =>
        have em := Lib.hid (show min 8 (n - a * 8) = 8 by omega)
      case' neg =>
        have em := Lib.hid (show min 8 (n - a * 8) = n - a * 8 by omega)
      all_goals
        rw [em.out] at r0
        have HE2 := Lib.hid (show whole ((xs.drop (a * 8)).take _) = cl xs a from em.out ▸ HE.out)
        go_enter Tryz.func55, Tryz.ntmps55
        go_wp2_with fail
        refine (implClin_any _ _ _ _ _ h hn).mono ?_
        rintro e w1 ⟨rfl, b1⟩
        go_wp2_with fail
        refine (clustersOf_any _ _ _ _ _ ((r0.below b1).more b1.size) (by omega)).mono ?_
        rintro e w2 ⟨B2, m, hm2, rfl, o2, b2⟩
        obtain rfl : m = 1 := by omega
        clear hm2
        rw [HE2.out] at o2
        go_wp2_with fail
        refine (joined_any _ 1 _ _ w2 o2.rdTop (by omega)).mono ?_
        rintro e w3 ⟨v, rfl, o3, b3⟩
        go_wp2
        go_ret
        rw [H2.out, Int.toNat_natCast]
        exact Ret.of (below_more b1 b2 b1.size) o3 b3

theorem int_one (ys : List Int) : ∀ u ∈ iv ys, u.oneCell' = true := ints_oneCell .i64 ys

section
variable {P : Program}

theorem run_append_nilsrc (w : World) (base : Nat) (t ty e : TypeId) (i : TypeInfo) (size : Nat) (ht : P.underlying t = some (.slice e)) (hi : P.info? e = some i)
    (v : Value) (n : Nat) (xs : List Value) (ho : w.ownsRow base e size v n xs) (c : Nat) : (Builtin.append_ #[t, t] ty #[v, .slice none 0 c]).run P w = .ok v w := by
  rcases ho.2 with ⟨rfl, rfl⟩ | ⟨g, cap, cur, rfl, _, _, hnc, _⟩
  · simp [Builtin.append_, run_underlying ht, sizeOf, typeInfo, hi, Builtin.lenOf, Builtin.firstCells]
  · simp [Builtin.append_, run_underlying ht, sizeOf, typeInfo, hi, Builtin.lenOf, Builtin.firstCells, hnc, storeCells]

theorem rd_news {w : World} {B m : Nat} {ad : Addr} {ys : List Int} (h : Rd w B (some ad) m ys) : ∀ j u, (iv ys)[j]? = some u → w.cell? (ad.add j) = some u := by
  intro j u hu
  have hj : j < ys.length := by
    have := (List.getElem?_eq_some_iff.1 hu).1
    rwa [iv_length] at this
  have hl := h.len
  obtain ⟨b, off, e, _, hc⟩ := h.2 (by omega)
  injection e with e
  subst e
  rw [iv_get ys j hj] at hu
  rw [Addr.add_lit, hc j (by omega)]
  exact hu

theorem wpList_append_rd {w : World} {ops : Array Oper} {rest : List Oper} {o : Oper} {a : Act} {Q : Exit → Act → World → Prop} (hgd : o.guard = none) (s x : Operand) (t : TypeId)
    (ho : o.op = .call { callee := .builtin .append, args := #[s, x], argTypes := #[t, t] })
    (i : TypeInfo) (ht : P.underlying t = some (.slice 2)) (hi : P.info? 2 = some i) (hz : i.zero = some (.int .i64 0)) (hsize : i.size = 1) (hby : i.bytes = 8)
    (lo hi' : Nat) (A : Option Addr) (n c : Nat) (xs : List Int) (hs : a.eval s = .slice A n c) (hown : Ow w lo hi' A n c xs)
    (B : Nat) (A' : Option Addr) (m c' : Nat) (ys : List Int) (hx : a.eval x = .slice A' m c') (hr : Rd w B A' m ys) (hnm : n + m ≤ 16777216) (hlo : lo ≤ w.heap.size)
    (h : ∀ (D : Option Addr) (cd : Nat) (w' : World), Ow w' lo w'.heap.size D (n + m) cd (xs ++ ys) → w.grownBy w' (Value.ownBlock (.slice A n c)) → (D = none → A = none) → wpList P ops Q rest (a.put o.dst (.slice D (n + m) cd)) w') :
    wpList P ops Q (o :: rest) a w := by
  have hl := hr.len
  rcases A' with _ | ad
  · have hm : m = 0 := by
      rcases Nat.eq_zero_or_pos m with h0 | h0
      · exact h0
      · obtain ⟨_, _, e, _⟩ := hr.2 h0
        cases e
    subst hm
    obtain rfl : ys = [] := List.eq_nil_of_length_eq_zero hl
    refine wpList_plain hgd fun K hK => ?_
    have hrun := run_append_nilsrc (P := P) w lo t o.type 2 i 1 ht hi (.slice A n c) n _ hown.own c'
    unfold Oper.wp
    simp [execOp, ho, resolve, invoke, builtin, hs, hx, hrun, Result.andThen]
    refine hK _ _ (h A c w ?_ (grown_refl _ _) id)
    rw [List.append_nil]
    exact ⟨hown.own, fun g hg => (hown.own.lt g hg).2⟩
  · refine wpList_append_own w hgd s x t ho lo 2 i (.int .i64 0) 1 8 ht hi hz hsize hby rfl (by decide) (.slice A n c) n (iv xs) hs hown.own ad m c' (iv ys) hx (by rw [iv_length]; omega) (rd_news hr) (int_one ys)
      (by simp only [maxLen]; omega) (by omega) hlo ?_
    intro v' w' h1 h2 h4
    rw [← iv_append] at h1
    obtain ⟨D, cd, rfl, h3⟩ := Ow.of h1
    refine h D cd w' h3 h2 (fun hD => ?_)
    subst hD
    rcases h3.form with ⟨_, hn0, hc0⟩ | ⟨g, hg, _⟩
    · rw [hn0, hc0] at h4
      have := (h4.1 rfl).1
      injection this
    · cases hg

/-- The same onto a row that is not nil: what comes out is not nil either. -/
theorem wpList_append_rs {w : World} {ops : Array Oper} {rest : List Oper} {o : Oper} {a : Act} {Q : Exit → Act → World → Prop} (hgd : o.guard = none) (s x : Operand) (t : TypeId)
    (ho : o.op = .call { callee := .builtin .append, args := #[s, x], argTypes := #[t, t] })
    (i : TypeInfo) (ht : P.underlying t = some (.slice 2)) (hi : P.info? 2 = some i) (hz : i.zero = some (.int .i64 0)) (hsize : i.size = 1) (hby : i.bytes = 8)
    (lo hi' : Nat) (g n c : Nat) (xs : List Int) (hs : a.eval s = .slice (some ⟨g, 0, none⟩) n c) (hown : Ow w lo hi' (some ⟨g, 0, none⟩) n c xs)
    (B : Nat) (A' : Option Addr) (m c' : Nat) (ys : List Int) (hx : a.eval x = .slice A' m c') (hr : Rd w B A' m ys) (hnm : n + m ≤ 16777216) (hlo : lo ≤ w.heap.size)
    (h : ∀ (g' cd : Nat) (w' : World), n + m ≤ cd → Ow w' lo w'.heap.size (some ⟨g', 0, none⟩) (n + m) cd (xs ++ ys) → w.grownBy w' (some g) → wpList P ops Q rest (a.put o.dst (.slice (some ⟨g', 0, none⟩) (n + m) cd)) w') :
    wpList P ops Q (o :: rest) a w := by
  refine wpList_append_rd hgd s x t ho i ht hi hz hsize hby lo hi' (some ⟨g, 0, none⟩) n c xs hs hown B A' m c' ys hx hr hnm hlo ?_
  intro D cd w' h1 h2 h3
  rcases h1.form with ⟨e, _⟩ | ⟨g', rfl, _, _, _, h5⟩
  · cases h3 e
  · exact h g' cd w' h5 h1 h2
end
theorem below_row {w w1 w' : World} {lo hi g n c : Nat} {xs : List Int} (hb : Below w.heap.size w w1) (ho : Ow w1 lo hi (some ⟨g, 0, none⟩) n c xs) (hlo : w.heap.size ≤ lo) (hg : w1.grownBy w' (some g)) : Below w.heap.size w w' :=
  hb.grown hg hb.size (fun k h => by cases h; have := (ho.own.lt g rfl).1; omega)

def lenV : Value → Nat
  | .slice _ n _ => n
  | _ => 0

theorem empty_ow (w : World) : Ow (w.alloc (.cells #[] 2)) w.heap.size (w.heap.size + 1) (some ⟨w.heap.size, 0, none⟩) 0 0 [] := by
  have h : (w.alloc (.cells #[] 2)).ownsRow w.heap.size 2 1 (.slice (some ⟨w.heap.size, 0, none⟩) 0 0) 0 (iv []) := World.ownsRow_made w #[] 0 (Nat.le_refl _) (by simp [maxLen]) rfl
  exact ⟨h, fun g hg => by have := (h.lt g hg).2; simpa using this⟩

theorem below_ow {w w1 w' : World} {lo hi n c : Nat} {A : Option Addr} {xs : List Int} (hb : Below w.heap.size w w1) (ho : Ow w1 lo hi A n c xs) (hlo : w.heap.size ≤ lo) (hg : w1.grownBy w' (Value.ownBlock (.slice A n c))) : Below w.heap.size w w' :=
  hb.grown hg hb.size (fun g h => by have := (ho.own.lt g h).1; omega)

/-- As Ret, and it is not nil. -/
def RetS (w : World) (ys : List Int) (e : Ending) (w' : World) : Prop :=
  ∃ (g n c : Nat), e = .returned (.slice (some ⟨g, 0, none⟩) n c) ∧ n ≤ c ∧ Ow w' w.heap.size w'.heap.size (some ⟨g, 0, none⟩) n c ys ∧ Below w.heap.size w w'
theorem RetS.mk {w w' : World} {A : Option Addr} {n c : Nat} {ys : List Int} (hA : A = none → False) (ho : Ow w' w.heap.size w'.heap.size A n c ys) (hb : Below w.heap.size w w') : RetS w ys (.returned (.slice A n c)) w' := by
  rcases ho.form with ⟨h, _⟩ | ⟨g, rfl, _, _, _, hc⟩
  · exact absurd h hA
  · exact ⟨g, n, c, rfl, hc, ho, hb⟩

theorem specCopy_any (A : Option Addr) (n c : Nat) (xs : List Int) (w : World) (h : Rd w w.heap.size A n xs) (hn : n ≤ 2097152) :
    Calls Tryz.prog 50 #[.slice A n c] w (RetS w xs) := by
  obtain ⟨i0, hi0, hz0, hz1, hz2⟩ := info_parts info2
  go_enter Tryz.func50, Tryz.ntmps50
  go_wp2_with (at_builtin; refine wpList_append_rd rfl (.tmp 3) (.tmp 4) 22 rfl i0 Tryz.underlying22 hi0 hz0 hz1 hz2 w.heap.size (w.heap.size + 1) (some ⟨w.heap.size, 0, none⟩) 0 0 [] rfl (empty_ow w) w.heap.size A n c xs rfl (h.below ((Below.refl _ _).alloc (Nat.le_refl _) _)) (by omega) (by simp) ?_; intro D cd w1 ho hg hD)
  go_ret
  rw [List.nil_append, Nat.zero_add] at ho
  exact RetS.mk (fun h => by cases hD h) ho (below_ow ((Below.refl _ _).alloc (Nat.le_refl _) _) (empty_ow w) (Nat.le_refl _) hg)

theorem whole_step (xs : List Int) (j : Nat) : (xs ++ List.replicate j 0) ++ [0] = xs ++ List.replicate (j + 1) 0 := by
  rw [List.append_assoc, ← List.replicate_succ']

set_option maxRecDepth 100000 in
set_option maxHeartbeats 400000 in
theorem specWhole_any (A : Option Addr) (n c : Nat) (xs : List Int) (w : World) (h : Rd w w.heap.size A n xs) (hn : n ≤ 2097152) :
    Calls Tryz.prog 52 #[.slice A n c] w (RetS w (whole xs)) := by
  obtain ⟨i0, hi0, hz0, hz1, hz2⟩ := info_parts info2
  have hxl := Lib.hid h.len
  obtain ⟨M, hM⟩ : ∃ M, M = (n + 7) / 8 * 8 := ⟨_, rfl⟩
  have hM1 : n ≤ M := by omega
  have hM2 : M ≤ n + 7 := by omega
  have HM := Lib.hid hM
  clear hM
  go_enter Tryz.func52, Tryz.ntmps52
  go_wp2_with fail
  refine (specCopy_any A n c xs w h hn).mono ?_
  rintro e w1 ⟨g1, n1, c1, rfl, _, o1, b1⟩
  obtain rfl : n = n1 := hxl.out.symm.trans o1.len
  go_wp2_with fail
  go_loopw [3] (fun v wr => ∃ (D : Option Addr) (cd j : Nat), n + j ≤ M ∧ v = .slice D (n + j) cd ∧ (D = none → False) ∧ Ow wr w.heap.size wr.heap.size D (n + j) cd (xs ++ List.replicate j 0) ∧ Below w.heap.size w wr) (fun v _ => M - lenV v)
  case atStart => exact ⟨_, c1, 0, by omega, rfl, (fun h => by cases h), by simpa using o1, b1⟩
  case round =>
    obtain ⟨D, cd, j, hj, rfl, hDn, ho, hb⟩ := hrel
    have HD := Lib.hid hDn
    clear hDn
    by_cases hlt : n + j < M
    · have hd : ((((n + j : Nat) : Int)) % 8 != 0) = true := by
        have := HM.out
        rw [bne_iff_ne]; omega
      have hd' : (((n : Int) + (j : Int)) % 8 != 0) = true := by rw [bne_iff_ne] at *; omega
      have hs := hb.size
      have rl : Rd (wr.alloc (.cells #[.int .i64 0] 2)) (wr.heap.size + 1) (some ⟨wr.heap.size, 0, none⟩) 1 [0] :=
        ⟨rfl, fun _ => ⟨wr.heap.size, 0, rfl, by omega, fun j hj => by
          obtain rfl : j = 0 := by omega
          simp⟩⟩
      have ho2 : Ow (wr.alloc (.cells #[.int .i64 0] 2)) w.heap.size wr.heap.size D (n + j) cd (xs ++ List.replicate j 0) := ho.below ((Below.refl wr.heap.size wr).alloc (Nat.le_refl _) _) (Nat.le_refl _)
      go_wp2_with (at_builtin; refine wpList_append_rd rfl (.tmp 10) (.tmp 11) 22 rfl i0 Tryz.underlying22 hi0 hz0 hz1 hz2 w.heap.size wr.heap.size D (n + j) cd _ rfl ho2 (wr.heap.size + 1) (some ⟨wr.heap.size, 0, none⟩) 1 1 [0] rfl rl (by omega) (by simp; omega) ?_; intro D' cd' w2 ho3 hg3 hD3)
      go_roundw
      case rel =>
        rw [whole_step] at ho3
        exact ⟨D', cd', j + 1, by omega, rfl, (fun h => HD.out (hD3 h)), ho3, below_ow (hb.alloc hb.size _) ho2 (Nat.le_refl _) hg3⟩
      case measure => simp [lenV]; omega
    · have hd : ((((n + j : Nat) : Int)) % 8 != 0) = false := by
        have := HM.out
        rw [bne_eq_false_iff_eq]; omega
      have hd' : (((n : Int) + (j : Int)) % 8 != 0) = false := by rw [bne_eq_false_iff_eq] at *; omega
      go_wp2
      go_ret
      have hjM : j = M - n := by omega
      subst hjM
      rw [whole, hxl.out, ← HM.out]
      exact RetS.mk HD.out ho hb

theorem Rd.zero {w : World} {B : Nat} {A : Option Addr} {xs : List Int} (h : xs = []) : Rd w B A 0 xs := by subst h; exact Rd.nil _ _ _

/-- A whole image zs with the words ws in the place of cluster a (or behind all). -/
def setCl (zs : List Int) (a : Nat) (ws : List Int) : List Int := (zs.take (a * 8) ++ ws) ++ zs.drop ((a + 1) * 8)

set_option maxRecDepth 100000 in
set_option maxHeartbeats 800000 in
theorem specWith_any (b off n c a : Nat) (zs ws : List Int) (W : Option Addr) (cw : Nat) (w : World) (h : Rd w w.heap.size (some ⟨b, off, none⟩) n zs) (hw : Rd w w.heap.size W 8 ws) (hc : n ≤ c) (hn : n ≤ 2097152) (h8 : n % 8 = 0) (ha : a * 8 ≤ n) :
    Calls Tryz.prog 20 #[.slice (some ⟨b, off, none⟩) n c, .int .i64 a, .slice W 8 cw] w (Ret w (setCl zs a ws)) := by
  obtain ⟨i0, hi0, hz0, hz1, hz2⟩ := info_parts info2
  have hzl := Lib.hid h.len
  have hm := Lib.hid (show manyN zs * 8 = n by unfold manyN; rw [h.len]; omega)
  have H8 := Lib.hid h8
  clear h8
  have r1 := h.take (k := a * 8) ha
  by_cases hlt : a * 8 < n
  · have hd : decide ((a : Int) < (manyN zs : Int)) = true := by have := hm.out; simp; omega
    have hd' : (a : Int) < (manyN zs : Int) := by simpa using hd
    have hle : (a + 1) * 8 ≤ n := by have := H8.out; omega
    by_cases hcap : c = (a + 1) * 8
    · obtain rfl : n = (a + 1) * 8 := by omega
      subst hcap
      have r2 : ∀ (w : World) (B : Nat) (A : Option Addr) (m : Nat), m = 0 → Rd w B A m (zs.drop ((a + 1) * 8)) := fun _ _ _ _ h => by subst h; exact Rd.zero (List.drop_of_length_le (Nat.le_of_eq hzl.out))
      have R2 := Lib.hid r2
      clear r2
      go_enter Tryz.func20, Tryz.ntmps20
      go_wp2_with fail
      refine (specCopy_any _ _ _ _ w r1 (by omega)).mono ?_
      rintro e w1 ⟨g1, n1, c1, rfl, hc1, o1, b1⟩
      have hl1 : n1 = a * 8 := by have := o1.len; have := hzl.out; simp at *; omega
      subst hl1
      go_wp2_with (at_builtin; refine wpList_append_rs rfl (.tmp 12) (.tmp 13) 22 rfl i0 Tryz.underlying22 hi0 hz0 hz1 hz2 w.heap.size w1.heap.size _ (a * 8) c1 _ rfl o1 w.heap.size W 8 cw ws rfl (hw.below b1) (by omega) b1.size ?_; intro g2 cd w2 hc2 o2 gr2)
      have b2 := below_row b1 o1 (Nat.le_refl _) gr2
      refine (specMany_any _ _ _ zs w2 hzl.out (by omega)).mono ?_
      rintro e w2' ⟨rfl, rfl⟩
      go_wp2_with (at_builtin; refine wpList_append_rs rfl (.tmp 19) (.tmp 24) 22 rfl i0 Tryz.underlying22 hi0 hz0 hz1 hz2 w.heap.size w2.heap.size g2 (a * 8 + 8) cd _ rfl o2 w2.heap.size _ _ _ (zs.drop ((a + 1) * 8)) rfl (R2.out _ _ _ _ (by omega)) (by omega) b2.size ?_; intro g3 cd3 w3 hc3 o3 gr3)
      go_ret
      rw [Nat.sub_self, Nat.add_zero] at o3
      exact ⟨_, _, _, rfl, o3, below_row b2 o2 (Nat.le_refl _) gr3⟩
    · have r2 := h.drop (k := (a + 1) * 8) hle
      go_enter Tryz.func20, Tryz.ntmps20
      go_wp2_with fail
      refine (specCopy_any _ _ _ _ w r1 (by omega)).mono ?_
      rintro e w1 ⟨g1, n1, c1, rfl, hc1, o1, b1⟩
      have hl1 : n1 = a * 8 := by have := o1.len; have := hzl.out; simp at *; omega
      subst hl1
      go_wp2_with (at_builtin; refine wpList_append_rs rfl (.tmp 12) (.tmp 13) 22 rfl i0 Tryz.underlying22 hi0 hz0 hz1 hz2 w.heap.size w1.heap.size _ (a * 8) c1 _ rfl o1 w.heap.size W 8 cw ws rfl (hw.below b1) (by omega) b1.size ?_; intro g2 cd w2 hc2 o2 gr2)
      have b2 := below_row b1 o1 (Nat.le_refl _) gr2
      refine (specMany_any _ _ _ zs w2 hzl.out (by omega)).mono ?_
      rintro e w2' ⟨rfl, rfl⟩
      go_wp2_with (at_builtin; refine wpList_append_rs rfl (.tmp 19) (.tmp 24) 22 rfl i0 Tryz.underlying22 hi0 hz0 hz1 hz2 w.heap.size w2.heap.size g2 (a * 8 + 8) cd _ rfl o2 w.heap.size (some ⟨b, off + (a + 1) * 8, none⟩) (n - (a + 1) * 8) _ _ rfl (r2.below b2) (by omega) b2.size ?_; intro g3 cd3 w3 hc3 o3 gr3)
      go_ret
      exact ⟨_, _, _, rfl, o3, below_row b2 o2 (Nat.le_refl _) gr3⟩
  · have hd : decide (a < manyN zs) = false := by have := hm.out; simp; omega
    have HE := Lib.hid (show setCl zs a ws = zs.take (a * 8) ++ ws by rw [setCl, List.drop_of_length_le (by have := hzl.out; omega), List.append_nil])
    go_enter Tryz.func20, Tryz.ntmps20
    go_wp2_with fail
    refine (specCopy_any _ _ _ _ w r1 (by omega)).mono ?_
    rintro e w1 ⟨g1, n1, c1, rfl, hc1, o1, b1⟩
    have hl1 : n1 = a * 8 := by have := o1.len; have := hzl.out; simp at *; omega
    subst hl1
    go_wp2_with (at_builtin; refine wpList_append_rs rfl (.tmp 12) (.tmp 13) 22 rfl i0 Tryz.underlying22 hi0 hz0 hz1 hz2 w.heap.size w1.heap.size _ (a * 8) c1 _ rfl o1 w.heap.size W 8 cw ws rfl (hw.below b1) (by omega) b1.size ?_; intro g2 cd w2 hc2 o2 gr2)
    have b2 := below_row b1 o1 (Nat.le_refl _) gr2
    refine (specMany_any _ _ _ zs w2 hzl.out (by omega)).mono ?_
    rintro e w2' ⟨rfl, rfl⟩
    go_wp2
    go_ret
    rw [HE.out]
    exact ⟨_, _, _, rfl, o2, b2⟩

def eightB (ws : List Int) : Bool := decide (ws.length = 8) && wordsB ws
theorem eightB_img (ws : List Int) : eightB ws = (decide (ws.length = 8) && imgB ws) := by
  unfold eightB imgB
  by_cases h : ws.length = 8 <;> simp [h]
theorem eightB_len {ws : List Int} (h : eightB ws = true) : ws.length = 8 := by
  simp [eightB] at h
  exact h.1

theorem specEight_any (A : Option Addr) (n c : Nat) (xs : List Int) (B : Nat) (w : World) (h : Rd w B A n xs) (hn : n ≤ 2097152) :
    Calls Tryz.prog 16 #[.slice A n c] w fun e w' => e = .returned (.bool (eightB xs)) ∧ w = w' := by
  have hx := Lib.hid h.len
  by_cases hs : n = 8
  · subst hs
    have hd : (((8 : Nat) : Int) == 8) = true := by simp
    go_enter Tryz.func16, Tryz.ntmps16
    go_wp2_with (go_at_call 45; refine (specImg_any _ _ _ _ _ _ h (by omega)).mono ?_; rintro e w' ⟨rfl, rfl⟩)
    go_ret
    have hl := hx.out
    exact ⟨ret_bool (by rw [eightB_img, hl]; simp), rfl⟩
  · have hd : ((n : Int) == 8) = false := by rw [beq_eq_false_iff_ne]; omega
    go_enter Tryz.func16, Tryz.ntmps16
    go_wp2
    go_ret
    have hl := hx.out
    exact ⟨ret_bool (by rw [eightB_img, hl]; simp [hs]), rfl⟩

theorem implEight_any (A : Option Addr) (n c : Nat) (xs : List Int) (B : Nat) (w : World) (h : Rd w B A n xs) (hn : n ≤ 2097152) :
    Calls Tryz.prog 27 #[.slice A n c] w fun e w' => e = .returned (.bool (eightB xs)) ∧ w = w' := by
  have hx := Lib.hid h.len
  by_cases hs : n = 8
  · subst hs
    have hd : (((8 : Nat) : Int) == 8) = true := by simp
    go_enter Tryz.func27, Tryz.ntmps27
    go_wp2_with (go_at_call 60; refine (implWords_any _ _ _ _ _ _ h (by omega)).mono ?_; rintro e w' ⟨rfl, rfl⟩)
    go_ret
    have hl := hx.out
    exact ⟨ret_bool (by rw [eightB, hl]; simp), rfl⟩
  · have hd : ((n : Int) == 8) = false := by rw [beq_eq_false_iff_ne]; omega
    go_enter Tryz.func27, Tryz.ntmps27
    go_wp2
    go_ret
    have hl := hx.out
    exact ⟨ret_bool (by rw [eightB, hl]; simp [hs]), rfl⟩

/-- WithCluster. -/
def withB (xs : List Int) (at_ : Int) (ws : List Int) : Bool := imgB xs && (eightB ws && (inB at_ 0 (manyN xs) && decide (at_ < 64)))
def withL (xs : List Int) (at_ : Int) (ws : List Int) : List Int := if withB xs at_ ws = true then setCl (whole xs) at_.toNat ws else []

end Go.Proofs.YtiokfhdkbpoadaaGreatDoor
