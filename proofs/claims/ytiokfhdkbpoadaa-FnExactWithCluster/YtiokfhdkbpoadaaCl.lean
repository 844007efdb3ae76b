/- The program's clusters: clustersOf lays the words into arrays of eight, joined lays them end to end again. -/
import Derived.Test.YtiokfhdkbpoadaaImgSpec
namespace Go.Proofs.Ytiokfhdkbpoadaa
open Go.RowKit

theorem infoC : (Try.prog.info? 38).map (fun i => (i.zero, i.size, i.bytes)) = some (some (.agg #[.int .i64 0, .int .i64 0, .int .i64 0, .int .i64 0, .int .i64 0, .int .i64 0, .int .i64 0, .int .i64 0]), 8, 64) := by kernel_rfl

/-- A row of clusters of the call's own: ys are its words, eight to a cluster. -/
structure OwC (w : World) (lo hi : Nat) (A : Option Addr) (n c : Nat) (ys : List Int) : Prop where
  own : w.ownsRow lo 38 8 (.slice A n c) n (iv ys)
  top : ∀ g, Value.ownBlock (.slice A n c) = some g → g < hi

/-- A slice of clusters that reads as the words ys. -/
def RdC (w : World) (B : Nat) (A : Option Addr) (n : Nat) (ys : List Int) : Prop :=
  ys.length = n * 8 ∧ (0 < n → ∃ b off, A = some ⟨b, off, none⟩ ∧ b < B ∧ ∀ j, j < n * 8 → w.cell? ⟨b, off + j, none⟩ = some (.int .i64 (ys.getD j 0)))

section
variable {w w' : World} {lo hi n c : Nat} {A : Option Addr} {ys : List Int}
theorem OwC.len (h : OwC w lo hi A n c ys) : ys.length = n * 8 := by
  have := h.own.1
  rwa [iv_length] at this
theorem OwC.form (h : OwC w lo hi A n c ys) : (A = none ∧ n = 0 ∧ c = 0) ∨ ∃ g, A = some ⟨g, 0, none⟩ ∧ lo ≤ g ∧ g < hi ∧ g < w.heap.size ∧ n ≤ c := by
  have hl := h.own.lt
  rcases h.own.2 with ⟨hv, hn⟩ | ⟨g, cap, cur, hv, hb, hg, hnc, _⟩
  · injection hv with h1 h2 h3
    exact .inl ⟨h1, h2, h3⟩
  · injection hv with h1 h2 h3
    subst h1
    exact .inr ⟨g, rfl, hb, h.top g rfl, (hl g rfl).2, by omega⟩
theorem OwC.cell {g : Nat} (h : OwC w lo hi (some ⟨g, 0, none⟩) n c ys) {j : Nat} (hj : j < n * 8) : w.cell? ⟨g, j, none⟩ = some (.int .i64 (ys.getD j 0)) := by
  have hle := h.len
  rw [h.own.cellAt j (by omega), iv_get ys j (by omega)]
theorem OwC.free {g : Nat} (h : OwC w lo hi (some ⟨g, 0, none⟩) n c ys) (j : Nat) : w.frozen? ⟨g, j, none⟩ = false := h.own.frozenAt j
theorem OwC.keep (h : OwC w lo hi A n c ys) (hk : ∀ g, lo ≤ g → g < hi → g < w.heap.size → w'.heap[g]? = w.heap[g]?) : OwC w' lo hi A n c ys := by
  refine ⟨⟨h.own.1, ?_⟩, h.top⟩
  have ht := h.top
  have hl := h.own.lt
  rcases h.own.2 with hn | ⟨g, cap, cur, hv, hb, hg, rest⟩
  · exact .inl hn
  · refine .inr ⟨g, cap, cur, hv, hb, ?_, rest⟩
    rw [hv] at ht hl
    rw [hk g hb (ht g rfl) (hl g rfl).2]
    exact hg
theorem OwC.below {B : Nat} (h : OwC w lo hi A n c ys) (hb : Below B w w') (hB : hi ≤ B) : OwC w' lo hi A n c ys := h.keep fun g _ h2 _ => hb.block g (by omega)
theorem OwC.more {lo' hi' : Nat} (h : OwC w lo hi A n c ys) (h1 : lo' ≤ lo) (h2 : hi ≤ hi') : OwC w lo' hi' A n c ys := by
  refine ⟨⟨h.own.1, ?_⟩, fun g hg => by have := h.top g hg; omega⟩
  rcases h.own.2 with hn | ⟨g, cap, cur, hv, hb, rest⟩
  · exact .inl hn
  · exact .inr ⟨g, cap, cur, hv, by omega, rest⟩
theorem OwC.set {g : Nat} (h : OwC w lo hi (some ⟨g, 0, none⟩) n c ys) (j : Nat) (x : Int) :
    OwC (w.setCell ⟨g, j, none⟩ (.int .i64 x)) lo hi (some ⟨g, 0, none⟩) n c (ys.set j x) ∧ w.grownBy (w.setCell ⟨g, j, none⟩ (.int .i64 x)) (some g) := by
  obtain ⟨h1, h2⟩ := h.own.stored j (.int .i64 x)
  rw [iv_set] at h1
  exact ⟨⟨h1, h.top⟩, h2⟩
theorem OwC.rd (h : OwC w lo hi A n c ys) : RdC w hi A n ys := by
  refine ⟨h.len, fun hn => ?_⟩
  rcases h.form with ⟨_, h0, _⟩ | ⟨g, rfl, h1, h2, h3, h4⟩
  · omega
  · exact ⟨g, 0, rfl, h2, fun j hj => by rw [Nat.zero_add]; exact h.cell hj⟩
end

theorem madeC (n : Nat) : (madeCells (Value.agg #[.int .i64 0, .int .i64 0, .int .i64 0, .int .i64 0, .int .i64 0, .int .i64 0, .int .i64 0, .int .i64 0]).cells (n * 8)).toList = iv (List.replicate (n * 8) 0) := by
  show (madeCells #[.int .i64 0, .int .i64 0, .int .i64 0, .int .i64 0, .int .i64 0, .int .i64 0, .int .i64 0, .int .i64 0] (n * 8)).toList = _
  apply List.ext_getElem?
  intro j
  by_cases hj : j < n * 8
  · have h8 : j % 8 < 8 := Nat.mod_lt _ (by omega)
    have hz : ∀ i, i < 8 → ([Value.int .i64 0, .int .i64 0, .int .i64 0, .int .i64 0, .int .i64 0, .int .i64 0, .int .i64 0, .int .i64 0] : List Value)[i]?.getD default = .int .i64 0 := by
      intro i hi
      match i, hi with
      | 0, _ => rfl
      | 1, _ => rfl
      | 2, _ => rfl
      | 3, _ => rfl
      | 4, _ => rfl
      | 5, _ => rfl
      | 6, _ => rfl
      | 7, _ => rfl
    have := hz (j % 8) h8
    simp [madeCells, iv, hj, this]
  · simp [madeCells, iv, hj]

theorem pad_step (xs : List Int) (k M : Nat) (hk : k < xs.length) (hM : xs.length ≤ M) :
    (xs.take k ++ List.replicate (M - k) 0).set k (xs.getD k 0) = xs.take (k + 1) ++ List.replicate (M - (k + 1)) 0 := by
  have hl : (xs.take k).length = k := by simp; omega
  rw [List.set_append, if_neg (by omega), hl, Nat.sub_self, List.take_succ_eq_append_getElem hk,
    show M - k = (M - (k + 1)) + 1 from by omega, List.replicate_succ, List.set_cons_zero, List.append_assoc]
  simp [List.getD_eq_getElem?_getD, hk]

/-- The words, the last cluster whole. -/
def whole (xs : List Int) : List Int := xs ++ List.replicate ((xs.length + 7) / 8 * 8 - xs.length) 0

theorem clustersFor_any (n : Nat) (w : World) (hn : n ≤ 2097152) : Calls Try.prog 19 #[.int .i64 (n : Int)] w fun e w' => e = .returned (.int .i64 (((n + 7) / 8 : Nat) : Int)) ∧ w = w' := by
  go_enter Try.func19, Try.ntmps19
  go_wp2
  go_ret
  exact ⟨ret_int (by omega), rfl⟩

set_option maxRecDepth 100000 in
set_option maxHeartbeats 400000 in
theorem clustersOf_any (A : Option Addr) (n c : Nat) (xs : List Int) (w : World) (h : Rd w w.heap.size A n xs) (hn : n ≤ 2097152) :
    Calls Try.prog 23 #[.slice A n c] w fun e w' => ∃ (B : Option Addr) (m : Nat), m = (n + 7) / 8 ∧ e = .returned (.slice B m m) ∧ OwC w' w.heap.size w'.heap.size B m m (whole xs) ∧ Below w.heap.size w w' := by
  obtain ⟨i0, hi0, hz0, hz1, hz2⟩ := info_parts infoC
  have hxl := Lib.hid h.len
  obtain ⟨m, hm⟩ : ∃ m, m = (n + 7) / 8 := ⟨_, rfl⟩
  have hm1 : m * 8 < n + 8 := by omega
  have hm2 : n ≤ m * 8 := by omega
  have HM := Lib.hid hm
  clear hm
  go_enter Try.func23, Try.ntmps23
  go_wp2_with fail
  refine (clustersFor_any n w hn).mono ?_
  rintro e w' ⟨rfl, rfl⟩
  rw [← HM.out]
  go_wp2_with (at_make; refine wpList_make_full _ rfl _ _ 35 rfl w.heap.size 38 i0 _ 8 Try.underlying35 hi0 hz0 hz1 .i64 .i64 _ _ m rfl rfl (by have := HM.out; omega) (by have := HM.out; omega) (by rw [hz2]; omega) (by simp only [maxLen]; omega) (Nat.le_refl _) ?_; intro w1 hown hg; rw [madeC] at hown)
  have hlt := (hown.lt w.heap.size rfl).2
  have hb1 : Below w.heap.size w w1 := below_grown hg (Nat.le_refl _) (fun _ h => by cases h)
  have ho1 : OwC w1 w.heap.size (w.heap.size + 1) (some ⟨w.heap.size, 0, none⟩) m m (List.replicate (m * 8) 0) := ⟨hown, fun g hg => by simp [Value.ownBlock] at hg; omega⟩
  clear hown hg hi0 hz0 hz1 hz2
  go_loopw [12] (fun i wr => ∃ k : Nat, k ≤ n ∧ i = .int .i64 k ∧ OwC wr w.heap.size (w.heap.size + 1) (some ⟨w.heap.size, 0, none⟩) m m (xs.take k ++ List.replicate (m * 8 - k) 0) ∧ Below w.heap.size w wr)
    (fun i _ => n - (intOf i).toNat)
  case atStart => exact ⟨0, Nat.zero_le _, rfl, by simpa using ho1, hb1⟩
  case round =>
    obtain ⟨k, hk, rfl, ho, hb⟩ := hrel
    by_cases hlt : k < n
    · obtain ⟨b, off, rfl, hbb, hc⟩ := h.2 (by omega)
      have hcx : wr.cell? ⟨b, off + k, none⟩ = some (.int .i64 (xs.getD k 0)) := (hb.cell (p := ⟨b, off + k, none⟩) hbb).trans (hc k hlt)
      have hco := ho.cell (j := k / 8 * 8 + k % 8) (by omega)
      have hfo := ho.free (k / 8 * 8 + k % 8)
      have HS := Lib.hid (ho.set (k / 8 * 8 + k % 8) (xs.getD k 0))
      have HT := Lib.hid (show (xs.take k ++ List.replicate (m * 8 - k) 0).set (k / 8 * 8 + k % 8) (xs.getD k 0) = xs.take (k + 1) ++ List.replicate (m * 8 - (k + 1)) 0 by
        rw [show k / 8 * 8 + k % 8 = k from by omega]; exact pad_step xs k (m * 8) (by rw [hxl.out]; exact hlt) (by rw [hxl.out]; exact hm2))
      clear hc ho ho1
      go_wp2
      go_roundw
      case rel =>
        obtain ⟨h1, h2⟩ := HS.out
        rw [HT.out] at h1
        exact ⟨k + 1, by omega, by go_num, h1, hb.grown h2 hb.size (fun k hk => by cases hk; exact Nat.le_refl _)⟩
      case measure => simp [intOf]; omega
    · go_wp2
      go_ret
      have hkn : k = n := by omega
      subst hkn
      have hl := hxl.out
      refine ⟨_, m, HM.out, rfl, ?_, hb⟩
      have := ho.more (Nat.le_refl _) (show w.heap.size + 1 ≤ wr.heap.size from by have := (ho.own.lt w.heap.size rfl).2; omega)
      rw [whole, hl, ← HM.out]
      rwa [List.take_of_length_le (Nat.le_of_eq hl)] at this

theorem take8 (zs : List Int) (h : 8 ≤ zs.length) : zs.take 8 = [zs.getD 0 0, zs.getD 1 0, zs.getD 2 0, zs.getD 3 0, zs.getD 4 0, zs.getD 5 0, zs.getD 6 0, zs.getD 7 0] := by
  match zs, h with
  | _ :: _ :: _ :: _ :: _ :: _ :: _ :: _ :: _, _ => rfl
theorem take8_next (ys : List Int) (k : Nat) (h : k * 8 + 8 ≤ ys.length) : ys.take ((k + 1) * 8) = ys.take (k * 8) ++ [ys.getD (k * 8) 0, ys.getD (k * 8 + 1) 0, ys.getD (k * 8 + 2) 0, ys.getD (k * 8 + 3) 0, ys.getD (k * 8 + 4) 0, ys.getD (k * 8 + 5) 0, ys.getD (k * 8 + 6) 0, ys.getD (k * 8 + 7) 0] := by
  rw [Nat.add_mul, Nat.one_mul, List.take_add, take8 (ys.drop (k * 8)) (by simp; omega)]
  simp [List.getD_eq_getElem?_getD, List.getElem?_drop]
theorem new_cells (w : World) (cs : Array Value) (t : TypeId) : ∀ j u, cs.toList[j]? = some u → (w.alloc (.cells cs t)).cell? ((⟨w.heap.size, 0, none⟩ : Addr).add j) = some u := by
  intro j u hu
  rw [Addr.add_lit, Nat.zero_add, cell_of_row _ w.heap.size j cs t (0, 0) (heap_alloc_new w _)]
  simpa using hu
theorem eight_cells (w : World) (b o : Nat) (f : Nat → Int) (h : ∀ j, j < 8 → w.cell? ⟨b, o + j, none⟩ = some (.int .i64 (f j))) :
    w.cell? ⟨b, o, none⟩ = some (.int .i64 (f 0)) ∧ w.cell? ⟨b, o + 1, none⟩ = some (.int .i64 (f 1)) ∧ w.cell? ⟨b, o + 2, none⟩ = some (.int .i64 (f 2)) ∧ w.cell? ⟨b, o + 3, none⟩ = some (.int .i64 (f 3)) ∧
    w.cell? ⟨b, o + 4, none⟩ = some (.int .i64 (f 4)) ∧ w.cell? ⟨b, o + 5, none⟩ = some (.int .i64 (f 5)) ∧ w.cell? ⟨b, o + 6, none⟩ = some (.int .i64 (f 6)) ∧ w.cell? ⟨b, o + 7, none⟩ = some (.int .i64 (f 7)) :=
  ⟨h 0 (by omega), h 1 (by omega), h 2 (by omega), h 3 (by omega), h 4 (by omega), h 5 (by omega), h 6 (by omega), h 7 (by omega)⟩

set_option maxRecDepth 100000 in
set_option maxHeartbeats 400000 in
theorem joined_any (A : Option Addr) (n c : Nat) (ys : List Int) (w : World) (h : RdC w w.heap.size A n ys) (hn : n ≤ 2097152) :
    Calls Try.prog 22 #[.slice A n c] w fun e w' => ∃ v, e = .returned v ∧ w'.ownsRow w.heap.size 2 1 v (n * 8) (iv ys) ∧ Below w.heap.size w w' := by
  obtain ⟨i0, hi0, hz0, hz1, hz2⟩ := info_parts info2
  have hyl := Lib.hid h.1
  go_enter Try.func22, Try.ntmps22
  go_wp2_with (at_make; refine wpList_make_own _ rfl _ _ 22 rfl w.heap.size 2 i0 (.int .i64 0) 1 Try.underlying22 hi0 hz0 hz1 .i64 .i64 _ (n * 8) rfl rfl (by omega) (by rw [hz2]; omega) (by simp only [maxLen]; omega) (Nat.le_refl _) ?_; intro w1 hown hg)
  have hb1 : Below w.heap.size w w1 := below_grown hg (Nat.le_refl _) (fun _ h => by cases h)
  clear hg
  go_loopw [3, 12] (fun v i wr => ∃ k : Nat, k ≤ n ∧ i = .int .i64 k ∧ wr.ownsRow w.heap.size 2 1 v (k * 8) (iv (ys.take (k * 8))) ∧ Below w.heap.size w wr)
    (fun _ i _ => n - (intOf i).toNat)
  case atStart => exact ⟨0, Nat.zero_le _, rfl, by simpa [iv] using hown, hb1⟩
  case round =>
    obtain ⟨k, hk, rfl, ho, hb⟩ := hrel
    by_cases hlt : k < n
    · obtain ⟨b, off, rfl, hbb, hc⟩ := h.2 (by omega)
      obtain ⟨c0, c1, c2, c3, c4, c5, c6, c7⟩ := eight_cells wr b (off + k * 8) (fun j => ys.getD (k * 8 + j) 0) (fun j hj => by
        have := (hb.cell (p := ⟨b, off + (k * 8 + j), none⟩) hbb).trans (hc (k * 8 + j) (by omega))
        rw [Nat.add_assoc]; exact this)
      have hT := Lib.hid (show ys.take ((k + 1) * 8) = ys.take (k * 8) ++ [ys.getD (k * 8) 0, ys.getD (k * 8 + 1) 0, ys.getD (k * 8 + 2) 0, ys.getD (k * 8 + 3) 0, ys.getD (k * 8 + 4) 0, ys.getD (k * 8 + 5) 0, ys.getD (k * 8 + 6) 0, ys.getD (k * 8 + 7) 0] from take8_next ys k (by rw [hyl.out]; omega))
      clear hc
      rw [Nat.add_zero] at c0
      generalize ys.getD (k * 8) 0 = y0 at *
      generalize ys.getD (k * 8 + 1) 0 = y1 at *
      generalize ys.getD (k * 8 + 2) 0 = y2 at *
      generalize ys.getD (k * 8 + 3) 0 = y3 at *
      generalize ys.getD (k * 8 + 4) 0 = y4 at *
      generalize ys.getD (k * 8 + 5) 0 = y5 at *
      generalize ys.getD (k * 8 + 6) 0 = y6 at *
      generalize ys.getD (k * 8 + 7) 0 = y7 at *
      go_wp2_with (at_builtin; refine wpList_append_own _ rfl _ _ 22 rfl w.heap.size 2 i0 (.int .i64 0) 1 8 Try.underlying22 hi0 hz0 hz1 hz2 rfl (by decide) _ _ _ rfl (ho.alloc _) ⟨wr.heap.size, 0, none⟩ 8 8 [.int .i64 y0, .int .i64 y1, .int .i64 y2, .int .i64 y3, .int .i64 y4, .int .i64 y5, .int .i64 y6, .int .i64 y7] rfl rfl ?c1 ?c2 ?c3 ?c4 ?c5 ?_)
      case c1 => exact new_cells wr #[.int .i64 y0, .int .i64 y1, .int .i64 y2, .int .i64 y3, .int .i64 y4, .int .i64 y5, .int .i64 y6, .int .i64 y7] 38
      case c2 => exact ints_oneCell .i64 [y0, y1, y2, y3, y4, y5, y6, y7]
      case c3 => simp only [maxLen]; omega
      case c4 => omega
      case c5 => have := hb.size; simp; omega
      intro v' w2 hown' hg' _
      have hb2 : Below w.heap.size w w2 := (hb.alloc hb.size _).grown hg' (by have := hb.size; simp; omega) (fun g hg => (ho.lt g hg).1)
      have hown2 : w2.ownsRow w.heap.size 2 1 v' ((k + 1) * 8) (iv (ys.take ((k + 1) * 8))) := by
        rw [hT.out, iv_append, Nat.add_mul]; exact hown'
      clear hown' hg' ho hb c0 c1 c2 c3 c4 c5 c6 c7
      go_wp2
      go_roundw
      case rel => exact ⟨k + 1, by omega, by go_num, hown2, hb2⟩
      case measure => simp [intOf]; omega
    · go_wp2
      go_ret
      have hkn : k = n := by omega
      subst hkn
      have hl := hyl.out
      rw [List.take_of_length_le (Nat.le_of_eq hl)] at ho
      exact ⟨_, rfl, ho, hb⟩
end Go.Proofs.Ytiokfhdkbpoadaa
