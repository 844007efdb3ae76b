/- Claims, the model's side: those of the shots (l6Shots). -/
import Derived.Test.YtimbfilbojejiaaCmt
namespace Go.Proofs.Ytimbfilbojejiaa
open Go.RowKit

theorem Rd.grown {w w' : World} {B n g : Nat} {A : Option Addr} {xs : List Int} (h : Rd w B A n xs) (hg : w.grownBy w' (some g)) (hB : B ≤ g) (hw : B ≤ w.heap.size) : Rd w' B A n xs :=
  h.keep fun p hp => World.cell?_of_block (w := w) (hg.block p.block (by omega) (fun e => by injection e with e; omega))

theorem shotFold_length (xs : List Int) (h : Hd) (l : List Cm) (k : Nat) : ((List.range k).foldl (shotStep xs h) l).length = l.length + k := by
  induction k with
  | zero => simp
  | succ k ih =>
    rw [List.range_succ, List.foldl_append]
    simp only [List.foldl_cons, List.foldl_nil, shotStep, addC_length, ih]
    omega
theorem shotFold_prefix (xs : List Int) (h : Hd) (l : List Cm) (k : Nat) : l <+: (List.range k).foldl (shotStep xs h) l := by
  induction k with
  | zero => exact List.prefix_refl _
  | succ k ih =>
    rw [List.range_succ, List.foldl_append]
    exact ih.trans (List.prefix_append _ _)
theorem shotFold_succ (xs : List Int) (h : Hd) (l : List Cm) (k : Nat) : (List.range (k + 1)).foldl (shotStep xs h) l = shotStep xs h ((List.range k).foldl (shotStep xs h) l) k := by
  rw [List.range_succ, List.foldl_append]; rfl

set_option maxRecDepth 100000 in
set_option maxHeartbeats 4000000 in
theorem specShotsC_any (A : Option Addr) (n cb B : Nat) (xs : List Int) (h : Hd) (g cap lo hi : Nat) (l : List Cm) (w : World) (hr : Rd w B A n xs) (hn : n ≤ 2097152) (hl : l.length ≤ 80000)
    (ho : OwV 45 6 w lo hi g l.length cap (l.flatMap cmV)) (hlo : lo ≤ w.heap.size) (hB : B ≤ lo) :
    Calls Try.prog 60 #[.slice A n cb, hdV h, .slice (some ⟨g, 0, none⟩) l.length cap] w (RetGrow w lo g l (shotsC xs h l)) := by
  have hx := Lib.hid hr.len
  have hgl := ho.lt
  have hlg := ho.low
  obtain ⟨s, f, r, u, m⟩ := h
  unfold hdV
  have hal : w.grownBy (w.alloc (.cells #[.int .i64 s, .int .i64 f, .int .i64 r, .int .i64 u, .int .i64 m] 34)) (some g) := ⟨rfl, rfl, rfl, by simp, fun k hk _ => Below.heap_alloc _ _ _ hk⟩
  have ho0 := ho.keep (w' := w.alloc (.cells #[.int .i64 s, .int .i64 f, .int .i64 r, .int .i64 u, .int .i64 m] 34)) (Below.heap_alloc _ _ _ hgl)
  by_cases hm : m = 0
  · subst hm
    have hd : ((0 : Int) == 0) = true := by simp
    go_enter Try.func60, Try.ntmps60
    go_wp2_with fail
    go_ret
    exact ⟨g, cap, by simp [shotsC], ⟨by simpa [shotsC] using ho0.own, by simp; omega⟩, hal, .inl rfl, ⟨ho0.len, fun _ => ⟨g, 0, rfl, by simp; omega, fun j hj => by rw [Nat.zero_add]; exact ho0.cell hj⟩⟩⟩
  have hd : (m == 0) = false := by simpa using hm
  have HC : Hid (shotsC xs ⟨s, f, r, u, m⟩ l = if goodB xs s l ⟨5, 0, 0, 0, u, false⟩ = true then (List.range (shotsL xs).length).foldl (shotStep xs ⟨s, f, r, u, m⟩) (addC xs s l ⟨5, 0, 0, 0, u, false⟩) else addC xs s l ⟨5, 0, 0, 0, u, false⟩) := by
    unfold shotsC; rw [if_neg hm]; exact rfl
  have c0 : ∀ j : Nat, (w.alloc (.cells #[.int .i64 s, .int .i64 f, .int .i64 r, .int .i64 u, .int .i64 m] 34)).cell? ⟨w.heap.size, j, none⟩ = (#[.int .i64 s, .int .i64 f, .int .i64 r, .int .i64 u, .int .i64 m] : Array Value)[j]? := fun j => World.cell?_alloc_new _ _ _ _
  have C0 := Lib.hid c0
  clear c0
  go_enter Try.func60, Try.ntmps60
  go_wp2_with fail
  refine (specAdd_any A n cb xs s g cap lo hi l ⟨5, 0, 0, 0, u, false⟩ _ hx.out hn (by omega) ho0 (by simp; omega)).mono ?_
  rintro e w1 ⟨g1, c1, rfl, ho1, hg1, hat1, hold1⟩
  have hw01 : w.grownBy w1 (some g) := grown_trans hal hg1
  have hr1 : Rd w1 B A n xs := hr.grown hw01 (by omega) (by omega)
  have hsz0 : (w.alloc (.cells #[.int .i64 s, .int .i64 f, .int .i64 r, .int .i64 u, .int .i64 m] 34)).heap.size = w.heap.size + 1 := by simp
  have HZ := Lib.hid hsz0
  rw [hsz0] at hat1
  have hs1 : w.heap.size + 1 ≤ w1.heap.size := by have := hg1.size; omega
  have hbx : Hid (∀ j : Nat, w1.cell? ⟨w.heap.size, j, none⟩ = (#[.int .i64 s, .int .i64 f, .int .i64 r, .int .i64 u, .int .i64 m] : Array Value)[j]?) := fun j =>
    (World.cell?_of_block (hg1.block w.heap.size (by have := HZ.out; omega) (fun e => by injection e with e; omega))).trans (C0.out j)
  clear hsz0 C0 hg1 ho0 hal
  go_wp2_with fail
  refine (specShots_any A n cb xs w1 (hr1.more (by omega)) hn).mono ?_
  rintro e w2 ⟨gs, cs, rfl, hos, b2⟩
  have hs2 := b2.size
  have hgl1 := ho1.lt
  have hgsl := hos.low
  have hgst := hos.lt
  have ho2 : OwV 45 6 w2 lo w2.heap.size g1 (addC xs s l ⟨5, 0, 0, 0, u, false⟩).length c1 ((addC xs s l ⟨5, 0, 0, 0, u, false⟩).flatMap cmV) := ⟨(ho1.keep (b2.block g1 hgl1)).own, by omega⟩
  have HL := Lib.hid (addC_length xs s l ⟨5, 0, 0, 0, u, false⟩)
  have hll : (addC xs s l ⟨5, 0, 0, 0, u, false⟩).length ≤ 80001 := by have := HL.out; omega
  have hbx2 : Hid (∀ j : Nat, w2.cell? ⟨w.heap.size, j, none⟩ = (#[.int .i64 s, .int .i64 f, .int .i64 r, .int .i64 u, .int .i64 m] : Array Value)[j]?) := fun j => (b2.cell (p := ⟨w.heap.size, j, none⟩) (by show w.heap.size < _; omega)).trans (hbx.out j)
  have hlg1 := ho1.low
  have hold2 : RdV 6 w2 w2.heap.size (some ⟨g, 0, none⟩) l.length (l.flatMap cmV) := (hold1.below b2).more hs2
  have HPr : Hid (l <+: addC xs s l ⟨5, 0, 0, 0, u, false⟩) := List.prefix_append _ _
  have hw02 : w.grownBy w2 (some g) := ⟨b2.os.trans hw01.os, b2.tape.trans hw01.tape, b2.output.trans hw01.output, Nat.le_trans hw01.size b2.size, fun k hk hne => (b2.block k (Nat.lt_of_lt_of_le hk hw01.size)).trans (hw01.block k hk hne)⟩
  have h4 := shotsL_length xs
  have HSC := Lib.hid (fun (k : Nat) (hk : k < (shotsL xs).length) => show w2.cell? ⟨gs, k * 2 + 1, none⟩ = some (.int .i64 ((shotsL xs).getD k (0, 0)).2) by rw [hos.cell (by omega), sh_cell hk (by omega)]; rfl)
  clear hbx b2 hw01 ho1 hos HL
  have HX1 := Lib.hid hx.out
  generalize hl0 : addC xs s l ⟨5, 0, 0, 0, u, false⟩ = l0 at *
  have HL0 := Lib.hid hl0
  clear hl0
  cases hq : goodB xs s l ⟨5, 0, 0, 0, u, false⟩
  · have HE : Hid (shotsC xs ⟨s, f, r, u, m⟩ l = l0) := by rw [HC.out, hq]; simp [Hid]
    clear HC hq
    go_wp2_with fail
    go_loopw [2, 9] (fun v i wr => i = .int .i64 0 ∧ v = .slice (some ⟨g1, 0, none⟩) l0.length c1 ∧ wr = w2) (fun _ _ _ => 0)
    case atStart => exact ⟨rfl, rfl, rfl⟩
    case round =>
      obtain ⟨rfl, rfl, rfl⟩ := hrel
      by_cases h0 : (0 : Nat) < (shotsL xs).length
      · go_wp2_with fail
        go_ret
        exact ⟨g1, c1, by rw [HE.out]; rfl, by rw [HE.out]; exact ho2, hw02, by omega, hold2⟩
      · have h0' : (shotsL xs).length = 0 := by omega
        have hd0 : decide (0 < (shotsL xs).length) = false := by simp [h0']
        clear h0 h0'
        go_wp2_with fail
        go_ret
        exact ⟨g1, c1, by rw [HE.out]; rfl, by rw [HE.out]; exact ho2, hw02, by omega, hold2⟩
  · have HE : Hid (shotsC xs ⟨s, f, r, u, m⟩ l = (List.range (shotsL xs).length).foldl (shotStep xs ⟨s, f, r, u, m⟩) l0) := by rw [HC.out, hq]; simp [Hid]
    clear HC hq
    go_wp2_with fail
    go_loopw [2, 9] (fun v i wr => ∃ (k g' c' : Nat), k ≤ (shotsL xs).length ∧ i = .int .i64 k ∧ v = .slice (some ⟨g', 0, none⟩) ((List.range k).foldl (shotStep xs ⟨s, f, r, u, m⟩) l0).length c' ∧
      OwV 45 6 wr lo wr.heap.size g' ((List.range k).foldl (shotStep xs ⟨s, f, r, u, m⟩) l0).length c' (((List.range k).foldl (shotStep xs ⟨s, f, r, u, m⟩) l0).flatMap cmV) ∧ w2.grownBy wr (some g1) ∧ (g' = g1 ∨ w2.heap.size ≤ g') ∧ RdV 6 wr wr.heap.size (some ⟨g, 0, none⟩) l.length (l.flatMap cmV)) (fun _ i _ => (shotsL xs).length - (intOf i).toNat)
    case atStart => exact ⟨0, g1, c1, Nat.zero_le _, rfl, rfl, ho2, grown_refl _ _, .inl rfl, hold2⟩
    case round =>
      obtain ⟨k, g', c', hk, rfl, rfl, hok, hgk, hg', hold⟩ := hrel
      have HG := Lib.hid hg'
      clear hg'
      by_cases hlt : k < (shotsL xs).length
      · have hcs : wr.cell? ⟨gs, k * 2 + 1, none⟩ = some (.int .i64 ((shotsL xs).getD k (0, 0)).2) := hgk.cell (HSC.out k hlt) (fun e => by injection e with e; have : gs = g1 := e; omega)
        have hb0 : wr.cell? ⟨w.heap.size, 0, none⟩ = some (.int .i64 s) := hgk.cell (hbx2.out 0) (fun e => by injection e with e; have : w.heap.size = g1 := e; omega)
        have hb3 : wr.cell? ⟨w.heap.size, 3, none⟩ = some (.int .i64 u) := hgk.cell (hbx2.out 3) (fun e => by injection e with e; have : w.heap.size = g1 := e; omega)
        have HT := Lib.hid (shotFold_succ xs ⟨s, f, r, u, m⟩ l0 k)
        have HLe := Lib.hid (shotFold_length xs ⟨s, f, r, u, m⟩ l0 k)
        have HPk := Lib.hid (HPr.out.trans (shotFold_prefix xs ⟨s, f, r, u, m⟩ l0 k))
        have hlk : ((List.range k).foldl (shotStep xs ⟨s, f, r, u, m⟩) l0).length ≤ 100000 := by have := HLe.out; omega
        generalize (List.range k).foldl (shotStep xs ⟨s, f, r, u, m⟩) l0 = lk at *
        have HS : Hid (shotStep xs ⟨s, f, r, u, m⟩ lk k = addC xs s lk ⟨6, u, k, 0, ((shotsL xs).getD k (0, 0)).2, false⟩) := rfl
        generalize ((shotsL xs).getD k (0, 0)).2 = x at hcs HS
        go_wp2_with fail
        have hlow : lo ≤ wr.heap.size := by have := hgk.size; omega
        have n1 : w.heap.size < wr.heap.size := by have := hgk.size; omega
        have n2 : gs < wr.heap.size := by have := hgk.size; omega
        have n3 : some w.heap.size ≠ some g' := fun e => by injection e with e; have := HG.out; omega
        have n4 : some gs ≠ some g' := fun e => by injection e with e; have := HG.out; omega
        go_region_held3 (fun w' => w'.cell? ⟨gs, k * 2 + 1, none⟩ = some (.int .i64 x) ∧ w'.cell? ⟨w.heap.size, 0, none⟩ = some (.int .i64 s) ∧ w'.cell? ⟨w.heap.size, 3, none⟩ = some (.int .i64 u))
          (first
            | go_keep
            | (go_split_ands
               refine ⟨?_, ?_, ?_⟩
               · (rw [hg3.cell_far _ n2 n4]; assumption)
               · (rw [hg3.cell_far _ n1 n3]; assumption)
               · (rw [hg3.cell_far _ n1 n3]; assumption)))
          ((go_at_call 58; refine (specAdd_any A n cb xs s g' c' lo wr.heap.size lk ⟨6, u, k, 0, x, false⟩ wr.drew HX1.out hn hlk hok.drew hlow).mono ?_; rintro e w3 ⟨g3, c3, rfl, ho3, hg3, hat3, hold3⟩))
        go_wp2_with fail
        go_roundw
        case rel =>
          have e : (List.range (k + 1)).foldl (shotStep xs ⟨s, f, r, u, m⟩) l0 = addC xs s lk ⟨6, u, k, 0, x, false⟩ := by rw [HT.out, HS.out]
          have hgd : wr.grownBy w3 (some g') := ⟨hg3.os, hg3.tape, hg3.output, hg3.size, hg3.block⟩
          have hat3' : g3 = g' ∨ wr.heap.size ≤ g3 := hat3
          exact ⟨k + 1, g3, c3, by omega, by go_num, by rw [e], by rw [e]; exact ho3, grown_next hgk HG.out hgd, by have := HG.out; have := hgk.size; omega, old_next hold HPk.out (by have := hgk.size; omega) hgd hold3⟩
        case measure => simp [intOf]; omega
      · obtain rfl : k = (shotsL xs).length := by omega
        have hdl : decide ((shotsL xs).length < (shotsL xs).length) = false := by simp
        go_wp2_with fail
        go_ret
        exact ⟨g', c', by rw [HE.out]; rfl, by rw [HE.out]; exact hok, grown_next hw02 (by omega) hgk, by have := HG.out; omega, hold⟩

end Go.Proofs.Ytimbfilbojejiaa
