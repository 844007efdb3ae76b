/- A copy of an image, all clusters whole (wholeCopy): the program's side. Flags (chapter 15): a table's words are written in their place (writeInto): the program's side. Flags (chapter 15): the program's side: Owned ranges over the tables with their right words, and writes these into a whole copy. Owned (chapter 15): what the program's own function answers. -/
import Derived.Test.YtiokfhdkbpoadaaGreatDoorX2
import Derived.Test.YtiokfhdkbpoadaaGreatDoorG8
import Derived.Test.YtiokfhdkbpoadaaGreatDoorQ7
import Derived.Deep.RegionHeld3
import Derived.Test.YtiokfhdkbpoadaaGreatDoorXR
import Derived.Test.YtiokfhdkbpoadaaGreatDoorZ1
namespace Go.Proofs.YtiokfhdkbpoadaaGreatDoor
open Go.RowKit
open Go.RowKit Go.Shelf

theorem iv_splice (cur cs : List Int) (o : Nat) : Go.splice (iv cur) o (iv cs) = iv (Go.splice cur o cs) := by
  unfold Go.splice
  rw [iv_append, iv_append, iv_length]
  simp [iv, List.map_take, List.map_drop]

theorem zeros_row {w : World} {lo g k : Nat} (hown : w.ownsRow lo 2 1 (.slice (some ⟨g, 0, none⟩) k k) k (iv (List.replicate k 0))) : w.heap[g]? = some (.cells (iv (List.replicate k 0)).toArray 2 (0, 0)) := by
  rcases hown.2 with ⟨hv, _⟩ | ⟨g', cap, cur, hv, hbb, hg', h1, h2, h3, h4⟩
  · cases hv
  · injection hv with e1 e2 e3
    injection e1 with e1
    injection e1 with e1
    subst e1; subst e3
    rw [List.take_of_length_le (by simp; omega)] at h4
    rw [hg', ← h4]

set_option maxRecDepth 100000 in
set_option maxHeartbeats 2000000 in
theorem wholeCopy_any (A : Option Addr) (n c : Nat) (xs : List Int) (w : World) (hr : Rd w w.heap.size A n xs) (hn : n ≤ 2097152) (hh : hasHead xs = true) :
    Calls Tryz.prog 97 #[.slice A n c] w fun e w' => ∃ q, e = .returned (.slice (some ⟨q, 0, none⟩) (manyN xs * 8) (manyN xs * 8)) ∧ w.heap.size ≤ q ∧ w'.heap[q]? = some (.cells (iv (whole xs)).toArray 2 (0, 0)) ∧ Below w.heap.size w w' := by
  obtain ⟨i0, hi0, hz0, hz1, hz2⟩ := info_parts info2
  have hxl := Lib.hid hr.len
  have hhl := hasHead_len hh
  have hm64 := manyN_le (hasHead_img hh)
  have hmn : manyN xs = (n + 7) / 8 := by rw [← hxl.out]; rfl
  have HM := Lib.hid (show manyI xs = (manyN xs : Int) by simp [manyI, hasHead_img hh])
  have HWL := Lib.hid (whole_length xs)
  have HWX : Hid (whole xs = xs ++ List.replicate (manyN xs * 8 - n) 0) := by
    rw [← hxl.out]
    show whole xs = _
    unfold whole
    congr 2
  have hn1 : 0 < n := by rw [← hxl.out]; omega
  obtain ⟨b, off, rfl, hb, hc⟩ := hr.2 hn1
  generalize manyN xs = m at *
  clear hhl hh
  have HMN := Lib.hid hmn
  go_enter Tryz.func97, Tryz.ntmps97
  go_wp2_with fail
  refine (implClin_any _ _ _ _ _ hr hn).mono ?_
  rintro e w1 ⟨rfl, b1⟩
  rw [HM.out]
  have hN : ((m : Int) * 8) = ((m * 8 : Nat) : Int) := by omega
  have HN := Lib.hid hN
  clear hN hmn
  have hmn8 : n ≤ m * 8 := by have := HMN.out; omega
  go_wp2_with (first
    | (at_make; refine wpList_make_full _ rfl _ _ 22 rfl w1.heap.size 2 i0 (.int .i64 0) 1 Tryz.underlying22 hi0 hz0 hz1 .i64 .i64 _ _ (m * 8) rfl rfl HN.out HN.out (by rw [hz2]; omega) (by simp only [maxLen]; omega) (Nat.le_refl _) ?_; intro w2 hown hg; rw [made_iv] at hown
       have HQ := Lib.hid (zeros_row hown)
       have b2 : Below w1.heap.size w1 w2 := below_grown hg (Nat.le_refl _) (fun _ h => by cases h)
       have B2 := below_more b1 b2 b1.size
       have s1 := b1.size
       have hc2 : ∀ j, j < n → w2.cell? ⟨b, off + j, none⟩ = some (.int .i64 (xs.getD j 0)) := fun j hj => (B2.cell (p := ⟨b, off + j, none⟩) hb).trans (hc j hj)
       clear hown hg hi0 hz0 hz1 hz2 b1 b2 hc)
    | (with_reducible refine wpList_copy_splice (o := ⟨some 10, _, _, _, _, _⟩) rfl (.tmp 8) (.tmp 9) 22 22 rfl 2 Tryz.underlying22 info2s _ _ (m * 8) (m * 8) n c rfl rfl w1.heap.size 0 (iv (List.replicate (m * 8) 0)) 2 HQ.out (iv xs) ?c1 ?c2 ?c3 (int_one xs) w.heap.size w B2 ?c4 ?c5))
  case c1 => rw [iv_length, hxl.out]; exact (Nat.min_eq_left hmn8).symm
  case c2 =>
    intro _ j v hv
    have hj := (List.getElem?_eq_some_iff.1 hv).1
    rw [iv_length] at hj
    rw [iv_get xs j hj] at hv
    cases hv
    exact hc2 j (by rw [← hxl.out]; exact hj)
  case c3 => rw [iv_length, hxl.out, iv_length]; simp; omega
  case c4 => exact s1
  case c5 =>
    intro w5 H5 b5
    go_wp2_with fail
    go_ret
    have h5 : w5.heap[w1.heap.size]? = some (.cells (Go.splice (iv (List.replicate (m * 8) 0)) 0 (iv xs)).toArray 2 (0, 0)) := H5.out
    rw [iv_splice] at h5
    have e : Go.splice (List.replicate (m * 8) 0) 0 xs = whole xs := by
      rw [HWX.out]
      unfold Go.splice
      rw [List.take_zero, List.nil_append, Nat.zero_add, hxl.out, List.drop_replicate]
    rw [e] at h5
    exact ⟨_, rfl, s1, h5, b5⟩

theorem Ow.ofRow {w : World} {lo hi g : Nat} {ys : List Int} (h : w.heap[g]? = some (.cells (iv ys).toArray 2 (0, 0))) (hl : ys.length ≤ 100000) (h1 : lo ≤ g) (h2 : g < hi) : Ow w lo hi (some ⟨g, 0, none⟩) ys.length ys.length ys := by
  refine ⟨⟨by rw [iv_length, Nat.mul_one], .inr ⟨g, ys.length, _, rfl, h1, h, Nat.le_refl _, by simp only [maxLen]; omega, by simp [iv_length], ?_⟩⟩, fun k hk => by simp [Value.ownBlock] at hk; omega⟩
  rw [List.take_of_length_le (by simp [iv_length])]

theorem splice_table (zs ws : List Int) (a : Nat) (hw : ws.length = 8) : Go.splice zs (a * 8) ws = setCl zs a ws := by
  unfold Go.splice setCl
  rw [hw, List.append_assoc, show a * 8 + 8 = (a + 1) * 8 by omega]

/-- Where a table's words stand: a part of the image itself. -/
theorem placeIn_any (q N τ : Nat) (w : World) (h1 : τ * 8 + 8 ≤ N) (h2 : N ≤ 2097152) :
    Calls Tryz.prog 122 #[.int .i64 (τ : Int), .slice (some ⟨q, 0, none⟩) N N] w fun e w' => e = .returned (.slice (some ⟨q, τ * 8, none⟩) 8 8) ∧ w = w' := by
  have n1 : IntKind.i64.wrap ((τ : Int) * 8) = (τ : Int) * 8 := IntWalk.i64_in _ (by omega)
  go_enter Tryz.func122, Tryz.ntmps122
  go_wp2_with fail
  refine (cutOf_any q 0 N N (τ * 8) 8 _ _ w (by omega) rfl (by omega) (Nat.le_refl _) h2 (by omega) (by omega)).mono ?_
  rintro e w' ⟨rfl, rfl⟩
  go_wp2_with fail
  go_ret
  rw [Nat.min_eq_left (show 8 ≤ N - τ * 8 by omega)]
  exact ⟨rfl, rfl⟩

set_option maxRecDepth 100000 in
set_option maxHeartbeats 4000000 in
/-- A table's words are written in their place. -/
theorem writeInto_any (q τ g c : Nat) (zs ws : List Int) (w : World) (hz : w.heap[q]? = some (.cells (iv zs).toArray 2 (0, 0))) (hw : Ow w g (g + 1) (some ⟨g, 0, none⟩) 8 c ws) (h1 : τ * 8 + 8 ≤ zs.length) (h2 : zs.length ≤ 512) :
    Calls Tryz.prog 99 #[.agg #[.int .i64 (τ : Int), .slice (some ⟨g, 0, none⟩) 8 c], .slice (some ⟨q, 0, none⟩) zs.length zs.length] w fun e w' => e = .returned (.tuple #[]) ∧ w'.heap[q]? = some (.cells (iv (setCl zs τ ws)).toArray 2 (0, 0)) ∧ w.grownBy w' (some q) := by
  have hq := (Array.getElem?_eq_some_iff.1 hz).1
  have hws := hw.len
  have hg := hw.rd
  go_enter Tryz.func99, Tryz.ntmps99
  have hn8 : min 8 (zs.length - τ * 8) = 8 := by omega
  go_wp2_with fail
  obtain ⟨p, hp⟩ : ∃ p, p = w.heap.size := ⟨_, rfl⟩
  have hpq : q < p := by omega
  have hgp : g < p := by have := ow_lt hw; omega
  have e0 : (w.alloc (.cells #[.int .i64 (τ : Int), .slice (some ⟨g, 0, none⟩) 8 c] 101)).cell? ⟨p, 0, none⟩ = some (.int .i64 (τ : Int)) := by rw [hp]; exact (World.cell?_alloc_new _ _ _ _).trans rfl
  have e1 : (w.alloc (.cells #[.int .i64 (τ : Int), .slice (some ⟨g, 0, none⟩) 8 c] 101)).cell? ⟨p, 1, none⟩ = some (.slice (some ⟨g, 0, none⟩) 8 c) := by rw [hp]; exact (World.cell?_alloc_new _ _ _ _).trans rfl
  have hz1 : (w.alloc (.cells #[.int .i64 (τ : Int), .slice (some ⟨g, 0, none⟩) 8 c] 101)).drew.heap[q]? = some (.cells (iv zs).toArray 2 (0, 0)) := (Below.heap_alloc w _ _ hq).trans hz
  have hsr : ∀ (j : Nat) (v : Value), (iv ws)[j]? = some v → (w.alloc (.cells #[.int .i64 (τ : Int), .slice (some ⟨g, 0, none⟩) 8 c] 101)).drew.cell? ((⟨g, 0, none⟩ : Addr).add j) = some v := by
    obtain ⟨ad, ead, hs⟩ := rd_src hw.rd
    cases ead
    intro j v hv
    have h := hs j v hv
    exact ((Below.refl w.heap.size w).alloc (Nat.le_refl _) (.cells #[.int .i64 (τ : Int), .slice (some ⟨g, 0, none⟩) 8 c] 101)).cell (p := (⟨g, 0, none⟩ : Addr).add j) (World.block_lt_of_cell? w _ h) |>.trans h
  have ga : w.grownBy (w.alloc (.cells #[.int .i64 (τ : Int), .slice (some ⟨g, 0, none⟩) 8 c] 101)).drew (some q) := ⟨rfl, rfl, rfl, by simp [World.drew], fun k hk _ => Below.heap_alloc w _ _ hk⟩
  rw [← hp]
  generalize w.alloc (.cells #[.int .i64 (τ : Int), .slice (some ⟨g, 0, none⟩) 8 c] 101) = v at *
  have HG := Lib.hid ga
  have HSR := Lib.hid hsr
  have HZ := Lib.hid hz1
  clear ga hsr hz1 hz hw hg hp
  have d0 : v.drew.cell? ⟨p, 0, none⟩ = some (.int .i64 (τ : Int)) := e0
  have d1 : v.drew.cell? ⟨p, 1, none⟩ = some (.slice (some ⟨g, 0, none⟩) 8 c) := e1
  go_region_held3 (fun w' => w'.cell? ⟨p, 0, none⟩ = some (.int .i64 (τ : Int)) ∧ w'.cell? ⟨p, 1, none⟩ = some (.slice (some ⟨g, 0, none⟩) 8 c))
    (first | (go_split_ands; exact ⟨g5.cell d0 (fun e => by injection e with e; have e : p = q := e; omega), g5.cell d1 (fun e => by injection e with e; have e : p = q := e; omega)⟩) | (exact ⟨e0, e1⟩))
    (first
      | (refine step_copy_block (by rfl) (.tmp 7) (.tmp 9) 22 22 (by rfl) 2 Tryz.underlying22 info2s q (τ * 8) ⟨g, 0, none⟩ 8 8 8 c (by kernel_rfl) (by kernel_rfl) (iv zs) 2 HZ.out (iv ws) (by rw [iv_length, hws]; rfl) HSR.out (by rw [iv_length, iv_length, hws]; omega) (int_one _) ?_; intro w5 h5 g5)
      | (go_at_call 122; refine (placeIn_any q zs.length τ _ h1 (by omega)).mono ?_; rintro e w6 ⟨rfl, rfl⟩))
  go_end0
  rw [iv_splice, splice_table _ _ _ hws] at h5
  exact ⟨rfl, h5, grown_trans HG.out ⟨g5.os, g5.tape, g5.output, g5.size, g5.block⟩⟩

attribute [local go_sem] Oper.semAt_some

/-- Between two rounds: the tables so far are written into the copy. -/
structure OwI (w : World) (Bb q N : Nat) (os : List Int) (W : World) : Prop where
  box : Boxed W Bb 22 (.slice (some ⟨q, 0, none⟩) N N)
  row : W.heap[q]? = some (.cells (iv os).toArray 2 (0, 0))
  bel : Below w.heap.size w W
theorem OwI.own {w : World} {Bb q N B : Nat} {f : Nat → List Int} (h1 : w.heap.size ≤ B) : OwnFrom B (fun k W => OwI w Bb q N (f k) W) := fun s X Y row hs hg hr => by
  obtain ⟨b, o, l⟩ := hs
  exact ⟨b.kept hg (fun e => by obtain ⟨_, o2, h2, h3⟩ := hr _ e.symm; rw [show X.heap[Bb]? = _ from b] at h2; cases h2; cases h3), (hg.block q (Array.getElem?_eq_some_iff.1 o).1 (fun e => by obtain ⟨_, o2, h2, h3⟩ := hr _ e.symm; rw [o] at h2; cases h2; cases h3)).trans o, l.grown hg l.size (fun k e => by have := (hr _ e).1; omega)⟩

set_option maxRecDepth 100000 in
set_option maxHeartbeats 8000000 in
theorem implOwned_any (hC : ClaimsC) (hL : LooseC) (hCo : CountsC) (hT : TableC) (W0 : World) : OwnedC W0 := by
  intro A n c xs w _ hr hn hnc
  refine (callsIn_wide (n := 5)).1 ?_
  refine callsIn_of_wp_marks Tryz.func73 rfl trivial ?_ rfl
  simp only [Tryz.ntmps73, List.size_toArray, List.length_cons, List.length_nil, Nat.reduceAdd, Nat.reduceSub, Array.replicate_succ, Array.replicate_zero, List.push_toArray, List.append_toArray, List.nil_append, List.cons_append]
  have hhi := (callsIn_wide (n := 4)).2 (implHeadIn_any A n c xs w hr hn)
  have HHI := Lib.hid hhi
  clear hhi
  cases hh : hasHead xs
  · have HN : Hid (ownedL xs = []) := by unfold ownedL; rw [hh]; exact rfl
    gi_wp2_with (refine ⟨trivial, ?_⟩; gi_at_call 25; refine HHI.out.mono ?_; rintro e w1 ⟨rfl, b1⟩; rw [headIn_no hh]; unfold hdV hd0)
    exact ⟨_, results_tmp rfl _ _ _, by rw [HN.out]; exact Ret.nil _ _ (b1.alloc b1.size _)⟩
  · have HN : Hid (ownedL xs = ownedC xs) := by unfold ownedL; rw [hh]; exact rfl
    have HOP := Lib.hid (owned_prog hh)
    have HH := Lib.hid hh
    have hm64 := manyN_le (hasHead_img hh)
    have HTH := Lib.hid (fun (t : Cm) (h : t ∈ tgL (claimsC xs)) => tables_there (xs := xs) (by rw [← tg_tables]; exact List.mem_map_of_mem h))
    have HZL := Lib.hid (fun k => (putT_fold hh ((tgL (claimsC xs)).take k) (fun t ht => List.mem_of_mem_take ht) (whole xs) (whole_length xs)).1)
    obtain ⟨⟨s, f, r, u, m⟩, hhd⟩ : ∃ q, headIn xs = (q, true) := ⟨_, headIn_yes hh⟩
    have HHD := Lib.hid hhd
    clear hh hhd
    gi_wp2_with (first
      | (refine ⟨trivial, ?_⟩; gi_at_call 98; refine (right_in A n c _ _).mono ?_; rintro e w' ⟨rfl, rfl⟩)
      | (refine ⟨trivial, ?_⟩; gi_at_call 97; refine (callsIn_wide.2 (wholeCopy_any A n c xs _ ((hr.below b2).more b2.size) hn HH.out)).mono ?_; rintro e w3 ⟨q, rfl, hq, hrow, b3⟩)
      | (refine ⟨trivial, ?_⟩; gi_at_call 25; refine HHI.out.mono ?_; rintro e w1 ⟨rfl, b1⟩; rw [HHD.out]; unfold hdV; have b2 := b1.alloc b1.size (.cells #[.int .i64 s, .int .i64 f, .int .i64 r, .int .i64 u, .int .i64 m] 31)))
    have s2 := b2.size
    have b03 := below_more b2 b3 b2.size
    have s3 := b03.size
    have hqw : w.heap.size ≤ q := by omega
    have hql := (Array.getElem?_eq_some_iff.1 hrow).1
    have HQ := Lib.hid hrow
    clear b1 b2 b3 hq hrow
    generalize hN : manyN xs * 8 = N at *
    have b4 := b03.alloc b03.size (.cells #[.slice (some ⟨q, 0, none⟩) N N] 22)
    have b5 := b4.alloc b4.size (.cells #[.slice A n c] 22)
    have x5 := (Boxed.new w3 22 (.slice (some ⟨q, 0, none⟩) N N)).alloc (.cells #[.slice A n c] 22)
    have y5 := Boxed.new (w3.alloc (.cells #[.slice (some ⟨q, 0, none⟩) N N] 22)) 22 (.slice A n c)
    have r5 : ((w3.alloc (.cells #[.slice (some ⟨q, 0, none⟩) N N] 22)).alloc (.cells #[.slice A n c] 22)).heap[q]? = some (.cells (iv (whole xs)).toArray 2 (0, 0)) := (Below.heap_alloc _ _ _ (by simp; omega)).trans ((Below.heap_alloc _ _ _ hql).trans HQ.out)
    have z5 : ((w3.alloc (.cells #[.slice (some ⟨q, 0, none⟩) N N] 22)).alloc (.cells #[.slice A n c] 22)).heap.size = w3.heap.size + 2 := by simp
    rw [World.size_alloc] at y5
    generalize (w3.alloc (.cells #[.slice (some ⟨q, 0, none⟩) N N] 22)).alloc (.cells #[.slice A n c] 22) = w5 at *
    have hN512 : N ≤ 512 := by omega
    have HNN := Lib.hid hN
    clear b4 hN
    refine wpIn_range_told rfl (by omega) (gf := 118) (lb := #[.pointer (some ⟨w3.heap.size + 1, 0, none⟩)]) rfl trivial (enters_of Tryz.func118 (by kernel_rfl) rfl)
      (right_stops hC hL hCo hT (SpG.spare q) 4 (w3.heap.size + 1) w.heap.size (by omega) A n c xs w5 (by omega) y5.cell (hr.below b5) (by omega) hn hnc HH.out (fun W' _ b hb => by show b ≠ q; omega)) KpB.trans (fun W l o o' _ h ho _ => KpB.put (SpG.spare q) o' h ho) (Below.refl _ _) (fun _ => rfl)
      (fun k W => OwI w w3.heap.size q N (((tgL (claimsC xs)).take k).foldl (putT xs (looseL xs) (countsC (claimsC xs))) (whole xs)) W) (OwI.own (by omega)) ⟨x5, r5, b5⟩
      (HwX xs w5.heap.size (fun x => #[.slice A n c, undef, .slice none 0 0, .pointer (some ⟨w1.heap.size, 0, none⟩), .bool true, .pointer (some ⟨w3.heap.size, 0, none⟩), .int .i64 x.tbl, .slice (some ⟨x.g, 0, none⟩) 8 x.c,
        .tuple #[.agg #[.int .i64 s, .int .i64 f, .int .i64 r, .int .i64 u, .int .i64 m], .bool true], .slice A n c, .tuple #[.agg #[.int .i64 s, .int .i64 f, .int .i64 r, .int .i64 u, .int .i64 m], .bool true],
        .agg #[.int .i64 s, .int .i64 f, .int .i64 r, .int .i64 u, .int .i64 m], .bool true, .bool true, .bool false, .slice A n c, .slice (some ⟨q, 0, none⟩) N N, .slice A n c, .func (.func 118) #[] #[.pointer (some ⟨w3.heap.size + 1, 0, none⟩)],
        .int .i64 x.tbl, .slice (some ⟨x.g, 0, none⟩) 8 x.c, undef, undef, undef, undef, undef, undef])) (fun _ _ _ => HwX.own) ?assign ?body ?done
    case assign =>
      rintro l k x W K hk ⟨hb, ho, hw⟩ ht hK
      unfold hwV
      gi_wp2
      exact hK _ _ (KeepsFrom.refl _ _) (KpB.refl _ _) ⟨hb, ho, hw⟩ ⟨ht, rfl⟩
    case body =>
      rintro l k x a' W hk ⟨hb, ho, hw⟩ ⟨⟨ht1, ht2, ht3⟩, rfl⟩
      have HS := Lib.hid (take_fold (putT xs (looseL xs) (countsC (claimsC xs))) (tgL (claimsC xs)) (whole xs) k hk)
      have hkm : (tgL (claimsC xs)).getD k cm0 = (tgL (claimsC xs))[k] := by simp [List.getD_eq_getElem?_getD, hk]
      have hth := there_lt (HTH.out _ (List.getElem_mem hk))
      rw [hkm] at ht1 ht3
      have HPT : Hid (∀ z, putT xs (looseL xs) (countsC (claimsC xs)) z (tgL (claimsC xs))[k] = setCl z (tgL (claimsC xs))[k].target.toNat (rtL xs (looseL xs) (countsC (claimsC xs)) (tgL (claimsC xs))[k])) := fun _ => rfl
      have hzl := HZL.out k
      obtain ⟨xt, xg, xc⟩ := x
      simp only at ht1 ht2 ht3
      rw [← ht1] at hth HPT
      obtain ⟨τ, rfl⟩ := Int.eq_ofNat_of_zero_le (show 0 ≤ xt by omega)
      rw [Int.toNat_natCast] at HPT
      have c1 := hb.cell
      have lq := (Array.getElem?_eq_some_iff.1 ho).1
      generalize rtL xs (looseL xs) (countsC (claimsC xs)) (tgL (claimsC xs))[k] = ws at *
      generalize putT xs (looseL xs) (countsC (claimsC xs)) = F at *
      generalize hzs : ((tgL (claimsC xs)).take k).foldl F (whole xs) = zs at *
      have HWI := writeInto_any q τ xg xc zs ws W ho ht3 (by have := HNN.out; omega) (by omega)
      rw [hzl, ← HPT.out, ← HS.out] at HWI
      have HWI := Lib.hid HWI
      clear ho ht3 hzs ht1 hkm
      dsimp only
      gi_wp2_with (refine ⟨trivial, ?_⟩; gi_at_call 99; refine (CallsIn.inRound l (callsIn_wide.2 HWI.out)).mono ?_; rintro e w6 ⟨rfl, h6, g6⟩)
      exact ⟨KeepsFrom.of_grownBy g6 (fun j e => by cases e; omega), KpB.grown g6, hb.kept g6 (fun e => by injection e; omega), h6, hw.grown g6 hw.size (fun k e => by cases e; omega)⟩
    case done =>
      rintro D W hD ⟨hb, ho, hw⟩ hK
      have c1 := hb.cell
      have hzl := HZL.out (tgL (claimsC xs)).length
      rw [List.take_length, HOP.out] at ho hzl
      gi_wp2
      refine ⟨by simp, .inl ⟨_, _, rfl, run_takeDeferred hK, ?_⟩⟩
      refine ⟨_, results_tmp rfl _ _ _, ?_⟩
      rw [HN.out]
      have g7 := grownBy_putObj' W D (.deferred none)
      have sw := hw.size
      have lq := (Array.getElem?_eq_some_iff.1 ho).1
      have h7 := (g7.block q lq (fun e => by injection e; omega)).trans ho
      have hle : (ownedC xs).length ≤ 100000 := by omega
      have hO := Ow.ofRow (lo := w.heap.size) (hi := (W.putObj D (.deferred none)).heap.size) h7 hle hqw (by have := g7.size; omega)
      rw [hzl] at hO
      exact ⟨_, N, N, rfl, hO, hw.grown g7 hw.size (fun k e => by cases e; omega)⟩

/-- Function 73. -/
theorem implOwned_all (W : World) : OwnedC W := implOwned_any implClaims_any implLoose_all implCounts_all implTable_any W

end Go.Proofs.YtiokfhdkbpoadaaGreatDoor
