/- Defects: counts that are wrong (l11Counts), the model's side. -/
import Derived.Test.YtieknpkbmccimaaGreatDoorDfw
namespace Go.Proofs.YtieknpkbmccimaaGreatDoor
open Go.RowKit

structure Dc where
  kind : Int
  a : Int
  b : Int
deriving DecidableEq
def dcV (x : Dc) : List Value := [.int .i64 x.kind, .int .i64 x.a, .int .i64 x.b]
theorem dcV_length (x : Dc) : (dcV x).length = 3 := rfl
def dc0 : Dc := ⟨0, 0, 0⟩
def cdStep (st ct : List Int) (o : List Dc) (c : Nat) : List Dc :=
  if st.getD c 0 < ct.getD c 0 then o ++ [⟨5, c, st.getD c 0⟩] else (if ct.getD c 0 < st.getD c 0 then o ++ [⟨6, c, st.getD c 0⟩] else o)
def cntDefs (st ct : List Int) : List Dc := (List.range 64).foldl (cdStep st ct) []
theorem cdStep_length (st ct : List Int) (o : List Dc) (c : Nat) : (cdStep st ct o c).length ≤ o.length + 1 := by
  unfold cdStep; split
  · simp
  · split <;> simp
theorem storedC_length (xs bs : List Int) : (storedC xs bs).length = 64 := by simp [storedC]

theorem infoDc : (Tryz.prog.info? 36).map (fun i => (i.zero, i.size, i.bytes)) = some (some (.agg #[.int .i64 0, .int .i64 0, .int .i64 0]), 3, 24) := by kernel_rfl

/-- It answers a new list of defects. -/
def RetDc (w : World) (l : List Dc) (e : Ending) (w' : World) : Prop :=
  ∃ g c, e = .returned (.slice (some ⟨g, 0, none⟩) l.length c) ∧ OwV 36 3 w' w.heap.size w'.heap.size g l.length c (l.flatMap dcV) ∧ Below w.heap.size w w'
/-- The defects o, in a row that began at block g0. -/
def DcAt (w4 : World) (lo g0 : Nat) (o : List Dc) (v : Value) (wr : World) : Prop :=
  ∃ g' c', v = .slice (some ⟨g', 0, none⟩) o.length c' ∧ OwV 36 3 wr lo wr.heap.size g' o.length c' (o.flatMap dcV) ∧ w4.grownBy wr (some g0) ∧ (g' = g0 ∨ w4.heap.size ≤ g')
def CdRel (w4 : World) (lo g0 : Nat) (st ct : List Int) (v i : Value) (wr : World) : Prop := ∃ k : Nat, k ≤ 64 ∧ i = .int .i64 k ∧ DcAt w4 lo g0 ((List.range k).foldl (cdStep st ct) []) v wr

set_option maxRecDepth 100000 in
set_option maxHeartbeats 8000000 in
theorem specCntD_any (A : Option Addr) (n cb : Nat) (xs : List Int) (w : World) (hr : Rd w w.heap.size A n xs) (hn : n ≤ 2097152) (hh : hasHead xs = true) :
    Calls Tryz.prog 18 #[.slice A n cb] w (RetDc w (cntDefs (storedL xs) (countsC (claimsC xs)))) := by
  obtain ⟨i0, hi0, hz0, hz1, hz2⟩ := info_parts infoDc
  have HH := Lib.hid hh
  clear hh
  have b1 := (Below.refl w.heap.size w).alloc (Nat.le_refl _) (.cells #[] 36)
  have o1 := emptyV 36 3 w w.heap.size (w.heap.size + 1) w.heap.size (Nat.le_refl _) rfl (by omega)
  have hz : (w.alloc (.cells #[] 36)).heap.size = w.heap.size + 1 := by simp
  go_enter Tryz.func18, Tryz.ntmps18
  go_wp2_with fail
  refine (specCounts_any A n cb xs _ ((hr.below b1).more b1.size) hn HH.out).mono ?_
  rintro e w2 ⟨gc, nc, c2, rfl, _, oc, b2⟩
  obtain rfl : 64 = nc := by have := oc.len; rw [counts_length] at this; exact this
  have hs2 := b2.size
  have hgc : w.heap.size + 1 ≤ gc ∧ gc < w2.heap.size := by
    rcases oc.form with ⟨h, _⟩ | ⟨x, hx, h1, h2, _⟩
    · cases h
    · injection hx with hx; injection hx with hx; omega
  have o2 := o1.below b2 (by omega)
  have b02 := below_more b1 b2 b1.size
  rw [hz] at hs2
  clear hz b1 b2 o1
  have RC2 := oc.rd
  clear oc
  go_wp2_with fail
  refine (specStored_any A n cb xs w2 ((hr.below b02).more b02.size) hn).mono ?_
  rintro e w3 ⟨S, ns, c3, rfl, os, b3⟩
  obtain rfl : 64 = ns := by
    have := os.len
    unfold storedL at this
    rw [HH.out, if_pos rfl, storedC_length] at this
    exact this
  rcases os.form with ⟨_, h0, _⟩ | ⟨gs, rfl, g1, g2, g3, g4⟩
  · omega
  have hs3 := b3.size
  have o3 := o2.below b3 (by omega)
  have b03 := below_more b02 b3 b02.size
  have HCC := Lib.hid (fun (j : Nat) (hj : j < 64) => show w3.cell? ⟨gc, j, none⟩ = some (.int .i64 ((countsC (claimsC xs)).getD j 0)) by
    obtain ⟨b, off, e, _, hc⟩ := (RC2.below b3).2 (by omega)
    injection e with e; injection e with e1 e2; subst e1; subst e2
    have := hc j hj; rwa [Nat.zero_add] at this)
  have HCS := Lib.hid (fun (j : Nat) (hj : j < 64) => os.cell hj)
  clear b3 os o2 RC2 b02
  generalize storedL xs = st at *
  generalize countsC (claimsC xs) = ct at *
  go_wp2_with fail
  go_loopw [3, 6] (fun v i wr => CdRel w3 w.heap.size w.heap.size st ct v i wr) (fun _ i _ => 64 - (intOf i).toNat)
  case atStart => exact ⟨0, by omega, rfl, w.heap.size, 0, rfl, o3.more (Nat.le_refl _) (by omega), grown_refl _ _, .inl rfl⟩
  case round =>
    obtain ⟨k, hk, rfl, g', c', rfl, ho, hg, hat⟩ := hrel
    have AT := Lib.hid hat
    clear hat
    have sr := hg.size
    by_cases hlt : k < 64
    · have HR := Lib.hid (range_fold (cdStep st ct) [] k)
      have HL : Hid (((List.range k).foldl (cdStep st ct) []).length ≤ 64) := by
        have h1 := foldl_length (cdStep st ct) 1 (cdStep_length st ct) (List.range k) []
        simp at h1
        show _ ≤ _
        omega
      have hok := HL.out
      generalize (List.range k).foldl (cdStep st ct) [] = ok at *
      have hcs : wr.cell? ⟨gs, k, none⟩ = some (.int .i64 (st.getD k 0)) := hg.cell (HCS.out k hlt) (fun e => by injection e with e; have : gs = w.heap.size := e; omega)
      have hcc : wr.cell? ⟨gc, k, none⟩ = some (.int .i64 (ct.getD k 0)) := hg.cell (HCC.out k hlt) (fun e => by injection e with e; have : gc = w.heap.size := e; omega)
      have HS : Hid (cdStep st ct ok k = if st.getD k 0 < ct.getD k 0 then ok ++ [⟨5, k, st.getD k 0⟩] else (if ct.getD k 0 < st.getD k 0 then ok ++ [⟨6, k, st.getD k 0⟩] else ok)) := rfl
      generalize st.getD k 0 = x at *
      generalize ct.getD k 0 = y at *
      have n1 : (0 : Int) ≤ (k : Int) := by omega
      have n2 : (k : Int) < 64 := by omega
      have hlo : w.heap.size ≤ wr.heap.size := by omega
      by_cases hxy : x < y
      · have HE : Hid ((List.range (k + 1)).foldl (cdStep st ct) [] = ok ++ [⟨5, k, x⟩]) := by rw [HR.out, HS.out, if_pos hxy]; exact rfl
        go_wp2_with fail
        go_quiet (fail)
        have hoq := ho.drewN nq
        generalize hwq : wr.drewN nq = wq at *
        have hcs' : wq.cell? ⟨gs, k, none⟩ = some (.int .i64 x) := by rw [← hwq]; exact hcs
        have hzq : wq.heap.size = wr.heap.size := by rw [← hwq]; rfl
        have HZQ := Lib.hid hzq
        have HWQ := Lib.hid hwq
        clear hwq hzq
        go_wp2_with (at_builtin; refine wpList_append_lit rfl (.tmp 26) (.tmp 33) 23 rfl 36 3 24 _ i0 Tryz.underlying23 hi0 hz0 hz1 hz2 rfl (by omega) (by omega) w.heap.size wr.heap.size g' ok.length c' _ rfl hoq #[.int .i64 5, .int .i64 k, .int .i64 x] 1 1 rfl rfl (by simp [Value.oneCell']) (by omega) (by have := HZQ.out; omega) ?_; intro g7 c7 w7 ho7 hgr hat7 _)
        go_roundw
        case rel =>
          have hgr' : wr.grownBy w7 (some g') := by rw [← HWQ.out] at hgr; exact ⟨hgr.os, hgr.tape, hgr.output, hgr.size, hgr.block⟩
          refine ⟨k + 1, by omega, by go_num, g7, c7, by rw [HE.out]; simp, ?_, grown_next hg AT.out hgr', by have := AT.out; have := HZQ.out; omega⟩
          rw [HE.out, List.flatMap_append, List.length_append]
          exact ho7
        case measure => simp [intOf]; omega
      · have hd1 : decide (x < y) = false := by simpa using hxy
        by_cases hyx : y < x
        · have HE : Hid ((List.range (k + 1)).foldl (cdStep st ct) [] = ok ++ [⟨6, k, x⟩]) := by rw [HR.out, HS.out, if_neg hxy, if_pos hyx]; exact rfl
          go_wp2_with fail
          go_quiet (fail)
          have ho1 := ho.drewN nq
          have hcs1 : (wr.drewN nq).cell? ⟨gs, k, none⟩ = some (.int .i64 x) := hcs
          have hcc1 : (wr.drewN nq).cell? ⟨gc, k, none⟩ = some (.int .i64 y) := hcc
          have G1 : Hid (wr.grownBy (wr.drewN nq) (some g')) := ⟨rfl, rfl, rfl, Nat.le_refl _, fun _ _ _ => rfl⟩
          have Z1 : Hid ((wr.drewN nq).heap.size = wr.heap.size) := rfl
          generalize wr.drewN nq = wq1 at *
          go_wp2_with fail
          go_quiet (fail)
          have hoq := ho1.drewN nq
          have hcs' : (wq1.drewN nq).cell? ⟨gs, k, none⟩ = some (.int .i64 x) := hcs1
          have GQ : Hid (wr.grownBy (wq1.drewN nq) (some g')) := ⟨G1.out.os, G1.out.tape, G1.out.output, G1.out.size, G1.out.block⟩
          have HZQ : Hid ((wq1.drewN nq).heap.size = wr.heap.size) := Z1.out
          generalize wq1.drewN nq = wq at *
          go_wp2_with (at_builtin; refine wpList_append_lit rfl (.tmp 45) (.tmp 52) 23 rfl 36 3 24 _ i0 Tryz.underlying23 hi0 hz0 hz1 hz2 rfl (by omega) (by omega) w.heap.size wr.heap.size g' ok.length c' _ rfl hoq #[.int .i64 6, .int .i64 k, .int .i64 x] 1 1 rfl rfl (by simp [Value.oneCell']) (by omega) (by have := HZQ.out; omega) ?_; intro g7 c7 w7 ho7 hgr hat7 _)
          go_roundw
          case rel =>
            have hgr' : wr.grownBy w7 (some g') := grown_trans GQ.out hgr
            refine ⟨k + 1, by omega, by go_num, g7, c7, by rw [HE.out]; simp, ?_, grown_next hg AT.out hgr', by have := AT.out; have := HZQ.out; omega⟩
            rw [HE.out, List.flatMap_append, List.length_append]
            exact ho7
          case measure => simp [intOf]; omega
        · have hd2 : decide (y < x) = false := by simpa using hyx
          have HE : Hid ((List.range (k + 1)).foldl (cdStep st ct) [] = ok) := by rw [HR.out, HS.out, if_neg hxy, if_neg hyx]; exact rfl
          go_wp2_with fail
          go_quiet (fail)
          go_wp2_with fail
          go_quiet (fail)
          go_wp2_with fail
          go_roundw
          case rel => exact ⟨k + 1, by omega, by go_num, g', c', by rw [HE.out], by rw [HE.out]; exact ho.keep rfl, ⟨hg.os, hg.tape, hg.output, hg.size, hg.block⟩, AT.out⟩
          case measure => simp [intOf]; omega
    · obtain rfl : k = 64 := by omega
      go_wp2_with fail
      go_ret
      exact ⟨g', c', rfl, ho, below_of_grown b03 hg (Nat.le_refl _)⟩

end Go.Proofs.YtieknpkbmccimaaGreatDoor
