/- Defects: counts that are wrong (l11Counts), the model's side. All defects (DefectsIn), Sound, the model's side. -/
import Derived.Test.YtiokfhdkbpoadabGreatDoorQ1
import Derived.Deep.Cut
namespace Go.Proofs.YtiokfhdkbpoadabGreatDoor
open Go.RowKit

structure Dc where
  kind : Int
  a : Int
  b : Int
deriving DecidableEq
def dcV (x : Dc) : List Value := [.int .i64 x.kind, .int .i64 x.a, .int .i64 x.b]
theorem dcV_length (x : Dc) : (dcV x).length = 3 := rfl
def dc0 : Dc := ⟨0, 0, 0⟩
def cdStep (st ct : List Int) (o : List Dc) (c : Nat) : List Dc :=
  if st.getD c 0 < ct.getD c 0 then o ++ [⟨5, c, st.getD c 0⟩] else (if ct.getD c 0 < st.getD c 0 then o ++ [⟨6, c, st.getD c 0⟩] else o)
def cntDefs (st ct : List Int) : List Dc := (List.range 64).foldl (cdStep st ct) []
theorem cdStep_length (st ct : List Int) (o : List Dc) (c : Nat) : (cdStep st ct o c).length ≤ o.length + 1 := by
  unfold cdStep; split
  · simp
  · split <;> simp
theorem storedC_length (xs bs : List Int) : (storedC xs bs).length = 64 := by simp [storedC]

theorem infoDc : (Tryz.prog.info? 111).map (fun i => (i.zero, i.size, i.bytes)) = some (some (.agg #[.int .i64 0, .int .i64 0, .int .i64 0]), 3, 24) := by kernel_rfl

/-- It answers a new list of defects. -/
def RetDc (w : World) (l : List Dc) (e : Ending) (w' : World) : Prop :=
  ∃ g c, e = .returned (.slice (some ⟨g, 0, none⟩) l.length c) ∧ OwV 111 3 w' w.heap.size w'.heap.size g l.length c (l.flatMap dcV) ∧ Below w.heap.size w w'
/-- The defects o, in a row that began at block g0. -/
def DcAt (w4 : World) (lo g0 : Nat) (o : List Dc) (v : Value) (wr : World) : Prop :=
  ∃ g' c', v = .slice (some ⟨g', 0, none⟩) o.length c' ∧ OwV 111 3 wr lo wr.heap.size g' o.length c' (o.flatMap dcV) ∧ w4.grownBy wr (some g0) ∧ (g' = g0 ∨ w4.heap.size ≤ g')
def CdRel (w4 : World) (lo g0 : Nat) (st ct : List Int) (v i : Value) (wr : World) : Prop := ∃ k : Nat, k ≤ 64 ∧ i = .int .i64 k ∧ DcAt w4 lo g0 ((List.range k).foldl (cdStep st ct) []) v wr

set_option maxRecDepth 100000 in
set_option maxHeartbeats 8000000 in
theorem specCntD_any (A : Option Addr) (n cb : Nat) (xs : List Int) (w : World) (hr : Rd w w.heap.size A n xs) (hn : n ≤ 2097152) (hh : hasHead xs = true) :
    Calls Tryz.prog 117 #[.slice A n cb] w (RetDc w (cntDefs (storedL xs) (countsC (claimsC xs)))) := by
  obtain ⟨i0, hi0, hz0, hz1, hz2⟩ := info_parts infoDc
  have HH := Lib.hid hh
  clear hh
  have b1 := (Below.refl w.heap.size w).alloc (Nat.le_refl _) (.cells #[] 111)
  have o1 := emptyV 111 3 w w.heap.size (w.heap.size + 1) w.heap.size (Nat.le_refl _) rfl (by omega)
  have hz : (w.alloc (.cells #[] 111)).heap.size = w.heap.size + 1 := by simp
  go_enter Tryz.func117, Tryz.ntmps117
  go_wp2_with fail
  refine (specCounts_any A n cb xs _ ((hr.below b1).more b1.size) hn HH.out).mono ?_
  rintro e w2 ⟨gc, nc, c2, rfl, _, oc, b2⟩
  obtain rfl : 64 = nc := by have := oc.len; rw [counts_length] at this; exact this
  have hs2 := b2.size
  have hgc : w.heap.size + 1 ≤ gc ∧ gc < w2.heap.size := by
    rcases oc.form with ⟨h, _⟩ | ⟨x, hx, h1, h2, _⟩
    · cases h
    · injection hx with hx; injection hx with hx; omega
  have o2 := o1.below b2 (by omega)
  have b02 := below_more b1 b2 b1.size
  rw [hz] at hs2
  clear hz b1 b2 o1
  have RC2 := oc.rd
  clear oc
  go_wp2_with fail
  refine (specStored_any A n cb xs w2 ((hr.below b02).more b02.size) hn).mono ?_
  rintro e w3 ⟨S, ns, c3, rfl, os, b3⟩
  obtain rfl : 64 = ns := by
    have := os.len
    unfold storedL at this
    rw [HH.out, if_pos rfl, storedC_length] at this
    exact this
  rcases os.form with ⟨_, h0, _⟩ | ⟨gs, rfl, g1, g2, g3, g4⟩
  · omega
  have hs3 := b3.size
  have o3 := o2.below b3 (by omega)
  have b03 := below_more b02 b3 b02.size
  have HCC := Lib.hid (fun (j : Nat) (hj : j < 64) => show w3.cell? ⟨gc, j, none⟩ = some (.int .i64 ((countsC (claimsC xs)).getD j 0)) by
    obtain ⟨b, off, e, _, hc⟩ := (RC2.below b3).2 (by omega)
    injection e with e; injection e with e1 e2; subst e1; subst e2
    have := hc j hj; rwa [Nat.zero_add] at this)
  have HCS := Lib.hid (fun (j : Nat) (hj : j < 64) => os.cell hj)
  clear b3 os o2 RC2 b02
  generalize storedL xs = st at *
  generalize countsC (claimsC xs) = ct at *
  go_wp2_with fail
  go_loopw [3, 6] (fun v i wr => CdRel w3 w.heap.size w.heap.size st ct v i wr) (fun _ i _ => 64 - (intOf i).toNat)
  case atStart => exact ⟨0, by omega, rfl, w.heap.size, 0, rfl, o3.more (Nat.le_refl _) (by omega), grown_refl _ _, .inl rfl⟩
  case round =>
    obtain ⟨k, hk, rfl, g', c', rfl, ho, hg, hat⟩ := hrel
    have AT := Lib.hid hat
    clear hat
    have sr := hg.size
    by_cases hlt : k < 64
    · have HR := Lib.hid (range_fold (cdStep st ct) [] k)
      have HL : Hid (((List.range k).foldl (cdStep st ct) []).length ≤ 64) := by
        have h1 := foldl_length (cdStep st ct) 1 (cdStep_length st ct) (List.range k) []
        simp at h1
        show _ ≤ _
        omega
      have hok := HL.out
      generalize (List.range k).foldl (cdStep st ct) [] = ok at *
      have hcs : wr.cell? ⟨gs, k, none⟩ = some (.int .i64 (st.getD k 0)) := hg.cell (HCS.out k hlt) (fun e => by injection e with e; have : gs = w.heap.size := e; omega)
      have hcc : wr.cell? ⟨gc, k, none⟩ = some (.int .i64 (ct.getD k 0)) := hg.cell (HCC.out k hlt) (fun e => by injection e with e; have : gc = w.heap.size := e; omega)
      have HS : Hid (cdStep st ct ok k = if st.getD k 0 < ct.getD k 0 then ok ++ [⟨5, k, st.getD k 0⟩] else (if ct.getD k 0 < st.getD k 0 then ok ++ [⟨6, k, st.getD k 0⟩] else ok)) := rfl
      generalize st.getD k 0 = x at *
      generalize ct.getD k 0 = y at *
      have n1 : (0 : Int) ≤ (k : Int) := by omega
      have n2 : (k : Int) < 64 := by omega
      have hlo : w.heap.size ≤ wr.heap.size := by omega
      by_cases hxy : x < y
      · have HE : Hid ((List.range (k + 1)).foldl (cdStep st ct) [] = ok ++ [⟨5, k, x⟩]) := by rw [HR.out, HS.out, if_pos hxy]; exact rfl
        go_wp2_with fail
        go_quiet (fail)
        have hoq := ho.drewN nq
        generalize hwq : wr.drewN nq = wq at *
        have hcs' : wq.cell? ⟨gs, k, none⟩ = some (.int .i64 x) := by rw [← hwq]; exact hcs
        have hzq : wq.heap.size = wr.heap.size := by rw [← hwq]; rfl
        have HZQ := Lib.hid hzq
        have HWQ := Lib.hid hwq
        clear hwq hzq
        go_wp2_with (at_builtin; refine wpList_append_lit rfl (.tmp 26) (.tmp 33) 93 rfl 111 3 24 _ i0 Tryz.underlying93 hi0 hz0 hz1 hz2 rfl (by omega) (by omega) w.heap.size wr.heap.size g' ok.length c' _ rfl hoq #[.int .i64 5, .int .i64 k, .int .i64 x] 1 1 rfl rfl (by simp [Value.oneCell']) (by omega) (by have := HZQ.out; omega) ?_; intro g7 c7 w7 ho7 hgr hat7 _)
        go_roundw
        case rel =>
          have hgr' : wr.grownBy w7 (some g') := by rw [← HWQ.out] at hgr; exact ⟨hgr.os, hgr.tape, hgr.output, hgr.size, hgr.block⟩
          refine ⟨k + 1, by omega, by go_num, g7, c7, by rw [HE.out]; simp, ?_, grown_next hg AT.out hgr', by have := AT.out; have := HZQ.out; omega⟩
          rw [HE.out, List.flatMap_append, List.length_append]
          exact ho7
        case measure => simp [intOf]; omega
      · have hd1 : decide (x < y) = false := by simpa using hxy
        by_cases hyx : y < x
        · have HE : Hid ((List.range (k + 1)).foldl (cdStep st ct) [] = ok ++ [⟨6, k, x⟩]) := by rw [HR.out, HS.out, if_neg hxy, if_pos hyx]; exact rfl
          go_wp2_with fail
          go_quiet (fail)
          have ho1 := ho.drewN nq
          have hcs1 : (wr.drewN nq).cell? ⟨gs, k, none⟩ = some (.int .i64 x) := hcs
          have hcc1 : (wr.drewN nq).cell? ⟨gc, k, none⟩ = some (.int .i64 y) := hcc
          have G1 : Hid (wr.grownBy (wr.drewN nq) (some g')) := ⟨rfl, rfl, rfl, Nat.le_refl _, fun _ _ _ => rfl⟩
          have Z1 : Hid ((wr.drewN nq).heap.size = wr.heap.size) := rfl
          generalize wr.drewN nq = wq1 at *
          go_wp2_with fail
          go_quiet (fail)
          have hoq := ho1.drewN nq
          have hcs' : (wq1.drewN nq).cell? ⟨gs, k, none⟩ = some (.int .i64 x) := hcs1
          have GQ : Hid (wr.grownBy (wq1.drewN nq) (some g')) := ⟨G1.out.os, G1.out.tape, G1.out.output, G1.out.size, G1.out.block⟩
          have HZQ : Hid ((wq1.drewN nq).heap.size = wr.heap.size) := Z1.out
          generalize wq1.drewN nq = wq at *
          go_wp2_with (at_builtin; refine wpList_append_lit rfl (.tmp 45) (.tmp 52) 93 rfl 111 3 24 _ i0 Tryz.underlying93 hi0 hz0 hz1 hz2 rfl (by omega) (by omega) w.heap.size wr.heap.size g' ok.length c' _ rfl hoq #[.int .i64 6, .int .i64 k, .int .i64 x] 1 1 rfl rfl (by simp [Value.oneCell']) (by omega) (by have := HZQ.out; omega) ?_; intro g7 c7 w7 ho7 hgr hat7 _)
          go_roundw
          case rel =>
            have hgr' : wr.grownBy w7 (some g') := grown_trans GQ.out hgr
            refine ⟨k + 1, by omega, by go_num, g7, c7, by rw [HE.out]; simp, ?_, grown_next hg AT.out hgr', by have := AT.out; have := HZQ.out; omega⟩
            rw [HE.out, List.flatMap_append, List.length_append]
            exact ho7
          case measure => simp [intOf]; omega
        · have hd2 : decide (y < x) = false := by simpa using hyx
          have HE : Hid ((List.range (k + 1)).foldl (cdStep st ct) [] = ok) := by rw [HR.out, HS.out, if_neg hxy, if_neg hyx]; exact rfl
          go_wp2_with fail
          go_quiet (fail)
          go_wp2_with fail
          go_quiet (fail)
          go_wp2_with fail
          go_roundw
          case rel => exact ⟨k + 1, by omega, by go_num, g', c', by rw [HE.out], by rw [HE.out]; exact ho.keep rfl, ⟨hg.os, hg.tape, hg.output, hg.size, hg.block⟩, AT.out⟩
          case measure => simp [intOf]; omega
    · obtain rfl : k = 64 := by omega
      go_wp2_with fail
      go_ret
      exact ⟨g', c', rfl, ho, below_of_grown b03 hg (Nat.le_refl _)⟩

def looseD (c : Cm) : Dc := ⟨3, c.kind, c.target⟩
def ownD (x : Wr) : Dc := ⟨7, x.frm, x.slot⟩
def d1L (xs : List Int) : List Dc := if xs.length % 8 ≠ 0 then [⟨2, xs.length, 0⟩] else []
def d2L (xs : List Int) : List Dc := d1L xs ++ (looseL xs).map looseD
def d3L (xs : List Int) : List Dc := if (headOf xs).many = 0 ∧ (headOf xs).shots ≠ 0 then d2L xs ++ [⟨4, (headOf xs).shots, 0⟩] else d2L xs
def d4L (xs : List Int) : List Dc := d3L xs ++ cntDefs (storedL xs) (countsC (claimsC xs))
def d5L (xs : List Int) : List Dc := d4L xs ++ (wrongsC xs).map ownD
def defectsL (xs : List Int) : List Dc := if imgB xs = true then (if hasHead xs = true then d5L xs else [⟨1, 0, 0⟩]) else []
def soundB (xs : List Int) : Bool := imgB xs && decide ((defectsL xs).length = 0)

theorem cntDefs_length (st ct : List Int) : (cntDefs st ct).length ≤ 64 := by
  unfold cntDefs
  have h1 := foldl_length (cdStep st ct) 1 (cdStep_length st ct) (List.range 64) []
  simp at h1
  omega
theorem map_step {α : Type} (f : α → Dc) (l : List α) (k : Nat) (hk : k < l.length) (o : List Dc) : o ++ (l.take (k + 1)).map f = (o ++ (l.take k).map f) ++ [f l[k]] := by
  rw [List.take_succ_eq_append_getElem hk, List.map_append, List.append_assoc]; rfl
theorem dc_one (x : Dc) : ∀ u ∈ dcV x, u.oneCell' = true := by simp [dcV, Value.oneCell']
theorem dcs_one (l : List Dc) : ∀ u ∈ l.flatMap dcV, u.oneCell' = true := by
  intro u hu
  rw [List.mem_flatMap] at hu
  obtain ⟨x, _, hx⟩ := hu
  exact dc_one x u hx

theorem len_dc {t : TypeId} {w : World} {lo hi g n c : Nat} {l : List Dc} (h : OwV t 3 w lo hi g n c (l.flatMap dcV)) : n = l.length := by
  have := h.len
  rw [flat_length dcV 3 dcV_length] at this
  omega
/-- The loop's relation: elements of type 111. -/
def DfRel {α : Type} (w4 : World) (lo g0 : Nat) (f : α → Dc) (o : List Dc) (l : List α) (v i : Value) (wr : World) : Prop := ∃ k : Nat, k ≤ l.length ∧ i = .int .i64 k ∧ DcAt w4 lo g0 (o ++ (l.take k).map f) v wr

theorem DfRel.start {α : Type} {w5 : World} {lo hi G N C : Nat} {f : α → Dc} {o : List Dc} {l : List α} {v : Value} (ho : OwV 111 3 w5 lo hi G N C (o.flatMap dcV)) (hv : v = .slice (some ⟨G, 0, none⟩) N C) : DfRel w5 lo G f o l v (.int .i64 0) w5 := by
  have hN := len_dc ho
  subst hN
  refine ⟨0, Nat.zero_le _, rfl, G, C, ?_, ?_, grown_refl _ _, .inl rfl⟩
  · simpa using hv
  · rw [List.take_zero, List.map_nil, List.append_nil]
    exact ⟨ho.own, ho.lt⟩

set_option maxRecDepth 100000 in
set_option maxHeartbeats 16000000 in
theorem specDefects_any (A : Option Addr) (n cb : Nat) (xs : List Int) (w : World) (hr : Rd w w.heap.size A n xs) (hn : n ≤ 2097152) :
    Calls Tryz.prog 89 #[.slice A n cb] w (RetDc w (defectsL xs)) := by
  obtain ⟨i0, hi0, hz0, hz1, hz2⟩ := info_parts infoDc
  have hx := Lib.hid hr.len
  go_enter Tryz.func89, Tryz.ntmps89
  go_wp2_with fail
  refine (specHeadIn_any _ _ _ xs _ hr hn).mono ?_
  rintro e w1 ⟨rfl, b1⟩
  generalize hh : headIn xs = r
  obtain ⟨⟨s, f, r, u, m⟩, is⟩ := r
  have HR := Lib.hid hh
  clear hh
  unfold hdV
  have b2 := b1.alloc b1.size (.cells #[.int .i64 s, .int .i64 f, .int .i64 r, .int .i64 u, .int .i64 m] 33)
  have hr2 := hr.below b2
  cases hi : imgB xs
  · have HN : Hid (defectsL xs = []) := by unfold defectsL; rw [hi]; exact rfl
    go_wp2_with fail
    refine (specImg_any _ _ _ xs _ _ hr2 hn).mono ?_
    rintro e w' ⟨rfl, rfl⟩
    go_wp2_with fail
    go_ret
    rw [HN.out]
    exact ⟨w1.heap.size + 1, 0, rfl, emptyV _ _ _ _ _ _ b2.size (by simp) (by simp), b2.alloc b2.size _⟩
  cases is
  · have HN : Hid (defectsL xs = [⟨1, 0, 0⟩]) := by unfold defectsL; rw [hi, (headIn_false HR.out).1]; exact rfl
    go_wp2_with fail
    refine (specImg_any _ _ _ xs _ _ hr2 hn).mono ?_
    rintro e w' ⟨rfl, rfl⟩
    go_wp2_with fail
    go_ret
    rw [HN.out]
    refine ⟨w1.heap.size + 1, 1, rfl, ?_, b2.alloc b2.size _⟩
    exact madeV 111 3 _ #[.int .i64 1, .int .i64 0, .int .i64 0] 1 _ _ _ b2.size (by simp) (by simp) (by omega) rfl
  have HH := Lib.hid (headIn_true HR.out)
  have HN : Hid (defectsL xs = d5L xs) := by unfold defectsL; rw [hi, HH.out.1]; exact rfl
  have hl512 := imgB_len hi
  have hn512 : n ≤ 512 := by have := hx.out; omega
  have HI := Lib.hid hi
  have hb1 := b1.size
  have b3 := b2.alloc b2.size (.cells #[] 111)
  have o3 := emptyV 111 3 (w1.alloc (.cells #[.int .i64 s, .int .i64 f, .int .i64 r, .int .i64 u, .int .i64 m] 33)) (w1.heap.size + 1) (w1.heap.size + 2) (w1.heap.size + 1) (by simp) (by simp) (by omega)
  have hbx : ∀ j : Nat, ((w1.alloc (.cells #[.int .i64 s, .int .i64 f, .int .i64 r, .int .i64 u, .int .i64 m] 33)).alloc (.cells #[] 111)).cell? ⟨w1.heap.size, j, none⟩ = (#[.int .i64 s, .int .i64 f, .int .i64 r, .int .i64 u, .int .i64 m] : Array Value)[j]? := fun j => by
    rw [World.cell?_alloc_lt _ _ _ (by simp), World.cell?_alloc_new]
  have hz3 : ((w1.alloc (.cells #[.int .i64 s, .int .i64 f, .int .i64 r, .int .i64 u, .int .i64 m] 33)).alloc (.cells #[] 111)).heap.size = w1.heap.size + 2 := by simp
  have hr3 := hr.below b3
  have BX := Lib.hid hbx
  have HZ3 := Lib.hid hz3
  clear hbx hz3 hi
  have HD1 : Hid (d1L xs = if n % 8 ≠ 0 then [⟨2, n, 0⟩] else []) := by unfold d1L; rw [hx.out]; exact rfl
  have HD3 : Hid (d3L xs = if m = 0 ∧ u ≠ 0 then d2L xs ++ [⟨4, u, 0⟩] else d2L xs) := by unfold d3L; rw [HH.out.2]; exact rfl
  have hz3' : Hid (w1.heap.size + 2 = w1.heap.size + 2) := rfl
  have key3 : ∀ w3 : World, w3 = ((w1.alloc (.cells #[.int .i64 s, .int .i64 f, .int .i64 r, .int .i64 u, .int .i64 m] 33)).alloc (.cells #[] 111)) → Hid (∀ wk : World, w3.grownBy wk (some (w1.heap.size + 1)) → ∀ j : Nat, wk.cell? ⟨w1.heap.size, j, none⟩ = (#[.int .i64 s, .int .i64 f, .int .i64 r, .int .i64 u, .int .i64 m] : Array Value)[j]?) ∧ Hid (∀ wk : World, w3.grownBy wk (some (w1.heap.size + 1)) → Rd wk w.heap.size A n xs) := fun w3 hw => by
    subst hw
    refine ⟨fun wk hk j => (World.cell?_of_block (hk.block w1.heap.size (by have := HZ3.out; omega) (fun e => by injection e with e; omega))).trans (BX.out j), fun wk hk => hr3.grown hk (by omega) (by have := HZ3.out; omega)⟩
  have KEY := Lib.hid key3
  clear key3 hz3'
  by_cases h8 : n % 8 = 0
  case' pos =>
    have hd8 : ((n : Int) % 8 != 0) = false := by simp; omega
    have HD1' : Hid (d1L xs = []) := by rw [HD1.out]; simp [h8, Hid]
    clear h8
    go_wp2_with fail
    refine (specImg_any _ _ _ xs _ _ hr2 hn).mono ?_
    rintro e w' ⟨rfl, rfl⟩
    rw [HI.out]
    go_wp2_with fail
    generalize hw3 : ((w1.alloc (.cells #[.int .i64 s, .int .i64 f, .int .i64 r, .int .i64 u, .int .i64 m] 33)).alloc (.cells #[] 111)) = w3 at *
    obtain ⟨keepB, keepR⟩ := KEY.out w3 rfl
    have F4 := grown_refl w3 (some (w1.heap.size + 1))
    obtain ⟨G1, hG1⟩ : ∃ x, x = w1.heap.size + 1 := ⟨_, rfl⟩
    have HG1 := Lib.hid hG1
    have AT4 : Hid (G1 = w1.heap.size + 1 ∨ w3.heap.size ≤ G1) := .inl hG1
    have o4 : OwV 111 3 w3 (w1.heap.size + 1) w3.heap.size G1 0 0 ((d1L xs).flatMap dcV) := by
      rw [HD1'.out, hG1]; exact o3.more (Nat.le_refl _) (by have := HZ3.out; omega)
    clear hw3 hG1
  case' neg =>
    have hd8 : ((n : Int) % 8 != 0) = true := by simp; omega
    have HD1' : Hid (d1L xs = [⟨2, n, 0⟩]) := by rw [HD1.out]; simp [h8, Hid]
    clear h8
    go_wp2_with fail
    refine (specImg_any _ _ _ xs _ _ hr2 hn).mono ?_
    rintro e w' ⟨rfl, rfl⟩
    rw [HI.out]
    go_upto_region 8 with (fail)
    generalize hw3 : ((w1.alloc (.cells #[.int .i64 s, .int .i64 f, .int .i64 r, .int .i64 u, .int .i64 m] 33)).alloc (.cells #[] 111)) = w3 at *
    obtain ⟨keepB, keepR⟩ := KEY.out w3 rfl
    clear hw3
    go_wp2_with (at_builtin; refine wpList_append_lit rfl (.tmp 28) (.tmp 32) 93 rfl 111 3 24 _ i0 Tryz.underlying93 hi0 hz0 hz1 hz2 rfl (by omega) (by omega) (w1.heap.size + 1) (w1.heap.size + 2) (w1.heap.size + 1) 0 0 _ rfl o3 #[.int .i64 2, .int .i64 n, .int .i64 0] 1 1 rfl rfl (by simp [Value.oneCell']) (by omega) (by have := HZ3.out; omega) ?_; intro g1 c1 w4 o4' F4 at4 _)
    obtain ⟨G1, hG1⟩ : ∃ x, x = g1 := ⟨_, rfl⟩
    have HG1 := Lib.hid hG1
    have AT4 : Hid (G1 = w1.heap.size + 1 ∨ w3.heap.size ≤ G1) := by rw [hG1]; exact at4
    have o4 : OwV 111 3 w4 (w1.heap.size + 1) w4.heap.size G1 1 c1 ((d1L xs).flatMap dcV) := by
      rw [HD1'.out, hG1]; exact o4'
    clear at4 o4' hG1
  all_goals
    clear HD1 KEY o3
    have s4 := F4.size
    have hlt4 := o4.lt
    have HZ3' := HZ3.out
    have hw3s : w1.heap.size + 2 ≤ w3.heap.size := by omega
    refine (specLoose_any A n cb xs _ ((keepR.out _ F4).more (by omega)) hn).mono ?_
    rintro e w5 ⟨gl, cl5, rfl, ol, b5⟩
    have s5 := b5.size
    have F5 : w3.grownBy w5 (some (w1.heap.size + 1)) := ⟨b5.os.trans F4.os, b5.tape.trans F4.tape, b5.output.trans F4.output, Nat.le_trans F4.size b5.size, fun q hq hne => (b5.block q (by omega)).trans (F4.block q hq hne)⟩
    have o5 := (o4.keep (b5.block _ hlt4))
    have hgl := ol.low
    have hglt := ol.lt
    have RL5 := ol.rd
    have hlow := o4.low
    have HLL := Lib.hid (looseL_length xs)
    have hll := HLL.out
    have HD2 : Hid (d2L xs = d1L xs ++ (looseL xs).map looseD) := rfl
    have HN1 := Lib.hid (len_dc o4)
    clear ol b5 o4 F4 HZ3'
    generalize looseL xs = ll at *
    generalize d1L xs = d1 at *
    go_wp2_with fail
    go_loopw [5, 7] (fun v i wr => DfRel w5 (w1.heap.size + 1) G1 looseD d1 ll v i wr) (fun _ i _ => ll.length - (intOf i).toNat)
    case atStart => exact DfRel.start o5 (by rw [HG1.out])
    case round =>
      obtain ⟨k, hk, rfl, g', c', rfl, ho, hg, hat⟩ := hrel
      have AT := Lib.hid hat
      clear hat
      have FR := grown_next F5 AT4.out hg
      have sr := hg.size
      by_cases hlt : k < ll.length
      · have hce := cm_cells (RL5.grown hg hglt (by show gl ≠ _; omega)) hlt
        have HS := Lib.hid (map_step looseD ll k hlt d1)
        have hgd : ll.getD k cm0 = ll[k] := by simp [List.getD_eq_getElem?_getD, hlt]
        rw [hgd] at hce
        clear hgd
        have HLk : Hid ((d1 ++ (ll.take k).map looseD).length ≤ 2000) := by
          have h1 : (ll.take k).length ≤ k := List.length_take_le _ _
          have := HN1.out
          show _ ≤ _
          simp only [List.length_append, List.length_map]
          omega
        have hlk := HLk.out
        generalize d1 ++ (ll.take k).map looseD = ok at *
        generalize ll[k] = x at *
        obtain ⟨xk, xf, xs', xp, xt, xg⟩ := x
        have e0 : wr.cell? ⟨gl, k * 6, none⟩ = some (.int .i64 xk) := hce 0 (by omega)
        have e4 : wr.cell? ⟨gl, k * 6 + 4, none⟩ = some (.int .i64 xt) := hce 4 (by omega)
        clear hce
        have hn1 : gl < wr.heap.size := by omega
        have hn2 : some gl ≠ some g' := fun e => by injection e with e; have := AT.out; omega
        have hn3 : w1.heap.size + 1 ≤ wr.heap.size := by omega
        have n1 : (0 : Int) ≤ (k : Int) := by omega
        have n2 : (k : Int) < (ll.length : Int) := by omega
        go_wp2_with fail
        go_region_held3 (fun w' => w'.cell? ⟨gl, k * 6, none⟩ = some (.int .i64 xk) ∧ w'.cell? ⟨gl, k * 6 + 4, none⟩ = some (.int .i64 xt))
          (first
            | go_keep
            | (go_split_ands
               refine ⟨?_, ?_⟩
               all_goals (rw [hgrow.cell_far _ (Nat.lt_trans hn1 (by simp)) hn2]; assumption)))
          ((refine step_append_lit (by rfl) _ _ _ (by rfl) 111 3 24 _ i0 Tryz.underlying93 hi0 hz0 hz1 hz2 rfl (by omega) (by omega) (w1.heap.size + 1) wr.heap.size g' ok.length c' _ (by rfl) ho #[.int .i64 3, .int .i64 xk, .int .i64 xt] 1 1 (by rfl) (by rfl) (by simp [Value.oneCell']) (by omega) hn3 ?_; intro g2 cd w6 ho6 hgrow hat6 _))
        go_wp2_with fail
        go_roundw
        case rel =>
          have hgr : wr.grownBy w6 (some g') := ⟨hgrow.os, hgrow.tape, hgrow.output, Nat.le_trans (by simp) hgrow.size, fun q hq hne => (hgrow.block q (by simp; omega) hne).trans (Below.heap_alloc _ _ _ hq)⟩
          refine ⟨k + 1, by omega, by go_num, g2, cd, by rw [HS.out]; simp, ?_, grown_next hg AT.out hgr, by have := AT.out; omega⟩
          rw [HS.out, List.flatMap_append, List.length_append]
          exact ho6
        case measure => simp [intOf]; omega
      · obtain rfl : k = ll.length := by omega
        rw [List.take_length, ← HD2.out] at ho
        rw [List.take_length, ← HD2.out]
        have q3 : wr.cell? ⟨w1.heap.size, 3, none⟩ = some (.int .i64 u) := keepB.out wr FR 3
        have q4 : wr.cell? ⟨w1.heap.size, 4, none⟩ = some (.int .i64 m) := keepB.out wr FR 4
        have HL2 : Hid ((d2L xs).length ≤ 2000) := by
          have := HN1.out
          show _ ≤ _
          rw [HD2.out]
          simp only [List.length_append, List.length_map]
          omega
        have hl2 := HL2.out
        have ATR : Hid (g' = w1.heap.size + 1 ∨ w3.heap.size ≤ g') := by show _ ∨ _; have := AT4.out; have := AT.out; omega
        clear RL5 HLL HD2 o5 hg AT
        generalize d2L xs = d2 at *
        have hlow' := ho.low
        by_cases hsh : m = 0 ∧ u ≠ 0
        case' pos =>
          obtain ⟨rfl, hu0⟩ := hsh
          have hdu : (u != 0) = true := by simpa using hu0
          have HD3' : Hid (d3L xs = d2 ++ [⟨4, u, 0⟩]) := by rw [HD3.out, if_pos ⟨rfl, hu0⟩]; exact rfl
          clear HD3 hu0
          go_wp2_with (at_builtin; refine wpList_append_lit rfl (.tmp 64) (.tmp 68) 93 rfl 111 3 24 _ i0 Tryz.underlying93 hi0 hz0 hz1 hz2 rfl (by omega) (by omega) (w1.heap.size + 1) wr.heap.size g' d2.length c' _ rfl ho #[.int .i64 4, .int .i64 u, .int .i64 0] 1 1 rfl rfl (by simp [Value.oneCell']) (by omega) (by omega) ?_; intro g3 c3 w7 o7' G7 at7 _)
          have F7 := grown_next FR ATR.out G7
          have AT7 : Hid (g3 = w1.heap.size + 1 ∨ w3.heap.size ≤ g3) := by show _ ∨ _; have := ATR.out; omega
          have o7 : OwV 111 3 w7 (w1.heap.size + 1) w7.heap.size g3 (d2.length + 1) c3 ((d3L xs).flatMap dcV) := by
            rw [HD3'.out, List.flatMap_append]; exact o7'
          have hl7 : d2.length + 1 ≤ 2001 := by omega
          clear at7 G7 o7' ho
        case' neg =>
          have HD3' : Hid (d3L xs = d2) := by rw [HD3.out, if_neg hsh]; exact rfl
          have hgu : (m == 0) = false ∨ ((m == 0) = true ∧ (u != 0) = false) := by
            by_cases hm0 : m = 0
            · right
              refine ⟨by simpa using hm0, ?_⟩
              have : u = 0 := by
                rcases Decidable.em (u = 0) with h | h
                · exact h
                · exact absurd ⟨hm0, h⟩ hsh
              simpa using this
            · left; simpa using hm0
          clear HD3 hsh
          rcases hgu with hm0 | ⟨hm0, hu0⟩
          case' inl => go_wp2_with fail
          case' inr => go_wp2_with fail
          all_goals
            obtain ⟨w7, rfl⟩ : ∃ x, x = wr := ⟨_, rfl⟩
            have F7 := FR
            have AT7 := ATR
            have o7 : OwV 111 3 w7 (w1.heap.size + 1) w7.heap.size g' d2.length c' ((d3L xs).flatMap dcV) := by
              rw [HD3'.out]; exact ho
            have hl7 : d2.length ≤ 2001 := by omega
            clear ho
        all_goals
          have s7 := F7.size
          have hlt7 := o7.lt
          have HN7 := Lib.hid (len_dc o7)
          clear q3 q4
          refine (specCntD_any A n cb xs w7 ((keepR.out w7 F7).more (by omega)) hn HH.out.1).mono ?_
          rintro e w8 ⟨gq, cq, rfl, oq, b8⟩
          have s8 := b8.size
          have F8 : w3.grownBy w8 (some (w1.heap.size + 1)) := ⟨b8.os.trans F7.os, b8.tape.trans F7.tape, b8.output.trans F7.output, Nat.le_trans F7.size b8.size, fun q hq hne => (b8.block q (by omega)).trans (F7.block q hq hne)⟩
          have o8 := (o7.keep (b8.block _ hlt7))
          have hq64 := cntDefs_length (storedL xs) (countsC (claimsC xs))
          have hqn : ∀ j v, ((cntDefs (storedL xs) (countsC (claimsC xs))).flatMap dcV)[j]? = some v → w8.cell? ((⟨gq, 0, none⟩ : Addr).add j) = some v := fun j v hj => by
            have hjl : j < (cntDefs (storedL xs) (countsC (claimsC xs))).length * 3 := by
              have := (List.getElem?_eq_some_iff.1 hj).1
              rwa [flat_length dcV 3 dcV_length] at this
            rw [Addr.add_lit, Nat.zero_add, oq.cell hjl]; exact hj
          have HQN := Lib.hid hqn
          have HD4 : Hid (d4L xs = d3L xs ++ cntDefs (storedL xs) (countsC (claimsC xs))) := rfl
          clear hqn b8 oq o7
          generalize cntDefs (storedL xs) (countsC (claimsC xs)) = dq at *
          go_wp2_with (at_builtin; refine wpList_append_v rfl (.tmp 70) (.tmp 72) 93 rfl 111 3 24 _ i0 Tryz.underlying93 hi0 hz0 hz1 hz2 rfl (by omega) (by omega) (w1.heap.size + 1) _ _ _ _ _ rfl o8 ⟨gq, 0, none⟩ dq.length cq (dq.flatMap dcV) rfl (flat_length dcV 3 dcV_length dq) HQN.out (dcs_one dq) (by omega) (by omega) ?_; intro g9 c9 w9 o9' G9 at9 _)
          have F9 := grown_next F8 AT7.out G9
          have AT9 : Hid (g9 = w1.heap.size + 1 ∨ w3.heap.size ≤ g9) := by show _ ∨ _; have := AT7.out; omega
          rw [← List.flatMap_append, ← HD4.out] at o9'
          have s9 := F9.size
          have hlt9 := o9'.lt
          have hlow9 := o9'.low
          have HL4 : Hid ((d4L xs).length ≤ 3000) := by have := len_dc o9'; show _ ≤ _; omega
          clear at9 G9 o8
          refine (specWrongs_any A n cb xs w9 ((keepR.out w9 F9).more (by omega)) hn HH.out.1).mono ?_
          rintro e w10 ⟨gw, cw, rfl, ow, b10⟩
          have s10 := b10.size
          have hgw := ow.low
          have hgwt := ow.lt
          have RW := ow.rd
          have F10 : w3.grownBy w10 (some (w1.heap.size + 1)) := ⟨b10.os.trans F9.os, b10.tape.trans F9.tape, b10.output.trans F9.output, Nat.le_trans F9.size b10.size, fun q hq hne => (b10.block q (by omega)).trans (F9.block q hq hne)⟩
          have o10 := (o9'.keep (b10.block g9 hlt9))
          have hwl := wrongs_length xs
          have HD5 : Hid (d5L xs = d4L xs ++ (wrongsC xs).map ownD) := rfl
          clear ow b10 o9' F9
          generalize wrongsC xs = wl at *
          generalize d4L xs = d4 at *
          go_wp2_with fail
          go_loopw [5, 9] (fun v i wr => DfRel w10 (w1.heap.size + 1) g9 ownD d4 wl v i wr) (fun _ i _ => wl.length - (intOf i).toNat)
          case atStart => exact DfRel.start o10 rfl
          case round =>
            obtain ⟨k, hk, rfl, g', c', rfl, ho, hg, hat⟩ := hrel
            have AT := Lib.hid hat
            clear hat
            have FR2 := grown_next F10 AT9.out hg
            have sr := hg.size
            by_cases hlt : k < wl.length
            · have hce := wr_cells (RW.grown hg hgwt (by show gw ≠ _; omega)) hlt
              have HS := Lib.hid (map_step ownD wl k hlt d4)
              have hgd : wl.getD k wr0 = wl[k] := by simp [List.getD_eq_getElem?_getD, hlt]
              rw [hgd] at hce
              clear hgd
              have HLk : Hid ((d4 ++ (wl.take k).map ownD).length ≤ 40000) := by
                have h1 : (wl.take k).length ≤ k := List.length_take_le _ _
                have := HL4.out
                show _ ≤ _
                simp only [List.length_append, List.length_map]
                omega
              have hlk := HLk.out
              generalize d4 ++ (wl.take k).map ownD = ok at *
              generalize wl[k] = x at *
              obtain ⟨xf, xs', xm⟩ := x
              have e0 : wr.cell? ⟨gw, k * 3, none⟩ = some (.int .i64 xf) := hce 0 (by omega)
              have e1 : wr.cell? ⟨gw, k * 3 + 1, none⟩ = some (.int .i64 xs') := hce 1 (by omega)
              clear hce
              have hn1 : gw < wr.heap.size := by omega
              have hn2 : some gw ≠ some g' := fun e => by injection e with e; have := AT.out; omega
              have hn3 : w1.heap.size + 1 ≤ wr.heap.size := by omega
              have n1 : (0 : Int) ≤ (k : Int) := by omega
              have n2 : (k : Int) < (wl.length : Int) := by omega
              go_wp2_with fail
              go_region_held3 (fun w' => w'.cell? ⟨gw, k * 3, none⟩ = some (.int .i64 xf) ∧ w'.cell? ⟨gw, k * 3 + 1, none⟩ = some (.int .i64 xs'))
                (first
                  | go_keep
                  | (go_split_ands
                     refine ⟨?_, ?_⟩
                     all_goals (rw [hgrow.cell_far _ (Nat.lt_trans hn1 (by simp)) hn2]; assumption)))
                ((refine step_append_lit (by rfl) _ _ _ (by rfl) 111 3 24 _ i0 Tryz.underlying93 hi0 hz0 hz1 hz2 rfl (by omega) (by omega) (w1.heap.size + 1) wr.heap.size g' ok.length c' _ (by rfl) ho #[.int .i64 7, .int .i64 xf, .int .i64 xs'] 1 1 (by rfl) (by rfl) (by simp [Value.oneCell']) (by omega) hn3 ?_; intro g2 cd w6 ho6 hgrow hat6 _))
              go_wp2_with fail
              go_roundw
              case rel =>
                have hgr : wr.grownBy w6 (some g') := ⟨hgrow.os, hgrow.tape, hgrow.output, Nat.le_trans (by simp) hgrow.size, fun q hq hne => (hgrow.block q (by simp; omega) hne).trans (Below.heap_alloc _ _ _ hq)⟩
                refine ⟨k + 1, by omega, by go_num, g2, cd, by rw [HS.out]; simp, ?_, grown_next hg AT.out hgr, by have := AT.out; omega⟩
                rw [HS.out, List.flatMap_append, List.length_append]
                exact ho6
              case measure => simp [intOf]; omega
            · obtain rfl : k = wl.length := by omega
              go_wp2_with fail
              go_ret
              rw [List.take_length, ← HD5.out] at ho
              rw [HN.out]
              refine ⟨g', c', ?_, ho.more (by omega) (Nat.le_refl _), below_of_grown b3 FR2 (by omega)⟩
              rw [HD5.out]
              simp

end Go.Proofs.YtiokfhdkbpoadabGreatDoor
