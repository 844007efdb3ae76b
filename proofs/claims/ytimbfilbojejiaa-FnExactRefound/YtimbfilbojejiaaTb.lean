/- Tables and places (chapters 4 and 5), the model's side: plain functions, and that the Go functions compute them. -/
import Derived.Test.YtimbfilbojejiaaHd
import Derived.Test.YtimbfilbojejiaaRow
import Derived.Test.YtimbfilbojejiaaEnt
import Derived.IntWalk
namespace Go.Proofs.Ytimbfilbojejiaa
open Go.RowKit

def thereB (xs : List Int) (t : Int) : Bool := inB t 1 ((manyN xs : Int) - 1)
def tableL (xs : List Int) (t : Int) : List Int := if hasHead xs = true ∧ thereB xs t = true then cl xs t.toNat else []
/-- The shots of an image with a head (none where there is no head). -/
def shotsL (xs : List Int) : List (Int × Int) :=
  if thereB xs (headIn xs).1.shots = true then (List.range (headIn xs).1.many.toNat).map (fun i => ((cl xs (headIn xs).1.shots.toNat).getD (2 * i) 0, (cl xs (headIn xs).1.shots.toNat).getD (2 * i + 1) 0)) else []
def firstOf (xs : List Int) (which : Int) : Int :=
  if hasHead xs = true then (if which = 0 then (headOf xs).first else (if inB which 1 ((shotsL xs).length : Int) = true then ((shotsL xs).getD (which - 1).toNat (0, 0)).2 else 0)) else 0
def firstEntry (xs : List Int) (which slot : Int) : Int :=
  if inB slot 0 (((tableL xs (firstOf xs which)).length : Int) - 1) = true then (tableL xs (firstOf xs which)).getD slot.toNat 0 else 0
def entryAt (xs : List Int) (which g : Int) : Int :=
  if hasHead xs = true ∧ inB g 0 ((headOf xs).size - 1) = true then (tableL xs (targetOf (firstEntry xs which (g / 8)))).getD (g % 8).toNat 0 else 0

def shV (p : Int × Int) : List Value := [.int .i64 p.1, .int .i64 p.2]
theorem shV_length (p : Int × Int) : (shV p).length = 2 := rfl

theorem headIn_true {xs : List Int} {h : Hd} (e : headIn xs = (h, true)) : hasHead xs = true ∧ headOf xs = h := by
  cases hb : hasHead xs
  · rw [headIn_no hb] at e; cases e
  · rw [headIn_yes hb] at e; cases e; exact ⟨rfl, rfl⟩
theorem headIn_false {xs : List Int} {h : Hd} (e : headIn xs = (h, false)) : hasHead xs = false ∧ h = hd0 := by
  cases hb : hasHead xs
  · rw [headIn_no hb] at e; cases e; exact ⟨rfl, rfl⟩
  · rw [headIn_yes hb] at e; cases e
theorem cl_length (xs : List Int) (a : Nat) : (cl xs a).length = 8 := f8_length _
theorem manyN_le {xs : List Int} (h : imgB xs = true) : manyN xs ≤ 64 := by have := imgB_len h; unfold manyN; omega
theorem there_lt {xs : List Int} {t : Int} (h : thereB xs t = true) : 1 ≤ t ∧ t < manyN xs := by have := inB_true.1 h; omega

theorem specThere_any (A : Option Addr) (n c : Nat) (xs : List Int) (t : Int) (w : World) (h : xs.length = n) (hn : n ≤ 2097152) :
    Calls Try.prog 19 #[.slice A n c, .int .i64 t] w fun e w' => e = .returned (.bool (thereB xs t)) ∧ w = w' := by
  have H := Lib.hid h
  have hm : manyN xs ≤ 2097152 := by unfold manyN; omega
  clear h
  go_enter Try.func19, Try.ntmps19
  go_wp2_with fail
  refine (specMany_any _ _ _ xs _ H.out hn).mono ?_
  rintro e w' ⟨rfl, rfl⟩
  go_wp2_with fail
  refine (in_any _ _ _ _).mono ?_
  rintro e w' ⟨rfl, rfl⟩
  go_wp2_with fail
  go_ret
  exact ⟨rfl, rfl⟩

theorem tableL_no {xs : List Int} {t : Int} (h : hasHead xs = false) : tableL xs t = [] := by simp [tableL, h]
theorem tableL_out {xs : List Int} {t : Int} (h : thereB xs t = false) : tableL xs t = [] := by simp [tableL, h]
theorem tableL_in {xs : List Int} {t : Int} (h : hasHead xs = true) (h2 : thereB xs t = true) : tableL xs t = cl xs t.toNat := by simp [tableL, h, h2]
theorem tableL_length (xs : List Int) (t : Int) : (tableL xs t).length = 0 ∨ (tableL xs t).length = 8 := by
  unfold tableL; split
  · exact .inr (cl_length _ _)
  · exact .inl rfl

theorem Ret.after {w w1 : World} {ys : List Int} {e : Ending} {w' : World} (h : Ret w1 ys e w') (hb : Below w.heap.size w w1) : Ret w ys e w' := by
  obtain ⟨A, n, c, he, ho, hb2⟩ := h
  exact ⟨A, n, c, he, ho.more hb.size (Nat.le_refl _), below_more hb hb2 hb.size⟩

theorem Ret.emptyAt {w w1 : World} (g : Nat) (hg : w1.heap.size = g) (hb : Below w.heap.size w w1) : Ret w [] (.returned (.slice (some ⟨g, 0, none⟩) 0 0)) (w1.alloc (.cells #[] 2)) := by
  subst hg
  exact (Ret.empty _ _ rfl).after hb

/-- It answers a new slice of shots. -/
def RetSh (w : World) (l : List (Int × Int)) (e : Ending) (w' : World) : Prop :=
  ∃ g c, e = .returned (.slice (some ⟨g, 0, none⟩) l.length c) ∧ OwV 76 2 w' w.heap.size w'.heap.size g l.length c (l.flatMap shV) ∧ Below w.heap.size w w'

theorem infoSh : (Try.prog.info? 76).map (fun i => (i.zero, i.size, i.bytes)) = some (some (.agg #[.int .i64 0, .int .i64 0]), 2, 16) := by kernel_rfl

theorem shotsL_none {xs : List Int} {h : Hd} {is : Bool} (e : headIn xs = (h, is)) (ht : thereB xs h.shots = false) : shotsL xs = [] := by
  unfold shotsL; rw [e]; simp [ht]
theorem shotsL_some {xs : List Int} {h : Hd} {is : Bool} (e : headIn xs = (h, is)) (ht : thereB xs h.shots = true) : shotsL xs = (List.range h.many.toNat).map (fun i => ((cl xs h.shots.toNat).getD (2 * i) 0, (cl xs h.shots.toNat).getD (2 * i + 1) 0)) := by
  unfold shotsL; rw [e]; simp [ht]
theorem there_hd0 (xs : List Int) : thereB xs hd0.shots = false := by rw [thereB, inB_false]; simp [hd0]

set_option maxRecDepth 100000 in
set_option maxHeartbeats 2000000 in
theorem specShots_any (A : Option Addr) (n c : Nat) (xs : List Int) (w : World) (h : Rd w w.heap.size A n xs) (hn : n ≤ 2097152) :
    Calls Try.prog 66 #[.slice A n c] w (RetSh w (shotsL xs)) := by
  obtain ⟨i0, hi0, hz0, hz1, hz2⟩ := info_parts infoSh
  have hxl := Lib.hid h.len
  go_enter Try.func66, Try.ntmps66
  go_wp2_with fail
  refine (specHeadIn_any _ _ _ xs _ h hn).mono ?_
  rintro e w1 ⟨rfl, b1⟩
  generalize hr : headIn xs = r
  obtain ⟨⟨s, f, r, u, m⟩, is⟩ := r
  have HR := Lib.hid hr
  clear hr
  unfold hdV
  have b2 := b1.alloc b1.size (.cells #[.int .i64 s, .int .i64 f, .int .i64 r, .int .i64 u, .int .i64 m] 34)
  have b3 := b2.alloc b2.size (.cells #[] 76)
  have o3 := emptyV 76 2 (w1.alloc (.cells #[.int .i64 s, .int .i64 f, .int .i64 r, .int .i64 u, .int .i64 m] 34)) w.heap.size (w1.heap.size + 2) (w1.heap.size + 1) b2.size (by simp) (by omega)
  cases ht : thereB xs u
  · have HN := Lib.hid (shotsL_none HR.out ht)
    go_wp2_with fail
    refine (specThere_any _ _ _ xs _ _ hxl.out hn).mono ?_
    rintro e w' ⟨rfl, rfl⟩
    go_wp2_with fail
    go_ret
    rw [HN.out]
    exact ⟨_, 0, rfl, o3.more (Nat.le_refl _) (by simp), b3⟩
  · have HN := Lib.hid (shotsL_some HR.out ht)
    have his : is = true := by
      cases is
      · have := (headIn_false HR.out).2
        have h0 := there_hd0 xs
        rw [← this] at h0
        rw [ht] at h0; cases h0
      · rfl
    subst his
    have HY := Lib.hid (headIn_true HR.out)
    obtain ⟨t1, t2⟩ := there_lt ht
    have hm := manyN_le (hasHead_img HY.out.1)
    have hall := headB_all (hasHead_ok HY.out.1)
    rw [HY.out.2] at hall
    obtain ⟨_, _, _, _, m0, m4⟩ := hall
    simp only at m0 m4
    obtain ⟨a, rfl⟩ := Int.eq_ofNat_of_zero_le (show 0 ≤ u by omega)
    obtain ⟨k4, rfl⟩ := Int.eq_ofNat_of_zero_le (show 0 ≤ m by omega)
    go_wp2_with fail
    refine (specThere_any _ _ _ xs _ _ hxl.out hn).mono ?_
    rintro e w' ⟨rfl, rfl⟩
    go_wp2_with fail
    refine (specCluster_any A n c a xs _ ((h.below b3).more b3.size) hn (by omega)).mono ?_
    rintro e w4 ⟨G, ng, cg, rfl, oG, b4⟩
    obtain rfl : 8 = ng := by have := oG.len; simpa [cl, f8_length] using this
    rcases oG.form with ⟨_, h0, _⟩ | ⟨g, rfl, g1, g2, g3, g4⟩
    · omega
    have s4 := b4.size
    have hsz : ∀ o1 o2 : Obj, ((w1.alloc o1).alloc o2).heap.size = w1.heap.size + 2 := fun _ _ => by simp
    rw [hsz] at g1 s4
    clear hsz
    have o4 := o3.below b4 (by simp)
    have c4 : w4.cell? ⟨w1.heap.size, 4, none⟩ = some (.int .i64 k4) := by
      rw [b4.cell (by simp; omega)]
      rw [World.cell?_alloc_lt _ _ _ (by simp), World.cell?_alloc_new]; rfl
    have B4 := Lib.hid (below_more b3 b4 b3.size)
    have hcell : ∀ j, j < 8 → w4.cell? ⟨g, j, none⟩ = some (.int .i64 ((cl xs a).getD j 0)) := fun j hj => oG.cell hj
    have HC := Lib.hid hcell
    clear hcell ht b1 b2 b3 b4 oG o3
    obtain ⟨pr, hpr⟩ : ∃ pr : Nat → Int × Int, pr = fun i => ((cl xs a).getD (2 * i) 0, (cl xs a).getD (2 * i + 1) 0) := ⟨_, rfl⟩
    have HP := Lib.hid hpr
    clear hpr
    go_wp2_with fail
    go_loopw [5, 7] (fun v i wr => ∃ (k g' c' : Nat), k ≤ k4 ∧ i = .int .i64 k ∧ v = .slice (some ⟨g', 0, none⟩) k c' ∧ OwV 76 2 wr w.heap.size wr.heap.size g' k c' (((List.range k).map pr).flatMap shV) ∧ Below w.heap.size w wr ∧ (g' = w1.heap.size + 1 ∨ w4.heap.size ≤ g') ∧ KeepBut (w1.heap.size + 1) w4 wr) (fun _ i _ => k4 - (intOf i).toNat)
    case atStart => exact ⟨0, _, 0, Nat.zero_le _, rfl, rfl, o4.more (Nat.le_refl _) (by omega), B4.out, .inl rfl, KeepBut.refl _ _⟩
    case round =>
      obtain ⟨k, g', c', hk, rfl, rfl, ho, hb, hg', hkb⟩ := hrel
      have hcm : wr.cell? ⟨w1.heap.size, 4, none⟩ = some (.int .i64 k4) := (hkb.cell (p := ⟨w1.heap.size, 4, none⟩) (by show w1.heap.size < w4.heap.size; omega) (by show w1.heap.size ≠ _; omega)).trans c4
      have HG := Lib.hid hg'
      clear hg'
      by_cases hlt : k < k4
      · have p0 : wr.cell? ⟨g, 2 * k, none⟩ = some (.int .i64 (pr k).1) := (hkb.cell (p := ⟨g, 2 * k, none⟩) g3 (by show g ≠ _; omega)).trans (by rw [HC.out _ (by omega), HP.out])
        have p1 : wr.cell? ⟨g, 2 * k + 1, none⟩ = some (.int .i64 (pr k).2) := (hkb.cell (p := ⟨g, 2 * k + 1, none⟩) g3 (by show g ≠ _; omega)).trans (by rw [HC.out _ (by omega), HP.out])
        have HSn := Lib.hid (show (((List.range (k + 1)).map pr).flatMap shV) = (((List.range k).map pr).flatMap shV) ++ [.int .i64 (pr k).1, .int .i64 (pr k).2] by rw [List.range_succ]; simp [shV])
        generalize (pr k).1 = x1 at *
        generalize (pr k).2 = x2 at *
        go_wp2_with fail
        have hgw : g < wr.heap.size := Nat.lt_of_lt_of_le g3 hkb.1
        have hgne : some g ≠ some g' := fun e => by injection e with e; have := HG.out; omega
        have n1 : IntKind.i64.wrap (2 * (k : Int)) = 2 * (k : Int) := IntWalk.i64_in _ (by omega)
        have n2 : (0 : Int) ≤ 2 * (k : Int) := by omega
        have n3 : 2 * (k : Int) < 8 := by omega
        have n4 : (2 * (k : Int)).toNat = 2 * k := by omega
        have n5 : IntKind.i64.wrap (2 * (k : Int) + 1) = 2 * (k : Int) + 1 := IntWalk.i64_in _ (by omega)
        have n6 : (0 : Int) ≤ 2 * (k : Int) + 1 := by omega
        have n7 : 2 * (k : Int) + 1 < 8 := by omega
        have n8 : (2 * (k : Int) + 1).toNat = 2 * k + 1 := by omega
        go_region_held3 (fun w' => w'.cell? ⟨g, 2 * k, none⟩ = some (.int .i64 x1) ∧ w'.cell? ⟨g, 2 * k + 1, none⟩ = some (.int .i64 x2))
          (first
            | go_keep
            | (go_split_ands
               refine ⟨?_, ?_⟩
               · (rw [hgrow.cell_far _ (Nat.lt_trans hgw (by simp)) hgne]; assumption)
               · (rw [hgrow.cell_far _ (Nat.lt_trans hgw (by simp)) hgne]; assumption)))
          ((refine step_append_lit (by rfl) _ _ _ (by rfl) 76 2 16 _ i0 Try.underlying73 hi0 hz0 hz1 hz2 rfl (by omega) (by omega) w.heap.size wr.heap.size g' k c' _ (by rfl) ho #[.int .i64 x1, .int .i64 x2] 1 1 (by rfl) (by rfl) (by simp [Value.oneCell']) (by omega) hb.size ?_; intro g2 cd w5 ho5 hgrow hat _))
        clear n1 n2 n3 n4 n5 n6 n7 n8 p0 p1
        go_wp2_with fail
        go_roundw
        case rel =>
          have hgr : wr.grownBy w5 (some g') := ⟨hgrow.os, hgrow.tape, hgrow.output, Nat.le_trans (by simp) hgrow.size, fun q hq hne => (hgrow.block q (by simp; omega) hne).trans (Below.heap_alloc _ _ _ hq)⟩
          refine ⟨k + 1, g2, cd, by omega, by go_num, rfl, ?_, hb.grown hgr hb.size (fun q e => by cases e; exact ho.low), ?_, hkb.step hgr HG.out⟩
          · rw [HSn.out]; exact ho5
          · have := HG.out; have := hkb.1; omega
        case measure => simp [intOf]; omega
      · go_wp2_with fail
        go_ret
        obtain rfl : k = k4 := by omega
        have e : shotsL xs = (List.range k).map pr := by rw [HN.out, HP.out]; simp
        rw [e]
        refine ⟨g', c', ?_, ?_, hb⟩
        · simp
        · simpa using ho

end Go.Proofs.Ytimbfilbojejiaa
