/- Cleared: the head as it is then. -/
import Derived.Test.YtpnnbenehajipaaClk
namespace Go.Proofs.Ytpnnbenehajipaa
open Go.RowKit

/-- A head of one's own lies in block p. -/
def HBox (w : World) (p : Nat) (h : Hd) : Prop := w.heap[p]? = some (.cells #[.int .i64 h.size, .int .i64 h.first, .int .i64 h.refs, .int .i64 h.shots, .int .i64 h.many] 28 (0, 0))
theorem HBox.cell {w : World} {p : Nat} {h : Hd} (hb : HBox w p h) (j : Nat) : w.cell? ⟨p, j, none⟩ = (#[.int .i64 h.size, .int .i64 h.first, .int .i64 h.refs, .int .i64 h.shots, .int .i64 h.many] : Array Value)[j]? := cell_of_row w p j _ _ _ hb
theorem HBox.free {w : World} {p : Nat} {h : Hd} (hb : HBox w p h) (j : Nat) : w.frozen? ⟨p, j, none⟩ = false := frozen_of_row w p j _ _ hb
theorem HBox.lt {w : World} {p : Nat} {h : Hd} (hb : HBox w p h) : p < w.heap.size := (Array.getElem?_eq_some_iff.1 hb).1
theorem HBox.keep {w w' : World} {p : Nat} {h : Hd} (hb : HBox w p h) (hk : w'.heap[p]? = w.heap[p]?) : HBox w' p h := hk.trans hb
theorem HBox.new (w : World) (h : Hd) : HBox (w.alloc (.cells #[.int .i64 h.size, .int .i64 h.first, .int .i64 h.refs, .int .i64 h.shots, .int .i64 h.many] 28)) w.heap.size h := heap_alloc_new w _
theorem HBox.put1 {w : World} {p : Nat} {h : Hd} (hb : HBox w p h) (x : Int) : HBox (w.setCell ⟨p, 1, none⟩ (.int .i64 x)) p { h with first := x } := by
  unfold HBox at *
  simp only [World.setCell, Array.getElem?_modify]
  simp [hb]
theorem HBox.put2 {w : World} {p : Nat} {h : Hd} (hb : HBox w p h) (x : Int) : HBox (w.setCell ⟨p, 2, none⟩ (.int .i64 x)) p { h with refs := x } := by
  unfold HBox at *
  simp only [World.setCell, Array.getElem?_modify]
  simp [hb]
theorem HBox.put3 {w : World} {p : Nat} {h : Hd} (hb : HBox w p h) (x : Int) : HBox (w.setCell ⟨p, 3, none⟩ (.int .i64 x)) p { h with shots := x } := by
  unfold HBox at *
  simp only [World.setCell, Array.getElem?_modify]
  simp [hb]
theorem HBox.put4 {w : World} {p : Nat} {h : Hd} (hb : HBox w p h) (x : Int) : HBox (w.setCell ⟨p, 4, none⟩ (.int .i64 x)) p { h with many := x } := by
  unfold HBox at *
  simp only [World.setCell, Array.getElem?_modify]
  simp [hb]
def firstK (l : List Cm) (f : Int) : Int := if l.any (fun c => !c.good && c.kind == 2) = true then 0 else f
def refsK (l : List Cm) (r : Int) : Int := if l.any (fun c => !c.good && c.kind == 3) = true then 0 else r
theorem any_step (p : Cm → Bool) (l : List Cm) (k : Nat) (hk : k < l.length) : (l.take (k + 1)).any p = ((l.take k).any p || p l[k]) := by
  rw [List.take_succ_eq_append_getElem hk, List.any_append]; simp
/-- Where the loop of the head stands. -/
def HdRel (w : World) (l : List Cm) (s f r u m : Int) (b i : Value) (wr : World) : Prop :=
  ∃ k : Nat, k ≤ l.length ∧ i = .int .i64 k ∧ b = .bool (shotsOk (l.take k)) ∧ HBox wr w.heap.size ⟨s, firstK (l.take k) f, refsK (l.take k) r, u, m⟩ ∧ HBox wr (w.heap.size + 1) ⟨0, 0, 0, 0, 0⟩ ∧ Below w.heap.size w wr

set_option maxRecDepth 100000 in
set_option maxHeartbeats 4000000 in
theorem specHead12_any (g cap : Nat) (l : List Cm) (h : Hd) (keep : Int) (w : World) (hr : RdV 6 w w.heap.size (some ⟨g, 0, none⟩) l.length (l.flatMap cmV)) (hl : l.length ≤ 10000) :
    Calls Try.prog 23 #[hdV h, .slice (some ⟨g, 0, none⟩) l.length cap, .int .i64 keep] w fun e w' => e = .returned (.tuple #[hdV ⟨h.size, firstK l h.first, refsK l h.refs, if keep = 0 then 0 else h.shots, keep⟩, .bool (shotsOk l)]) ∧ Below w.heap.size w w' := by
  obtain ⟨s, f, r, u, m⟩ := h
  have b0 := HBox.new w ⟨s, f, r, u, m⟩
  have b1 := HBox.new (w.alloc (.cells #[.int .i64 s, .int .i64 f, .int .i64 r, .int .i64 u, .int .i64 m] 28)) ⟨0, 0, 0, 0, 0⟩
  have b0' := b0.keep (w' := (w.alloc (.cells #[.int .i64 s, .int .i64 f, .int .i64 r, .int .i64 u, .int .i64 m] 28)).alloc (.cells #[.int .i64 0, .int .i64 0, .int .i64 0, .int .i64 0, .int .i64 0] 28)) (Below.heap_alloc _ _ _ (by simp))
  have hz : (w.alloc (.cells #[.int .i64 s, .int .i64 f, .int .i64 r, .int .i64 u, .int .i64 m] 28)).heap.size = w.heap.size + 1 := by simp
  rw [hz] at b1
  have B2 := ((Below.refl w.heap.size w).alloc (Nat.le_refl _) (.cells #[.int .i64 s, .int .i64 f, .int .i64 r, .int .i64 u, .int .i64 m] 28)).alloc (by simp) (.cells #[.int .i64 0, .int .i64 0, .int .i64 0, .int .i64 0, .int .i64 0] 28)
  clear hz b0
  unfold hdV
  simp only
  go_enter Try.func23, Try.ntmps23
  go_wp2_with fail
  generalize ((w.alloc (.cells #[.int .i64 s, .int .i64 f, .int .i64 r, .int .i64 u, .int .i64 m] 28)).alloc (.cells #[.int .i64 0, .int .i64 0, .int .i64 0, .int .i64 0, .int .i64 0] 28)) = w2 at *
  go_loopw [8, 9] (fun b i wr => HdRel w l s f r u m b i wr) (fun _ i _ => l.length - (intOf i).toNat)
  case atStart => exact ⟨0, Nat.zero_le _, rfl, rfl, b0', b1, B2⟩
  case round =>
    obtain ⟨k, hk, rfl, rfl, hb0, hb1, hB⟩ := hrel
    have sr := hB.size
    have p0 := hb0.lt
    have p1 := hb1.lt
    by_cases hlt : k < l.length
    · have hce := cm_cells (hr.below hB) hlt
      have hgd : l.getD k cm0 = l[k] := by simp [List.getD_eq_getElem?_getD, hlt]
      rw [hgd] at hce
      have A5 := Lib.hid (any_step (fun c => c.good && c.kind == 5) l k hlt)
      have A2 := Lib.hid (any_step (fun c => !c.good && c.kind == 2) l k hlt)
      have A3 := Lib.hid (any_step (fun c => !c.good && c.kind == 3) l k hlt)
      have HS : Hid (∀ q, shotsOk (l.take q) = (l.take q).any (fun c => c.good && c.kind == 5)) := fun _ => rfl
      have HF : Hid (∀ q, firstK (l.take q) f = if (l.take q).any (fun c => !c.good && c.kind == 2) = true then 0 else f) := fun _ => rfl
      have HRf : Hid (∀ q, refsK (l.take q) r = if (l.take q).any (fun c => !c.good && c.kind == 3) = true then 0 else r) := fun _ => rfl
      have HB := Lib.hid hB
      clear hgd hB
      generalize l[k] = x at *
      obtain ⟨xk, xf, xs', xp, xt, xg⟩ := x
      have e0 : wr.cell? ⟨g, k * 6, none⟩ = some (.int .i64 xk) := hce 0 (by omega)
      have e1 : wr.cell? ⟨g, k * 6 + 1, none⟩ = some (.int .i64 xf) := hce 1 (by omega)
      have e2 : wr.cell? ⟨g, k * 6 + 2, none⟩ = some (.int .i64 xs') := hce 2 (by omega)
      have e3 : wr.cell? ⟨g, k * 6 + 3, none⟩ = some (.int .i64 xp) := hce 3 (by omega)
      have e4 : wr.cell? ⟨g, k * 6 + 4, none⟩ = some (.int .i64 xt) := hce 4 (by omega)
      have e5 : wr.cell? ⟨g, k * 6 + 5, none⟩ = some (.bool xg) := hce 5 (by omega)
      clear hce
      have hba := hb0.keep (w' := wr.alloc (.cells #[.int .i64 xk, .int .i64 xf, .int .i64 xs', .int .i64 xp, .int .i64 xt, .bool xg] 43)) (Below.heap_alloc _ _ _ p0)
      have hbb := hb1.keep (w' := wr.alloc (.cells #[.int .i64 xk, .int .i64 xf, .int .i64 xs', .int .i64 xp, .int .i64 xt, .bool xg] 43)) (Below.heap_alloc _ _ _ p1)
      have hBa := HB.out.alloc sr (.cells #[.int .i64 xk, .int .i64 xf, .int .i64 xs', .int .i64 xp, .int .i64 xt, .bool xg] 43)
      have HBa := Lib.hid hBa
      have HHa := Lib.hid hba
      have HHb := Lib.hid hbb
      have H0 := Lib.hid hb0
      have H1 := Lib.hid hb1
      clear hBa hb0 hb1 hbb
      cases xg
      · have E5 : Hid (shotsOk (l.take (k + 1)) = shotsOk (l.take k)) := by rw [HS.out, HS.out, A5.out]; exact Bool.or_false _
        by_cases h2 : xk = 2
        · subst h2
          have d2 : ((2 : Int) == 2) = true := by simp
          have E2 : Hid (firstK (l.take (k + 1)) f = 0) := by rw [HF.out, A2.out]; simp [Hid]
          have E3 : Hid (refsK (l.take (k + 1)) r = refsK (l.take k) r) := by rw [HRf.out, HRf.out, A3.out]; simp [Hid]
          have c1 := hba.cell 1
          have f1 := hba.free 1
          have HP := Lib.hid (H0.out.put1 0)
          have HBs1 : Hid (Below w.heap.size w (wr.setCell ⟨w.heap.size, 1, none⟩ (.int .i64 0))) := HB.out.setCell (Nat.le_refl _) _
          clear A2 A3 A5 HS HF HRf hba
          generalize shotsOk (l.take k) = bk at *
          generalize firstK (l.take k) f = fk at *
          generalize refsK (l.take k) r = rk at *
          go_wp2_with fail
          go_roundw
          case rel => exact ⟨k + 1, by omega, by go_num, by rw [E5.out], by rw [E2.out, E3.out]; exact HP.out.keep (Below.heap_alloc _ _ _ HP.out.lt), (H1.out.keep (w' := wr.setCell ⟨w.heap.size, 1, none⟩ (.int .i64 0)) (Below.heap_setCell _ _ _ _ (by show w.heap.size + 1 ≠ w.heap.size; omega))).keep (Below.heap_alloc _ _ _ (H1.out.keep (w' := wr.setCell ⟨w.heap.size, 1, none⟩ (.int .i64 0)) (Below.heap_setCell _ _ _ _ (by show w.heap.size + 1 ≠ w.heap.size; omega))).lt), HBs1.out.alloc (by have := HP.out.lt; omega) _⟩
          case measure => simp [intOf]; omega
        · have d2 : (xk == 2) = false := by simpa using h2
          have E2 : Hid (firstK (l.take (k + 1)) f = firstK (l.take k) f) := by rw [HF.out, HF.out, A2.out]; simp [h2, Hid]
          by_cases h3 : xk = 3
          · subst h3
            have d3 : ((3 : Int) == 3) = true := by simp
            have E3 : Hid (refsK (l.take (k + 1)) r = 0) := by rw [HRf.out, A3.out]; simp [Hid]
            have c2 := hba.cell 2
            have f2 := hba.free 2
            have HP := Lib.hid (H0.out.put2 0)
            have HBs2 : Hid (Below w.heap.size w (wr.setCell ⟨w.heap.size, 2, none⟩ (.int .i64 0))) := HB.out.setCell (Nat.le_refl _) _
            clear A2 A3 A5 HS HF HRf hba h2
            generalize shotsOk (l.take k) = bk at *
            generalize firstK (l.take k) f = fk at *
            generalize refsK (l.take k) r = rk at *
            go_wp2_with fail
            go_roundw
            case rel => exact ⟨k + 1, by omega, by go_num, by rw [E5.out], by rw [E2.out, E3.out]; exact HP.out.keep (Below.heap_alloc _ _ _ HP.out.lt), (H1.out.keep (w' := wr.setCell ⟨w.heap.size, 2, none⟩ (.int .i64 0)) (Below.heap_setCell _ _ _ _ (by show w.heap.size + 1 ≠ w.heap.size; omega))).keep (Below.heap_alloc _ _ _ (H1.out.keep (w' := wr.setCell ⟨w.heap.size, 2, none⟩ (.int .i64 0)) (Below.heap_setCell _ _ _ _ (by show w.heap.size + 1 ≠ w.heap.size; omega))).lt), HBs2.out.alloc (by have := HP.out.lt; omega) _⟩
            case measure => simp [intOf]; omega
          · have d3 : (xk == 3) = false := by simpa using h3
            have E3 : Hid (refsK (l.take (k + 1)) r = refsK (l.take k) r) := by rw [HRf.out, HRf.out, A3.out]; simp [h3, Hid]
            clear A2 A3 A5 HS HF HRf hba h2 h3
            generalize shotsOk (l.take k) = bk at *
            go_wp2_with fail
            go_roundw
            case rel => exact ⟨k + 1, by omega, by go_num, by rw [E5.out], by rw [E2.out, E3.out]; exact HHa.out, HHb.out, HBa.out⟩
            case measure => simp [intOf]; omega
      · have E2 : Hid (firstK (l.take (k + 1)) f = firstK (l.take k) f) := by rw [HF.out, HF.out, A2.out]; simp [Hid]
        have E3 : Hid (refsK (l.take (k + 1)) r = refsK (l.take k) r) := by rw [HRf.out, HRf.out, A3.out]; simp [Hid]
        have E5 : Hid (shotsOk (l.take (k + 1)) = (shotsOk (l.take k) || (xk == 5))) := by rw [HS.out, HS.out, A5.out]; exact rfl
        clear A2 A3 A5 HS HF HRf hba
        generalize shotsOk (l.take k) = bk at *
        cases bk
        · go_wp2_with fail
          go_roundw
          case rel => exact ⟨k + 1, by omega, by go_num, by rw [E5.out, Bool.false_or], by rw [E2.out, E3.out]; exact HHa.out, HHb.out, HBa.out⟩
          case measure => simp [intOf]; omega
        · go_wp2_with fail
          go_roundw
          case rel => exact ⟨k + 1, by omega, by go_num, by rw [E5.out, Bool.true_or], by rw [E2.out, E3.out]; exact HHa.out, HHb.out, HBa.out⟩
          case measure => simp [intOf]; omega
    · obtain rfl : k = l.length := by omega
      rw [List.take_length] at hb0 ⊢
      have c0 : wr.cell? ⟨w.heap.size, 0, none⟩ = some (.int .i64 s) := hb0.cell 0
      have c1 : wr.cell? ⟨w.heap.size, 1, none⟩ = some (.int .i64 (firstK l f)) := hb0.cell 1
      have c2 : wr.cell? ⟨w.heap.size, 2, none⟩ = some (.int .i64 (refsK l r)) := hb0.cell 2
      have c3 : wr.cell? ⟨w.heap.size, 3, none⟩ = some (.int .i64 u) := hb0.cell 3
      have c4 : wr.cell? ⟨w.heap.size, 4, none⟩ = some (.int .i64 m) := hb0.cell 4
      have f3 := hb0.free 3
      have f4 := hb0.free 4
      have e0 : wr.cell? ⟨w.heap.size + 1, 0, none⟩ = some (.int .i64 0) := hb1.cell 0
      have e1 : wr.cell? ⟨w.heap.size + 1, 1, none⟩ = some (.int .i64 0) := hb1.cell 1
      have e2 : wr.cell? ⟨w.heap.size + 1, 2, none⟩ = some (.int .i64 0) := hb1.cell 2
      have e3 : wr.cell? ⟨w.heap.size + 1, 3, none⟩ = some (.int .i64 0) := hb1.cell 3
      have e4 : wr.cell? ⟨w.heap.size + 1, 4, none⟩ = some (.int .i64 0) := hb1.cell 4
      have k0 := hb1.free 0
      have k1 := hb1.free 1
      have k2 := hb1.free 2
      have k3 := hb1.free 3
      have k4 := hb1.free 4
      have HB := Lib.hid hB
      clear hb0 hb1 hB
      by_cases h0 : keep = 0
      · subst h0
        have d0 : ((0 : Int) == 0) = true := by simp
        go_wp2_with fail
        refine bodyPost_ret (v := .tuple #[hdV ⟨s, firstK l f, refsK l r, 0, 0⟩, .bool (shotsOk l)]) (by simp [results, Try.results23, go_sem, hdV, e0, e1, e2, e3, e4]) rfl ⟨rfl, ?_⟩
        iterate 7 (refine Below.setCell ?_ (by show w.heap.size ≤ _; simp) _)
        exact HB.out
      · have d0 : (keep == 0) = false := by simpa using h0
        go_wp2_with fail
        refine bodyPost_ret (v := .tuple #[hdV ⟨s, firstK l f, refsK l r, u, keep⟩, .bool (shotsOk l)]) (by simp [results, Try.results23, go_sem, hdV, e0, e1, e2, e3, e4]) rfl ⟨rfl, ?_⟩
        iterate 6 (refine Below.setCell ?_ (by show w.heap.size ≤ _; simp) _)
        exact HB.out
end Go.Proofs.Ytpnnbenehajipaa
