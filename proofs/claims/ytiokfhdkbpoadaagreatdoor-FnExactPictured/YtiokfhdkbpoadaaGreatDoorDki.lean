/- A disk behind a pointer (chapter 17): its methods, the program's side. -/
import Derived.Test.YtiokfhdkbpoadaaGreatDoorWpd
import Derived.Test.YtiokfhdkbpoadaaGreatDoorQP
import Derived.Test.YtiokfhdkbpoadaaGreatDoorW1
import Derived.Test.YtiokfhdkbpoadaaGreatDoorX1
namespace Go.Proofs.YtiokfhdkbpoadaaGreatDoor
open Go.RowKit

/-- A disk in block p: its image reads as xs, its next number is k. -/
structure DkAt (w : World) (p : Nat) (A : Option Addr) (n c : Nat) (xs : List Int) (k : Int) : Prop where
  box : w.heap[p]? = some (.cells #[.slice A n c, .int .i64 k] 71 (0, 0))
  rd : Rd w w.heap.size A n xs
  cap : n ≤ c
  small : n ≤ 2097152
  off : 0 < n → ∀ b o, A = some ⟨b, o, none⟩ → b ≠ p
/-- The disk is another one now; nothing else has turned. -/
def Turned (w w' : World) (p : Nat) (ys : List Int) (k : Int) : Prop := ∃ A n c, DkAt w' p A n c ys k ∧ Grow2 w w' p p

/-- Its image lies in a block that was not there. -/
def TurnedN (w w' : World) (p : Nat) (ys : List Int) (k : Int) : Prop := ∃ A n c, DkAt w' p A n c ys k ∧ Grow2 w w' p p ∧ (0 < n → ∀ b o, A = some ⟨b, o, none⟩ → w.heap.size ≤ b)

section
variable {w w' : World} {p n c : Nat} {A : Option Addr} {xs : List Int} {k : Int}
theorem DkAt.cell (H : DkAt w p A n c xs k) (j : Nat) : w.cell? ⟨p, j, none⟩ = (#[.slice A n c, .int .i64 k] : Array Value)[j]? := cell_of_row w p j _ _ _ H.box
theorem DkAt.free (H : DkAt w p A n c xs k) (j : Nat) : w.frozen? ⟨p, j, none⟩ = false := frozen_of_row w p j _ _ H.box
theorem DkAt.lt (H : DkAt w p A n c xs k) : p < w.heap.size := (Array.getElem?_eq_some_iff.1 H.box).1
theorem DkAt.below (H : DkAt w p A n c xs k) (b : Below w.heap.size w w') : DkAt w' p A n c xs k := ⟨(b.block p H.lt).trans H.box, (H.rd.below b).more b.size, H.cap, H.small, H.off⟩
theorem DkAt.drew (H : DkAt w p A n c xs k) : DkAt w.drew p A n c xs k := ⟨H.box, H.rd, H.cap, H.small, H.off⟩
theorem setCell_off (w : World) (p j : Nat) (v : Value) (q : Addr) (h : q.block ≠ p) : (w.setCell ⟨p, j, none⟩ v).cell? q = w.cell? q := World.cell?_of_block (w := w) (Below.heap_setCell _ _ _ _ h)
theorem DkAt.put {A' : Option Addr} {n' c' : Nat} {ys : List Int} (H : DkAt w p A n c xs k) (hr : Rd w w.heap.size A' n' ys) (hc : n' ≤ c') (hs : n' ≤ 2097152) (ho : 0 < n' → ∀ b o, A' = some ⟨b, o, none⟩ → b ≠ p) :
    DkAt (w.setCell ⟨p, 0, none⟩ (.slice A' n' c')) p A' n' c' ys k := by
  refine ⟨?_, ⟨hr.1, fun h0 => ?_⟩, hc, hs, ho⟩
  · simp [World.setCell, Array.getElem?_modify, H.box]
  · obtain ⟨b, o, e, hb, hx⟩ := hr.2 h0
    refine ⟨b, o, e, by simpa [World.setCell] using hb, fun j hj => ?_⟩
    rw [setCell_off _ _ _ _ _ (ho h0 b o e)]
    exact hx j hj
theorem DkAt.next (H : DkAt w p A n c xs k) (k' : Int) : DkAt (w.setCell ⟨p, 1, none⟩ (.int .i64 k')) p A n c xs k' := by
  refine ⟨?_, ⟨H.rd.1, fun h0 => ?_⟩, H.cap, H.small, H.off⟩
  · simp [World.setCell, Array.getElem?_modify, H.box]
  · obtain ⟨b, o, e, hb, hx⟩ := H.rd.2 h0
    refine ⟨b, o, e, by simpa [World.setCell] using hb, fun j hj => ?_⟩
    rw [setCell_off _ _ _ _ _ (H.off h0 b o e)]
    exact hx j hj
theorem Turned.refl (H : DkAt w p A n c xs k) : Turned w w p xs k := ⟨A, n, c, H, Grow2.refl _ _ _⟩
end

theorem TurnedN.old {w w' : World} {p : Nat} {ys : List Int} {k : Int} (h : TurnedN w w' p ys k) : Turned w w' p ys k := by
  obtain ⟨A, n, c, H, G, _⟩ := h
  exact ⟨A, n, c, H, G⟩

theorem withL_length (xs : List Int) (t : Int) (ws : List Int) : (withL xs t ws).length ≤ 2097152 := by
  unfold withL
  split
  · rename_i h
    unfold withB at h
    simp only [Bool.and_eq_true, decide_eq_true_eq] at h
    obtain ⟨h1, h2, h3, h4⟩ := h
    have hi := imgB_len h1
    have h3 := inB_true.1 h3
    have h8 := eightB_len h2
    unfold setCl
    simp only [List.length_append, List.length_take, List.length_drop, h8, whole_length]
    unfold manyN
    omega
  · simp
theorem ow_new {w w1 : World} {A : Option Addr} {n c : Nat} {ys : List Int} {p : Nat} (o : Ow w1 w.heap.size w1.heap.size A n c ys) (hp : p < w.heap.size) : n ≤ c ∧ (0 < n → ∀ b o', A = some ⟨b, o', none⟩ → b ≠ p) := by
  rcases o.form with ⟨e, h1, h2⟩ | ⟨g, e, h1, h2, h3, h4⟩
  · exact ⟨by omega, fun _ b o' h => by rw [e] at h; cases h⟩
  · refine ⟨h4, fun _ b o' h => ?_⟩
    rw [e] at h
    injection h with h
    injection h with h
    omega

theorem ow_lo {w1 : World} {lo hi : Nat} {A : Option Addr} {n c : Nat} {ys : List Int} (o : Ow w1 lo hi A n c ys) : 0 < n → ∀ b o', A = some ⟨b, o', none⟩ → lo ≤ b := by
  intro h0 b o' h
  rcases o.form with ⟨e, h1, h2⟩ | ⟨g, e, h1, h2, h3, h4⟩
  · omega
  · rw [e] at h
    injection h with h
    injection h with h
    omega

set_option maxHeartbeats 1000000 in
/-- Function 36. -/
theorem newCluster_any (p : Nat) (A : Option Addr) (n c : Nat) (xs : List Int) (k : Int) (W : Option Addr) (nw cw : Nat) (ws : List Int) (w : World) (H : DkAt w p A n c xs k) (hw : Rd w w.heap.size W nw ws) (hnw : nw ≤ 2097152) (hk0 : 0 ≤ k) (hk : k ≤ 1000) :
    Calls Tryz.prog 36 #[.pointer (some ⟨p, 0, none⟩), .slice W nw cw] w fun e w' => e = .returned (.int .i64 k) ∧ TurnedN w w' p (withL xs k ws) (k + 1) := by
  have c0 : w.cell? ⟨p, 0, none⟩ = some (.slice A n c) := H.cell 0
  have c1 : w.cell? ⟨p, 1, none⟩ = some (.int .i64 k) := H.cell 1
  have n1 : IntKind.i64.wrap (k + 1) = k + 1 := IntWalk.i64_in _ (by omega)
  have HH := Lib.hid H
  have hlp := H.lt
  clear H
  go_enter Tryz.func36, Tryz.ntmps36
  go_wp2_with fail
  refine (implWcl_any A n c xs k W nw cw ws w HH.out.rd hw HH.out.small hnw).mono ?_
  rintro e w1 ⟨G, ng, cg, rfl, oG, b1⟩
  have H1 := Lib.hid (HH.out.below b1)
  have d0 : w1.cell? ⟨p, 0, none⟩ = some (.slice A n c) := H1.out.cell 0
  have d1 : w1.cell? ⟨p, 1, none⟩ = some (.int .i64 k) := H1.out.cell 1
  have f0 := H1.out.free 0
  have f1 := H1.out.free 1
  have HO := Lib.hid (ow_new oG hlp)
  have HL := Lib.hid (withL_length xs k ws)
  have HG := Lib.hid ((Grow2.refl w p p).below b1)
  have OG := Lib.hid oG
  clear c0 c1 b1 oG
  go_wp2_with fail
  go_ret
  have hgl := OG.out.len
  exact ⟨rfl, G, ng, cg, (H1.out.put OG.out.rd HO.out.1 (by rw [← hgl]; exact HL.out) HO.out.2).next _, (HG.out.put _ _).put _ _, ow_lo OG.out⟩

theorem rd_row {w : World} {q B : Nat} {T : TypeId} {ys : List Int} (h : w.heap[q]? = some (.cells (iv ys).toArray T (0, 0))) (hB : q < B) : Rd w B (some ⟨q, 0, none⟩) ys.length ys := by
  refine ⟨rfl, fun _ => ⟨q, 0, rfl, hB, fun j hj => ?_⟩⟩
  rw [Nat.zero_add, cell_of_row _ q j _ T (0, 0) h]
  simpa using iv_get ys j hj
theorem rd_source {w : World} {B n : Nat} {A : Option Addr} {ws : List Int} (h : Rd w B A n ws) : 0 < (iv ws).length → ∃ ad, A = some ad ∧ ∀ (j : Nat) (v : Value), (iv ws)[j]? = some v → w.cell? (ad.add j) = some v := by
  intro h0
  have hl := h.len
  rw [iv_length] at h0
  obtain ⟨b, off, rfl, hb, hc⟩ := h.2 (by omega)
  exact ⟨_, rfl, rd_news h⟩

set_option maxRecDepth 100000 in
set_option maxHeartbeats 4000000 in
/-- Function 34. -/
theorem dkInto_any (hT : TableC) (p : Nat) (A : Option Addr) (n c : Nat) (xs : List Int) (k : Int) (t : Int) (s : Nat) (V : Option Addr) (nv cv : Nat) (vs : List Int) (w : World) (H : DkAt w p A n c xs k) (hv : Rd w w.heap.size V nv vs) (hs : s + nv ≤ 8) (hn0 : 0 < nv) :
    Calls Tryz.prog 34 #[.pointer (some ⟨p, 0, none⟩), .int .i64 t, .int .i64 s, .slice V nv cv] w fun e w' => e = .returned (.tuple #[]) ∧ TurnedN w w' p (intoL xs t s vs) k := by
  have HH := Lib.hid H
  have hlp := H.lt
  have HV := Lib.hid hv
  have hvl := Lib.hid hv.len
  have HTL := Lib.hid (tableL_length xs t)
  have HTB := Lib.hid (tab8_table xs t)
  have HT8 := Lib.hid (tab8_length xs t)
  clear H hv
  go_enter Tryz.func34, Tryz.ntmps34
  go_wp2_with fail
  have B0 := Lib.hid ((Below.refl w.heap.size w).alloc (Nat.le_refl _) (.cells #[.int .i64 0, .int .i64 0, .int .i64 0, .int .i64 0, .int .i64 0, .int .i64 0, .int .i64 0, .int .i64 0] 64))
  have Q0 : Hid ((w.alloc (.cells #[.int .i64 0, .int .i64 0, .int .i64 0, .int .i64 0, .int .i64 0, .int .i64 0, .int .i64 0, .int .i64 0] 64)).heap[w.heap.size]? = some (.cells (iv (List.replicate 8 0)).toArray 64 (0, 0))) := heap_alloc_new _ _
  have hql : w.heap.size < (w.alloc (.cells #[.int .i64 0, .int .i64 0, .int .i64 0, .int .i64 0, .int .i64 0, .int .i64 0, .int .i64 0, .int .i64 0] 64)).heap.size := by simp
  generalize (w.alloc (.cells #[.int .i64 0, .int .i64 0, .int .i64 0, .int .i64 0, .int .i64 0, .int .i64 0, .int .i64 0, .int .i64 0] 64)) = v at *
  obtain ⟨q, hq⟩ : ∃ q, q = w.heap.size := ⟨_, rfl⟩
  rw [← hq] at Q0 hql ⊢
  have HQ := Lib.hid hq
  clear hq
  have HV0 := Lib.hid (HH.out.below B0.out)
  have c0 : v.drew.cell? ⟨p, 0, none⟩ = some (.slice A n c) := HV0.out.cell 0
  have hpv : p < v.drew.heap.size := HV0.out.lt
  have hrd : Rd v.drew v.drew.heap.size A n xs := HV0.out.rd
  have hqd : q < v.drew.heap.size := hql
  go_region_law
    (first
      | (refine step_copy_splice (by rfl) (.tmp 9) (.tmp 15) 22 22 (by rfl) 2 Tryz.underlying22 info2s (some ⟨q, 0, none⟩) G 8 8 ng cg (by kernel_rfl) (by kernel_rfl) q 0 (iv (List.replicate 8 0)) 64 Q2.out (iv (tableL xs t)) HN.out HP.out HF.out (int_one _) w.heap.size w B2.out (Nat.le_of_eq HQ.out.symm) ?_; intro w5 h5 b5; have H5 := Lib.hid b5; clear b5)
      | (go_simp; go_at_call 43; refine (hT A n c xs t _ hrd HH.out.small HH.out.cap).mono ?_; rintro e w2 ⟨G, ng, cg, rfl, oG, b2⟩
         have Q2 : Hid (w2.heap[q]? = some (.cells (iv (List.replicate 8 0)).toArray 64 (0, 0))) := (b2.block q hqd).trans Q0.out
         have hgl : (tableL xs t).length = ng := oG.len
         have hg8 : (tableL xs t).length ≤ 8 := by rcases HTL.out with h | h <;> omega
         have HN : Hid ((iv (tableL xs t)).length = Nat.min ng 8) := by rw [iv_length, hgl]; exact (Nat.min_eq_left (by omega)).symm
         have HP : Hid (0 < (iv (tableL xs t)).length → (some ⟨q, 0, none⟩ : Option Addr) = some ⟨q, 0, none⟩ ∧ ∃ ad, G = some ad ∧ ∀ j v, (iv (tableL xs t))[j]? = some v → w2.cell? (ad.add j) = some v) := fun h => ⟨rfl, rd_source oG.rd h⟩
         have HF : Hid (0 + (iv (tableL xs t)).length ≤ (iv (List.replicate 8 0)).length) := by show _ ≤ _; rw [iv_length, iv_length, List.length_replicate]; omega
         have B2 : Hid (Below w.heap.size w w2) := below_more B0.out.drew b2 B0.out.size
         clear hgl hg8 oG))

  have Q5 : Hid (w5.heap[q]? = some (.cells (iv (tab8 xs t)).toArray 64 (0, 0))) := by
    show _ = _
    rw [h5.out, iv_splice, ← HTB.out]
  have hs8 : s < 8 := by omega
  have hse : ¬ 8 = s := by omega
  have hs8a : s ≤ 8 := by omega
  have hs8b : (s : Int) ≤ 8 := by omega
  have hal : (s : Int) ≤ ((Tryz.prog.arrayLen 64 : Nat) : Int) := by rw [show Tryz.prog.arrayLen 64 = 8 from by kernel_rfl]; omega
  have HVV := Lib.hid (HV.out.below H5.out)
  have H25 := Lib.hid (HH.out.below H5.out)
  clear h5
  go_wp2_with (with_reducible refine wpList_copy_splice (o := ⟨some 20, _, _, _, _, _⟩) rfl (.tmp 18) (.tmp 19) 22 22 rfl 2 Tryz.underlying22 info2s _ V (8 - s) (8 - s) nv cv rfl rfl q s (iv (tab8 xs t)) 64 Q5.out (iv vs) ?c1 ?c2 ?c3 (int_one vs) w.heap.size w H5.out ?c4 ?c5)
  case c1 => rw [iv_length, hvl.out]; exact (Nat.min_eq_left (by omega)).symm
  case c2 => exact fun h => rd_source HVV.out h
  case c3 => rw [iv_length, iv_length, hvl.out, HT8.out]; omega
  case c4 => rw [HQ.out]; exact Nat.le_refl _
  case c5 =>
    intro w6 h6 b6
    have B6 := Lib.hid b6
    have H6 := Lib.hid (HH.out.below b6)
    have hsl : Hid ((Go.splice (tab8 xs t) s vs).length = 8) := by
      show _ = _
      rw [Go.length_splice _ _ _ (by rw [hvl.out, HT8.out]; omega), HT8.out]
    have hq6 : q < w6.heap.size := (Array.getElem?_eq_some_iff.1 h6.out).1
    have R6 : Hid (Rd w6 w6.heap.size (some ⟨q, 0, none⟩) 8 (Go.splice (tab8 xs t) s vs)) := by
      have h := h6.out
      rw [iv_splice] at h
      have r := rd_row h hq6
      rw [hsl.out] at r
      exact r
    obtain ⟨ys, hys⟩ : ∃ ys, ys = Go.splice (tab8 xs t) s vs := ⟨_, rfl⟩
    have HIL : Hid (intoL xs t s vs = withL xs t ys) := by show _ = _; rw [hys]; exact rfl
    rw [← hys] at R6
    clear h6 b6 hys
    have e0 : w6.cell? ⟨p, 0, none⟩ = some (.slice A n c) := H6.out.cell 0
    go_wp2_with fail
    have e1 : w6.drew.cell? ⟨p, 0, none⟩ = some (.slice A n c) := e0
    have HL := Lib.hid (withL_length xs t ys)
    go_region_law
      (go_simp; go_at_call 29; refine (implWcl_any A n c xs t _ 8 8 ys w6.drew H6.out.rd R6.out HH.out.small (by omega)).mono ?_; rintro e w7 ⟨G7, n7, c7, rfl, o7, b7⟩
       have H7 := Lib.hid (H6.out.drew.below b7)
       have f7 := H7.out.cell 0
       have f0 := H7.out.free 0
       have O7 := Lib.hid o7
       have B7 := Lib.hid (below_more B6.out.drew b7 B6.out.size)
       have HO := Lib.hid (ow_new (w := w6.drew) o7 H6.out.lt)
       clear o7 b7)
    go_end0
    rw [HIL.out]
    exact ⟨rfl, G7, n7, c7, H7.out.put O7.out.rd HO.out.1 (by rw [← O7.out.len]; exact HL.out) HO.out.2, ((Grow2.refl w p p).below B7.out).put _ _, fun h0 b o e => Nat.le_trans B6.out.size (ow_lo O7.out h0 b o e)⟩
end Go.Proofs.YtiokfhdkbpoadaaGreatDoor
