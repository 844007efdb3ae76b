/- A disk (chapter 17): it is made, its head is written, its second table told, all put right: the program's side. -/
import Derived.Test.YtiokfhdkbpoadaaGreatDoorDki
import Derived.Test.YtiokfhdkbpoadaaGreatDoorQH
import Derived.Test.YtiokfhdkbpoadaaGreatDoorZ1
namespace Go.Proofs.YtiokfhdkbpoadaaGreatDoor
open Go.RowKit

theorem firstEntry_wordB (xs : List Int) (s : Int) : wordB (firstEntry xs 0 s) = true := by
  unfold firstEntry
  split
  · unfold tableL
    split
    · rename_i h
      unfold cl f8
      rw [List.getD_eq_getElem?_getD, List.getElem?_map]
      cases hx : (List.range 8)[s.toNat]? with
      | none => rfl
      | some j => exact inB_true.2 (word_get (hasHead_img h.1) _)
    · rfl
  · rfl
theorem Turned.of {w w1 w' : World} {p : Nat} {ys : List Int} {k : Int} (b : Below w.heap.size w w1) (h : Turned w1 w' p ys k) : Turned w w' p ys k := by
  obtain ⟨A, n, c, H, G⟩ := h
  exact ⟨A, n, c, H, Grow2.after b G⟩
theorem Turned.next {w w1 w' : World} {p : Nat} {ys : List Int} {k : Int} (g : Grow2 w w1 p p) (h : Turned w1 w' p ys k) : Turned w w' p ys k := by
  obtain ⟨A, n, c, H, G⟩ := h
  exact ⟨A, n, c, H, g.next (.inl rfl) G⟩

/-- Function 32. -/
theorem diskOf_any (A : Option Addr) (n c : Nat) (xs : List Int) (w : World) (hr : Rd w w.heap.size A n xs) (hn : n ≤ 2097152) (hnc : n ≤ c) :
    Calls Tryz.prog 32 #[.slice A n c] w fun e w' => ∃ p, e = .returned (.pointer (some ⟨p, 0, none⟩)) ∧ w.heap.size ≤ p ∧ DkAt w' p A n c xs (manyI xs) ∧ Below w.heap.size w w' := by
  have HR := Lib.hid hr
  go_enter Tryz.func32, Tryz.ntmps32
  go_wp2_with fail
  refine (implClin_any _ _ _ _ _ hr hn).mono ?_
  rintro e w1 ⟨rfl, b1⟩
  have B1 := Lib.hid b1
  clear b1 hr
  go_wp2_with fail
  go_ret
  have h1 := (HR.out.below B1.out).more B1.out.size
  refine ⟨w1.heap.size, rfl, B1.out.size, ⟨heap_alloc_new _ _, (h1.below ((Below.refl _ _).alloc (Nat.le_refl _) _)).more (by simp), hnc, hn, fun h0 b o e => ?_⟩, B1.out.alloc B1.out.size _⟩
  subst e
  obtain ⟨b', o', e', hb', _⟩ := h1.2 h0
  injection e' with e'
  injection e' with e'
  omega

/-- Function 37. -/
theorem putRight_any {W : World} (hC : CountedC W) (hO : OwnedC W) (p : Nat) (A : Option Addr) (n c : Nat) (xs : List Int) (k : Int) (w : World) (H : DkAt w p A n c xs k) (hW : Below W.heap.size W w) :
    Calls Tryz.prog 37 #[.pointer (some ⟨p, 0, none⟩)] w (Ret w (ownedL (countedL xs))) := by
  have c0 : w.cell? ⟨p, 0, none⟩ = some (.slice A n c) := H.cell 0
  have HH := Lib.hid H
  clear H
  go_enter Tryz.func37, Tryz.ntmps37
  go_wp2_with fail
  refine (hC A n c xs w hW HH.out.rd HH.out.small HH.out.cap).mono ?_
  rintro e w1 ⟨A1, n1, c1, rfl, o1, b1⟩
  have hcl := countedL_length xs
  have HL := Lib.hid o1.len
  have HF := Lib.hid o1.form
  go_wp2_with fail
  refine (hO A1 n1 c1 (countedL xs) w1 (below_more hW b1 hW.size) (o1.rd.more (Nat.le_refl _)) (by have := HL.out; omega) (by rcases HF.out with h | ⟨g, _, _, _, _, h⟩ <;> omega)).mono ?_
  rintro e w2 ⟨A2, n2, c2, rfl, o2, b2⟩
  go_wp2_with fail
  go_ret
  exact ⟨A2, n2, c2, rfl, o2.more b1.size (Nat.le_refl _), below_more b1 b2 b1.size⟩

set_option maxRecDepth 100000 in
set_option maxHeartbeats 4000000 in
/-- Function 44. -/
theorem dkHead_any (p : Nat) (A : Option Addr) (n c : Nat) (xs : List Int) (k : Int) (s f r u m : Int) (w : World) (H : DkAt w p A n c xs k) :
    Calls Tryz.prog 44 #[.pointer (some ⟨p, 0, none⟩), .agg #[.int .i64 s, .int .i64 f, .int .i64 r, .int .i64 u, .int .i64 m]] w fun e w' => e = .returned (.tuple #[]) ∧ Turned w w' p (headP xs ⟨s, f, r, u, m⟩) k := by
  have hxl := Lib.hid H.rd.len
  have B0 := Lib.hid ((Below.refl w.heap.size w).alloc (Nat.le_refl _) (.cells #[.int .i64 s, .int .i64 f, .int .i64 r, .int .i64 u, .int .i64 m] 31))
  have H0 := Lib.hid (H.below B0.out)
  have c0 := H0.out.cell 0
  by_cases hn : n = 0
  · have HE : Hid (headP xs ⟨s, f, r, u, m⟩ = xs) := by
      show _ = _
      unfold headP
      rw [if_pos (by rw [hxl.out, hn])]
    have hd : ((n : Int) != 0) = false := by rw [hn]; rfl
    clear H
    go_enter Tryz.func44, Tryz.ntmps44
    go_wp2_with fail
    go_end0
    rw [HE.out]
    exact ⟨rfl, A, n, c, H0.out, (Grow2.refl w p p).below B0.out⟩
  · have HE : Hid (headP xs ⟨s, f, r, u, m⟩ = withHead xs ⟨s, f, r, u, m⟩) := by
      show _ = _
      unfold headP
      rw [if_neg (by rw [hxl.out]; exact hn)]
    have hd : ((n : Int) != 0) = true := by rw [bne_iff_ne]; omega
    have hlp := H0.out.lt
    clear H
    go_enter Tryz.func44, Tryz.ntmps44
    go_wp2_with fail
    have G0 := Lib.hid ((Grow2.refl w p p).below B0.out)
    have q0 : (w.alloc (.cells #[.int .i64 s, .int .i64 f, .int .i64 r, .int .i64 u, .int .i64 m] 31)).cell? ⟨w.heap.size, 0, none⟩ = some (.int .i64 s) := (World.cell?_alloc_new _ _ _ _).trans rfl
    have q1 : (w.alloc (.cells #[.int .i64 s, .int .i64 f, .int .i64 r, .int .i64 u, .int .i64 m] 31)).cell? ⟨w.heap.size, 1, none⟩ = some (.int .i64 f) := (World.cell?_alloc_new _ _ _ _).trans rfl
    have q2 : (w.alloc (.cells #[.int .i64 s, .int .i64 f, .int .i64 r, .int .i64 u, .int .i64 m] 31)).cell? ⟨w.heap.size, 2, none⟩ = some (.int .i64 r) := (World.cell?_alloc_new _ _ _ _).trans rfl
    have q3 : (w.alloc (.cells #[.int .i64 s, .int .i64 f, .int .i64 r, .int .i64 u, .int .i64 m] 31)).cell? ⟨w.heap.size, 3, none⟩ = some (.int .i64 u) := (World.cell?_alloc_new _ _ _ _).trans rfl
    have q4 : (w.alloc (.cells #[.int .i64 s, .int .i64 f, .int .i64 r, .int .i64 u, .int .i64 m] 31)).cell? ⟨w.heap.size, 4, none⟩ = some (.int .i64 m) := (World.cell?_alloc_new _ _ _ _).trans rfl
    generalize (w.alloc (.cells #[.int .i64 s, .int .i64 f, .int .i64 r, .int .i64 u, .int .i64 m] 31)) = v at *
    generalize w.heap.size = hb at *
    have d0 : v.drew.cell? ⟨p, 0, none⟩ = some (.slice A n c) := c0
    have r0 : v.drew.cell? ⟨hb, 0, none⟩ = some (.int .i64 s) := q0
    have r1 : v.drew.cell? ⟨hb, 1, none⟩ = some (.int .i64 f) := q1
    have r2 : v.drew.cell? ⟨hb, 2, none⟩ = some (.int .i64 r) := q2
    have r3 : v.drew.cell? ⟨hb, 3, none⟩ = some (.int .i64 u) := q3
    have r4 : v.drew.cell? ⟨hb, 4, none⟩ = some (.int .i64 m) := q4
    have HL : Hid ((withHead xs ⟨s, f, r, u, m⟩).length ≤ 2097152) := withL_length _ _ _
    clear c0 q0 q1 q2 q3 q4
    go_region_law
      (go_simp; go_at_call 77; refine (implWithHead_any A n c xs ⟨s, f, r, u, m⟩ v.drew H0.out.rd H0.out.small).mono ?_; rintro e w7 ⟨G7, n7, c7, rfl, o7, b7⟩
       have H7 := Lib.hid (H0.out.drew.below b7)
       have f7 := H7.out.cell 0
       have f0 := H7.out.free 0
       have O7 := Lib.hid o7
       have G7' := Lib.hid (G0.out.drew.below b7)
       have HO := Lib.hid (ow_new (w := v.drew) o7 H0.out.lt)
       clear o7 b7)
    all_goals
      go_end0
      rw [HE.out]
      exact ⟨rfl, G7, n7, c7, H7.out.put O7.out.rd HO.out.1 (by rw [← O7.out.len]; exact HL.out) HO.out.2, G7'.out.put _ _⟩
end Go.Proofs.YtiokfhdkbpoadaaGreatDoor
