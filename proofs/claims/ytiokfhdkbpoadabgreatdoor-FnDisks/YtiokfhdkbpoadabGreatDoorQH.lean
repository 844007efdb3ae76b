/- The exact law of chapter 14, walked, given what the program's own function answers. Counting anew (chapter 14), the program's side: what gives up by a panic is caught at the face. Counting anew (chapter 14): what the program's own function answers. -/
import Derived.Test.YtiokfhdkbpoadabGreatDoorG4
import Derived.Test.YtiokfhdkbpoadabGreatDoorY5
import Derived.Test.YtiokfhdkbpoadabGreatDoorQG
import Derived.Defers
import Derived.Recover
import Derived.Test.YtiokfhdkbpoadabGreatDoorX2
namespace Go.Proofs.YtiokfhdkbpoadabGreatDoor
open Go.RowKit

theorem countedL_length (xs : List Int) : (countedL xs).length ≤ 512 := by
  rcases counted_head xs with h | ⟨h, _⟩
  · rw [h]; simp
  · exact imgB_len (hasHead_img h)

/-- In every world that has grown out of W. -/
def CountedC (W : World) : Prop := ∀ (A : Option Addr) (n c : Nat) (xs : List Int) (w : World), Below W.heap.size W w → Rd w w.heap.size A n xs → n ≤ 2097152 → n ≤ c → Calls Tryz.prog 85 #[.slice A n c] w (Ret w (countedL xs))

/-- The deferred closure, entered from a frame that panics. -/
theorem caught_any (p : Addr) (x : Value) (u : TypeId) (pv : Value) (older : List PanicEntry) (w : World) (hc : w.cell? p = some x) (hz : w.frozen? p = false) :
    CallsD Tryz.prog 110 #[.pointer (some p)] (.panicking ({ v := .iface u pv, recovered := false } :: older)) w fun e u' w' =>
      e = .returned (.tuple #[]) ∧ u' = .panicking ({ v := .iface u pv, recovered := true } :: older) ∧ w' = w.setCell p (.slice none 0 0) := by
  refine callsD_of_wpS Tryz.func110 rfl fun c₀ cs hu => ?_
  apply wpS_seq
  apply wpS_region
  simp [wpOpsS, go_sem, recoverD, hu, Tryz.ntmps110, Exit.thenS]
  refine wpS_cond (t := true) (by simp [Act.eval, Array.replicate]) ?_
  simp only [if_true]
  apply wpS_region
  simp [wpOpsS, go_sem, hc, hz, bodyPostS, results, Tryz.results110]

/-- The deferred closure, entered from a frame that returns. -/
theorem idle_any (p : Addr) (w : World) :
    CallsD Tryz.prog 110 #[.pointer (some p)] .returning w fun e u' w' => e = .returned (.tuple #[]) ∧ u' = .returning ∧ w' = w := by
  refine callsD_of_wpS Tryz.func110 rfl fun c₀ cs hu => ?_
  apply wpS_seq
  apply wpS_region
  simp [wpOpsS, go_sem, recoverD, hu, Tryz.ntmps110, Exit.thenS]
  refine wpS_cond (t := false) (by simp [Act.eval, Array.replicate]) ?_
  simp only [Bool.false_eq_true, if_false]
  refine wpS_of_wp (wp_skip ?_)
  cases c₀
  simp_all [bodyPostS, results, Tryz.results110]

theorem base_tidy {xs ys : List Int} (h : readyB xs = true) (hb : basePC xs = some ys) : Tidy ys ∧ (headOf ys).refs ≠ 0 := by
  obtain ⟨T, _⟩ := ready_tidy h
  unfold basePC at hb
  split at hb
  · rename_i h0
    split at hb
    · rename_i hm
      cases hb
      obtain ⟨O, e, _⟩ := onto_refs T h0 hm
      have := whole_pos T.head
      exact ⟨O.tidy, by rw [e]; omega⟩
    · cases hb
  · rename_i h0
    cases hb
    exact ⟨T, h0⟩

/-- The named result's own block, as it was made. -/
def NilAt (bx : Nat) (W : World) : Prop := bx < W.heap.size ∧ W.heap[bx]? = some (.cells #[.slice none 0 0] 24 (0, 0))
theorem NilAt.below {bx : Nat} {W W' : World} (h : NilAt bx W) (b : Below W.heap.size W W') : W'.cell? ⟨bx, 0, none⟩ = some (.slice none 0 0) ∧ W'.frozen? ⟨bx, 0, none⟩ = false := by
  have h2 := (b.block bx h.1).trans h.2
  exact ⟨by rw [cell_of_row W' bx 0 _ _ _ h2]; rfl, frozen_of_row W' bx 0 _ _ h2⟩

set_option maxRecDepth 100000 in
set_option maxHeartbeats 4000000 in
theorem implCounted_one (hC : ClaimsC) (hLo : LooseC) (hCo : CountsC) (hT : TableC) (A : Option Addr) (n c : Nat) (xs : List Int) (w : World) (hr : Rd w w.heap.size A n xs) (hn : n ≤ 2097152) (hnc : n ≤ c) :
    Calls Tryz.prog 85 #[.slice A n c] w (Ret w (countedL xs)) := by
  have hmf : ∀ (fn : Fn) (first cap : Array Value) (w : World), (Instr.makeFunc fn first cap).run Tryz.prog w = .ok (.func fn first cap) w := fun _ _ _ _ => rfl
  have b1 := (Below.refl w.heap.size w).alloc (Nat.le_refl _) (.cells #[.slice none 0 0] 24)
  have hr1 := (hr.below b1).more b1.size
  have HLo := Lib.hid (countable_any hLo A n c xs (w.alloc (.cells #[.slice none 0 0] 24)) hr1 hn hnc)
  have HX : Hid (NilAt w.heap.size (w.alloc (.cells #[.slice none 0 0] 24))) := ⟨by simp, heap_alloc_new w _⟩
  have HRM := Lib.hid (fun h => counted_prog (xs := xs) h)
  have HBT := Lib.hid (fun h ys hb => base_tidy (xs := xs) (ys := ys) h hb)
  have hnl := hr.len
  clear hr
  go_enter_defers Tryz.func85, Tryz.ntmps85
  go_wp2_with fail
  refine HLo.out.mono ?_
  rintro e w2 ⟨b2, (⟨hrd, rfl⟩ | ⟨hrd, U, V, rfl⟩)⟩
  · have HE := Lib.hid (HRM.out hrd)
    have HB := Lib.hid (HBT.out hrd)
    have HH := Lib.hid (ready_head hrd)
    clear hrd
    have hr2 := (hr1.below b2).more b2.size
    go_wp2_with fail
    refine (withRefs_any A n c xs w2 hr2 hn hnc HH.out).mono ?_
    rintro e w3 hG
    cases hb : basePC xs with
    | none =>
      rw [hb] at hG
      obtain ⟨⟨U, V, rfl⟩, b3⟩ := hG
      have b23 := below_more b2 b3 b2.size
      have HN : Hid (countedL xs = []) := by show _ = _; rw [HE.out, hb]; rfl
      clear hb
      have hx := HX.out.below b23
      have cx := hx.1
      have fx := hx.2
      go_wp2_with fail
      refine leaves_cons (f := 110) (args := #[.pointer (some ⟨w.heap.size, 0, none⟩)]) (by simp) (by simp [go_sem]) ?_
      refine (caught_any ⟨w.heap.size, 0, none⟩ (.slice none 0 0) U V [] w3 cx fx).mono ?_
      rintro e u' w'' ⟨rfl, rfl, rfl⟩
      have cy := World.cell?_setCell_same w3 ⟨w.heap.size, 0, none⟩ (.slice none 0 0) cx
      simp [Leaves, settle, results, Tryz.results85, go_sem, cy]
      rw [HN.out]
      exact Ret.nil _ _ ((below_more b1 b23 b1.size).setCell (Nat.le_refl _) _)
    | some ys =>
      rw [hb] at hG
      obtain ⟨X, nx, cx, rfl, rX, hcx, b3⟩ := hG
      have b23 := below_more b2 b3 b2.size
      obtain ⟨T, h0⟩ := HB.out ys hb
      have HE2 : Hid (countedL xs = countEnd (blocksL ys)) := by show _ = _; rw [HE.out, hb]; rfl
      have HOB := Lib.hid (fun zs (hz : blocksL ys = some zs) => onto_blocks 64 ys zs T h0 hz)
      clear hb b3
      go_wp2_with fail
      refine (withBlocks_any hCo hT X nx cx ys w3 rX hcx T h0).mono ?_
      clear T h0
      rintro e w4 hG
      cases hb : blocksL ys with
      | none =>
        rw [hb] at hG
        obtain ⟨⟨U, V, rfl⟩, b4⟩ := hG
        have b24 := below_more b23 b4 b23.size
        have HN : Hid (countedL xs = []) := by show _ = _; rw [HE2.out, hb]; rfl
        clear hb
        have hx := HX.out.below b24
        have cx := hx.1
        have fx := hx.2
        go_wp2_with fail
        refine leaves_cons (f := 110) (args := #[.pointer (some ⟨w.heap.size, 0, none⟩)]) (by simp) (by simp [go_sem]) ?_
        refine (caught_any ⟨w.heap.size, 0, none⟩ (.slice none 0 0) U V [] w4 cx fx).mono ?_
        rintro e u' w'' ⟨rfl, rfl, rfl⟩
        have cy := World.cell?_setCell_same w4 ⟨w.heap.size, 0, none⟩ (.slice none 0 0) cx
        simp [Leaves, settle, results, Tryz.results85, go_sem, cy]
        rw [HN.out]
        exact Ret.nil _ _ ((below_more b1 b24 b1.size).setCell (Nat.le_refl _) _)
      | some zs =>
        rw [hb] at hG
        obtain ⟨Y, ny, cy, rfl, rY, hcy, b4⟩ := hG
        have b24 := below_more b23 b4 b23.size
        obtain ⟨OZ, _, hl⟩ := HOB.out zs hb
        have HN : Hid (countedL xs = writeC zs) := by show _ = _; rw [HE2.out, hb]; rfl
        clear hb b4
        go_wp2_with fail
        refine (withCounts_any hC hCo Y ny cy zs w4 rY hcy OZ.tidy hl).mono ?_
        clear OZ hl
        rintro e w5 ⟨Z, nz, cz, rfl, oZ, b5⟩
        have b25 := below_more b24 b5 b24.size
        have hx := HX.out.below b25
        have cx := hx.1
        have fx := hx.2
        go_wp2_with fail
        refine leaves_cons (f := 110) (args := #[.pointer (some ⟨w.heap.size, 0, none⟩)]) (by simp) (by simp [go_sem]) ?_
        refine (idle_any ⟨w.heap.size, 0, none⟩ _).mono ?_
        rintro e u' w'' ⟨rfl, rfl, rfl⟩
        have cy := World.cell?_setCell_same w5 ⟨w.heap.size, 0, none⟩ (.slice Z nz cz) cx
        simp [Leaves, settle, results, Tryz.results85, go_sem, cy]
        rw [HN.out]
        have B5 := below_more b1 b25 b1.size
        have sz : (w5.setCell ⟨w.heap.size, 0, none⟩ (.slice Z nz cz)).heap.size = w5.heap.size := by simp [World.setCell]
        have s1 : w.heap.size + 1 ≤ w4.heap.size := by have := b24.size; simp at this; omega
        exact ⟨Z, nz, cz, rfl, (by rw [sz]; exact ((oZ.more s1 (Nat.le_refl _)).keep fun q h1 h2 _ => Below.heap_setCell _ _ _ _ (by show q ≠ w.heap.size; omega)).more (by omega) (Nat.le_refl _)), B5.setCell (Nat.le_refl _) _⟩
  · have HN : Hid (countedL xs = []) := by show _ = _; unfold countedL; rw [if_neg (by rw [hrd]; simp)]
    clear hrd
    have hx := HX.out.below b2
    have cx := hx.1
    have fx := hx.2
    go_wp2_with fail
    refine leaves_cons (f := 110) (args := #[.pointer (some ⟨w.heap.size, 0, none⟩)]) (by simp) (by simp [go_sem]) ?_
    refine (caught_any ⟨w.heap.size, 0, none⟩ (.slice none 0 0) U V [] w2 cx fx).mono ?_
    rintro e u' w'' ⟨rfl, rfl, rfl⟩
    have cy := World.cell?_setCell_same w2 ⟨w.heap.size, 0, none⟩ (.slice none 0 0) cx
    simp [Leaves, settle, results, Tryz.results85, go_sem, cy]
    rw [HN.out]
    exact Ret.nil _ _ ((below_more b1 b2 b1.size).setCell (Nat.le_refl _) _)

theorem implCounted_all (W : World) : CountedC W := fun A n c xs w _ h hn hnc => implCounted_one implClaims_any implLoose_all implCounts_all implTable_any A n c xs w h hn hnc

end Go.Proofs.YtiokfhdkbpoadabGreatDoor
