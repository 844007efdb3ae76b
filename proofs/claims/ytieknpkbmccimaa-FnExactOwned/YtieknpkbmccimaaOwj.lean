/- Flags (chapter 15): a table's words are written in their place (writeInto): the program's side. -/
import Derived.Test.YtieknpkbmccimaaWhc
import Derived.Test.YtieknpkbmccimaaTbi
namespace Go.Proofs.Ytieknpkbmccimaa
open Go.RowKit

theorem splice_table (zs ws : List Int) (a : Nat) (hw : ws.length = 8) : Go.splice zs (a * 8) ws = setCl zs a ws := by
  unfold Go.splice setCl
  rw [hw, List.append_assoc, show a * 8 + 8 = (a + 1) * 8 by omega]

/-- Where a table's words stand: a part of the image itself. -/
theorem placeIn_any (q N τ : Nat) (w : World) (h1 : τ * 8 + 8 ≤ N) (h2 : N ≤ 2097152) :
    Calls Try.prog 33 #[.int .i64 (τ : Int), .slice (some ⟨q, 0, none⟩) N N] w fun e w' => e = .returned (.slice (some ⟨q, τ * 8, none⟩) 8 8) ∧ w = w' := by
  have n1 : IntKind.i64.wrap ((τ : Int) * 8) = (τ : Int) * 8 := IntWalk.i64_in _ (by omega)
  go_enter Try.func33, Try.ntmps33
  go_wp2_with fail
  refine (cutOf_any q 0 N N (τ * 8) 8 _ _ w (by omega) rfl (by omega) (Nat.le_refl _) h2 (by omega) (by omega)).mono ?_
  rintro e w' ⟨rfl, rfl⟩
  go_wp2_with fail
  go_ret
  rw [Nat.min_eq_left (show 8 ≤ N - τ * 8 by omega)]
  exact ⟨rfl, rfl⟩

set_option maxRecDepth 100000 in
set_option maxHeartbeats 4000000 in
/-- A table's words are written in their place. -/
theorem writeInto_any (q τ g c : Nat) (zs ws : List Int) (w : World) (hz : w.heap[q]? = some (.cells (iv zs).toArray 2 (0, 0))) (hw : Ow w g (g + 1) (some ⟨g, 0, none⟩) 8 c ws) (h1 : τ * 8 + 8 ≤ zs.length) (h2 : zs.length ≤ 512) :
    Calls Try.prog 15 #[.agg #[.int .i64 (τ : Int), .slice (some ⟨g, 0, none⟩) 8 c], .slice (some ⟨q, 0, none⟩) zs.length zs.length] w fun e w' => e = .returned (.tuple #[]) ∧ w'.heap[q]? = some (.cells (iv (setCl zs τ ws)).toArray 2 (0, 0)) ∧ w.grownBy w' (some q) := by
  have hq := (Array.getElem?_eq_some_iff.1 hz).1
  have hws := hw.len
  have hg := hw.rd
  go_enter Try.func15, Try.ntmps15
  have hn8 : min 8 (zs.length - τ * 8) = 8 := by omega
  go_wp2_with fail
  obtain ⟨p, hp⟩ : ∃ p, p = w.heap.size := ⟨_, rfl⟩
  have hpq : q < p := by omega
  have hgp : g < p := by have := ow_lt hw; omega
  have e0 : (w.alloc (.cells #[.int .i64 (τ : Int), .slice (some ⟨g, 0, none⟩) 8 c] 36)).cell? ⟨p, 0, none⟩ = some (.int .i64 (τ : Int)) := by rw [hp]; exact (World.cell?_alloc_new _ _ _ _).trans rfl
  have e1 : (w.alloc (.cells #[.int .i64 (τ : Int), .slice (some ⟨g, 0, none⟩) 8 c] 36)).cell? ⟨p, 1, none⟩ = some (.slice (some ⟨g, 0, none⟩) 8 c) := by rw [hp]; exact (World.cell?_alloc_new _ _ _ _).trans rfl
  have hz1 : (w.alloc (.cells #[.int .i64 (τ : Int), .slice (some ⟨g, 0, none⟩) 8 c] 36)).drew.heap[q]? = some (.cells (iv zs).toArray 2 (0, 0)) := (Below.heap_alloc w _ _ hq).trans hz
  have hsr : ∀ (j : Nat) (v : Value), (iv ws)[j]? = some v → (w.alloc (.cells #[.int .i64 (τ : Int), .slice (some ⟨g, 0, none⟩) 8 c] 36)).drew.cell? ((⟨g, 0, none⟩ : Addr).add j) = some v := by
    obtain ⟨ad, ead, hs⟩ := rd_src hw.rd
    cases ead
    intro j v hv
    have h := hs j v hv
    exact ((Below.refl w.heap.size w).alloc (Nat.le_refl _) (.cells #[.int .i64 (τ : Int), .slice (some ⟨g, 0, none⟩) 8 c] 36)).cell (p := (⟨g, 0, none⟩ : Addr).add j) (World.block_lt_of_cell? w _ h) |>.trans h
  have ga : w.grownBy (w.alloc (.cells #[.int .i64 (τ : Int), .slice (some ⟨g, 0, none⟩) 8 c] 36)).drew (some q) := ⟨rfl, rfl, rfl, by simp [World.drew], fun k hk _ => Below.heap_alloc w _ _ hk⟩
  rw [← hp]
  generalize w.alloc (.cells #[.int .i64 (τ : Int), .slice (some ⟨g, 0, none⟩) 8 c] 36) = v at *
  have HG := Lib.hid ga
  have HSR := Lib.hid hsr
  have HZ := Lib.hid hz1
  clear ga hsr hz1 hz hw hg hp
  have d0 : v.drew.cell? ⟨p, 0, none⟩ = some (.int .i64 (τ : Int)) := e0
  have d1 : v.drew.cell? ⟨p, 1, none⟩ = some (.slice (some ⟨g, 0, none⟩) 8 c) := e1
  go_region_held3 (fun w' => w'.cell? ⟨p, 0, none⟩ = some (.int .i64 (τ : Int)) ∧ w'.cell? ⟨p, 1, none⟩ = some (.slice (some ⟨g, 0, none⟩) 8 c))
    (first | (go_split_ands; exact ⟨g5.cell d0 (fun e => by injection e with e; have e : p = q := e; omega), g5.cell d1 (fun e => by injection e with e; have e : p = q := e; omega)⟩) | (exact ⟨e0, e1⟩))
    (first
      | (refine step_copy_block (by rfl) (.tmp 7) (.tmp 9) 22 22 (by rfl) 2 Try.underlying22 info2s q (τ * 8) ⟨g, 0, none⟩ 8 8 8 c (by kernel_rfl) (by kernel_rfl) (iv zs) 2 HZ.out (iv ws) (by rw [iv_length, hws]; rfl) HSR.out (by rw [iv_length, iv_length, hws]; omega) (int_one _) ?_; intro w5 h5 g5)
      | (go_at_call 33; refine (placeIn_any q zs.length τ _ h1 (by omega)).mono ?_; rintro e w6 ⟨rfl, rfl⟩))
  go_end0
  rw [iv_splice, splice_table _ _ _ hws] at h5
  exact ⟨rfl, h5, grown_trans HG.out ⟨g5.os, g5.tape, g5.output, g5.size, g5.block⟩⟩

end Go.Proofs.Ytieknpkbmccimaa
