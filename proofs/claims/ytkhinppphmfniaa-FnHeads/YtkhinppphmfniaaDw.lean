/- Words that are drawn (l1DrawWords, l1From); how long a written and a pictured image are. -/
import Derived.Test.YtkhinppphmfniaaPc
import Derived.Test.YtkhinppphmfniaaBl
import Derived.Test.YtkhinppphmfniaaCur
namespace Go.Proofs.Ytkhinppphmfniaa
open Go.RowKit

/-- It answers a new row with P, not nil; the cursor goes on; nothing else has turned. -/
def DrawRow (g B : Nat) (w : World) (P : List Int → Prop) (e : Ending) (w' : World) : Prop :=
  ∃ (h n c : Nat) (ys : List Int), P ys ∧ n ≤ 600 ∧ n ≤ c ∧ e = .returned (.slice (some ⟨h, 0, none⟩) n c) ∧ OwV 2 1 w' w.heap.size w'.heap.size h n c (iv ys) ∧ Cur w' g B ∧ w.grownBy w' (some g)

theorem Cur.lt {w : World} {g B : Nat} (hc : Cur w g B) : g < w.heap.size := by obtain ⟨_, _, _, _, _, _, h⟩ := hc; exact h.lt
theorem Cur.lo {w : World} {g B : Nat} (hc : Cur w g B) : B ≤ g := by obtain ⟨_, _, _, _, _, _, h⟩ := hc; exact h.lo
theorem grown_under {w w' : World} (h : Below w.heap.size w w') (r : Option Nat) : w.grownBy w' r := ⟨h.os, h.tape, h.output, h.size, fun k hk _ => h.block k hk⟩
theorem OwV.lenI {w : World} {lo hi g n c : Nat} {xs : List Int} (h : OwV 2 1 w lo hi g n c (iv xs)) : xs.length = n := by have := h.len; rw [iv_length] at this; omega
/-- A row of one's own, behind what a draw did. -/
theorem OwV.draw {w w' : World} {lo hi hi' g h n c : Nat} {cs : List Value} (ho : OwV 2 1 w lo hi h n c cs) (hg : w.grownBy w' (some g)) (hlt : g < lo) (hh : hi ≤ hi') : OwV 2 1 w' lo hi' h n c cs :=
  (ho.grown hg (fun k e => by cases e; have := ho.low; omega)).more (Nat.le_refl _) hh
theorem lit_cell {w w' : World} {g : Nat} {t : TypeId} (xs : List Int) (hg : (w.alloc (.cells (iv xs).toArray t)).grownBy w' (some g)) (hlt : g < w.heap.size) (j : Nat) (hj : j < xs.length) :
    ∃ y, w'.cell? ⟨w.heap.size, j, none⟩ = some (.int .i64 y) := ⟨_, new_cell xs hg hlt j hj⟩

theorem from_any (g B : Nat) (lo hi : Int) (w : World) (hc : Cur w g B) (h0 : -1 ≤ lo) (h1 : lo ≤ hi) (h2 : hi ≤ 1000000) :
    Calls Try.prog 40 #[.pointer (some ⟨g, 0, none⟩), .int .i64 lo, .int .i64 hi] w (DrawInt g B w (fun x => lo ≤ x ∧ x ≤ hi)) := by
  go_enter Try.func40, Try.ntmps40
  go_wp2_with fail
  refine (below_any g B _ w hc).mono ?_
  rintro e w1 ⟨x, hx, rfl, hc1, hg1⟩
  have hx' := hx.lt (by omega)
  obtain ⟨hx0, hx1⟩ := hx'
  clear hx
  go_wp2_with fail
  go_ret
  exact ⟨_, ⟨by omega, by omega⟩, rfl, hc1, hg1⟩

set_option maxHeartbeats 2000000 in
theorem drawWords_any (g B N : Nat) (w : World) (hc : Cur w g B) (hN : N ≤ 100) :
    Calls Try.prog 37 #[.pointer (some ⟨g, 0, none⟩), .int .i64 N] w (DrawRow g B w (fun ys => ys.length = N)) := by
  obtain ⟨i0, hi0, hz0, hz1, hz2⟩ := info_parts info2
  have hgl := hc.lt
  go_enter Try.func37, Try.ntmps37
  go_wp2_with fail
  go_loopw [1, 5] (fun i v wr => ∃ (k g' c' : Nat) (ys : List Int), i = .int .i64 k ∧ ys.length + k = N ∧ v = .slice (some ⟨g', 0, none⟩) ys.length c' ∧ OwV 2 1 wr w.heap.size wr.heap.size g' ys.length c' (iv ys) ∧ Cur wr g B ∧ w.grownBy wr (some g)) (fun i _ _ => (intOf i).toNat)
  case atStart => exact ⟨N, w.heap.size, 0, [], rfl, by simp, rfl, emptyV 2 1 w _ _ _ (Nat.le_refl _) rfl (by simp), hc.grown (grown_alloc _ _ none) (by simp), grown_alloc _ _ _⟩
  case round =>
    obtain ⟨k, g', c', ys, rfl, hk, rfl, ho, hcr, hgr⟩ := hrel
    have hs := hgr.size
    by_cases hlt : 0 < k
    · go_wp2_with fail
      refine (below_any g B 10 _ (hcr.grown (grown_alloc _ _ none) (by simp))).mono ?_
      rintro e w1 ⟨x, hx, rfl, hc1, hg1⟩
      obtain ⟨h0, h1⟩ := hx.lt (by omega)
      obtain ⟨j, rfl⟩ : ∃ j : Nat, x = j := ⟨x.toNat, by omega⟩
      obtain ⟨y, hcell⟩ := lit_cell (t := 2) [0, 0, 1, 2, 3, 5, 32769, 32772, 8, 65535] hg1 hcr.lt j (by simp; omega)
      have hj : j < 10 := by omega
      have hg01 := grown_trans (grown_alloc wr (.cells (iv [0, 0, 1, 2, 3, 5, 32769, 32772, 8, 65535]).toArray 2) (some g)) hg1
      have ho1 := ho.draw hg01 hgl hg01.size
      have HS := Lib.hid hg01.size
      clear hx h0 h1 hg1
      go_wp2_with (at_builtin; refine wpList_append_lit rfl (.tmp 11) (.tmp 17) 24 rfl 2 1 8 _ i0 Try.underlying24 hi0 hz0 hz1 hz2 rfl (by omega) (by omega) w.heap.size w1.heap.size g' ys.length c' _ rfl ho1 #[.int .i64 y] 1 1 rfl rfl (by simp [Value.oneCell']) (by omega) (by have := HS.out; omega) ?_; intro g2 cd w5 ho5 hgr5 hat _)
      go_roundw
      case rel =>
        refine ⟨k - 1, g2, cd, ys ++ [y], by go_num, by simp; omega, by simp, ?_, hc1.grown hgr5 (fun q e => by cases e; have := ho.low; omega), ?_⟩
        · rw [← iv_one, List.length_append]
          exact ho5
        · have a1 := grown_trans hgr hg01
          refine ⟨hgr5.os.trans a1.os, hgr5.tape.trans a1.tape, hgr5.output.trans a1.output, Nat.le_trans a1.size hgr5.size, fun q hq hne => (hgr5.block q (Nat.lt_of_lt_of_le hq a1.size) (fun e => by cases e; have := ho.low; omega)).trans (a1.block q hq hne)⟩
      case measure => simp [intOf]; omega
    · go_wp2_with fail
      go_ret
      exact ⟨g', _, c', ys, by omega, by omega, ho.cap, rfl, ho, hcr, hgr⟩

theorem done_len (xs : List Int) : (doneL xs).length ≤ 512 := by
  unfold doneL
  split
  · simp
  · rcases counted_head xs with h | ⟨h, _⟩
    · rename_i hne; rw [h] at hne; simp at hne
    · rw [owned_length]
      have := manyN_le (hasHead_img h)
      omega
theorem written_len (xs : List Int) (g : Int) (ws : List Int) (hw : ws.length ≤ 8) : (writtenL xs g ws).length ≤ 520 := by
  unfold writtenL
  split
  · rename_i h
    unfold writeMid
    split
    · have := imgB_len (sound_img h.1)
      unfold setCl
      simp only [List.length_append, List.length_take, List.length_drop]
      omega
    · unfold writeNew
      split
      · simp
      · split
        · exact Nat.le_trans (done_len _) (by omega)
        · simp
  · simp
theorem pictured_len (xs : List Int) (name : Int) : (picturedL xs name).length ≤ 520 := by
  unfold picturedL
  split
  · unfold pictMid
    split
    · simp
    · split
      · unfold pictEnd
        exact Nat.le_trans (done_len _) (by omega)
      · simp
  · simp

end Go.Proofs.Ytkhinppphmfniaa
