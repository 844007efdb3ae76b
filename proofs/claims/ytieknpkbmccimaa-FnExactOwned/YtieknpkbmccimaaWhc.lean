/- A copy of an image, all clusters whole (wholeCopy): the program's side. -/
import Derived.Test.YtieknpkbmccimaaCpy
import Derived.Test.YtieknpkbmccimaaG8
import Derived.Test.YtieknpkbmccimaaWci
import Derived.Deep.RegionHeld3
namespace Go.Proofs.Ytieknpkbmccimaa
open Go.RowKit

theorem iv_splice (cur cs : List Int) (o : Nat) : Go.splice (iv cur) o (iv cs) = iv (Go.splice cur o cs) := by
  unfold Go.splice
  rw [iv_append, iv_append, iv_length]
  simp [iv, List.map_take, List.map_drop]

theorem zeros_row {w : World} {lo g k : Nat} (hown : w.ownsRow lo 2 1 (.slice (some ⟨g, 0, none⟩) k k) k (iv (List.replicate k 0))) : w.heap[g]? = some (.cells (iv (List.replicate k 0)).toArray 2 (0, 0)) := by
  rcases hown.2 with ⟨hv, _⟩ | ⟨g', cap, cur, hv, hbb, hg', h1, h2, h3, h4⟩
  · cases hv
  · injection hv with e1 e2 e3
    injection e1 with e1
    injection e1 with e1
    subst e1; subst e3
    rw [List.take_of_length_le (by simp; omega)] at h4
    rw [hg', ← h4]

set_option maxRecDepth 100000 in
set_option maxHeartbeats 2000000 in
theorem wholeCopy_any (A : Option Addr) (n c : Nat) (xs : List Int) (w : World) (hr : Rd w w.heap.size A n xs) (hn : n ≤ 2097152) (hh : hasHead xs = true) :
    Calls Try.prog 13 #[.slice A n c] w fun e w' => ∃ q, e = .returned (.slice (some ⟨q, 0, none⟩) (manyN xs * 8) (manyN xs * 8)) ∧ w.heap.size ≤ q ∧ w'.heap[q]? = some (.cells (iv (whole xs)).toArray 2 (0, 0)) ∧ Below w.heap.size w w' := by
  obtain ⟨i0, hi0, hz0, hz1, hz2⟩ := info_parts info2
  have hxl := Lib.hid hr.len
  have hhl := hasHead_len hh
  have hm64 := manyN_le (hasHead_img hh)
  have hmn : manyN xs = (n + 7) / 8 := by rw [← hxl.out]; rfl
  have HM := Lib.hid (show manyI xs = (manyN xs : Int) by simp [manyI, hasHead_img hh])
  have HWL := Lib.hid (whole_length xs)
  have HWX : Hid (whole xs = xs ++ List.replicate (manyN xs * 8 - n) 0) := by
    rw [← hxl.out]
    show whole xs = _
    unfold whole
    congr 2
  have hn1 : 0 < n := by rw [← hxl.out]; omega
  obtain ⟨b, off, rfl, hb, hc⟩ := hr.2 hn1
  generalize manyN xs = m at *
  clear hhl hh
  have HMN := Lib.hid hmn
  go_enter Try.func13, Try.ntmps13
  go_wp2_with fail
  refine (implClin_any _ _ _ _ _ hr hn).mono ?_
  rintro e w1 ⟨rfl, b1⟩
  rw [HM.out]
  have hN : ((m : Int) * 8) = ((m * 8 : Nat) : Int) := by omega
  have HN := Lib.hid hN
  clear hN hmn
  have hmn8 : n ≤ m * 8 := by have := HMN.out; omega
  go_wp2_with (first
    | (at_make; refine wpList_make_full _ rfl _ _ 22 rfl w1.heap.size 2 i0 (.int .i64 0) 1 Try.underlying22 hi0 hz0 hz1 .i64 .i64 _ _ (m * 8) rfl rfl HN.out HN.out (by rw [hz2]; omega) (by simp only [maxLen]; omega) (Nat.le_refl _) ?_; intro w2 hown hg; rw [made_iv] at hown
       have HQ := Lib.hid (zeros_row hown)
       have b2 : Below w1.heap.size w1 w2 := below_grown hg (Nat.le_refl _) (fun _ h => by cases h)
       have B2 := below_more b1 b2 b1.size
       have s1 := b1.size
       have hc2 : ∀ j, j < n → w2.cell? ⟨b, off + j, none⟩ = some (.int .i64 (xs.getD j 0)) := fun j hj => (B2.cell (p := ⟨b, off + j, none⟩) hb).trans (hc j hj)
       clear hown hg hi0 hz0 hz1 hz2 b1 b2 hc)
    | (with_reducible refine wpList_copy_splice (o := ⟨some 10, _, _, _, _, _⟩) rfl (.tmp 8) (.tmp 9) 22 22 rfl 2 Try.underlying22 info2s _ _ (m * 8) (m * 8) n c rfl rfl w1.heap.size 0 (iv (List.replicate (m * 8) 0)) 2 HQ.out (iv xs) ?c1 ?c2 ?c3 (int_one xs) w.heap.size w B2 ?c4 ?c5))
  case c1 => rw [iv_length, hxl.out]; exact (Nat.min_eq_left hmn8).symm
  case c2 =>
    intro _ j v hv
    have hj := (List.getElem?_eq_some_iff.1 hv).1
    rw [iv_length] at hj
    rw [iv_get xs j hj] at hv
    cases hv
    exact hc2 j (by rw [← hxl.out]; exact hj)
  case c3 => rw [iv_length, hxl.out, iv_length]; simp; omega
  case c4 => exact s1
  case c5 =>
    intro w5 H5 b5
    go_wp2_with fail
    go_ret
    have h5 : w5.heap[w1.heap.size]? = some (.cells (Go.splice (iv (List.replicate (m * 8) 0)) 0 (iv xs)).toArray 2 (0, 0)) := H5.out
    rw [iv_splice] at h5
    have e : Go.splice (List.replicate (m * 8) 0) 0 xs = whole xs := by
      rw [HWX.out]
      unfold Go.splice
      rw [List.take_zero, List.nil_append, Nat.zero_add, hxl.out, List.drop_replicate]
    rw [e] at h5
    exact ⟨_, rfl, s1, h5, b5⟩

theorem Ow.ofRow {w : World} {lo hi g : Nat} {ys : List Int} (h : w.heap[g]? = some (.cells (iv ys).toArray 2 (0, 0))) (hl : ys.length ≤ 100000) (h1 : lo ≤ g) (h2 : g < hi) : Ow w lo hi (some ⟨g, 0, none⟩) ys.length ys.length ys := by
  refine ⟨⟨by rw [iv_length, Nat.mul_one], .inr ⟨g, ys.length, _, rfl, h1, h, Nat.le_refl _, by simp only [maxLen]; omega, by simp [iv_length], ?_⟩⟩, fun k hk => by simp [Value.ownBlock] at hk; omega⟩
  rw [List.take_of_length_le (by simp [iv_length])]

end Go.Proofs.Ytieknpkbmccimaa
