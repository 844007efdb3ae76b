/- The table of shots is there (l17Shots), the model's side. -/
import Derived.Test.YtkhinppphmfniaaBl
namespace Go.Proofs.Ytkhinppphmfniaa
open Go.RowKit

def newShots (xs : List Int) : List Int := setCl (moreL xs (List.replicate 8 0)) 0 (hdW { headOf xs with shots := manyN xs })
def shotsAtL (xs : List Int) : Option (List Int) := if 0 < (headOf xs).many then some xs else (if manyN xs < 64 then some (newShots xs) else none)
theorem newShots_head {xs : List Int} (h : hasHead xs = true) (hm : manyN xs < 64) : hasHead (newShots xs) = true ∧ headOf (newShots xs) = { headOf xs with shots := manyN xs } ∧ (newShots xs).length = manyN xs * 8 + 8 := by
  have hl := more_length xs (List.replicate 8 0) (by simp)
  have hall := headB_all (hasHead_ok h)
  have hb : headB { headOf xs with shots := manyN xs } = true := by
    simp only [headB, wordB, Bool.and_eq_true, inB_true]
    omega
  obtain ⟨h1, h2, h3⟩ := hd_set (more_img (hasHead_img h) zeros8 hm) (by rw [hl]; omega) (by rw [hl]; omega) hb
  exact ⟨h1, h2, h3.trans hl⟩
/-- The claim of Shots. -/
theorem shots_claim {xs : List Int} (hm : (headOf xs).many ≠ 0) : ∃ b, (b = true → thereB xs (headOf xs).shots = true) ∧ (⟨5, 0, 0, 0, (headOf xs).shots, b⟩ : Cm) ∈ claimsC xs := by
  have h4 : (⟨5, 0, 0, 0, (headOf xs).shots, goodB xs (headOf xs).size (c3C xs (headOf xs)) ⟨5, 0, 0, 0, (headOf xs).shots, false⟩⟩ : Cm) ∈ c4C xs (headOf xs) := by
    unfold c4C shotsC
    rw [if_neg hm]
    have hm2 : (⟨5, 0, 0, 0, (headOf xs).shots, goodB xs (headOf xs).size (c3C xs (headOf xs)) ⟨5, 0, 0, 0, (headOf xs).shots, false⟩⟩ : Cm) ∈ addC xs (headOf xs).size (c3C xs (headOf xs)) ⟨5, 0, 0, 0, (headOf xs).shots, false⟩ := by unfold addC; simp
    split
    · exact (shotFold_prefix _ _ _ _).subset hm2
    · exact hm2
  exact ⟨_, fun h => goodB_there h, (c6_prefix xs _).subset ((c5_prefix xs _).subset h4)⟩
theorem sound_shots {xs : List Int} (h : soundB xs = true) (hm : (headOf xs).many ≠ 0) : thereB xs (headOf xs).shots = true := by
  obtain ⟨b, hb, hc⟩ := shots_claim hm
  exact hb (sound_good h hc)

def RetShot (w : World) (r : Option (List Int)) (e : Ending) (w' : World) : Prop :=
  (∃ ys A n c, r = some ys ∧ e = .returned (.tuple #[.slice A n c, .bool true]) ∧ Rd w' w'.heap.size A n ys ∧ Below w.heap.size w w') ∨
  (∃ g, r = none ∧ e = .returned (.tuple #[.slice (some ⟨g, 0, none⟩) 0 0, .bool false]) ∧ Below w.heap.size w w')

set_option maxRecDepth 100000 in
set_option maxHeartbeats 8000000 in
theorem specShotsAt_any (A : Option Addr) (n cb : Nat) (xs : List Int) (w : World) (hr : Rd w w.heap.size A n xs) (hh : hasHead xs = true) :
    Calls Try.prog 56 #[.slice A n cb] w (RetShot w (shotsAtL xs)) := by
  obtain ⟨i0, hi0, hz0, hz1, hz2⟩ := info_parts info2
  have hlen := hasHead_len hh
  have hn : n ≤ 512 := by have := hr.len; omega
  have hall := headB_all (hasHead_ok hh)
  have HI := Lib.hid (headIn_yes hh)
  have HS : Hid (shotsAtL xs = if 0 < (headOf xs).many then some xs else (if manyN xs < 64 then some (newShots xs) else none)) := rfl
  have HNS : Hid (newShots xs = setCl (moreL xs (List.replicate 8 0)) 0 (hdW { headOf xs with shots := manyN xs })) := rfl
  clear hh
  go_enter Try.func56, Try.ntmps56
  go_wp2_with fail
  refine (specHeadIn_any _ _ _ xs _ hr (by omega)).mono ?_
  rintro e w1 ⟨rfl, b1⟩
  rw [HI.out]
  generalize headOf xs = h at *
  obtain ⟨s, f, r, u, m⟩ := h
  simp only at hall
  unfold hdV
  have b2 := b1.alloc b1.size (.cells #[.int .i64 s, .int .i64 f, .int .i64 r, .int .i64 u, .int .i64 m] 26)
  have hz : (w1.alloc (.cells #[.int .i64 s, .int .i64 f, .int .i64 r, .int .i64 u, .int .i64 m] 26)).heap.size = w1.heap.size + 1 := by simp
  have HBX : Hid ((w1.alloc (.cells #[.int .i64 s, .int .i64 f, .int .i64 r, .int .i64 u, .int .i64 m] 26)).heap[w1.heap.size]? = some (.cells #[.int .i64 s, .int .i64 f, .int .i64 r, .int .i64 u, .int .i64 m] 26 (0, 0))) := heap_alloc_new w1 _
  have HZ := Lib.hid hz
  clear hz
  by_cases hm : 0 < m
  · have HE : Hid (shotsAtL xs = some xs) := by rw [HS.out, if_pos hm]; exact rfl
    go_wp2_with fail
    go_ret2
    exact .inl ⟨xs, A, n, cb, HE.out, rfl, (hr.below b2).more b2.size, b2⟩
  have HE0 : Hid (shotsAtL xs = if manyN xs < 64 then some (newShots xs) else none) := by rw [HS.out, if_neg hm]; exact rfl
  have hdm : decide (0 < m) = false := by simpa using hm
  have hb1 := b1.size
  clear hm HS HI
  go_wp2_with (at_make; refine wpList_make_full _ rfl _ _ 24 rfl (w1.heap.size + 1) 2 i0 (.int .i64 0) 1 Try.underlying24 hi0 hz0 hz1 .i64 .i64 _ _ 8 rfl rfl rfl rfl (by rw [hz2]; omega) (by simp only [maxLen]; omega) (by have := HZ.out; omega) ?_; intro w3 hown hg3; rw [made_iv, HZ.out] at hown; rw [HZ.out])
  have b3 : Below (w1.heap.size + 1) (w1.alloc (.cells #[.int .i64 s, .int .i64 f, .int .i64 r, .int .i64 u, .int .i64 m] 26)) w3 := below_grown hg3 (by have := HZ.out; omega) (fun _ h => by cases h)
  have b03 : Below w.heap.size w w3 := b2.trans (b3.mono (by omega))
  have s3 := b3.size
  rw [HZ.out] at s3
  have HB3 : Hid (w3.heap[w1.heap.size]? = some (.cells #[.int .i64 s, .int .i64 f, .int .i64 r, .int .i64 u, .int .i64 m] 26 (0, 0))) := (b3.block w1.heap.size (by omega)).trans HBX.out
  have oz : Ow w3 (w1.heap.size + 1) (w1.heap.size + 2) (some ⟨w1.heap.size + 1, 0, none⟩) 8 8 (List.replicate 8 0) := ⟨hown, fun g hg => by simp [Value.ownBlock] at hg; omega⟩
  have hltz := ow_lt oz
  clear hown hg3 b3 b2 HBX HZ
  refine (specMore_any A n cb xs (some ⟨w1.heap.size + 1, 0, none⟩) 8 (List.replicate 8 0) w3 ((hr.below b03).more b03.size) (oz.rd.more (by omega)) (by omega)).mono ?_
  rintro e w6 (⟨h64, g6, n6, c6, rfl, hc6, o6, b6⟩ | ⟨h64, g6, rfl, b6⟩)
  · have HE : Hid (shotsAtL xs = some (newShots xs)) := by rw [HE0.out, if_pos h64]; exact rfl
    have b06 := below_more b03 b6 b03.size
    have s6 := b6.size
    have HB6 : Hid (w6.heap[w1.heap.size]? = some (.cells #[.int .i64 s, .int .i64 f, .int .i64 r, .int .i64 u, .int .i64 m] 26 (0, 0))) := (b6.block w1.heap.size (by omega)).trans HB3.out
    have hn6 := o6.len
    rw [more_length _ _ (by simp)] at hn6
    have HN6 := Lib.hid hn6
    have k0 : w6.cell? ⟨w1.heap.size, 0, none⟩ = some (.int .i64 s) := by rw [cell_of_row w6 w1.heap.size 0 _ _ _ HB6.out]; rfl
    have k1 : w6.cell? ⟨w1.heap.size, 1, none⟩ = some (.int .i64 f) := by rw [cell_of_row w6 w1.heap.size 1 _ _ _ HB6.out]; rfl
    have k2 : w6.cell? ⟨w1.heap.size, 2, none⟩ = some (.int .i64 r) := by rw [cell_of_row w6 w1.heap.size 2 _ _ _ HB6.out]; rfl
    have k3 : w6.cell? ⟨w1.heap.size, 3, none⟩ = some (.int .i64 u) := by rw [cell_of_row w6 w1.heap.size 3 _ _ _ HB6.out]; rfl
    have k4 : w6.cell? ⟨w1.heap.size, 4, none⟩ = some (.int .i64 m) := by rw [cell_of_row w6 w1.heap.size 4 _ _ _ HB6.out]; rfl
    have kf : w6.frozen? ⟨w1.heap.size, 3, none⟩ = false := frozen_of_row w6 w1.heap.size 3 _ _ HB6.out
    have b07 : Below w.heap.size w (w6.setCell ⟨w1.heap.size, 3, none⟩ (.int .i64 (manyN xs))) := b06.setCell hb1 _
    have o7 : Ow (w6.setCell ⟨w1.heap.size, 3, none⟩ (.int .i64 (manyN xs))) w3.heap.size w6.heap.size (some ⟨g6, 0, none⟩) n6 c6 (moreL xs (List.replicate 8 0)) := o6.keep fun q h1 h2 _ => Below.heap_setCell _ _ _ _ (by show q ≠ w1.heap.size; omega)
    have s7 : w6.heap.size ≤ (w6.setCell ⟨w1.heap.size, 3, none⟩ (.int .i64 (manyN xs))).heap.size := by simp [World.setCell]
    clear hn6 HB6 o6 b6 oz HB3
    go_wp2_with fail
    generalize w6.setCell ⟨w1.heap.size, 3, none⟩ (.int .i64 (manyN xs)) = w7 at *
    refine (specHdWords_any ⟨s, f, r, manyN xs, m⟩ w7).mono ?_
    rintro e w8 ⟨g8, n8, c8, rfl, hc8, o8, b8⟩
    obtain rfl : 8 = n8 := o8.len
    have b08 := below_more b07 b8 b07.size
    have s8 := b8.size
    go_wp2_with fail
    refine (specWith_any g6 0 n6 c6 0 (moreL xs (List.replicate 8 0)) (hdW ⟨s, f, r, manyN xs, m⟩) (some ⟨g8, 0, none⟩) c8 w8 ((o7.below b8 s7).rd.more (by omega)) o8.rd hc6 (by have := HN6.out; omega) (by have := HN6.out; omega) (by omega)).mono ?_
    rintro e w9 ⟨A9, n9, c9, rfl, o9, b9⟩
    rw [← HNS.out] at o9
    go_wp2_with fail
    go_ret2
    exact .inl ⟨newShots xs, A9, n9, c9, HE.out, rfl, o9.rd, below_more b08 b9 b08.size⟩
  · have HE : Hid (shotsAtL xs = none) := by rw [HE0.out, if_neg (by omega)]; exact rfl
    have b06 := below_more b03 b6 b03.size
    go_wp2_with fail
    go_ret2
    exact .inr ⟨w6.heap.size, HE.out, rfl, b06.alloc b06.size _⟩

end Go.Proofs.Ytkhinppphmfniaa
