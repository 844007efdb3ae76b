/- Counting anew: all blocks that are needed (l14Blocks), the model's side. -/
import Derived.Test.YtkhinppphmfniaaRb
namespace Go.Proofs.Ytkhinppphmfniaa
open Go.RowKit

/-- An image with room for its blocks; or nothing. -/
def RetBk (w : World) (r : Option (List Int)) (e : Ending) (w' : World) : Prop :=
  (∃ ys A n c, r = some ys ∧ e = .returned (.tuple #[.slice A n c, .bool true]) ∧ Rd w' w'.heap.size A n ys ∧ hasHead ys = true ∧ Below w.heap.size w w') ∨
  (∃ g, r = none ∧ e = .returned (.tuple #[.slice (some ⟨g, 0, none⟩) 0 0, .bool false]) ∧ Below w.heap.size w w')

def BkRel (w : World) (bx refs : Nat) (R : Option (List Int)) (v s : Value) (wr : World) : Prop :=
  ∃ (ys : List Int) (fuel : Nat) (A : Option Addr) (n c : Nat), v = .slice A n c ∧ s = .int .i64 (lacksL ys) ∧ Rd wr wr.heap.size A n ys ∧ hasHead ys = true ∧ fixBlocks refs fuel ys = R ∧ 64 ≤ fuel + manyN ys ∧ refs < manyN ys ∧ Below w.heap.size w wr ∧ wr.cell? ⟨bx, 2, none⟩ = some (.int .i64 refs) ∧ bx < wr.heap.size

set_option maxRecDepth 100000 in
set_option maxHeartbeats 8000000 in
theorem specBlocks14_any (A : Option Addr) (n cb : Nat) (xs : List Int) (w : World) (hr : Rd w w.heap.size A n xs) (hh : hasHead xs = true) (ht : thereB xs (headOf xs).refs = true) :
    Calls Try.prog 73 #[.slice A n cb] w (RetBk w (blocksL xs)) := by
  obtain ⟨i0, hi0, hz0, hz1, hz2⟩ := info_parts info2
  have hx := Lib.hid hr.len
  have HH := Lib.hid hh
  have hlen := hasHead_len hh
  have hn : n ≤ 512 := by have := hx.out; omega
  have HR : Hid (blocksL xs = fixBlocks (headOf xs).refs.toNat 64 xs) := rfl
  have HI := Lib.hid (headIn_yes hh)
  clear hh
  go_enter Try.func73, Try.ntmps73
  go_wp2_with fail
  refine (specHeadIn_any _ _ _ xs _ hr (by omega)).mono ?_
  rintro e w1 ⟨rfl, b1⟩
  rw [HI.out]
  generalize headOf xs = h at *
  obtain ⟨s, f, r, u, m⟩ := h
  obtain ⟨t1, t2⟩ := there_lt ht
  simp only at t1 t2
  obtain ⟨refs, rfl⟩ := Int.eq_ofNat_of_zero_le (show 0 ≤ r by omega)
  rw [Int.toNat_natCast] at HR
  clear ht
  unfold hdV
  have b2 := b1.alloc b1.size (.cells #[.int .i64 s, .int .i64 f, .int .i64 refs, .int .i64 u, .int .i64 m] 26)
  have c2 : (w1.alloc (.cells #[.int .i64 s, .int .i64 f, .int .i64 refs, .int .i64 u, .int .i64 m] 26)).cell? ⟨w1.heap.size, 2, none⟩ = some (.int .i64 refs) := World.cell?_alloc_new _ _ _ _
  have hz : (w1.alloc (.cells #[.int .i64 s, .int .i64 f, .int .i64 refs, .int .i64 u, .int .i64 m] 26)).heap.size = w1.heap.size + 1 := by simp
  have HZ := Lib.hid hz
  clear hz
  go_wp2_with fail
  refine (specLacks_any A n cb xs _ ((hr.below b2).more b2.size) (by omega) HH.out).mono ?_
  rintro e w3 ⟨rfl, b3⟩
  have q2 : w3.cell? ⟨w1.heap.size, 2, none⟩ = some (.int .i64 refs) := (b3.cell (p := ⟨w1.heap.size, 2, none⟩) (by show w1.heap.size < _; have := HZ.out; omega)).trans c2
  have hbx : w1.heap.size < w3.heap.size := by have := b3.size; have := HZ.out; omega
  have b03 := below_more b2 b3 b2.size
  have r3 := (hr.below b03).more b03.size
  clear b3 b2 c2 HZ
  generalize blocksL xs = R at *
  have HREL : Hid (BkRel w w1.heap.size refs R (.slice A n cb) (.int .i64 (lacksL xs)) w3) := ⟨xs, 64, A, n, cb, rfl, rfl, r3, HH.out, HR.out.symm, by omega, by omega, b03, q2, hbx⟩
  clear q2 r3 b03 HR
  go_wp2_with fail
  go_loopw [0, 6] (fun v s wr => BkRel w w1.heap.size refs R v s wr) (fun v _ _ => 1000 - lenV v)
  case atStart => exact HREL.out
  case round =>
    obtain ⟨ys, fuel, A2, n2, c2, rfl, rfl, hr2, hh2, hfix, hfu, hrm, hb, q2, hbxr⟩ := hrel
    have hlen2 := hasHead_len hh2
    have hl2 := hr2.len
    have hn2 : n2 ≤ 512 := by omega
    have HL2 := Lib.hid hl2
    have HH2 := Lib.hid hh2
    have HF2 := Lib.hid hfix
    have hmm : n2 ≤ manyN ys * 8 := by unfold manyN; omega
    clear hh2 hfix hl2 HREL
    rcases lacks_bound (countsC (claimsC ys)) (blocksC (claimsC ys)) with hneg | hpos
    · have hneg' : lacksL ys < 0 := hneg
      have HD := Lib.hid (fix_done (refs := refs) hneg' fuel)
      have hd : decide (0 ≤ lacksL ys) = false := by simp; omega
      clear hneg hneg'
      generalize lacksL ys = q at *
      go_wp2_with fail
      go_ret2
      exact .inl ⟨ys, A2, n2, c2, HF2.out.symm.trans HD.out, rfl, hr2, HH2.out, hb⟩
    · have hp' : 0 ≤ lacksL ys ∧ lacksL ys ≤ 7 := hpos
      have HNeg : Hid (¬ lacksL ys < 0) := by show ¬ _; omega
      have HST := Lib.hid (fun h2 k => fix_step (refs := refs) (xs := ys) HNeg.out h2 k)
      have HNN := Lib.hid (fun h2 => fix_none (refs := refs) (xs := ys) HNeg.out h2 fuel)
      have HBS : Hid (blockStep refs ys = (moreL ys (List.replicate 8 0)).set (refs * 8 + (lacksL ys).toNat) (manyN ys)) := rfl
      clear hpos
      obtain ⟨σ, hσ⟩ := Int.eq_ofNat_of_zero_le hp'.1
      have hσ7 : σ ≤ 7 := by omega
      rw [hσ, Int.toNat_natCast] at HBS
      rw [hσ]
      clear HNeg hp' hσ
      have hd : decide ((0 : Int) ≤ (σ : Int)) = true := by simp
      go_wp2_with (at_make; refine wpList_make_full _ rfl _ _ 24 rfl wr.heap.size 2 i0 (.int .i64 0) 1 Try.underlying24 hi0 hz0 hz1 .i64 .i64 _ _ 8 rfl rfl rfl rfl (by rw [hz2]; omega) (by simp only [maxLen]; omega) (Nat.le_refl _) ?_; intro w4 hown hg4; rw [made_iv] at hown)
      have b4 : Below wr.heap.size wr w4 := below_grown hg4 (Nat.le_refl _) (fun _ h => by cases h)
      have oz := zeros_ow hown
      have hltz := ow_lt oz
      clear hown hg4
      refine (specMore_any A2 n2 c2 ys (some ⟨wr.heap.size, 0, none⟩) 8 (List.replicate 8 0) w4 ((hr2.below b4).more b4.size) (oz.rd.more (by omega)) (by omega)).mono ?_
      rintro e w5 (⟨h64, g5, n5, c5, rfl, hc5, o5, b5⟩ | ⟨h64, g5, rfl, b5⟩)
      · have hn5 := o5.len
        rw [more_length _ _ (by simp)] at hn5
        have HN5 := Lib.hid hn5
        have hidx : refs * 8 + σ < n5 := by omega
        have hnn : n2 < n5 := by omega
        clear hn5
        have hco := o5.cell hidx
        have hfo := o5.free (refs * 8 + σ)
        have HSt := Lib.hid (o5.set (refs * 8 + σ) (manyN ys))
        have b45 := below_more b4 b5 b4.size
        have q5 := (b45.cell (p := ⟨w1.heap.size, 2, none⟩) hbxr).trans q2
        have hs45 := b45.size
        have hk5 : wr.heap.size ≤ g5 := by
          rcases o5.form with ⟨h, _⟩ | ⟨x, hx, h1, h2, _⟩
          · cases h
          · injection hx with hx; injection hx with hx; have := b4.size; omega
        have hr64 : refs < 64 := by omega
        go_wp2_with fail
        obtain ⟨o6, hg6⟩ := HSt.out
        rw [← HBS.out] at o6
        obtain ⟨hh6, _⟩ := block_head (refs := refs) HH2.out h64 (by omega)
        have b06 : Below w.heap.size w (w5.setCell ⟨g5, refs * 8 + σ, none⟩ (.int .i64 (manyN ys))) := (hb.trans (b45.mono hb.size)).grown hg6 (by have := hb.size; omega) (fun q e => by cases e; have := hb.size; omega)
        have q6 : (w5.setCell ⟨g5, refs * 8 + σ, none⟩ (.int .i64 (manyN ys))).cell? ⟨w1.heap.size, 2, none⟩ = some (.int .i64 refs) := hg6.cell q5 (fun e => by injection e with e; have : w1.heap.size = g5 := e; omega)
        have hz6 : w5.heap.size ≤ (w5.setCell ⟨g5, refs * 8 + σ, none⟩ (.int .i64 (manyN ys))).heap.size := hg6.size
        have r6 := o6.rd.more hz6
        clear hg6 HSt o5 q5 hco hfo
        generalize w5.setCell ⟨g5, refs * 8 + σ, none⟩ (.int .i64 (manyN ys)) = w6 at *
        refine (specLacks_any (some ⟨g5, 0, none⟩) n5 c5 (blockStep refs ys) w6 r6 (by have := HN5.out; omega) hh6).mono ?_
        rintro e w7 ⟨rfl, b7⟩
        go_wp2_with fail
        go_roundw
        case rel =>
          obtain ⟨fu, rfl⟩ : ∃ fu, fuel = fu + 1 := ⟨fuel - 1, by omega⟩
          have hm1 := block_many (refs := refs) (xs := ys)
          exact ⟨blockStep refs ys, fu, some ⟨g5, 0, none⟩, n5, c5, rfl, rfl, (r6.below b7).more b7.size, hh6, by rw [← HF2.out, HST.out h64 fu], by omega, by omega, b06.trans (b7.mono (by have := b06.size; omega)), (b7.cell (p := ⟨w1.heap.size, 2, none⟩) (by show w1.heap.size < _; omega)).trans q6, by have := b7.size; omega⟩
        case measure => simp [lenV]; omega
      · go_wp2_with fail
        go_ret2
        refine .inr ⟨w5.heap.size, HF2.out.symm.trans (HNN.out h64), rfl, ?_⟩
        exact (hb.trans ((below_more b4 b5 b4.size).mono (by have := hb.size; omega))).alloc (by have := hb.size; have := b4.size; have := b5.size; omega) _

end Go.Proofs.Ytkhinppphmfniaa
