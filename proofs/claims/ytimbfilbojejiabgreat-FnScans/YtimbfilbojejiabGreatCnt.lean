/- Counts, blocks, what is stored: that the model's Go functions compute them. -/
import Derived.Test.YtimbfilbojejiabGreatCt
namespace Go.Proofs.YtimbfilbojejiabGreat
open Go.RowKit

theorem ow_lt {w : World} {lo hi g n c : Nat} {xs : List Int} (h : Ow w lo hi (some ⟨g, 0, none⟩) n c xs) : g < w.heap.size := (h.own.lt g rfl).2

/-- A new slice of zeros. -/
theorem zeros_ow {w w1 : World} {n : Nat} (hown : w1.ownsRow w.heap.size 2 1 (.slice (some ⟨w.heap.size, 0, none⟩) n n) n (iv (List.replicate n 0))) : Ow w1 w.heap.size (w.heap.size + 1) (some ⟨w.heap.size, 0, none⟩) n n (List.replicate n 0) :=
  ⟨hown, fun g hg => by simp [Value.ownBlock] at hg; omega⟩

set_option maxRecDepth 100000 in
set_option maxHeartbeats 2000000 in
theorem specCounts_any (A : Option Addr) (n cb : Nat) (xs : List Int) (w : World) (hr : Rd w w.heap.size A n xs) (hn : n ≤ 2097152) (hh : hasHead xs = true) :
    Calls Tryz.prog 112 #[.slice A n cb] w (RetS w (countsC (claimsC xs))) := by
  obtain ⟨i0, hi0, hz0, hz1, hz2⟩ := info_parts info2
  have HH := Lib.hid hh
  have HM := Lib.hid (manyN_le (hasHead_img hh))
  clear hh
  go_enter Tryz.func112, Tryz.ntmps112
  go_wp2_with (at_make; refine wpList_make_full _ rfl _ _ 24 rfl w.heap.size 2 i0 (.int .i64 0) 1 Tryz.underlying24 hi0 hz0 hz1 .i64 .i64 _ _ 64 rfl rfl rfl rfl (by rw [hz2]; omega) (by simp only [maxLen]; omega) (Nat.le_refl _) ?_; intro w1 hown hg; rw [made_iv] at hown)
  have hb1 : Below w.heap.size w w1 := below_grown hg (Nat.le_refl _) (fun _ h => by cases h)
  have ho1 := zeros_ow hown
  have hlt1 := ow_lt ho1
  clear hown hg hi0 hz0 hz1 hz2
  refine (specClaims_any A n cb xs w1 ((hr.below hb1).more hb1.size) hn HH.out).mono ?_
  rintro e w2 ⟨g, c, rfl, ho, b2⟩
  have hs2 := b2.size
  have hgl := ho.low
  have hgt := ho.lt
  have o2 := ho1.below b2 (by omega)
  have b02 := below_more hb1 b2 hb1.size
  have HR := Lib.hid ho.rd
  have hll := claims_length xs
  have HT := Lib.hid (fun c hc hg => good_target HH.out (c := c) hc hg)
  clear hb1 b2 ho1 ho
  generalize claimsC xs = l at *
  go_wp2_with fail
  go_loopw [5] (fun i wr => ∃ k : Nat, k ≤ l.length ∧ i = .int .i64 k ∧ Ow wr w.heap.size (w.heap.size + 1) (some ⟨w.heap.size, 0, none⟩) 64 64 ((l.take k).foldl cntStep (List.replicate 64 0)) ∧ w2.grownBy wr (some w.heap.size)) (fun i _ => l.length - (intOf i).toNat)
  case atStart => exact ⟨0, Nat.zero_le _, rfl, o2, grown_refl _ _⟩
  case round =>
    obtain ⟨k, hk, rfl, hok, hg⟩ := hrel
    have sr := hg.size
    by_cases hlt : k < l.length
    · have hce := cm_cells (HR.out.grown hg hgt (by show g ≠ _; omega)) hlt
      have HS := Lib.hid (take_fold cntStep l (List.replicate 64 0) k hlt)
      have hgd : l.getD k cm0 = l[k] := by simp [List.getD_eq_getElem?_getD, hlt]
      have HTk := Lib.hid (HT.out _ (List.getElem_mem hlt))
      rw [hgd] at hce
      clear hgd
      obtain ⟨_, hbd⟩ := cnt_take l k
      have HB := Lib.hid hbd
      clear hbd
      generalize (l.take k).foldl cntStep (List.replicate 64 0) = fs at *
      generalize l[k] = x at *
      obtain ⟨xk, xf, xs', xp, xt, xg⟩ := x
      have e4 : wr.cell? ⟨g, k * 6 + 4, none⟩ = some (.int .i64 xt) := hce 4 (by omega)
      have e5 : wr.cell? ⟨g, k * 6 + 5, none⟩ = some (.bool xg) := hce 5 (by omega)
      clear hce
      cases xg
      · have HE : Hid ((l.take (k + 1)).foldl cntStep (List.replicate 64 0) = fs) := by rw [HS.out]; simp [cntStep, Hid]
        clear HS
        go_wp2_with fail
        go_roundw
        case rel => exact ⟨k + 1, by omega, by go_num, by rw [HE.out]; exact hok, hg⟩
        case measure => simp [intOf]; omega
      · have HE : Hid ((l.take (k + 1)).foldl cntStep (List.replicate 64 0) = fs.set xt.toNat (fs.getD xt.toNat 0 + 1)) := by rw [HS.out]; simp [cntStep, Hid]
        obtain ⟨t0, t1⟩ := HTk.out rfl
        simp only at t0 t1
        obtain ⟨τ, rfl⟩ := Int.eq_ofNat_of_zero_le t0
        have hτ : τ < 64 := by have := HM.out; omega
        have hco := hok.cell hτ
        have hfo := hok.free τ
        have hbd := HB.out τ
        obtain ⟨v0, v1⟩ := hbd
        have HSt := Lib.hid (hok.set τ (fs.getD τ 0 + 1))
        rw [Int.toNat_natCast] at HE
        clear HS HTk t0 t1
        generalize fs.getD τ 0 = v at *
        go_wp2_with fail
        have n1 : IntKind.i64.wrap (v + 1) = v + 1 := IntWalk.i64_in _ (by omega)
        have n2 : (0 : Int) ≤ (k : Int) := by omega
        have n3 : (k : Int) < (l.length : Int) := by omega
        have n4 : (τ : Int) < 64 := by omega
        have n5 : (0 : Int) ≤ (τ : Int) := by omega
        go_still_tail 16, (by kernel_rfl)
        change wpList _ _ _ _ _ wr.drew
        go_wp2_with fail
        go_roundw
        case rel =>
          obtain ⟨h1, h2⟩ := HSt.out
          refine ⟨k + 1, by omega, by go_num, ?_, ?_⟩
          · rw [HE.out]; exact h1.drew
          · exact grown_trans hg (grown_drew h2)
        case measure => simp [intOf]; omega
    · obtain rfl : k = l.length := by omega
      go_wp2_with fail
      go_ret
      rw [List.take_length] at hok
      exact ⟨w.heap.size, 64, 64, rfl, Nat.le_refl _, hok.more (Nat.le_refl _) (by omega), below_of_grown b02 hg (Nat.le_refl _)⟩

set_option maxRecDepth 100000 in
set_option maxHeartbeats 2000000 in
theorem specBlocks_any (A : Option Addr) (n cb : Nat) (xs : List Int) (w : World) (hr : Rd w w.heap.size A n xs) (hn : n ≤ 2097152) (hh : hasHead xs = true) :
    Calls Tryz.prog 117 #[.slice A n cb] w (RetS w (blocksC (claimsC xs))) := by
  obtain ⟨i0, hi0, hz0, hz1, hz2⟩ := info_parts info2
  have HH := Lib.hid hh
  clear hh
  go_enter Tryz.func117, Tryz.ntmps117
  go_wp2_with (at_make; refine wpList_make_full _ rfl _ _ 24 rfl w.heap.size 2 i0 (.int .i64 0) 1 Tryz.underlying24 hi0 hz0 hz1 .i64 .i64 _ _ 8 rfl rfl rfl rfl (by rw [hz2]; omega) (by simp only [maxLen]; omega) (Nat.le_refl _) ?_; intro w1 hown hg; rw [made_iv] at hown)
  have hb1 : Below w.heap.size w w1 := below_grown hg (Nat.le_refl _) (fun _ h => by cases h)
  have ho1 := zeros_ow hown
  have hlt1 := ow_lt ho1
  clear hown hg hi0 hz0 hz1 hz2
  refine (specClaims_any A n cb xs w1 ((hr.below hb1).more hb1.size) hn HH.out).mono ?_
  rintro e w2 ⟨g, c, rfl, ho, b2⟩
  have hs2 := b2.size
  have hgl := ho.low
  have hgt := ho.lt
  have o2 := ho1.below b2 (by omega)
  have b02 := below_more hb1 b2 hb1.size
  have HR := Lib.hid ho.rd
  have hll := claims_length xs
  have HT := Lib.hid (claims_ok xs)
  clear hb1 b2 ho1 ho
  generalize claimsC xs = l at *
  go_wp2_with fail
  go_loopw [5] (fun i wr => ∃ k : Nat, k ≤ l.length ∧ i = .int .i64 k ∧ Ow wr w.heap.size (w.heap.size + 1) (some ⟨w.heap.size, 0, none⟩) 8 8 ((l.take k).foldl blkStep (List.replicate 8 0)) ∧ w2.grownBy wr (some w.heap.size)) (fun i _ => l.length - (intOf i).toNat)
  case atStart => exact ⟨0, Nat.zero_le _, rfl, o2, grown_refl _ _⟩
  case round =>
    obtain ⟨k, hk, rfl, hok, hg⟩ := hrel
    have sr := hg.size
    by_cases hlt : k < l.length
    · have hce := cm_cells (HR.out.grown hg hgt (by show g ≠ _; omega)) hlt
      have HS := Lib.hid (take_fold blkStep l (List.replicate 8 0) k hlt)
      have hgd : l.getD k cm0 = l[k] := by simp [List.getD_eq_getElem?_getD, hlt]
      have HTk := Lib.hid (HT.out _ (List.getElem_mem hlt))
      rw [hgd] at hce
      clear hgd
      generalize (l.take k).foldl blkStep (List.replicate 8 0) = fs at *
      generalize l[k] = x at *
      obtain ⟨xk, xf, xs', xp, xt, xg⟩ := x
      have e0 : wr.cell? ⟨g, k * 6, none⟩ = some (.int .i64 xk) := hce 0 (by omega)
      have e2 : wr.cell? ⟨g, k * 6 + 2, none⟩ = some (.int .i64 xs') := hce 2 (by omega)
      have e4 : wr.cell? ⟨g, k * 6 + 4, none⟩ = some (.int .i64 xt) := hce 4 (by omega)
      have e5 : wr.cell? ⟨g, k * 6 + 5, none⟩ = some (.bool xg) := hce 5 (by omega)
      clear hce
      cases xg
      · have HE : Hid ((l.take (k + 1)).foldl blkStep (List.replicate 8 0) = fs) := by rw [HS.out]; simp [blkStep, Hid]
        clear HS
        go_wp2_with fail
        go_roundw
        case rel => exact ⟨k + 1, by omega, by go_num, by rw [HE.out]; exact hok, hg⟩
        case measure => simp [intOf]; omega
      · by_cases hk4 : xk = 4
        · subst hk4
          have HE : Hid ((l.take (k + 1)).foldl blkStep (List.replicate 8 0) = fs.set xs'.toNat xt) := by rw [HS.out]; simp [blkStep, Hid]
          have t0 : 0 ≤ xs' := HTk.out.slot0
          have t1 : xs' ≤ 7 := HTk.out.slot1
          obtain ⟨τ, rfl⟩ := Int.eq_ofNat_of_zero_le t0
          have hτ : τ < 8 := by omega
          have hco := hok.cell hτ
          have hfo := hok.free τ
          have HSt := Lib.hid (hok.set τ xt)
          rw [Int.toNat_natCast] at HE
          clear HS HTk t0 t1
          go_wp2_with fail
          have n2 : (0 : Int) ≤ (k : Int) := by omega
          have n3 : (k : Int) < (l.length : Int) := by omega
          have n4 : (τ : Int) < 8 := by omega
          have n5 : (0 : Int) ≤ (τ : Int) := by omega
          go_still_tail 12, (by kernel_rfl)
          change wpList _ _ _ _ _ wr.drew
          go_wp2_with fail
          go_roundw
          case rel =>
            obtain ⟨h1, h2⟩ := HSt.out
            refine ⟨k + 1, by omega, by go_num, ?_, ?_⟩
            · rw [HE.out]; exact h1.drew
            · exact grown_trans hg (grown_drew h2)
          case measure => simp [intOf]; omega
        · have hd4 : (xk == 4) = false := by simpa using hk4
          have HE : Hid ((l.take (k + 1)).foldl blkStep (List.replicate 8 0) = fs) := by rw [HS.out]; simp [blkStep, hk4, Hid]
          clear HS
          go_wp2_with fail
          go_roundw
          case rel => exact ⟨k + 1, by omega, by go_num, by rw [HE.out]; exact hok, hg⟩
          case measure => simp [intOf]; omega
    · obtain rfl : k = l.length := by omega
      go_wp2_with fail
      go_ret
      rw [List.take_length] at hok
      exact ⟨w.heap.size, 8, 8, rfl, Nat.le_refl _, hok.more (Nat.le_refl _) (by omega), below_of_grown b02 hg (Nat.le_refl _)⟩

/-- What is stored, as far as it has been looked up. -/
def stored_at (xs bs : List Int) (c : Nat) : Int := if bs.getD (c / 8) 0 ≠ 0 then (cl xs (bs.getD (c / 8) 0).toNat).getD (c % 8) 0 else 0
def storedTo (xs bs : List Int) (k : Nat) : List Int := (List.range k).map (stored_at xs bs) ++ List.replicate (64 - k) 0
theorem storedTo_zero (xs bs : List Int) : storedTo xs bs 0 = List.replicate 64 0 := rfl
theorem storedTo_all (xs bs : List Int) : storedTo xs bs 64 = storedC xs bs := by simp [storedTo, storedC, stored_at]
theorem storedTo_step (xs bs : List Int) (k : Nat) (hk : k < 64) : (storedTo xs bs k).set k (stored_at xs bs k) = storedTo xs bs (k + 1) := by
  unfold storedTo
  rw [List.set_append, if_neg (by simp), List.range_succ, List.map_append, show 64 - k = (64 - (k + 1)) + 1 by omega, List.replicate_succ]
  simp
theorem storedTo_skip (xs bs : List Int) (k : Nat) (hk : k < 64) (h : stored_at xs bs k = 0) : storedTo xs bs (k + 1) = storedTo xs bs k := by
  rw [← storedTo_step xs bs k hk, h]
  apply List.ext_getElem?
  intro j
  rw [List.getElem?_set]
  by_cases hj : k = j
  · subst hj
    simp only [if_true]
    have hl : (storedTo xs bs k).length = 64 := by simp [storedTo]; omega
    rw [if_pos (by omega)]
    unfold storedTo
    rw [List.getElem?_append_right (by simp), List.getElem?_replicate]
    simp; omega
  · simp [hj]

end Go.Proofs.YtimbfilbojejiabGreat
