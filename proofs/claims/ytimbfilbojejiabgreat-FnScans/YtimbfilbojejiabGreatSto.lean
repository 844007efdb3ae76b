/- What is stored (StoredIn), the model's side. -/
import Derived.Test.YtimbfilbojejiabGreatCnt
namespace Go.Proofs.YtimbfilbojejiabGreat
open Go.RowKit

theorem cl_word_get (xs : List Int) (a j : Nat) (h : j < 8) : (cl xs a).getD j 0 = xs.getD (a * 8 + j) 0 := by unfold cl; rw [f8_get _ j h]
theorem word_get {xs : List Int} (h : imgB xs = true) (j : Nat) : 0 ≤ xs.getD j 0 ∧ xs.getD j 0 ≤ 65535 := by
  by_cases hj : j < xs.length
  · have hw : wordsB xs = true := by simp [imgB] at h; exact h.1
    unfold wordsB at hw
    rw [List.all_eq_true] at hw
    have := inB_true.1 (hw xs[j] (List.getElem_mem hj))
    rw [List.getD_eq_getElem?_getD, List.getElem?_eq_getElem hj]
    exact this
  · rw [getD_past _ _ (by omega)]; omega

set_option maxRecDepth 100000 in
set_option maxHeartbeats 4000000 in
theorem specStored_any (A : Option Addr) (n cb : Nat) (xs : List Int) (w : World) (hr : Rd w w.heap.size A n xs) (hn : n ≤ 2097152) :
    Calls Tryz.prog 113 #[.slice A n cb] w (Ret w (storedL xs)) := by
  obtain ⟨i0, hi0, hz0, hz1, hz2⟩ := info_parts info2
  go_enter Tryz.func113, Tryz.ntmps113
  go_wp2_with fail
  refine (specHeadIn_any _ _ _ xs _ hr hn).mono ?_
  rintro e w1 ⟨rfl, b1⟩
  generalize hh : headIn xs = r
  obtain ⟨⟨s, f, r, u, m⟩, is⟩ := r
  have HR := Lib.hid hh
  clear hh
  unfold hdV
  have b2 := b1.alloc b1.size (.cells #[.int .i64 s, .int .i64 f, .int .i64 r, .int .i64 u, .int .i64 m] 32)
  cases is
  · have HN : Hid (storedL xs = []) := by unfold storedL; rw [(headIn_false HR.out).1]; exact rfl
    go_wp2_with fail
    go_ret
    rw [HN.out]
    exact Ret.emptyAt _ (by simp) b2
  · have HH := Lib.hid (headIn_true HR.out).1
    have HN : Hid (storedL xs = storedC xs (blocksC (claimsC xs))) := by unfold storedL; rw [HH.out]; exact rfl
    have hsz : (w1.alloc (.cells #[.int .i64 s, .int .i64 f, .int .i64 r, .int .i64 u, .int .i64 m] 32)).heap.size = w1.heap.size + 1 := by simp
    have HZ := Lib.hid hsz
    clear hsz
    go_wp2_with (at_make; refine wpList_make_full _ rfl _ _ 24 rfl (w1.heap.size + 1) 2 i0 (.int .i64 0) 1 Tryz.underlying24 hi0 hz0 hz1 .i64 .i64 _ _ 64 rfl rfl rfl rfl (by rw [hz2]; omega) (by simp only [maxLen]; omega) (by have := HZ.out; omega) ?_; intro w3 hown hg; rw [made_iv, HZ.out] at hown; rw [HZ.out])
    have b3 : Below w.heap.size w w3 := b2.grown hg b2.size (fun _ h => by cases h)
    have ho3 : Ow w3 (w1.heap.size + 1) (w1.heap.size + 2) (some ⟨w1.heap.size + 1, 0, none⟩) 64 64 (List.replicate 64 0) := ⟨hown, fun g hg => by simp [Value.ownBlock] at hg; omega⟩
    have hlt3 := ow_lt ho3
    have hb1 := b1.size
    clear hown hg hi0 hz0 hz1 hz2 HZ b2
    refine (specBlocks_any A n cb xs w3 ((hr.below b3).more b3.size) hn HH.out).mono ?_
    rintro e w4 ⟨gb, nb, cbk, rfl, _, ob, b4⟩
    obtain rfl : 8 = nb := by have := ob.len; rw [blocks_length] at this; exact this
    have hs4 := b4.size
    have hgb : w3.heap.size ≤ gb ∧ gb < w4.heap.size := by
      rcases ob.form with ⟨h, _⟩ | ⟨x, hx, h1, h2, _⟩
      · cases h
      · injection hx with hx; injection hx with hx; omega
    have o4 := ho3.below b4 (by omega)
    have b04 := below_more b3 b4 b3.size
    have HCB := Lib.hid (fun (j : Nat) (hj : j < 8) => ob.cell hj)
    have HTB := Lib.hid (blocks_there xs)
    have hmany := manyN_le (hasHead_img HH.out)
    clear b3 b4 ho3 ob
    generalize blocksC (claimsC xs) = bs at *
    go_wp2_with fail
    go_loopw [7] (fun i wr => ∃ k : Nat, k ≤ 64 ∧ i = .int .i64 k ∧ Ow wr (w1.heap.size + 1) (w1.heap.size + 2) (some ⟨w1.heap.size + 1, 0, none⟩) 64 64 (storedTo xs bs k) ∧ w4.grownBy wr (some (w1.heap.size + 1))) (fun i _ => 64 - (intOf i).toNat)
    case atStart => exact ⟨0, by omega, rfl, o4, grown_refl _ _⟩
    case round =>
      obtain ⟨k, hk, rfl, hok, hg⟩ := hrel
      have sr := hg.size
      by_cases hlt : k < 64
      · have hcb : wr.cell? ⟨gb, k / 8, none⟩ = some (.int .i64 (bs.getD (k / 8) 0)) := hg.cell (HCB.out (k / 8) (by omega)) (fun e => by injection e with e; have : gb = w1.heap.size + 1 := e; omega)
        have HS : Hid (stored_at xs bs k = if bs.getD (k / 8) 0 ≠ 0 then (cl xs (bs.getD (k / 8) 0).toNat).getD (k % 8) 0 else 0) := rfl
        have HT := Lib.hid (HTB.out (k / 8))
        generalize bs.getD (k / 8) 0 = v at *
        by_cases hv : v = 0
        · subst hv
          have hd : ((0 : Int) != 0) = false := by simp
          have HE := Lib.hid (storedTo_skip xs bs k hlt (by rw [HS.out]; simp))
          clear HT HS
          go_wp2_with fail
          go_roundw
          case rel => exact ⟨k + 1, by omega, by go_num, by rw [HE.out]; exact hok, hg⟩
          case measure => simp [intOf]; omega
        · have hd : (v != 0) = true := by simpa using hv
          have hth : thereB xs v = true := by rcases HT.out with h | h; exact absurd h hv; exact h
          obtain ⟨t1, t2⟩ := there_lt hth
          obtain ⟨τ, rfl⟩ := Int.eq_ofNat_of_zero_le (show 0 ≤ v by omega)
          have hr5 : Rd wr w.heap.size A n xs := (hr.below b04).grown hg (by omega) (by have := b04.size; omega)
          have HE := Lib.hid (storedTo_step xs bs k hlt)
          have HS2 : Hid (stored_at xs bs k = (cl xs τ).getD (k % 8) 0) := by rw [HS.out, if_pos hv, Int.toNat_natCast]; exact rfl
          clear HT HS hth
          go_wp2_with fail
          refine (specCluster_any A n cb τ xs wr (hr5.more (by have := b04.size; omega)) hn (by omega)).mono ?_
          rintro e w5 ⟨G, ng, cg, rfl, oG, b5⟩
          obtain rfl : 8 = ng := by have := oG.len; simpa [cl, f8_length] using this
          rcases oG.form with ⟨_, h0, _⟩ | ⟨g, rfl, g1, g2, g3, g4⟩
          · omega
          have hcg := oG.cell (j := k % 8) (by omega)
          have hok5 := hok.below b5 (by omega)
          have hco := hok5.cell hlt
          have hfo := hok5.free k
          have HSt := Lib.hid (hok5.set k ((cl xs τ).getD (k % 8) 0))
          generalize (cl xs τ).getD (k % 8) 0 = y at *
          go_wp2_with fail
          go_roundw
          case rel =>
            obtain ⟨h1, h2⟩ := HSt.out
            refine ⟨k + 1, by omega, by go_num, ?_, ?_⟩
            · rw [← HE.out, HS2.out]; exact h1
            · exact grown_trans (grown_trans hg ⟨b5.os, b5.tape, b5.output, b5.size, fun q hq _ => b5.block q hq⟩) h2
          case measure => simp [intOf]; omega
      · obtain rfl : k = 64 := by omega
        go_wp2_with fail
        go_ret
        rw [storedTo_all] at hok
        rw [HN.out]
        exact ⟨_, 64, 64, rfl, hok.more (by omega) (by omega), below_of_grown b04 hg (by omega)⟩

end Go.Proofs.YtimbfilbojejiabGreat
