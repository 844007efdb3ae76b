/- Scans (chapter 13): Refound: the model's side. -/
import Derived.Test.YtimbfilbojejiaaScl
import Derived.Deep.RegionHeld3
namespace Go.Proofs.Ytimbfilbojejiaa
open Go.RowKit

theorem lost_len (b : List Int) : (lostL b).length ≤ 8 := by
  unfold lostL
  by_cases h : 0 < (rolesL b).length
  · exact lost_eight h _
  · rw [show (rolesL b).length - 1 = 0 by omega]; simp
theorem lostT_len (b : List Int) : (lostT b).length = 8 := by unfold lostT; simp

set_option maxRecDepth 100000 in
set_option maxHeartbeats 8000000 in
theorem specRefound_any (A : Option Addr) (n c : Nat) (xs : List Int) (w : World) (h : Rd w w.heap.size A n xs) (hn : n ≤ 2097152) :
    Calls Try.prog 14 #[.slice A n c] w (Ret w (refoundL xs)) := by
  obtain ⟨i0, hi0, hz0, hz1, hz2⟩ := info_parts info2
  have HL := Lib.hid h.len
  go_enter Try.func14, Try.ntmps14
  go_wp2_with fail
  refine (specHeadIn_any _ _ _ xs _ h hn).mono ?_
  rintro e w1 ⟨rfl, b1⟩
  generalize hr : headIn xs = r
  obtain ⟨⟨s, f, r, u, m⟩, is⟩ := r
  have HR := Lib.hid hr
  clear hr
  unfold hdV
  have b2 := b1.alloc b1.size (.cells #[.int .i64 s, .int .i64 f, .int .i64 r, .int .i64 u, .int .i64 m] 34)
  cases is
  · have HN : Hid (refoundL xs = []) := by unfold refoundL; rw [if_neg (fun e => by rw [(headIn_false HR.out).1] at e; cases e.1)]; exact rfl
    go_wp2_with fail
    go_ret
    rw [HN.out]
    exact Ret.emptyAt _ (by simp) b2
  have HY := Lib.hid (headIn_true HR.out)
  have hlen := hasHead_len HY.out.1
  have hn5 : n ≤ 512 := by have := HL.out; omega
  have hall := headB_all (hasHead_ok HY.out.1)
  rw [HY.out.2] at hall
  simp only at hall
  by_cases h64 : ¬ manyN xs < 64
  · have HN : Hid (refoundL xs = []) := by unfold refoundL; rw [if_neg (fun e => h64 e.2)]; exact rfl
    have d64 : decide ((64 : Int) ≤ (manyN xs : Int)) = true := by simp; omega
    go_wp2_with fail
    refine (specMany_any _ _ _ xs _ HL.out hn).mono ?_
    rintro e w' ⟨rfl, rfl⟩
    go_wp2_with fail
    go_ret
    rw [HN.out]
    exact Ret.emptyAt _ (by simp) b2
  have hm64 : manyN xs < 64 := by omega
  have HN : Hid (refoundL xs = setCl (setCl (whole xs) (manyN xs) (lostT xs)) 0 (hdW ⟨s, manyN xs, r, u, m⟩)) := by
    unfold refoundL moreL
    rw [if_pos ⟨HY.out.1, hm64⟩, HY.out.2]
    exact rfl
  have hp : 0 < manyN xs := by unfold manyN; omega
  have d64 : decide ((64 : Int) ≤ (manyN xs : Int)) = false := by simp; omega
  have y2 : HBox (w1.alloc (.cells #[.int .i64 s, .int .i64 f, .int .i64 r, .int .i64 u, .int .i64 m] 34)) w1.heap.size ⟨s, f, r, u, m⟩ := HBox.new w1 ⟨s, f, r, u, m⟩
  have hb1 := b1.size
  clear h64 HR HY
  go_wp2_with fail
  generalize (w1.alloc (.cells #[.int .i64 s, .int .i64 f, .int .i64 r, .int .i64 u, .int .i64 m] 34)) = w2 at *
  refine (specMany_any _ _ _ xs _ HL.out hn).mono ?_
  rintro e w' ⟨rfl, rfl⟩
  have y2l := y2.lt
  go_wp2_with (at_make; refine wpList_make_full _ rfl _ _ 22 rfl w2.heap.size 2 i0 (.int .i64 0) 1 Try.underlying22 hi0 hz0 hz1 .i64 .i64 _ _ 8 rfl rfl rfl rfl (by rw [hz2]; omega) (by simp only [maxLen]; omega) (Nat.le_refl _) ?_; intro w3 hown hg3; rw [made_iv] at hown)
  have b3 : Below w2.heap.size w2 w3 := below_grown hg3 (Nat.le_refl _) (fun _ h => by cases h)
  have ot := zeros_ow hown
  have hltt := ow_lt ot
  have b03 := below_more b2 b3 b2.size
  have s3 := b3.size
  have y3 := y2.keep (b3.block _ y2l)
  clear hown hg3
  refine (specLost_any A n c xs w3 ((h.below b03).more b03.size) hn).mono ?_
  rintro e w4 ⟨gl, nl, cl', rfl, hcl, oL, b4⟩
  have s4 := b4.size
  have b04 := below_more b03 b4 b03.size
  have y4 := y3.keep (b4.block _ (by omega))
  have ot4 := ot.below b4 (by omega)
  have hnl := oL.len
  have h8 := lost_len xs
  rw [hnl] at h8
  have hgl : w3.heap.size ≤ gl := by
    rcases oL.form with ⟨h0, _⟩ | ⟨x, hx, h1, _⟩
    · cases h0
    · injection hx with hx; injection hx with hx; omega
  have HLc := Lib.hid (fun (j : Nat) (hj : j < nl) => oL.cell hj)
  have HT : Hid (setLost (lostL xs) nl = lostT xs) := by rw [← hnl]; exact setLost_all (by omega)
  have HB2 := Lib.hid b2
  have hb2 := b2.size
  clear oL b3 b4 ot y2 y3 b03 hnl b1 b2
  generalize w2.heap.size = gt at *
  generalize lostL xs = L at *
  go_wp2_with fail
  go_loopw [7] (fun i wr => ∃ k : Nat, k ≤ nl ∧ i = .int .i64 k ∧ Ow wr gt (gt + 1) (some ⟨gt, 0, none⟩) 8 8 (setLost L k) ∧ w4.grownBy wr (some gt)) (fun i _ => nl - (intOf i).toNat)
  case atStart => exact ⟨0, Nat.zero_le _, rfl, ot4, grown_refl _ _⟩
  case round =>
    obtain ⟨k, hk, rfl, ho, hg⟩ := hrel
    have sr := hg.size
    by_cases hlt : k < nl
    · have e0 : wr.cell? ⟨gl, k, none⟩ = some (.int .i64 (L.getD k 0)) := hg.cell (HLc.out k hlt) (fun e => by injection e with e; have : gl = gt := e; omega)
      have HS : Hid (setLost L (k + 1) = (setLost L k).set k (entryOf (L.getD k 0) true)) := range_next _ _ _
      have hcc := ho.cell (show k < 8 by omega)
      have hff := ho.free k
      have HSt := Lib.hid (ho.set k (entryOf (L.getD k 0) true))
      generalize L.getD k 0 = x at *
      go_wp2_with fail
      refine (specEntry_any _ _ _).mono ?_
      rintro e w' ⟨rfl, rfl⟩
      generalize entryOf x true = y at *
      go_wp2_with fail
      go_roundw
      case rel =>
        obtain ⟨h1, h2⟩ := HSt.out
        exact ⟨k + 1, by omega, by go_num, by rw [HS.out]; exact h1, grown_trans hg h2⟩
      case measure => simp [intOf]; omega
    · obtain rfl : k = nl := by omega
      rw [HT.out] at ho
      have yr := y4.keep (hg.block _ (by omega) (fun e => by injection e with e; omega))
      have br := b04.grown hg b04.size (fun q e => by cases e; omega)
      have c1 := yr.cell 1
      have f1 := yr.free 1
      have yp := yr.put1 (manyN xs)
      have hgtw := ow_lt ho
      have of : Ow (wr.setCell ⟨w1.heap.size, 1, none⟩ (.int .i64 (manyN xs))) gt (gt + 1) (some ⟨gt, 0, none⟩) 8 8 (lostT xs) := ho.keep (fun q h1 _ _ => Below.heap_setCell _ _ _ _ (by show q ≠ w1.heap.size; omega))
      have bf : Below w.heap.size w (wr.setCell ⟨w1.heap.size, 1, none⟩ (.int .i64 (manyN xs))) := br.setCell hb1 _
      have sf : (wr.setCell ⟨w1.heap.size, 1, none⟩ (.int .i64 (manyN xs))).heap.size = wr.heap.size := by simp [World.setCell]
      clear ho yr br HT HLc hg HB2 y4 b04 ot4
      go_wp2_with fail
      refine (specMany_any _ _ _ xs _ HL.out hn).mono ?_
      rintro e w' ⟨rfl, rfl⟩
      go_wp2_with fail
      generalize wr.setCell ⟨w1.heap.size, 1, none⟩ (.int .i64 (manyN xs)) = wf at *
      have q1 : wf.cell? ⟨w1.heap.size, 1, none⟩ = some (.int .i64 (manyN xs)) := yp.cell 1
      have ypl := yp.lt
      have hrd : Rd wf.drew wf.drew.heap.size A n xs := (h.below bf).more bf.size
      have hrt : Rd wf (gt + 1) (some ⟨gt, 0, none⟩) 8 (lostT xs) := of.rd
      have hgf : gt + 1 ≤ wf.heap.size := by omega
      clear c1 f1 of sf
      go_region_held3 (fun w' => w'.cell? ⟨w1.heap.size, 1, none⟩ = some (.int .i64 (manyN xs)))
        (first
          | go_keep
          | (exact (b7.cell (p := ⟨w1.heap.size, 1, none⟩) ypl).trans (by assumption))
          | (exact (b8.cell (p := ⟨w1.heap.size, 1, none⟩) (Nat.lt_of_lt_of_le ypl b7.size)).trans (by assumption)))
        (first
          | (go_at_call 30; refine (specWhole_any A n c xs wf.drew hrd hn).mono ?_; rintro e w7 ⟨g7, n7, c7, rfl, hc7, o7, b7⟩)
          | (go_at_call 29; refine (specWith_any g7 0 n7 c7 (manyN xs) (whole xs) (lostT xs) (some ⟨gt, 0, none⟩) 8 w7 o7.rd ((hrt.below (w' := w7) ⟨b7.os, b7.tape, b7.output, b7.size, fun q hq => b7.block q (Nat.lt_of_lt_of_le hq hgf)⟩).more (Nat.le_trans hgf b7.size)) hc7 (by have := o7.len; rw [whole_length] at this; omega) (by have := o7.len; rw [whole_length] at this; omega) (by have := o7.len; rw [whole_length] at this; omega)).mono ?_; rintro e w8 ⟨G8, n8, c8, rfl, o8, b8⟩))
      all_goals
        replace b7 : Below wf.heap.size wf w7 := ⟨b7.os, b7.tape, b7.output, b7.size, b7.block⟩
        have s7 := b7.size
        have s8 := b8.size
        have b07 := below_more bf b7 bf.size
        have b08 := below_more b07 b8 b07.size
        have hy8 := (yp.keep (b7.block _ ypl)).keep (b8.block _ (by omega))
        have p0 : w8.cell? ⟨w1.heap.size, 0, none⟩ = some (.int .i64 s) := hy8.cell 0
        have p1 : w8.cell? ⟨w1.heap.size, 1, none⟩ = some (.int .i64 (manyN xs)) := hy8.cell 1
        have p2 : w8.cell? ⟨w1.heap.size, 2, none⟩ = some (.int .i64 r) := hy8.cell 2
        have p3 : w8.cell? ⟨w1.heap.size, 3, none⟩ = some (.int .i64 u) := hy8.cell 3
        have p4 : w8.cell? ⟨w1.heap.size, 4, none⟩ = some (.int .i64 m) := hy8.cell 4
        have hl8 := o8.len
        rw [setCl_length (by rw [whole_length]; omega) (by rw [whole_length]; exact Nat.le_refl _) (lostT_len xs), whole_length, if_pos rfl] at hl8
        rcases o8.form with ⟨_, h0, _⟩ | ⟨g8, rfl, _, _, _, hc8⟩
        · omega
        have HL8 := Lib.hid hl8
        have HO8 := Lib.hid o8
        clear hl8 o8 o7 hy8 yp
        go_wp2_with fail
        refine (specHdWords_any ⟨s, manyN xs, r, u, m⟩ w8).mono ?_
        rintro e w9 ⟨g9, n9, c9, rfl, hc9, o9, b9⟩
        obtain rfl : 8 = n9 := o9.len
        have b09 := below_more b08 b9 b08.size
        have s9 := b9.size
        go_wp2_with fail
        refine (specWith_any g8 0 n8 c8 0 (setCl (whole xs) (manyN xs) (lostT xs)) (hdW ⟨s, manyN xs, r, u, m⟩) (some ⟨g9, 0, none⟩) c9 w9 ((HO8.out.below b9 (Nat.le_refl _)).rd.more (by omega)) o9.rd hc8 (by have := HL8.out; omega) (by have := HL8.out; omega) (by omega)).mono ?_
        rintro e w10 ⟨G, ng, cg, rfl, oG, b10⟩
        go_wp2_with fail
        go_ret
        rw [HN.out]
        exact ⟨G, ng, cg, rfl, oG.more b09.size (Nat.le_refl _), below_more b09 b10 b09.size⟩
end Go.Proofs.Ytimbfilbojejiaa
