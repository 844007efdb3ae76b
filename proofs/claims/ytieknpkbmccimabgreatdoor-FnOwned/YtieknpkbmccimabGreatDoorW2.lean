/- Flags (chapter 15): the program's side: Owned ranges over the tables with their right words, and writes these into a whole copy. Owned (chapter 15): what the program's own function answers. FnOwned: the law with what the program's own functions answer, given what the row's list says. -/
import Derived.Test.YtieknpkbmccimabGreatDoorRwi
import Derived.Test.YtieknpkbmccimabGreatDoorOwq
import Derived.Test.YtieknpkbmccimabGreatDoorW1
import Derived.Test.YtieknpkbmccimabGreatDoorZ1
import Derived.Test.YtieknpkbmccimabGreatDoorX2
import Derived.Test.YtieknpkbmccimabGreatDoorX8
import Derived.Test.YtieknpkbmccimabGreatDoorLawOwned
namespace Go.Proofs.YtieknpkbmccimabGreatDoor
open Go.RowKit Go.Shelf
open Go.RowKit

attribute [local go_sem] Oper.semAt_some

/-- Between two rounds: the tables so far are written into the copy. -/
structure OwI (w : World) (Bb q N : Nat) (os : List Int) (W : World) : Prop where
  box : Boxed W Bb 24 (.slice (some ⟨q, 0, none⟩) N N)
  row : W.heap[q]? = some (.cells (iv os).toArray 2 (0, 0))
  bel : Below w.heap.size w W
theorem OwI.own {w : World} {Bb q N B : Nat} {f : Nat → List Int} (h1 : w.heap.size ≤ B) : OwnFrom B (fun k W => OwI w Bb q N (f k) W) := fun s X Y row hs hg hr => by
  obtain ⟨b, o, l⟩ := hs
  exact ⟨b.kept hg (fun e => by obtain ⟨_, o2, h2, h3⟩ := hr _ e.symm; rw [show X.heap[Bb]? = _ from b] at h2; cases h2; cases h3), (hg.block q (Array.getElem?_eq_some_iff.1 o).1 (fun e => by obtain ⟨_, o2, h2, h3⟩ := hr _ e.symm; rw [o] at h2; cases h2; cases h3)).trans o, l.grown hg l.size (fun k e => by have := (hr _ e).1; omega)⟩

set_option maxRecDepth 100000 in
set_option maxHeartbeats 8000000 in
theorem implOwned_any (hC : ClaimsC) (hL : LooseC) (hCo : CountsC) (hT : TableC) (W0 : World) : OwnedC W0 := by
  intro A n c xs w _ hr hn hnc
  refine (callsIn_wide (n := 5)).1 ?_
  refine callsIn_of_wp_marks Tryz.func18 rfl trivial ?_ rfl
  simp only [Tryz.ntmps18, List.size_toArray, List.length_cons, List.length_nil, Nat.reduceAdd, Nat.reduceSub, Array.replicate_succ, Array.replicate_zero, List.push_toArray, List.append_toArray, List.nil_append, List.cons_append]
  have hhi := (callsIn_wide (n := 4)).2 (implHeadIn_any A n c xs w hr hn)
  have HHI := Lib.hid hhi
  clear hhi
  cases hh : hasHead xs
  · have HN : Hid (ownedL xs = []) := by unfold ownedL; rw [hh]; exact rfl
    gi_wp2_with (refine ⟨trivial, ?_⟩; gi_at_call 38; refine HHI.out.mono ?_; rintro e w1 ⟨rfl, b1⟩; rw [headIn_no hh]; unfold hdV hd0)
    exact ⟨_, results_tmp rfl _ _ _, by rw [HN.out]; exact Ret.nil _ _ (b1.alloc b1.size _)⟩
  · have HN : Hid (ownedL xs = ownedC xs) := by unfold ownedL; rw [hh]; exact rfl
    have HOP := Lib.hid (owned_prog hh)
    have HH := Lib.hid hh
    have hm64 := manyN_le (hasHead_img hh)
    have HTH := Lib.hid (fun (t : Cm) (h : t ∈ tgL (claimsC xs)) => tables_there (xs := xs) (by rw [← tg_tables]; exact List.mem_map_of_mem h))
    have HZL := Lib.hid (fun k => (putT_fold hh ((tgL (claimsC xs)).take k) (fun t ht => List.mem_of_mem_take ht) (whole xs) (whole_length xs)).1)
    obtain ⟨⟨s, f, r, u, m⟩, hhd⟩ : ∃ q, headIn xs = (q, true) := ⟨_, headIn_yes hh⟩
    have HHD := Lib.hid hhd
    clear hh hhd
    gi_wp2_with (first
      | (refine ⟨trivial, ?_⟩; gi_at_call 40; refine (right_in A n c _ _).mono ?_; rintro e w' ⟨rfl, rfl⟩)
      | (refine ⟨trivial, ?_⟩; gi_at_call 39; refine (callsIn_wide.2 (wholeCopy_any A n c xs _ ((hr.below b2).more b2.size) hn HH.out)).mono ?_; rintro e w3 ⟨q, rfl, hq, hrow, b3⟩)
      | (refine ⟨trivial, ?_⟩; gi_at_call 38; refine HHI.out.mono ?_; rintro e w1 ⟨rfl, b1⟩; rw [HHD.out]; unfold hdV; have b2 := b1.alloc b1.size (.cells #[.int .i64 s, .int .i64 f, .int .i64 r, .int .i64 u, .int .i64 m] 50)))
    have s2 := b2.size
    have b03 := below_more b2 b3 b2.size
    have s3 := b03.size
    have hqw : w.heap.size ≤ q := by omega
    have hql := (Array.getElem?_eq_some_iff.1 hrow).1
    have HQ := Lib.hid hrow
    clear b1 b2 b3 hq hrow
    generalize hN : manyN xs * 8 = N at *
    have b4 := b03.alloc b03.size (.cells #[.slice (some ⟨q, 0, none⟩) N N] 24)
    have b5 := b4.alloc b4.size (.cells #[.slice A n c] 24)
    have x5 := (Boxed.new w3 24 (.slice (some ⟨q, 0, none⟩) N N)).alloc (.cells #[.slice A n c] 24)
    have y5 := Boxed.new (w3.alloc (.cells #[.slice (some ⟨q, 0, none⟩) N N] 24)) 24 (.slice A n c)
    have r5 : ((w3.alloc (.cells #[.slice (some ⟨q, 0, none⟩) N N] 24)).alloc (.cells #[.slice A n c] 24)).heap[q]? = some (.cells (iv (whole xs)).toArray 2 (0, 0)) := (Below.heap_alloc _ _ _ (by simp; omega)).trans ((Below.heap_alloc _ _ _ hql).trans HQ.out)
    have z5 : ((w3.alloc (.cells #[.slice (some ⟨q, 0, none⟩) N N] 24)).alloc (.cells #[.slice A n c] 24)).heap.size = w3.heap.size + 2 := by simp
    rw [World.size_alloc] at y5
    generalize (w3.alloc (.cells #[.slice (some ⟨q, 0, none⟩) N N] 24)).alloc (.cells #[.slice A n c] 24) = w5 at *
    have hN512 : N ≤ 512 := by omega
    have HNN := Lib.hid hN
    clear b4 hN
    refine wpIn_range_told rfl (by omega) (gf := 79) (lb := #[.pointer (some ⟨w3.heap.size + 1, 0, none⟩)]) rfl trivial (enters_of Tryz.func79 (by kernel_rfl) rfl)
      (right_stops hC hL hCo hT (SpG.spare q) 4 (w3.heap.size + 1) w.heap.size (by omega) A n c xs w5 (by omega) y5.cell (hr.below b5) (by omega) hn hnc HH.out (fun W' _ b hb => by show b ≠ q; omega)) KpB.trans (fun W l o o' _ h ho _ => KpB.put (SpG.spare q) o' h ho) (Below.refl _ _) (fun _ => rfl)
      (fun k W => OwI w w3.heap.size q N (((tgL (claimsC xs)).take k).foldl (putT xs (looseL xs) (countsC (claimsC xs))) (whole xs)) W) (OwI.own (by omega)) ⟨x5, r5, b5⟩
      (HwX xs w5.heap.size (fun x => #[.slice A n c, undef, .slice none 0 0, .pointer (some ⟨w1.heap.size, 0, none⟩), .bool true, .pointer (some ⟨w3.heap.size, 0, none⟩), .int .i64 x.tbl, .slice (some ⟨x.g, 0, none⟩) 8 x.c,
        .tuple #[.agg #[.int .i64 s, .int .i64 f, .int .i64 r, .int .i64 u, .int .i64 m], .bool true], .slice A n c, .tuple #[.agg #[.int .i64 s, .int .i64 f, .int .i64 r, .int .i64 u, .int .i64 m], .bool true],
        .agg #[.int .i64 s, .int .i64 f, .int .i64 r, .int .i64 u, .int .i64 m], .bool true, .bool true, .bool false, .slice A n c, .slice (some ⟨q, 0, none⟩) N N, .slice A n c, .func (.func 79) #[] #[.pointer (some ⟨w3.heap.size + 1, 0, none⟩)],
        .int .i64 x.tbl, .slice (some ⟨x.g, 0, none⟩) 8 x.c, undef, undef, undef, undef, undef, undef])) (fun _ _ _ => HwX.own) ?assign ?body ?done
    case assign =>
      rintro l k x W K hk ⟨hb, ho, hw⟩ ht hK
      unfold hwV
      gi_wp2
      exact hK _ _ (KeepsFrom.refl _ _) (KpB.refl _ _) ⟨hb, ho, hw⟩ ⟨ht, rfl⟩
    case body =>
      rintro l k x a' W hk ⟨hb, ho, hw⟩ ⟨⟨ht1, ht2, ht3⟩, rfl⟩
      have HS := Lib.hid (take_fold (putT xs (looseL xs) (countsC (claimsC xs))) (tgL (claimsC xs)) (whole xs) k hk)
      have hkm : (tgL (claimsC xs)).getD k cm0 = (tgL (claimsC xs))[k] := by simp [List.getD_eq_getElem?_getD, hk]
      have hth := there_lt (HTH.out _ (List.getElem_mem hk))
      rw [hkm] at ht1 ht3
      have HPT : Hid (∀ z, putT xs (looseL xs) (countsC (claimsC xs)) z (tgL (claimsC xs))[k] = setCl z (tgL (claimsC xs))[k].target.toNat (rtL xs (looseL xs) (countsC (claimsC xs)) (tgL (claimsC xs))[k])) := fun _ => rfl
      have hzl := HZL.out k
      obtain ⟨xt, xg, xc⟩ := x
      simp only at ht1 ht2 ht3
      rw [← ht1] at hth HPT
      obtain ⟨τ, rfl⟩ := Int.eq_ofNat_of_zero_le (show 0 ≤ xt by omega)
      rw [Int.toNat_natCast] at HPT
      have c1 := hb.cell
      have lq := (Array.getElem?_eq_some_iff.1 ho).1
      generalize rtL xs (looseL xs) (countsC (claimsC xs)) (tgL (claimsC xs))[k] = ws at *
      generalize putT xs (looseL xs) (countsC (claimsC xs)) = F at *
      generalize hzs : ((tgL (claimsC xs)).take k).foldl F (whole xs) = zs at *
      have HWI := writeInto_any q τ xg xc zs ws W ho ht3 (by have := HNN.out; omega) (by omega)
      rw [hzl, ← HPT.out, ← HS.out] at HWI
      have HWI := Lib.hid HWI
      clear ho ht3 hzs ht1 hkm
      dsimp only
      gi_wp2_with (refine ⟨trivial, ?_⟩; gi_at_call 41; refine (CallsIn.inRound l (callsIn_wide.2 HWI.out)).mono ?_; rintro e w6 ⟨rfl, h6, g6⟩)
      exact ⟨KeepsFrom.of_grownBy g6 (fun j e => by cases e; omega), KpB.grown g6, hb.kept g6 (fun e => by injection e; omega), h6, hw.grown g6 hw.size (fun k e => by cases e; omega)⟩
    case done =>
      rintro D W hD ⟨hb, ho, hw⟩ hK
      have c1 := hb.cell
      have hzl := HZL.out (tgL (claimsC xs)).length
      rw [List.take_length, HOP.out] at ho hzl
      gi_wp2
      refine ⟨by simp, .inl ⟨_, _, rfl, run_takeDeferred hK, ?_⟩⟩
      refine ⟨_, results_tmp rfl _ _ _, ?_⟩
      rw [HN.out]
      have g7 := grownBy_putObj' W D (.deferred none)
      have sw := hw.size
      have lq := (Array.getElem?_eq_some_iff.1 ho).1
      have h7 := (g7.block q lq (fun e => by injection e; omega)).trans ho
      have hle : (ownedC xs).length ≤ 100000 := by omega
      have hO := Ow.ofRow (lo := w.heap.size) (hi := (W.putObj D (.deferred none)).heap.size) h7 hle hqw (by have := g7.size; omega)
      rw [hzl] at hO
      exact ⟨_, N, N, rfl, hO, hw.grown g7 hw.size (fun k e => by cases e; omega)⟩

/-- Function 18. -/
theorem implOwned_all (W : World) : OwnedC W := implOwned_any implClaims_any implLoose_all implCounts_all implTable_any W

theorem law_Owned_all {W : World} (hL : laidMetH Tryz.prog (("errors.errorType", Rows.laid_errors_errorType) :: errsLaid) W) (A : Option Addr) (n c : Nat) (xs : List Int) (h : Rd8 W W.heap.size A n xs) :
    Calls Tryz.prog 4 #[.slice A n c] W fun e w' => e = .returned (.bool true) ∧ Below W.heap.size W w' := by
  have h' : laidMet Tryz.prog errsLaid W ∧ handlesMet Tryz.prog [("errors.errorType", Rows.laid_errors_errorType)] W := hL
  obtain ⟨aN, aM, aG, hG, _⟩ := errs_of_laid h'.1
  exact law_Owned_ W (implOwned_all W) (implDefects_all hG (handle_of_laid h'.2)) implClaims_any implStored_all A n c xs h

end Go.Proofs.YtieknpkbmccimabGreatDoor
