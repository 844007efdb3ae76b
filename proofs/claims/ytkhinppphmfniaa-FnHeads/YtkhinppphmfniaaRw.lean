/- Counting anew: the counts are written (l14Write), the model's side. -/
import Derived.Test.YtkhinppphmfniaaRc
namespace Go.Proofs.Ytkhinppphmfniaa
open Go.RowKit

def wtStep (ct bs : List Int) (o : List Int) (c : Nat) : List Int := if bs.getD (c / 8) 0 ≠ 0 then o.set ((bs.getD (c / 8) 0).toNat * 8 + c % 8) (ct.getD c 0) else o
def wtTo (xs ct bs : List Int) (k : Nat) : List Int := (List.range k).foldl (wtStep ct bs) (whole xs)
/-- Its counts are written. -/
def writeC (xs : List Int) : List Int := wtTo xs (countsC (claimsC xs)) (blocksC (claimsC xs)) 64
theorem wt_length (xs ct bs : List Int) (k : Nat) : (wtTo xs ct bs k).length = manyN xs * 8 := by
  unfold wtTo
  induction k with
  | zero => exact whole_length xs
  | succ k ih =>
    rw [range_fold]
    unfold wtStep
    split
    · rw [List.length_set]; exact ih
    · exact ih

def WtRel (w2 : World) (lo hi g n c : Nat) (xs ct bs : List Int) (i : Value) (wr : World) : Prop :=
  ∃ k : Nat, k ≤ 64 ∧ i = .int .i64 k ∧ Ow wr lo hi (some ⟨g, 0, none⟩) n c (wtTo xs ct bs k) ∧ w2.grownBy wr (some g)

set_option maxRecDepth 100000 in
set_option maxHeartbeats 8000000 in
theorem specWrite_any (A : Option Addr) (n cb : Nat) (xs : List Int) (w : World) (hr : Rd w w.heap.size A n xs) (hh : hasHead xs = true) :
    Calls Try.prog 74 #[.slice A n cb] w (RetS w (writeC xs)) := by
  have hx := Lib.hid hr.len
  have hlen := hasHead_len hh
  have hn : n ≤ 512 := by have := hx.out; omega
  have hmany := manyN_le (hasHead_img hh)
  have HH := Lib.hid hh
  have HWC : Hid (writeC xs = wtTo xs (countsC (claimsC xs)) (blocksC (claimsC xs)) 64) := rfl
  clear hh
  go_enter Try.func74, Try.ntmps74
  go_wp2_with fail
  refine (specWhole_any A n cb xs w hr (by omega)).mono ?_
  rintro e w1 ⟨g, n1, c1, rfl, hc1, o1, b1⟩
  have hgl : w.heap.size ≤ g ∧ g < w1.heap.size := by
    rcases o1.form with ⟨h, _⟩ | ⟨x, hx, h1, h2, _⟩
    · cases h
    · injection hx with hx; injection hx with hx; omega
  obtain rfl : manyN xs * 8 = n1 := by have := o1.len; rw [whole_length] at this; exact this
  go_wp2_with fail
  refine (specCounts_any A n cb xs w1 ((hr.below b1).more b1.size) (by omega) HH.out).mono ?_
  rintro e w2 ⟨gc, nc, c2, rfl, _, oc, b2⟩
  obtain rfl : 64 = nc := by have := oc.len; rw [counts_length] at this; exact this
  have hgc : w1.heap.size ≤ gc ∧ gc < w2.heap.size := by
    rcases oc.form with ⟨h, _⟩ | ⟨x, hx, h1, h2, _⟩
    · cases h
    · injection hx with hx; injection hx with hx; omega
  have b02 := below_more b1 b2 b1.size
  have o2 := o1.below b2 (Nat.le_refl _)
  go_wp2_with fail
  refine (specBlocks_any A n cb xs w2 ((hr.below b02).more b02.size) (by omega) HH.out).mono ?_
  rintro e w3 ⟨gb, nb, c3, rfl, _, ob, b3⟩
  obtain rfl : 8 = nb := by have := ob.len; rw [blocks_length] at this; exact this
  have hgb : w2.heap.size ≤ gb ∧ gb < w3.heap.size := by
    rcases ob.form with ⟨h, _⟩ | ⟨x, hx, h1, h2, _⟩
    · cases h
    · injection hx with hx; injection hx with hx; omega
  have b03 := below_more b02 b3 b02.size
  have s2 := b2.size
  have s3 := b3.size
  have o3 := o2.below b3 s2
  have oc3 := oc.below b3 (Nat.le_refl _)
  have HCC := Lib.hid (fun (j : Nat) (hj : j < 64) => oc3.cell hj)
  have HCB := Lib.hid (fun (j : Nat) (hj : j < 8) => ob.cell hj)
  have HTB := Lib.hid (blocks_there xs)
  clear oc oc3 ob b1 b2 b3 o1 o2 b02
  generalize countsC (claimsC xs) = ct at *
  generalize blocksC (claimsC xs) = bs at *
  go_wp2_with fail
  go_loopw [6] (fun i wr => WtRel w3 w.heap.size w1.heap.size g (manyN xs * 8) c1 xs ct bs i wr) (fun i _ => 64 - (intOf i).toNat)
  case atStart => exact ⟨0, by omega, rfl, o3, grown_refl _ _⟩
  case round =>
    obtain ⟨k, hk, rfl, ho, hg⟩ := hrel
    have sr := hg.size
    by_cases hlt : k < 64
    · have hcc : wr.cell? ⟨gc, k, none⟩ = some (.int .i64 (ct.getD k 0)) := hg.cell (HCC.out k hlt) (fun e => by injection e with e; have : gc = g := e; omega)
      have hcb : wr.cell? ⟨gb, k / 8, none⟩ = some (.int .i64 (bs.getD (k / 8) 0)) := hg.cell (HCB.out (k / 8) (by omega)) (fun e => by injection e with e; have : gb = g := e; omega)
      have HT := Lib.hid (HTB.out (k / 8))
      have HS : Hid (wtTo xs ct bs (k + 1) = if bs.getD (k / 8) 0 ≠ 0 then (wtTo xs ct bs k).set ((bs.getD (k / 8) 0).toNat * 8 + k % 8) (ct.getD k 0) else wtTo xs ct bs k) := by
        unfold wtTo; rw [range_fold]; exact rfl
      generalize bs.getD (k / 8) 0 = v at *
      generalize ct.getD k 0 = y at *
      by_cases hv : v = 0
      · subst hv
        have hd : ((0 : Int) != 0) = false := by simp
        have HE : Hid (wtTo xs ct bs (k + 1) = wtTo xs ct bs k) := by rw [HS.out]; simp [Hid]
        clear HT HS
        go_wp2_with fail
        go_roundw
        case rel => exact ⟨k + 1, by omega, by go_num, by rw [HE.out]; exact ho, hg⟩
        case measure => simp [intOf]; omega
      · have hd : (v != 0) = true := by simpa using hv
        have hth : thereB xs v = true := by rcases HT.out with h | h; exact absurd h hv; exact h
        obtain ⟨t1, t2⟩ := there_lt hth
        obtain ⟨τ, rfl⟩ := Int.eq_ofNat_of_zero_le (show 0 ≤ v by omega)
        have HE : Hid (wtTo xs ct bs (k + 1) = (wtTo xs ct bs k).set (τ * 8 + k % 8) y) := by rw [HS.out, if_pos hv, Int.toNat_natCast]; exact rfl
        have hidx : τ * 8 + k % 8 < manyN xs * 8 := by omega
        have hco := ho.cell hidx
        have hfo := ho.free (τ * 8 + k % 8)
        have HSt := Lib.hid (ho.set (τ * 8 + k % 8) y)
        clear HT HS hth hv
        generalize (wtTo xs ct bs k).getD (τ * 8 + k % 8) 0 = z at *
        go_wp2_with fail
        have n1 : (0 : Int) ≤ (k : Int) := by omega
        have n2 : (k : Int) < 64 := by omega
        have n3 : IntKind.i64.wrap ((τ : Int) * 8) = (τ : Int) * 8 := IntWalk.i64_in _ (by omega)
        have n4 : IntKind.i64.wrap ((k : Int) / 8) = (k : Int) / 8 := IntWalk.i64_in _ (by omega)
        have n4a : (0 : Int) ≤ (k : Int) / 8 := by omega
        have n4b : (k : Int) / 8 < 8 := by omega
        have n4c : ((k : Int) / 8).toNat = k / 8 := by omega
        have n5t : Int.tmod (k : Int) 8 = (k : Int) % 8 := Int.tmod_eq_emod_of_nonneg (by omega)
        have n5 : IntKind.i64.wrap ((k : Int) % 8) = (k : Int) % 8 := IntWalk.i64_in _ (by omega)
        have n6 : IntKind.i64.wrap ((τ : Int) * 8 + (k : Int) % 8) = (τ : Int) * 8 + (k : Int) % 8 := IntWalk.i64_in _ (by omega)
        have n6a : (0 : Int) ≤ (τ : Int) * 8 + (k : Int) % 8 := by omega
        have n6b : (τ : Int) * 8 + (k : Int) % 8 < (manyN xs : Int) * 8 := by omega
        have n6d : (τ : Int) * 8 + (k : Int) % 8 < ((manyN xs * 8 : Nat) : Int) := by omega
        have n6c : ((τ : Int) * 8 + (k : Int) % 8).toNat = τ * 8 + k % 8 := by omega
        go_still_tail 15, (by kernel_rfl)
        change wpList _ _ _ _ _ wr.drew
        clear n1 n2 n3 n4 n4a n4b n4c n5 n5t n6 n6a n6b n6c n6d
        go_wp2_with fail
        go_roundw
        case rel =>
          obtain ⟨h1, h2⟩ := HSt.out
          exact ⟨k + 1, by omega, by go_num, by rw [HE.out]; exact h1.drew, grown_trans hg (grown_drew h2)⟩
        case measure => simp [intOf]; omega
    · obtain rfl : k = 64 := by omega
      go_wp2_with fail
      go_ret
      rw [HWC.out]
      exact ⟨g, _, c1, rfl, by rcases ho.form with ⟨h, _⟩ | ⟨_, _, _, _, _, h⟩; cases h; exact h, ho.more (Nat.le_refl _) (by omega), below_of_grown b03 hg hgl.1⟩

end Go.Proofs.Ytkhinppphmfniaa
