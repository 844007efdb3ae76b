/- Flags (l15Owned), and what is done behind a change (l17Done): the model's side. -/
import Derived.Test.YtkhinppphmfniaaRn
namespace Go.Proofs.Ytkhinppphmfniaa
open Go.RowKit

theorem counts_bound (l : List Cm) (hl : l.length ≤ 1296) (j : Nat) : 0 ≤ (countsC l).getD j 0 ∧ (countsC l).getD j 0 ≤ 1296 := by
  obtain ⟨_, h⟩ := cnt_take l l.length
  have := h j
  rw [List.take_length] at this
  unfold countsC
  omega
theorem wt_head {xs : List Int} (h : hasHead xs = true) (k : Nat) : hasHead (wtTo xs (countsC (claimsC xs)) (blocksC (claimsC xs)) k) = true ∧ headOf (wtTo xs (countsC (claimsC xs)) (blocksC (claimsC xs)) k) = headOf xs := by
  induction k with
  | zero => exact head_whole h
  | succ k ih =>
    have e : wtTo xs (countsC (claimsC xs)) (blocksC (claimsC xs)) (k + 1) = wtStep (countsC (claimsC xs)) (blocksC (claimsC xs)) (wtTo xs (countsC (claimsC xs)) (blocksC (claimsC xs)) k) k := by unfold wtTo; rw [range_fold]
    rw [e]
    unfold wtStep
    split
    · rename_i hv
      rcases blocks_there xs (k / 8) with hb | hb
      · exact absurd hb hv
      · have := there_lt hb
        have hc := counts_bound (claimsC xs) (claims_length xs) k
        obtain ⟨h1, h2⟩ := set_head (j := ((blocksC (claimsC xs)).getD (k / 8) 0).toNat * 8 + k % 8) (x := (countsC (claimsC xs)).getD k 0) ih.1 (by omega) (inB_true.2 (by omega))
        exact ⟨h1, h2.trans ih.2⟩
    · exact ih
theorem write_head {xs : List Int} (h : hasHead xs = true) : hasHead (writeC xs) = true ∧ headOf (writeC xs) = headOf xs := wt_head h 64
theorem write_length (xs : List Int) : (writeC xs).length = manyN xs * 8 := wt_length _ _ _ _

theorem fix_head {refs : Nat} (hr : 1 ≤ refs) : ∀ (k : Nat) (xs ys : List Int), hasHead xs = true → fixBlocks refs k xs = some ys → hasHead ys = true ∧ headOf ys = headOf xs
  | 0, xs, ys, h, e => by
    unfold fixBlocks at e
    split at e
    · cases e; exact ⟨h, rfl⟩
    · cases e
  | k + 1, xs, ys, h, e => by
    unfold fixBlocks at e
    split at e
    · cases e; exact ⟨h, rfl⟩
    · split at e
      · cases e
      · rename_i _ hm
        obtain ⟨h1, h2⟩ := block_head (refs := refs) h (by omega) hr
        obtain ⟨h3, h4⟩ := fix_head hr k _ ys h1 e
        exact ⟨h3, h4.trans h2⟩
/-- What is counted anew is nothing, or has a head, and is whole. -/
theorem counted_head (xs : List Int) : countedL xs = [] ∨ (hasHead (countedL xs) = true ∧ (countedL xs).length % 8 = 0) := by
  unfold countedL
  split
  · rename_i hq
    have hh := ready_head hq
    have key : ∀ ys, hasHead ys = true → thereB ys (headOf ys).refs = true → countEnd (blocksL ys) = [] ∨ (hasHead (countEnd (blocksL ys)) = true ∧ (countEnd (blocksL ys)).length % 8 = 0) := by
      intro ys hy ht
      have := there_lt ht
      cases hb : blocksL ys with
      | none => exact .inl rfl
      | some zs =>
        obtain ⟨h1, h2⟩ := fix_head (refs := (headOf ys).refs.toNat) (by omega) 64 ys zs hy hb
        exact .inr ⟨(write_head h1).1, by show (writeC zs).length % 8 = 0; rw [write_length]; omega⟩
    unfold countBase
    split
    · split
      · rename_i _ hm
        obtain ⟨h1, h2, h3⟩ := refsL_head hh hm
        refine key _ h1 ?_
        rw [h2, thereB, inB_true]
        have hm1 : manyN (refsL xs) = manyN xs + 1 := by show ((refsL xs).length + 7) / 8 = _; rw [h3]; omega
        rw [hm1]
        have := many_whole xs
        have := whole_pos hh
        simp only
        omega
      · exact .inl rfl
    · rename_i hr0
      refine key _ (head_whole hh).1 ?_
      rw [there_many (many_whole xs), (head_whole hh).2]
      exact ready_refs hq hr0
  · exact .inl rfl

/-- Where a wrong word stands. -/
theorem wr_mem (xs : List Int) (l : List Cm) (ct : List Int) (t : Int) : ∀ (k : Nat) (o : List Wr) (x : Wr), x ∈ (List.range k).foldl (wrStep xs l ct t) o → x ∈ o ∨ (x.frm = t ∧ 0 ≤ x.slot ∧ x.slot < k) := by
  intro k
  induction k with
  | zero => intro o x h; exact .inl h
  | succ k ih =>
    intro o x h
    rw [range_fold] at h
    unfold wrStep at h
    split at h
    · rw [List.mem_append] at h
      rcases h with h | h
      · rcases ih o x h with h1 | ⟨h1, h2, h3⟩
        · exact .inl h1
        · exact .inr ⟨h1, h2, by omega⟩
      · rw [List.mem_singleton] at h
        subst h
        exact .inr ⟨rfl, by simp, by simp; omega⟩
    · rcases ih o x h with h1 | ⟨h1, h2, h3⟩
      · exact .inl h1
      · exact .inr ⟨h1, h2, by omega⟩
theorem wrR_mem (xs : List Int) (l : List Cm) (ct : List Int) : ∀ (ts : List Int) (o : List Wr) (x : Wr), x ∈ ts.foldl (wrRound xs l ct) o → x ∈ o ∨ (x.frm ∈ ts ∧ 0 ≤ x.slot ∧ x.slot < 8) := by
  intro ts
  induction ts with
  | nil => intro o x h; exact .inl h
  | cons t ts ih =>
    intro o x h
    rw [List.foldl_cons] at h
    rcases ih _ x h with h1 | ⟨h1, h2⟩
    · rcases wr_mem xs l ct t 8 o x h1 with h3 | ⟨h3, h4, h5⟩
      · exact .inl h3
      · exact .inr ⟨by rw [h3]; simp, h4, h5⟩
    · exact .inr ⟨by simp [h1], h2⟩
theorem wrongs_at {xs : List Int} {x : Wr} (h : x ∈ wrongsC xs) : thereB xs x.frm = true ∧ 0 ≤ x.slot ∧ x.slot < 8 := by
  rcases wrR_mem _ _ _ _ _ _ h with h1 | ⟨h1, h2⟩
  · cases h1
  · exact ⟨tables_there h1, h2⟩

def owStep (o : List Int) (x : Wr) : List Int := o.set (x.frm.toNat * 8 + x.slot.toNat) x.must
def ownedC (xs : List Int) : List Int := (wrongsC xs).foldl owStep (whole xs)
theorem ow_length (l : List Wr) : ∀ o : List Int, (l.foldl owStep o).length = o.length := by
  induction l with
  | nil => intro o; rfl
  | cons x l ih => intro o; rw [List.foldl_cons, ih]; simp [owStep]
theorem owned_length (xs : List Int) : (ownedC xs).length = manyN xs * 8 := by unfold ownedC; rw [ow_length, whole_length]

def OwRel (w2 : World) (lo hi g n c : Nat) (xs : List Int) (l : List Wr) (i : Value) (wr : World) : Prop :=
  ∃ k : Nat, k ≤ l.length ∧ i = .int .i64 k ∧ Ow wr lo hi (some ⟨g, 0, none⟩) n c ((l.take k).foldl owStep (whole xs)) ∧ w2.grownBy wr (some g)

set_option maxRecDepth 100000 in
set_option maxHeartbeats 8000000 in
theorem specOwned_any (A : Option Addr) (n cb : Nat) (xs : List Int) (w : World) (hr : Rd w w.heap.size A n xs) (hh : hasHead xs = true) :
    Calls Try.prog 66 #[.slice A n cb] w (RetS w (ownedC xs)) := by
  have hx := Lib.hid hr.len
  have hlen := hasHead_len hh
  have hn : n ≤ 512 := by have := hx.out; omega
  have hmany := manyN_le (hasHead_img hh)
  have HH := Lib.hid hh
  have HWC : Hid (ownedC xs = (wrongsC xs).foldl owStep (whole xs)) := rfl
  clear hh
  go_enter Try.func66, Try.ntmps66
  go_wp2_with fail
  refine (specWhole_any A n cb xs w hr (by omega)).mono ?_
  rintro e w1 ⟨g, n1, c1, rfl, hc1, o1, b1⟩
  have hgl : w.heap.size ≤ g ∧ g < w1.heap.size := by
    rcases o1.form with ⟨h, _⟩ | ⟨x, hx, h1, h2, _⟩
    · cases h
    · injection hx with hx; injection hx with hx; omega
  obtain rfl : manyN xs * 8 = n1 := by have := o1.len; rw [whole_length] at this; exact this
  go_wp2_with fail
  refine (specWrongs_any A n cb xs w1 ((hr.below b1).more b1.size) (by omega) HH.out).mono ?_
  rintro e w2 ⟨gw, cw, rfl, ow, b2⟩
  have hgw := ow.low
  have hgwt := ow.lt
  have RW := ow.rd
  have b02 := below_more b1 b2 b1.size
  have o2 := o1.below b2 (Nat.le_refl _)
  have s2 := b2.size
  have hwl := wrongs_length xs
  have HMM := Lib.hid (fun x (hx : x ∈ wrongsC xs) => wrongs_at hx)
  clear ow b1 b2 o1
  generalize wrongsC xs = l at *
  go_wp2_with fail
  go_loopw [5] (fun i wr => OwRel w2 w.heap.size w1.heap.size g (manyN xs * 8) c1 xs l i wr) (fun i _ => l.length - (intOf i).toNat)
  case atStart => exact ⟨0, Nat.zero_le _, rfl, o2, grown_refl _ _⟩
  case round =>
    obtain ⟨k, hk, rfl, ho, hg⟩ := hrel
    have sr := hg.size
    by_cases hlt : k < l.length
    · have hce := wr_cells (RW.grown hg hgwt (by show gw ≠ _; omega)) hlt
      have HS := Lib.hid (take_fold owStep l (whole xs) k hlt)
      have hgd : l.getD k wr0 = l[k] := by simp [List.getD_eq_getElem?_getD, hlt]
      obtain ⟨m1, m2, m3⟩ := HMM.out _ (List.getElem_mem hlt)
      rw [hgd] at hce
      clear hgd
      generalize l[k] = x at *
      obtain ⟨xf, xs', xm⟩ := x
      have e0 : wr.cell? ⟨gw, k * 3, none⟩ = some (.int .i64 xf) := hce 0 (by omega)
      have e1 : wr.cell? ⟨gw, k * 3 + 1, none⟩ = some (.int .i64 xs') := hce 1 (by omega)
      have e2 : wr.cell? ⟨gw, k * 3 + 2, none⟩ = some (.int .i64 xm) := hce 2 (by omega)
      simp only at m1 m2 m3
      obtain ⟨t1, t2⟩ := there_lt m1
      obtain ⟨τ, rfl⟩ := Int.eq_ofNat_of_zero_le (show 0 ≤ xf by omega)
      obtain ⟨σ, rfl⟩ := Int.eq_ofNat_of_zero_le m2
      have HE : Hid ((l.take (k + 1)).foldl owStep (whole xs) = ((l.take k).foldl owStep (whole xs)).set (τ * 8 + σ) xm) := by rw [HS.out]; simp [owStep, Hid]
      have hidx : τ * 8 + σ < manyN xs * 8 := by omega
      have hco := ho.cell hidx
      have hfo := ho.free (τ * 8 + σ)
      have HSt := Lib.hid (ho.set (τ * 8 + σ) xm)
      clear hce m1 m2 m3 HS
      generalize ((l.take k).foldl owStep (whole xs)).getD (τ * 8 + σ) 0 = z at *
      go_wp2_with fail
      have n1 : (0 : Int) ≤ (k : Int) := by omega
      have n2 : (k : Int) < (l.length : Int) := by omega
      have n3 : IntKind.i64.wrap ((τ : Int) * 8) = (τ : Int) * 8 := IntWalk.i64_in _ (by omega)
      have n6 : IntKind.i64.wrap ((τ : Int) * 8 + (σ : Int)) = (τ : Int) * 8 + (σ : Int) := IntWalk.i64_in _ (by omega)
      have n6a : (0 : Int) ≤ (τ : Int) * 8 + (σ : Int) := by omega
      have n6b : (τ : Int) * 8 + (σ : Int) < (manyN xs : Int) * 8 := by omega
      have n6d : (τ : Int) * 8 + (σ : Int) < ((manyN xs * 8 : Nat) : Int) := by omega
      have n6c : ((τ : Int) * 8 + (σ : Int)).toNat = τ * 8 + σ := by omega
      go_still_tail 19, (by kernel_rfl)
      change wpList _ _ _ _ _ wr.drew
      clear n1 n2 n3 n6 n6a n6b n6c n6d
      go_wp2_with fail
      go_roundw
      case rel =>
        obtain ⟨h1, h2⟩ := HSt.out
        exact ⟨k + 1, by omega, by go_num, by rw [HE.out]; exact h1.drew, grown_trans hg (grown_drew h2)⟩
      case measure => simp [intOf]; omega
    · obtain rfl : k = l.length := by omega
      go_wp2_with fail
      go_ret
      rw [List.take_length] at ho
      rw [HWC.out]
      exact ⟨g, _, c1, rfl, by rcases ho.form with ⟨h, _⟩ | ⟨_, _, _, _, _, h⟩; cases h; exact h, ho.more (Nat.le_refl _) (by omega), below_of_grown b02 hg hgl.1⟩

def doneL (xs : List Int) : List Int := if (countedL xs).length = 0 then [] else ownedC (countedL xs)

set_option maxHeartbeats 4000000 in
theorem specDone_any (A : Option Addr) (n cb : Nat) (xs : List Int) (w : World) (hr : Rd w w.heap.size A n xs) (hn : n ≤ 2097152) :
    Calls Try.prog 58 #[.slice A n cb] w (Ret w (doneL xs)) := by
  go_enter Try.func58, Try.ntmps58
  go_wp2_with fail
  refine (specCounted_any A n cb xs w hr hn).mono ?_
  rintro e w1 ⟨A1, n1, c1, rfl, o1, b1⟩
  have HL := Lib.hid o1.len
  have HCH := Lib.hid (counted_head xs)
  have HDN : Hid (doneL xs = if (countedL xs).length = 0 then [] else ownedC (countedL xs)) := rfl
  generalize countedL xs = ys at *
  by_cases h0 : n1 = 0
  · subst h0
    have hd : (((0 : Nat) : Int) == 0) = true := by simp
    have HE : Hid (doneL xs = ys) := by
      rw [HDN.out, HL.out, if_pos rfl]; exact (List.eq_nil_of_length_eq_zero HL.out).symm
    go_wp2_with fail
    go_ret
    rw [HE.out]
    exact ⟨A1, 0, c1, rfl, o1, b1⟩
  · have hd : ((n1 : Int) == 0) = false := by rw [beq_eq_false_iff_ne]; omega
    have HE : Hid (doneL xs = ownedC ys) := by rw [HDN.out, HL.out, if_neg h0]; exact rfl
    have hhy : hasHead ys = true := by
      rcases HCH.out with h | h
      · rw [h] at HL; exact absurd HL.out.symm h0
      · exact h.1
    go_wp2_with fail
    refine (specOwned_any A1 n1 c1 ys w1 o1.rd hhy).mono ?_
    rintro e w2 ⟨g2, n2, c2, rfl, _, o2, b2⟩
    go_wp2_with fail
    go_ret
    rw [HE.out]
    exact ⟨_, n2, c2, rfl, o2.more b1.size (Nat.le_refl _), below_more b1 b2 b1.size⟩

end Go.Proofs.Ytkhinppphmfniaa
