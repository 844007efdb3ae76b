/- Flags (l15Owned): the model's side. Owned (chapter 15): the model's Go function computes it. The exact law of chapter 15, walked, given what the program's own function answers. -/
import Derived.Test.YtibokhkohanoaaaGreatQ1
import Derived.Test.YtibokhkohanoaaaGreatY5
namespace Go.Proofs.YtibokhkohanoaaaGreat
open Go.RowKit

/-- Where a wrong word stands. -/
theorem wr_mem (xs : List Int) (l : List Cm) (ct : List Int) (t : Int) : ∀ (k : Nat) (o : List Wr) (x : Wr), x ∈ (List.range k).foldl (wrStep xs l ct t) o → x ∈ o ∨ (x.frm = t ∧ 0 ≤ x.slot ∧ x.slot < k) := by
  intro k
  induction k with
  | zero => intro o x h; exact .inl h
  | succ k ih =>
    intro o x h
    rw [range_fold] at h
    unfold wrStep at h
    split at h
    · rw [List.mem_append] at h
      rcases h with h | h
      · rcases ih o x h with h1 | ⟨h1, h2, h3⟩
        · exact .inl h1
        · exact .inr ⟨h1, h2, by omega⟩
      · rw [List.mem_singleton] at h
        subst h
        exact .inr ⟨rfl, by simp, by simp; omega⟩
    · rcases ih o x h with h1 | ⟨h1, h2, h3⟩
      · exact .inl h1
      · exact .inr ⟨h1, h2, by omega⟩
theorem wrR_mem (xs : List Int) (l : List Cm) (ct : List Int) : ∀ (ts : List Int) (o : List Wr) (x : Wr), x ∈ ts.foldl (wrRound xs l ct) o → x ∈ o ∨ (x.frm ∈ ts ∧ 0 ≤ x.slot ∧ x.slot < 8) := by
  intro ts
  induction ts with
  | nil => intro o x h; exact .inl h
  | cons t ts ih =>
    intro o x h
    rw [List.foldl_cons] at h
    rcases ih _ x h with h1 | ⟨h1, h2⟩
    · rcases wr_mem xs l ct t 8 o x h1 with h3 | ⟨h3, h4, h5⟩
      · exact .inl h3
      · exact .inr ⟨by rw [h3]; simp, h4, h5⟩
    · exact .inr ⟨by simp [h1], h2⟩
theorem wrongs_at {xs : List Int} {x : Wr} (h : x ∈ wrongsC xs) : thereB xs x.frm = true ∧ 0 ≤ x.slot ∧ x.slot < 8 := by
  rcases wrR_mem _ _ _ _ _ _ h with h1 | ⟨h1, h2⟩
  · cases h1
  · exact ⟨tables_there h1, h2⟩

def owStep (o : List Int) (x : Wr) : List Int := o.set (x.frm.toNat * 8 + x.slot.toNat) x.must
def ownedC (xs : List Int) : List Int := (wrongsC xs).foldl owStep (whole xs)
theorem ow_length (l : List Wr) : ∀ o : List Int, (l.foldl owStep o).length = o.length := by
  induction l with
  | nil => intro o; rfl
  | cons x l ih => intro o; rw [List.foldl_cons, ih]; simp [owStep]
theorem owned_length (xs : List Int) : (ownedC xs).length = manyN xs * 8 := by unfold ownedC; rw [ow_length, whole_length]

def OwRel (w2 : World) (lo hi g n c : Nat) (xs : List Int) (l : List Wr) (i : Value) (wr : World) : Prop :=
  ∃ k : Nat, k ≤ l.length ∧ i = .int .i64 k ∧ Ow wr lo hi (some ⟨g, 0, none⟩) n c ((l.take k).foldl owStep (whole xs)) ∧ w2.grownBy wr (some g)

set_option maxRecDepth 100000 in
set_option maxHeartbeats 8000000 in
theorem specOwned_any (A : Option Addr) (n cb : Nat) (xs : List Int) (w : World) (hr : Rd w w.heap.size A n xs) (hh : hasHead xs = true) :
    Calls Tryz.prog 15 #[.slice A n cb] w (RetS w (ownedC xs)) := by
  have hx := Lib.hid hr.len
  have hlen := hasHead_len hh
  have hn : n ≤ 512 := by have := hx.out; omega
  have hmany := manyN_le (hasHead_img hh)
  have HH := Lib.hid hh
  have HWC : Hid (ownedC xs = (wrongsC xs).foldl owStep (whole xs)) := rfl
  clear hh
  go_enter Tryz.func15, Tryz.ntmps15
  go_wp2_with fail
  refine (specWhole_any A n cb xs w hr (by omega)).mono ?_
  rintro e w1 ⟨g, n1, c1, rfl, hc1, o1, b1⟩
  have hgl : w.heap.size ≤ g ∧ g < w1.heap.size := by
    rcases o1.form with ⟨h, _⟩ | ⟨x, hx, h1, h2, _⟩
    · cases h
    · injection hx with hx; injection hx with hx; omega
  obtain rfl : manyN xs * 8 = n1 := by have := o1.len; rw [whole_length] at this; exact this
  go_wp2_with fail
  refine (specWrongs_any A n cb xs w1 ((hr.below b1).more b1.size) (by omega) HH.out).mono ?_
  rintro e w2 ⟨gw, cw, rfl, ow, b2⟩
  have hgw := ow.low
  have hgwt := ow.lt
  have RW := ow.rd
  have b02 := below_more b1 b2 b1.size
  have o2 := o1.below b2 (Nat.le_refl _)
  have s2 := b2.size
  have hwl := wrongs_length xs
  have HMM := Lib.hid (fun x (hx : x ∈ wrongsC xs) => wrongs_at hx)
  clear ow b1 b2 o1
  generalize wrongsC xs = l at *
  go_wp2_with fail
  go_loopw [5] (fun i wr => OwRel w2 w.heap.size w1.heap.size g (manyN xs * 8) c1 xs l i wr) (fun i _ => l.length - (intOf i).toNat)
  case atStart => exact ⟨0, Nat.zero_le _, rfl, o2, grown_refl _ _⟩
  case round =>
    obtain ⟨k, hk, rfl, ho, hg⟩ := hrel
    have sr := hg.size
    by_cases hlt : k < l.length
    · have hce := wr_cells (RW.grown hg hgwt (by show gw ≠ _; omega)) hlt
      have HS := Lib.hid (take_fold owStep l (whole xs) k hlt)
      have hgd : l.getD k wr0 = l[k] := by simp [List.getD_eq_getElem?_getD, hlt]
      obtain ⟨m1, m2, m3⟩ := HMM.out _ (List.getElem_mem hlt)
      rw [hgd] at hce
      clear hgd
      generalize l[k] = x at *
      obtain ⟨xf, xs', xm⟩ := x
      have e0 : wr.cell? ⟨gw, k * 3, none⟩ = some (.int .i64 xf) := hce 0 (by omega)
      have e1 : wr.cell? ⟨gw, k * 3 + 1, none⟩ = some (.int .i64 xs') := hce 1 (by omega)
      have e2 : wr.cell? ⟨gw, k * 3 + 2, none⟩ = some (.int .i64 xm) := hce 2 (by omega)
      simp only at m1 m2 m3
      obtain ⟨t1, t2⟩ := there_lt m1
      obtain ⟨τ, rfl⟩ := Int.eq_ofNat_of_zero_le (show 0 ≤ xf by omega)
      obtain ⟨σ, rfl⟩ := Int.eq_ofNat_of_zero_le m2
      have HE : Hid ((l.take (k + 1)).foldl owStep (whole xs) = ((l.take k).foldl owStep (whole xs)).set (τ * 8 + σ) xm) := by rw [HS.out]; simp [owStep, Hid]
      have hidx : τ * 8 + σ < manyN xs * 8 := by omega
      have hco := ho.cell hidx
      have hfo := ho.free (τ * 8 + σ)
      have HSt := Lib.hid (ho.set (τ * 8 + σ) xm)
      clear hce m1 m2 m3 HS
      generalize ((l.take k).foldl owStep (whole xs)).getD (τ * 8 + σ) 0 = z at *
      go_wp2_with fail
      have n1 : (0 : Int) ≤ (k : Int) := by omega
      have n2 : (k : Int) < (l.length : Int) := by omega
      have n3 : IntKind.i64.wrap ((τ : Int) * 8) = (τ : Int) * 8 := IntWalk.i64_in _ (by omega)
      have n6 : IntKind.i64.wrap ((τ : Int) * 8 + (σ : Int)) = (τ : Int) * 8 + (σ : Int) := IntWalk.i64_in _ (by omega)
      have n6a : (0 : Int) ≤ (τ : Int) * 8 + (σ : Int) := by omega
      have n6b : (τ : Int) * 8 + (σ : Int) < (manyN xs : Int) * 8 := by omega
      have n6d : (τ : Int) * 8 + (σ : Int) < ((manyN xs * 8 : Nat) : Int) := by omega
      have n6c : ((τ : Int) * 8 + (σ : Int)).toNat = τ * 8 + σ := by omega
      go_still_tail 19, (by kernel_rfl)
      change wpList _ _ _ _ _ wr.drew
      clear n1 n2 n3 n6 n6a n6b n6c n6d
      go_wp2_with fail
      go_roundw
      case rel =>
        obtain ⟨h1, h2⟩ := HSt.out
        exact ⟨k + 1, by omega, by go_num, by rw [HE.out]; exact h1.drew, grown_trans hg (grown_drew h2)⟩
      case measure => simp [intOf]; omega
    · obtain rfl : k = l.length := by omega
      go_wp2_with fail
      go_ret
      rw [List.take_length] at ho
      rw [HWC.out]
      exact ⟨g, _, c1, rfl, by rcases ho.form with ⟨h, _⟩ | ⟨_, _, _, _, _, h⟩; cases h; exact h, ho.more (Nat.le_refl _) (by omega), below_of_grown b02 hg hgl.1⟩

/-- Owned. -/
def ownedL (b : List Int) : List Int := if hasHead b = true then ownedC b else []

theorem ownedL_length (xs : List Int) : (ownedL xs).length ≤ 512 := by
  unfold ownedL
  split
  · rename_i h
    have := manyN_le (hasHead_img h)
    rw [owned_length]
    omega
  · simp

/-- In every world that has grown out of W. -/
def OwnedC (W : World) : Prop := ∀ (A : Option Addr) (n c : Nat) (xs : List Int) (w : World), Below W.heap.size W w → Rd w w.heap.size A n xs → n ≤ 2097152 → n ≤ c → Calls Tryz.prog 63 #[.slice A n c] w (Ret w (ownedL xs))

end Go.Proofs.YtibokhkohanoaaaGreat
