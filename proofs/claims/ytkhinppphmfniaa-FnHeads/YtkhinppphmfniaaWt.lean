/- A disk that is written (l17Second, Written), the model's side. -/
import Derived.Test.YtkhinppphmfniaaSd
namespace Go.Proofs.Ytkhinppphmfniaa
open Go.RowKit

def z8 : List Int := List.replicate 8 0
/-- The second table of a slot, that may be written into. -/
def secondL (xs : List Int) (slot : Nat) : Option (List Int × Nat) :=
  if targetOf (firstEntry xs 0 slot) ≠ 0 ∧ ownIn (firstEntry xs 0 slot) = true then some (xs, (targetOf (firstEntry xs 0 slot)).toNat)
  else (if manyN xs < 64 then some ((moreL xs (if targetOf (firstEntry xs 0 slot) ≠ 0 then cl xs (targetOf (firstEntry xs 0 slot)).toNat else z8)).set ((headOf xs).first.toNat * 8 + slot) (manyN xs), manyN xs) else none)

def RetSec (w : World) (r : Option (List Int × Nat)) (e : Ending) (w' : World) : Prop :=
  (∃ ys t A n c, r = some (ys, t) ∧ e = .returned (.tuple #[.slice A n c, .int .i64 (t : Nat), .bool true]) ∧ Rd w' w'.heap.size A n ys ∧ Below w.heap.size w w') ∨
  (∃ g, r = none ∧ e = .returned (.tuple #[.slice (some ⟨g, 0, none⟩) 0 0, .int .i64 0, .bool false]) ∧ Below w.heap.size w w')

theorem target_nonneg {e : Int} (hw : wordB e = true) : 0 ≤ targetOf e ∧ targetOf e ≤ 32767 := by
  rw [targetOf_yes hw] at *; have := word_bounds hw; omega
theorem firstEntry_word {xs : List Int} (h : soundB xs = true) (s : Nat) (hs : s < 8) : wordB (firstEntry xs 0 s) = true := by
  rw [firstEntry_sound h s hs, cl_word_get _ _ _ hs, wordB, inB_true]
  exact word_get (sound_img h) _

set_option maxRecDepth 100000 in
set_option maxHeartbeats 8000000 in
theorem specSecond_any (A : Option Addr) (n cb : Nat) (xs : List Int) (slot : Nat) (w : World) (hr : Rd w w.heap.size A n xs) (hs : soundB xs = true) (h8 : slot < 8) :
    Calls Try.prog 63 #[.slice A n cb, .int .i64 slot] w (RetSec w (secondL xs slot)) := by
  obtain ⟨i0, hi0, hz0, hz1, hz2⟩ := info_parts info2
  have hh := sound_head hs
  have hlen := hasHead_len hh
  have hn : n ≤ 512 := by have := hr.len; omega
  have hmany := manyN_le (hasHead_img hh)
  obtain ⟨f1, f2⟩ := there_lt (sound_first hs).1
  have HFW := Lib.hid (firstEntry_word hs slot h8)
  have HF0 := Lib.hid (firstOf_zero hh)
  have HS : Hid (secondL xs slot = if targetOf (firstEntry xs 0 slot) ≠ 0 ∧ ownIn (firstEntry xs 0 slot) = true then some (xs, (targetOf (firstEntry xs 0 slot)).toNat)
    else (if manyN xs < 64 then some ((moreL xs (if targetOf (firstEntry xs 0 slot) ≠ 0 then cl xs (targetOf (firstEntry xs 0 slot)).toNat else z8)).set ((headOf xs).first.toNat * 8 + slot) (manyN xs), manyN xs) else none)) := rfl
  generalize (headOf xs).first = φ at *
  obtain ⟨fi, rfl⟩ := Int.eq_ofNat_of_zero_le (show 0 ≤ φ by omega)
  rw [Int.toNat_natCast] at HS
  clear hs hh
  go_enter Try.func63, Try.ntmps63
  go_wp2_with fail
  refine (specFirstEntry_any A n cb xs 0 slot w hr (by omega)).mono ?_
  rintro e w1 ⟨rfl, b1⟩
  generalize firstEntry xs 0 slot = e1 at *
  go_wp2_with fail
  refine (specTarget_any _ _).mono ?_
  rintro e w' ⟨rfl, rfl⟩
  have HTG := Lib.hid (target_nonneg (e := e1) HFW.out)
  generalize targetOf e1 = at1 at *
  -- the words that a new second table has
  by_cases h0 : at1 = 0
  case' pos =>
    subst h0
    have hd : ((0 : Int) != 0) = false := by simp
    have HS2 : Hid (secondL xs slot = if manyN xs < 64 then some ((moreL xs z8).set (fi * 8 + slot) (manyN xs), manyN xs) else none) := by rw [HS.out]; simp [Hid]
    go_wp2_with (at_make; refine wpList_make_full _ rfl _ _ 24 rfl w1.heap.size 2 i0 (.int .i64 0) 1 Try.underlying24 hi0 hz0 hz1 .i64 .i64 _ _ 8 rfl rfl rfl rfl (by rw [hz2]; omega) (by simp only [maxLen]; omega) (Nat.le_refl _) ?_; intro w2 hown hg2; rw [made_iv] at hown)
    have b2 : Below w1.heap.size w1 w2 := below_grown hg2 (Nat.le_refl _) (fun _ h => by cases h)
    have oz := zeros_ow hown
    have hltz := ow_lt oz
    have b02 := below_more b1 b2 b1.size
    have s2 := b2.size
    clear hown hg2 b2
    have rw3 : Rd w2 w2.heap.size (some ⟨w1.heap.size, 0, none⟩) 8 z8 := oz.rd.more (by omega)
    obtain ⟨w3, rfl⟩ : ∃ x, x = w2 := ⟨_, rfl⟩
    obtain ⟨ws, hws⟩ : ∃ ws, ws = z8 := ⟨_, rfl⟩
    rw [← hws] at rw3 HS2
    have HWL : Hid (ws.length = 8) := by rw [hws]; exact rfl
    have b03 := b02
    clear hws
  case' neg =>
    have hd : (at1 != 0) = true := by simpa using h0
    obtain ⟨a1, a2⟩ := HTG.out
    obtain ⟨α, rfl⟩ := Int.eq_ofNat_of_zero_le a1
    go_wp2_with (at_make; refine wpList_make_full _ rfl _ _ 24 rfl w1.heap.size 2 i0 (.int .i64 0) 1 Try.underlying24 hi0 hz0 hz1 .i64 .i64 _ _ 8 rfl rfl rfl rfl (by rw [hz2]; omega) (by simp only [maxLen]; omega) (Nat.le_refl _) ?_; intro w2 hown hg2; rw [made_iv] at hown)
    have b2 : Below w1.heap.size w1 w2 := below_grown hg2 (Nat.le_refl _) (fun _ h => by cases h)
    have oz := zeros_ow hown
    have hltz := ow_lt oz
    have b02 := below_more b1 b2 b1.size
    have s2 := b2.size
    clear hown hg2 b2
    refine (specCluster_any A n cb α xs w2 ((hr.below b02).more b02.size) (by omega) (by omega)).mono ?_
    rintro e w3 ⟨G, ng, cg, rfl, oG, b3⟩
    obtain rfl : 8 = ng := by have := oG.len; simpa [cl, f8_length] using this
    have b03 := below_more b02 b3 b02.size
    cases ho : ownIn e1
    case' true =>
      have HE : Hid (secondL xs slot = some (xs, α)) := by rw [HS.out, if_pos ⟨h0, ho⟩, Int.toNat_natCast]; exact rfl
      have HO := Lib.hid ho
      clear ho h0
      go_wp2_with fail
      refine (specOwn_any _ _).mono ?_
      rintro e w' ⟨rfl, rfl⟩
      rw [HO.out]
      go_wp2_with fail
      go_ret3
      exact .inl ⟨xs, α, A, n, cb, HE.out, rfl, (hr.below b03).more b03.size, b03⟩
    have HS2 : Hid (secondL xs slot = if manyN xs < 64 then some ((moreL xs (cl xs α)).set (fi * 8 + slot) (manyN xs), manyN xs) else none) := by
      have hα : ¬ α = 0 := by omega
      rw [HS.out, ho, Int.toNat_natCast]; simp [hα, Hid]
    have HO := Lib.hid ho
    clear ho h0
    go_wp2_with fail
    refine (specOwn_any _ _).mono ?_
    rintro e w' ⟨rfl, rfl⟩
    rw [HO.out]
    have rw3 := oG.rd
    have HWL := Lib.hid (cl_length xs α)
    clear oG b3
    generalize cl xs α = ws at *
    go_wp2_with fail
  all_goals
    refine (specMore_any A n cb xs _ _ ws w3 ((hr.below b03).more b03.size) rw3 (by omega)).mono ?_
    rintro e w4 (⟨h64, g4, n4, c4, rfl, hc4, o4, b4⟩ | ⟨h64, g4, rfl, b4⟩)
    · have HE : Hid (secondL xs slot = some ((moreL xs ws).set (fi * 8 + slot) (manyN xs), manyN xs)) := by rw [HS2.out, if_pos h64]; exact rfl
      have b04 := below_more b03 b4 b03.size
      have hn4 := o4.len
      rw [more_length _ _ HWL.out] at hn4
      have hidx : fi * 8 + slot < n4 := by omega
      have hg4 : w.heap.size ≤ g4 := by
        rcases o4.form with ⟨h, _⟩ | ⟨x, hx, h1, h2, _⟩
        · cases h
        · injection hx with hx; injection hx with hx; have := b03.size; omega
      clear hn4
      go_wp2_with fail
      refine (specFirstOf_any A n cb xs 0 w4 ((hr.below b04).more b04.size) (by omega)).mono ?_
      rintro e w5 ⟨rfl, b5⟩
      rw [HF0.out]
      have o5 := o4.below b5 (Nat.le_refl _)
      have b05 := below_more b04 b5 b04.size
      have hco := o5.cell hidx
      have hfo := o5.free (fi * 8 + slot)
      have HSt := Lib.hid (o5.set (fi * 8 + slot) (manyN xs))
      have s5 := b5.size
      clear o4 o5
      go_wp2_with fail
      go_ret3
      obtain ⟨o6, hg6⟩ := HSt.out
      refine .inl ⟨_, _, some ⟨g4, 0, none⟩, n4, c4, HE.out, rfl, o6.rd.more (Nat.le_trans s5 hg6.size), b05.grown hg6 b05.size (fun q e => by cases e; exact hg4)⟩
    · have HE : Hid (secondL xs slot = none) := by rw [HS2.out, if_neg (by omega)]; exact rfl
      have b04 := below_more b03 b4 b03.size
      go_wp2_with fail
      go_ret3
      exact .inr ⟨w4.heap.size, HE.out, rfl, b04.alloc b04.size _⟩

end Go.Proofs.Ytkhinppphmfniaa
