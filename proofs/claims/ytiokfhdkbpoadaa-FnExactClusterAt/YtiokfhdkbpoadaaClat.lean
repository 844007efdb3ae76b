/- One cluster: both sides. -/
import Derived.Test.YtiokfhdkbpoadaaClin
namespace Go.Proofs.Ytiokfhdkbpoadaa
open Go.RowKit

/-- It answers a new slice whose numbers are ys; nothing that was there has turned. -/
def Ret (w : World) (ys : List Int) (e : Ending) (w' : World) : Prop :=
  ∃ (A : Option Addr) (n c : Nat), e = .returned (.slice A n c) ∧ Ow w' w.heap.size w'.heap.size A n c ys ∧ Below w.heap.size w w'

theorem Ret.of {w w1 w' : World} {v : Value} {n : Nat} {ys : List Int} (hb : Below w.heap.size w w1) (ho : w'.ownsRow w1.heap.size 2 1 v n (iv ys)) (hb2 : Below w1.heap.size w1 w') : Ret w ys (.returned v) w' := by
  obtain ⟨A, c, rfl, h⟩ := Ow.of ho
  exact ⟨A, n, c, rfl, h.more hb.size (Nat.le_refl _), below_more hb hb2 hb.size⟩
theorem Ret.nil (w : World) (w' : World) (hb : Below w.heap.size w w') : Ret w [] (.returned (.slice none 0 0)) w' :=
  ⟨none, 0, 0, rfl, ⟨World.ownsRow_nil _ _ _ _, fun g hg => by cases hg⟩, hb⟩
theorem Ret.empty (w : World) (t : TypeId) (ht : t = 2) : Ret w [] (.returned (.slice (some ⟨w.heap.size, 0, none⟩) 0 0)) (w.alloc (.cells #[] t)) := by
  subst ht
  have h : (w.alloc (.cells #[] 2)).ownsRow w.heap.size 2 1 (.slice (some ⟨w.heap.size, 0, none⟩) 0 0) 0 (iv []) := World.ownsRow_made w #[] 0 (Nat.le_refl _) (by simp [maxLen]) rfl
  exact ⟨_, 0, 0, rfl, ⟨h, fun g hg => (h.lt g hg).2⟩, (Below.refl _ _).alloc (Nat.le_refl _) _⟩

def f8 (f : Nat → Int) : List Int := (List.range 8).map f
theorem f8_length (f : Nat → Int) : (f8 f).length = 8 := by simp [f8]
theorem f8_get (f : Nat → Int) (j : Nat) (h : j < 8) : (f8 f).getD j 0 = f j := by
  simp [f8, List.getD_eq_getElem?_getD, h]
theorem f8_congr {f g : Nat → Int} (h : ∀ j, j < 8 → f j = g j) : f8 f = f8 g := by
  unfold f8
  exact List.map_congr_left (fun j hj => h j (by simpa using hj))
theorem f8_eq (f : Nat → Int) (ys : List Int) (hl : ys.length = 8) (h : ∀ j, j < 8 → ys.getD j 0 = f j) : ys = f8 f := by
  apply List.ext_getElem?
  intro j
  by_cases hj : j < 8
  · have := h j hj
    rw [List.getD_eq_getElem?_getD, List.getElem?_eq_getElem (by omega), Option.getD_some] at this
    rw [List.getElem?_eq_getElem (by omega), this]
    simp [f8, hj]
  · rw [List.getElem?_eq_none (by omega), List.getElem?_eq_none (by rw [f8_length]; omega)]
theorem f8_set (f : Nat → Int) (k : Nat) (x : Int) (hk : k < 8) : (f8 f).set k x = f8 (fun j => if j = k then x else f j) := by
  apply f8_eq
  · simp [f8_length]
  · intro j hj
    rw [List.getD_eq_getElem?_getD, List.getElem?_set, f8_length]
    by_cases h : k = j
    · subst h; simp [hk]
    · have := f8_get f j hj
      rw [List.getD_eq_getElem?_getD] at this
      simp only [h, if_false, this]
      rw [if_neg (fun e => h e.symm)]

theorem f8_zero (f : Nat → Int) : List.replicate 8 0 = f8 (fun j => if j < 0 then f j else 0) := by
  apply f8_eq
  · simp
  · intro j hj
    rw [List.getD_eq_getElem?_getD, List.getElem?_replicate, if_pos hj, if_neg (by omega)]; rfl

/-- The eight words of cluster a. -/
def cl (xs : List Int) (a : Nat) : List Int := f8 (fun j => xs.getD (a * 8 + j) 0)
/-- ClusterAt. -/
def clusterL (xs : List Int) (at_ : Int) : List Int := if imgB xs = true ∧ inB at_ 0 ((manyN xs : Int) - 1) = true then cl xs at_.toNat else []

theorem imgB_len {xs : List Int} (h : imgB xs = true) : xs.length ≤ 512 := by
  simp [imgB] at h
  exact h.2
theorem getD_past (xs : List Int) (j : Nat) (h : xs.length ≤ j) : xs.getD j 0 = 0 := by
  rw [List.getD_eq_getElem?_getD, List.getElem?_eq_none h]; rfl
theorem whole_length (xs : List Int) : (whole xs).length = manyN xs * 8 := by
  unfold whole manyN; simp; omega
theorem whole_get (xs : List Int) (j : Nat) : (whole xs).getD j 0 = xs.getD j 0 := by
  unfold whole
  rw [List.getD_eq_getElem?_getD, List.getD_eq_getElem?_getD, List.getElem?_append]
  split
  · rfl
  · rw [List.getElem?_eq_none (l := xs) (by omega), List.getElem?_replicate]
    split <;> rfl

set_option maxHeartbeats 400000 in
theorem specCluster_any (A : Option Addr) (n c a : Nat) (xs : List Int) (w : World) (h : Rd w w.heap.size A n xs) (hn : n ≤ 2097152) (ha : a ≤ 2097152) :
    Calls Try.prog 21 #[.slice A n c, .int .i64 a] w (Ret w (cl xs a)) := by
  obtain ⟨i0, hi0, hz0, hz1, hz2⟩ := info_parts info2
  have hxl := Lib.hid h.len
  go_enter Try.func21, Try.ntmps21
  go_wp2_with (at_make; refine wpList_make_full _ rfl _ _ 22 rfl w.heap.size 2 i0 (.int .i64 0) 1 Try.underlying22 hi0 hz0 hz1 .i64 .i64 _ _ 8 rfl rfl rfl rfl (by rw [hz2]; omega) (by simp only [maxLen]; omega) (Nat.le_refl _) ?_; intro w1 hown hg; rw [made_iv] at hown)
  have hlt := (hown.lt w.heap.size rfl).2
  have hb1 : Below w.heap.size w w1 := below_grown hg (Nat.le_refl _) (fun _ h => by cases h)
  have ho1 : Ow w1 w.heap.size (w.heap.size + 1) (some ⟨w.heap.size, 0, none⟩) 8 8 (List.replicate 8 0) := ⟨hown, fun g hg => by simp [Value.ownBlock] at hg; omega⟩
  clear hown hg hi0 hz0 hz1 hz2
  go_loopw [6] (fun i wr => ∃ k : Nat, k ≤ 8 ∧ (k = 0 ∨ a * 8 + k ≤ n) ∧ i = .int .i64 k ∧ Ow wr w.heap.size (w.heap.size + 1) (some ⟨w.heap.size, 0, none⟩) 8 8 (f8 (fun j => if j < k then xs.getD (a * 8 + j) 0 else 0)) ∧ Below w.heap.size w wr)
    (fun i _ => 8 - (intOf i).toNat)
  case atStart => exact ⟨0, Nat.zero_le _, .inl rfl, rfl, by rw [f8_zero (fun j => xs.getD (a * 8 + j) 0)] at ho1; exact ho1, hb1⟩
  case round =>
    obtain ⟨k, hk, hk2, rfl, ho, hb⟩ := hrel
    by_cases hlt : k < 8
    · by_cases hlt2 : a * 8 + k < n
      · obtain ⟨b, off, rfl, hbb, hc⟩ := h.2 (by omega)
        have hcx : wr.cell? ⟨b, off + (a * 8 + k), none⟩ = some (.int .i64 (xs.getD (a * 8 + k) 0)) := (hb.cell (p := ⟨b, off + (a * 8 + k), none⟩) hbb).trans (hc (a * 8 + k) hlt2)
        have hco := ho.cell hlt
        have hfo := ho.free k
        have HS := Lib.hid (ho.set k (xs.getD (a * 8 + k) 0))
        have HT := Lib.hid (f8_set (fun j => if j < k then xs.getD (a * 8 + j) 0 else 0) k (xs.getD (a * 8 + k) 0) hlt)
        clear hc ho ho1
        generalize hx : xs.getD (a * 8 + k) 0 = x at *
        have HX := Lib.hid hx
        clear hx
        go_wp2
        go_roundw
        case rel =>
          obtain ⟨h1, h2⟩ := HS.out
          rw [HT.out] at h1
          refine ⟨k + 1, by omega, .inr (by omega), by go_num, ?_, hb.grown h2 hb.size (fun k hk => by cases hk; exact Nat.le_refl _)⟩
          have e : f8 (fun j => if j = k then x else if j < k then xs.getD (a * 8 + j) 0 else 0) = f8 (fun j => if j < k + 1 then xs.getD (a * 8 + j) 0 else 0) := f8_congr (fun j _ => by
            by_cases hjk : j = k
            · subst hjk; rw [if_pos rfl, if_pos (by omega), HX.out]
            · rw [if_neg hjk]
              by_cases hj2 : j < k
              · rw [if_pos hj2, if_pos (by omega)]
              · rw [if_neg hj2, if_neg (by omega)])
          rw [e] at h1
          exact h1
        case measure => simp [intOf]; omega
      · go_wp2
        go_ret
        have hl := hxl.out
        refine ⟨_, 8, 8, rfl, ?_, hb⟩
        have e : f8 (fun j => if j < k then xs.getD (a * 8 + j) 0 else 0) = cl xs a := f8_congr (fun j _ => by
          by_cases hj2 : j < k
          · rw [if_pos hj2]
          · rw [if_neg hj2, getD_past xs _ (by omega)])
        rw [e] at ho
        exact ho.more (Nat.le_refl _) (by have := (ho.own.lt w.heap.size rfl).2; omega)
    · have hd : decide ((k : Int) < 8) = false := by simp; omega
      go_wp2
      go_ret
      refine ⟨_, 8, 8, rfl, ?_, hb⟩
      have e : f8 (fun j => if j < k then xs.getD (a * 8 + j) 0 else 0) = cl xs a := f8_congr (fun j _ => by
        rw [if_pos (by omega)])
      rw [e] at ho
      exact ho.more (Nat.le_refl _) (by have := (ho.own.lt w.heap.size rfl).2; omega)

theorem clusterL_no {xs : List Int} {at_ : Int} (h : imgB xs = false) : clusterL xs at_ = [] := by simp [clusterL, h]
theorem clusterL_out {xs : List Int} {at_ : Int} (h : inB at_ 0 ((manyN xs : Int) - 1) = false) : clusterL xs at_ = [] := by simp [clusterL, h]
theorem clusterL_in {xs : List Int} {at_ : Int} (h : imgB xs = true) (h2 : inB at_ 0 ((manyN xs : Int) - 1) = true) : clusterL xs at_ = cl xs at_.toNat := by simp [clusterL, h, h2]

set_option maxHeartbeats 400000 in
theorem specClat_any (A : Option Addr) (n c : Nat) (xs : List Int) (at_ : Int) (w : World) (h : Rd w w.heap.size A n xs) (hn : n ≤ 2097152) :
    Calls Try.prog 10 #[.slice A n c, .int .i64 at_] w (Ret w (clusterL xs at_)) := by
  have hxl := Lib.hid h.len
  cases hi : imgB xs
  · have H2 := Lib.hid (clusterL_no (at_ := at_) hi)
    go_enter Try.func10, Try.ntmps10
    go_wp2_with (go_at_call 16; refine (specImg_any _ _ _ _ _ _ h hn).mono ?_; rintro e w' ⟨rfl, rfl⟩)
    go_ret
    rw [H2.out]
    exact Ret.empty _ _ rfl
  · have hl := imgB_len hi
    have hm : manyN xs ≤ 64 := by unfold manyN; omega
    cases h2 : inB at_ 0 ((manyN xs : Int) - 1)
    · have H2 := Lib.hid (clusterL_out h2)
      go_enter Try.func10, Try.ntmps10
      go_wp2_with (first | (go_at_call 16; refine (specImg_any _ _ _ _ _ _ h hn).mono ?_; rintro e w' ⟨rfl, rfl⟩) | (go_at_call 17; refine (specMany_any _ _ _ _ _ hxl.out hn).mono ?_; rintro e w' ⟨rfl, rfl⟩) | (go_at_call 20; refine (in_any _ _ _ _).mono ?_; rintro e w' ⟨rfl, rfl⟩))
      go_ret
      rw [H2.out]
      exact Ret.empty _ _ rfl
    · have H2 := Lib.hid (clusterL_in hi h2)
      obtain ⟨h3, h4⟩ := inB_true.1 h2
      obtain ⟨a, rfl⟩ := Int.eq_ofNat_of_zero_le h3
      go_enter Try.func10, Try.ntmps10
      go_wp2_with (first | (go_at_call 16; refine (specImg_any _ _ _ _ _ _ h hn).mono ?_; rintro e w' ⟨rfl, rfl⟩) | (go_at_call 17; refine (specMany_any _ _ _ _ _ hxl.out hn).mono ?_; rintro e w' ⟨rfl, rfl⟩) | (go_at_call 20; refine (in_any _ _ _ _).mono ?_; rintro e w' ⟨rfl, rfl⟩))
      refine (specCluster_any A n c a xs _ h hn (by omega)).mono ?_
      rintro e w1 ⟨A1, n1, c1, rfl, r1⟩
      go_wp2
      go_ret
      rw [H2.out, Int.toNat_natCast]
      exact ⟨A1, n1, c1, rfl, r1⟩

theorem Rd.take {w : World} {B n k : Nat} {A : Option Addr} {xs : List Int} (h : Rd w B A n xs) (hk : k ≤ n) : Rd w B A k (xs.take k) := by
  have hl := h.len
  refine ⟨by simp; omega, fun h0 => ?_⟩
  obtain ⟨b, off, e, hb, hc⟩ := h.2 (by omega)
  refine ⟨b, off, e, hb, fun j hj => ?_⟩
  rw [hc j (by omega)]
  simp [List.getD_eq_getElem?_getD, hj]
theorem Rd.drop {w : World} {B n k b off : Nat} {xs : List Int} (h : Rd w B (some ⟨b, off, none⟩) n xs) (hk : k ≤ n) : Rd w B (some ⟨b, off + k, none⟩) (n - k) (xs.drop k) := by
  have hl := h.len
  refine ⟨by simp; omega, fun h0 => ?_⟩
  obtain ⟨b', off', e, hb, hc⟩ := h.2 (by omega)
  injection e with e
  injection e with e1 e2
  subst e1; subst e2
  refine ⟨b, off + k, rfl, hb, fun j hj => ?_⟩
  rw [Nat.add_assoc, hc (k + j) (by omega)]
  simp [List.getD_eq_getElem?_getD]
theorem OwC.rdTop {w : World} {lo hi n c : Nat} {A : Option Addr} {ys : List Int} (h : OwC w lo hi A n c ys) : RdC w w.heap.size A n ys := (OwC.mk (hi := w.heap.size) h.own (fun g hg => (h.own.lt g hg).2)).rd
theorem one_cl {xs : List Int} {a n : Nat} (hx : xs.length = n) (ha : a * 8 < n) : whole ((xs.drop (a * 8)).take (min 8 (n - a * 8))) = cl xs a := by
  unfold cl
  have hl : ((xs.drop (a * 8)).take (min 8 (n - a * 8))).length = min 8 (n - a * 8) := by simp; omega
  refine f8_eq _ _ (by rw [whole_length]; unfold manyN; omega) (fun j hj => ?_)
  rw [whole_get, List.getD_eq_getElem?_getD, List.getD_eq_getElem?_getD, List.getElem?_take]
  by_cases h : j < min 8 (n - a * 8)
  · rw [if_pos h, List.getElem?_drop]
  · rw [if_neg h, List.getElem?_eq_none (by omega)]

set_option maxHeartbeats 400000 in
theorem implClat_any (A : Option Addr) (n c : Nat) (xs : List Int) (at_ : Int) (w : World) (h : Rd w w.heap.size A n xs) (hn : n ≤ 2097152) (hnc : n ≤ c := by omega) :
    Calls Try.prog 11 #[.slice A n c, .int .i64 at_] w (Ret w (clusterL xs at_)) := by
  have hxl := Lib.hid h.len
  by_cases h0 : at_ < 0
  · have hd : decide (at_ < 0) = true := by simpa using h0
    have H2 := Lib.hid (clusterL_out (xs := xs) (inB_false.2 (fun hh => by omega)) : clusterL xs at_ = [])
    go_enter Try.func11, Try.ntmps11
    go_wp2
    go_ret
    rw [H2.out]
    exact Ret.nil _ _ (Below.refl _ _)
  · have hd : decide (at_ < 0) = false := by simpa using h0
    by_cases h1 : manyI xs ≤ at_
    · have hd1 : decide (manyI xs ≤ at_) = true := by simpa using h1
      have H2 : Hid (clusterL xs at_ = []) := by
        cases hi : imgB xs
        · exact clusterL_no hi
        · refine clusterL_out (inB_false.2 (fun hh => ?_))
          simp [manyI, hi] at h1
          omega
      go_enter Try.func11, Try.ntmps11
      go_wp2_with fail
      refine (implClin_any _ _ _ _ _ h hn).mono ?_
      rintro e w1 ⟨rfl, b1⟩
      go_wp2
      go_ret
      rw [H2.out]
      exact Ret.nil _ _ b1
    · have hd1 : decide (manyI xs ≤ at_) = false := by simpa using h1
      have hi : imgB xs = true := by
        cases hi : imgB xs
        · simp [manyI, hi] at h1; omega
        · rfl
      have hlt : at_ < (manyN xs : Int) := by simp [manyI, hi] at h1; omega
      have H2 := Lib.hid (clusterL_in hi (inB_true.2 ⟨by omega, by omega⟩) : clusterL xs at_ = cl xs at_.toNat)
      have hl := imgB_len hi
      have hm : manyN xs ≤ 64 := by unfold manyN; omega
      obtain ⟨a, rfl⟩ := Int.eq_ofNat_of_zero_le (show 0 ≤ at_ by omega)
      have HI := Lib.hid hi
      have han : a * 8 < n := by have := hxl.out; unfold manyN at hlt; omega
      have hn512 : n ≤ 512 := by have := hxl.out; omega
      obtain ⟨b, off, rfl, hbb, hcx⟩ := h.2 (by omega)
      have r0 := (h.drop (k := a * 8) (by omega)).take (k := min 8 (n - a * 8)) (by omega)
      have HE := Lib.hid (one_cl hxl.out han)
      have n1 : IntKind.i64.wrap ((a : Int) * 8) = (a : Int) * 8 := IntWalk.i64_in _ (by omega)
      have hca : ¬ c = a * 8 := by omega
      clear hcx hbb hi
      by_cases hlt8 : a * 8 + 8 ≤ n
      case' pos =>
        have em := Lib.hid (show min 8 (n - a * 8) = 8 by omega)
      case' neg =>
        have em := Lib.hid (show min 8 (n - a * 8) = n - a * 8 by omega)
      all_goals
        rw [em.out] at r0
        have HE2 := Lib.hid (show whole ((xs.drop (a * 8)).take _) = cl xs a from em.out ▸ HE.out)
        go_enter Try.func11, Try.ntmps11
        go_wp2_with fail
        refine (implClin_any _ _ _ _ _ h hn).mono ?_
        rintro e w1 ⟨rfl, b1⟩
        go_wp2_with fail
        refine (clustersOf_any _ _ _ _ _ ((r0.below b1).more b1.size) (by omega)).mono ?_
        rintro e w2 ⟨B2, m, hm2, rfl, o2, b2⟩
        obtain rfl : m = 1 := by omega
        clear hm2
        rw [HE2.out] at o2
        go_wp2_with fail
        refine (joined_any _ 1 _ _ w2 o2.rdTop (by omega)).mono ?_
        rintro e w3 ⟨v, rfl, o3, b3⟩
        go_wp2
        go_ret
        rw [H2.out, Int.toNat_natCast]
        exact Ret.of (below_more b1 b2 b1.size) o3 b3
end Go.Proofs.Ytiokfhdkbpoadaa
