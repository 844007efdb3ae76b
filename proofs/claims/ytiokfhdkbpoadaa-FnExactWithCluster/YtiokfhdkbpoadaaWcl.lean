/- A cluster written: the model's side. -/
import Derived.Test.YtiokfhdkbpoadaaClat
import Derived.Test.YtiokfhdkbpoadaaApp
namespace Go.Proofs.Ytiokfhdkbpoadaa
open Go.RowKit

def lenV : Value → Nat
  | .slice _ n _ => n
  | _ => 0

theorem empty_ow (w : World) : Ow (w.alloc (.cells #[] 2)) w.heap.size (w.heap.size + 1) (some ⟨w.heap.size, 0, none⟩) 0 0 [] := by
  have h : (w.alloc (.cells #[] 2)).ownsRow w.heap.size 2 1 (.slice (some ⟨w.heap.size, 0, none⟩) 0 0) 0 (iv []) := World.ownsRow_made w #[] 0 (Nat.le_refl _) (by simp [maxLen]) rfl
  exact ⟨h, fun g hg => by have := (h.lt g hg).2; simpa using this⟩

theorem below_ow {w w1 w' : World} {lo hi n c : Nat} {A : Option Addr} {xs : List Int} (hb : Below w.heap.size w w1) (ho : Ow w1 lo hi A n c xs) (hlo : w.heap.size ≤ lo) (hg : w1.grownBy w' (Value.ownBlock (.slice A n c))) : Below w.heap.size w w' :=
  hb.grown hg hb.size (fun g h => by have := (ho.own.lt g h).1; omega)

/-- As Ret, and it is not nil. -/
def RetS (w : World) (ys : List Int) (e : Ending) (w' : World) : Prop :=
  ∃ (g n c : Nat), e = .returned (.slice (some ⟨g, 0, none⟩) n c) ∧ n ≤ c ∧ Ow w' w.heap.size w'.heap.size (some ⟨g, 0, none⟩) n c ys ∧ Below w.heap.size w w'
theorem RetS.mk {w w' : World} {A : Option Addr} {n c : Nat} {ys : List Int} (hA : A = none → False) (ho : Ow w' w.heap.size w'.heap.size A n c ys) (hb : Below w.heap.size w w') : RetS w ys (.returned (.slice A n c)) w' := by
  rcases ho.form with ⟨h, _⟩ | ⟨g, rfl, _, _, _, hc⟩
  · exact absurd h hA
  · exact ⟨g, n, c, rfl, hc, ho, hb⟩

theorem specCopy_any (A : Option Addr) (n c : Nat) (xs : List Int) (w : World) (h : Rd w w.heap.size A n xs) (hn : n ≤ 2097152) :
    Calls Try.prog 30 #[.slice A n c] w (RetS w xs) := by
  obtain ⟨i0, hi0, hz0, hz1, hz2⟩ := info_parts info2
  go_enter Try.func30, Try.ntmps30
  go_wp2_with (at_builtin; refine wpList_append_rd rfl (.tmp 3) (.tmp 4) 22 rfl i0 Try.underlying22 hi0 hz0 hz1 hz2 w.heap.size (w.heap.size + 1) (some ⟨w.heap.size, 0, none⟩) 0 0 [] rfl (empty_ow w) w.heap.size A n c xs rfl (h.below ((Below.refl _ _).alloc (Nat.le_refl _) _)) (by omega) (by simp) ?_; intro D cd w1 ho hg hD)
  go_ret
  rw [List.nil_append, Nat.zero_add] at ho
  exact RetS.mk (fun h => by cases hD h) ho (below_ow ((Below.refl _ _).alloc (Nat.le_refl _) _) (empty_ow w) (Nat.le_refl _) hg)

theorem whole_step (xs : List Int) (j : Nat) : (xs ++ List.replicate j 0) ++ [0] = xs ++ List.replicate (j + 1) 0 := by
  rw [List.append_assoc, ← List.replicate_succ']

set_option maxRecDepth 100000 in
set_option maxHeartbeats 400000 in
theorem specWhole_any (A : Option Addr) (n c : Nat) (xs : List Int) (w : World) (h : Rd w w.heap.size A n xs) (hn : n ≤ 2097152) :
    Calls Try.prog 26 #[.slice A n c] w (RetS w (whole xs)) := by
  obtain ⟨i0, hi0, hz0, hz1, hz2⟩ := info_parts info2
  have hxl := Lib.hid h.len
  obtain ⟨M, hM⟩ : ∃ M, M = (n + 7) / 8 * 8 := ⟨_, rfl⟩
  have hM1 : n ≤ M := by omega
  have hM2 : M ≤ n + 7 := by omega
  have HM := Lib.hid hM
  clear hM
  go_enter Try.func26, Try.ntmps26
  go_wp2_with fail
  refine (specCopy_any A n c xs w h hn).mono ?_
  rintro e w1 ⟨g1, n1, c1, rfl, _, o1, b1⟩
  obtain rfl : n = n1 := hxl.out.symm.trans o1.len
  go_wp2_with fail
  go_loopw [3] (fun v wr => ∃ (D : Option Addr) (cd j : Nat), n + j ≤ M ∧ v = .slice D (n + j) cd ∧ (D = none → False) ∧ Ow wr w.heap.size wr.heap.size D (n + j) cd (xs ++ List.replicate j 0) ∧ Below w.heap.size w wr) (fun v _ => M - lenV v)
  case atStart => exact ⟨_, c1, 0, by omega, rfl, (fun h => by cases h), by simpa using o1, b1⟩
  case round =>
    obtain ⟨D, cd, j, hj, rfl, hDn, ho, hb⟩ := hrel
    have HD := Lib.hid hDn
    clear hDn
    by_cases hlt : n + j < M
    · have hd : ((((n + j : Nat) : Int)) % 8 != 0) = true := by
        have := HM.out
        rw [bne_iff_ne]; omega
      have hd' : (((n : Int) + (j : Int)) % 8 != 0) = true := by rw [bne_iff_ne] at *; omega
      have hs := hb.size
      have rl : Rd (wr.alloc (.cells #[.int .i64 0] 2)) (wr.heap.size + 1) (some ⟨wr.heap.size, 0, none⟩) 1 [0] :=
        ⟨rfl, fun _ => ⟨wr.heap.size, 0, rfl, by omega, fun j hj => by
          obtain rfl : j = 0 := by omega
          simp⟩⟩
      have ho2 : Ow (wr.alloc (.cells #[.int .i64 0] 2)) w.heap.size wr.heap.size D (n + j) cd (xs ++ List.replicate j 0) := ho.below ((Below.refl wr.heap.size wr).alloc (Nat.le_refl _) _) (Nat.le_refl _)
      go_wp2_with (at_builtin; refine wpList_append_rd rfl (.tmp 10) (.tmp 11) 22 rfl i0 Try.underlying22 hi0 hz0 hz1 hz2 w.heap.size wr.heap.size D (n + j) cd _ rfl ho2 (wr.heap.size + 1) (some ⟨wr.heap.size, 0, none⟩) 1 1 [0] rfl rl (by omega) (by simp; omega) ?_; intro D' cd' w2 ho3 hg3 hD3)
      go_roundw
      case rel =>
        rw [whole_step] at ho3
        exact ⟨D', cd', j + 1, by omega, rfl, (fun h => HD.out (hD3 h)), ho3, below_ow (hb.alloc hb.size _) ho2 (Nat.le_refl _) hg3⟩
      case measure => simp [lenV]; omega
    · have hd : ((((n + j : Nat) : Int)) % 8 != 0) = false := by
        have := HM.out
        rw [bne_eq_false_iff_eq]; omega
      have hd' : (((n : Int) + (j : Int)) % 8 != 0) = false := by rw [bne_eq_false_iff_eq] at *; omega
      go_wp2
      go_ret
      have hjM : j = M - n := by omega
      subst hjM
      rw [whole, hxl.out, ← HM.out]
      exact RetS.mk HD.out ho hb

theorem Rd.zero {w : World} {B : Nat} {A : Option Addr} {xs : List Int} (h : xs = []) : Rd w B A 0 xs := by subst h; exact Rd.nil _ _ _

/-- A whole image zs with the words ws in the place of cluster a (or behind all). -/
def setCl (zs : List Int) (a : Nat) (ws : List Int) : List Int := (zs.take (a * 8) ++ ws) ++ zs.drop ((a + 1) * 8)

set_option maxRecDepth 100000 in
set_option maxHeartbeats 800000 in
theorem specWith_any (b off n c a : Nat) (zs ws : List Int) (W : Option Addr) (cw : Nat) (w : World) (h : Rd w w.heap.size (some ⟨b, off, none⟩) n zs) (hw : Rd w w.heap.size W 8 ws) (hc : n ≤ c) (hn : n ≤ 2097152) (h8 : n % 8 = 0) (ha : a * 8 ≤ n) :
    Calls Try.prog 25 #[.slice (some ⟨b, off, none⟩) n c, .int .i64 a, .slice W 8 cw] w (Ret w (setCl zs a ws)) := by
  obtain ⟨i0, hi0, hz0, hz1, hz2⟩ := info_parts info2
  have hzl := Lib.hid h.len
  have hm := Lib.hid (show manyN zs * 8 = n by unfold manyN; rw [h.len]; omega)
  have H8 := Lib.hid h8
  clear h8
  have r1 := h.take (k := a * 8) ha
  by_cases hlt : a * 8 < n
  · have hd : decide ((a : Int) < (manyN zs : Int)) = true := by have := hm.out; simp; omega
    have hd' : (a : Int) < (manyN zs : Int) := by simpa using hd
    have hle : (a + 1) * 8 ≤ n := by have := H8.out; omega
    by_cases hcap : c = (a + 1) * 8
    · obtain rfl : n = (a + 1) * 8 := by omega
      subst hcap
      have r2 : ∀ (w : World) (B : Nat) (A : Option Addr) (m : Nat), m = 0 → Rd w B A m (zs.drop ((a + 1) * 8)) := fun _ _ _ _ h => by subst h; exact Rd.zero (List.drop_of_length_le (Nat.le_of_eq hzl.out))
      have R2 := Lib.hid r2
      clear r2
      go_enter Try.func25, Try.ntmps25
      go_wp2_with fail
      refine (specCopy_any _ _ _ _ w r1 (by omega)).mono ?_
      rintro e w1 ⟨g1, n1, c1, rfl, hc1, o1, b1⟩
      have hl1 : n1 = a * 8 := by have := o1.len; have := hzl.out; simp at *; omega
      subst hl1
      go_wp2_with (at_builtin; refine wpList_append_rs rfl (.tmp 12) (.tmp 13) 22 rfl i0 Try.underlying22 hi0 hz0 hz1 hz2 w.heap.size w1.heap.size _ (a * 8) c1 _ rfl o1 w.heap.size W 8 cw ws rfl (hw.below b1) (by omega) b1.size ?_; intro g2 cd w2 hc2 o2 gr2)
      have b2 := below_row b1 o1 (Nat.le_refl _) gr2
      refine (specMany_any _ _ _ zs w2 hzl.out (by omega)).mono ?_
      rintro e w2' ⟨rfl, rfl⟩
      go_wp2_with (at_builtin; refine wpList_append_rs rfl (.tmp 19) (.tmp 24) 22 rfl i0 Try.underlying22 hi0 hz0 hz1 hz2 w.heap.size w2.heap.size g2 (a * 8 + 8) cd _ rfl o2 w2.heap.size _ _ _ (zs.drop ((a + 1) * 8)) rfl (R2.out _ _ _ _ (by omega)) (by omega) b2.size ?_; intro g3 cd3 w3 hc3 o3 gr3)
      go_ret
      rw [Nat.sub_self, Nat.add_zero] at o3
      exact ⟨_, _, _, rfl, o3, below_row b2 o2 (Nat.le_refl _) gr3⟩
    · have r2 := h.drop (k := (a + 1) * 8) hle
      go_enter Try.func25, Try.ntmps25
      go_wp2_with fail
      refine (specCopy_any _ _ _ _ w r1 (by omega)).mono ?_
      rintro e w1 ⟨g1, n1, c1, rfl, hc1, o1, b1⟩
      have hl1 : n1 = a * 8 := by have := o1.len; have := hzl.out; simp at *; omega
      subst hl1
      go_wp2_with (at_builtin; refine wpList_append_rs rfl (.tmp 12) (.tmp 13) 22 rfl i0 Try.underlying22 hi0 hz0 hz1 hz2 w.heap.size w1.heap.size _ (a * 8) c1 _ rfl o1 w.heap.size W 8 cw ws rfl (hw.below b1) (by omega) b1.size ?_; intro g2 cd w2 hc2 o2 gr2)
      have b2 := below_row b1 o1 (Nat.le_refl _) gr2
      refine (specMany_any _ _ _ zs w2 hzl.out (by omega)).mono ?_
      rintro e w2' ⟨rfl, rfl⟩
      go_wp2_with (at_builtin; refine wpList_append_rs rfl (.tmp 19) (.tmp 24) 22 rfl i0 Try.underlying22 hi0 hz0 hz1 hz2 w.heap.size w2.heap.size g2 (a * 8 + 8) cd _ rfl o2 w.heap.size (some ⟨b, off + (a + 1) * 8, none⟩) (n - (a + 1) * 8) _ _ rfl (r2.below b2) (by omega) b2.size ?_; intro g3 cd3 w3 hc3 o3 gr3)
      go_ret
      exact ⟨_, _, _, rfl, o3, below_row b2 o2 (Nat.le_refl _) gr3⟩
  · have hd : decide (a < manyN zs) = false := by have := hm.out; simp; omega
    have HE := Lib.hid (show setCl zs a ws = zs.take (a * 8) ++ ws by rw [setCl, List.drop_of_length_le (by have := hzl.out; omega), List.append_nil])
    go_enter Try.func25, Try.ntmps25
    go_wp2_with fail
    refine (specCopy_any _ _ _ _ w r1 (by omega)).mono ?_
    rintro e w1 ⟨g1, n1, c1, rfl, hc1, o1, b1⟩
    have hl1 : n1 = a * 8 := by have := o1.len; have := hzl.out; simp at *; omega
    subst hl1
    go_wp2_with (at_builtin; refine wpList_append_rs rfl (.tmp 12) (.tmp 13) 22 rfl i0 Try.underlying22 hi0 hz0 hz1 hz2 w.heap.size w1.heap.size _ (a * 8) c1 _ rfl o1 w.heap.size W 8 cw ws rfl (hw.below b1) (by omega) b1.size ?_; intro g2 cd w2 hc2 o2 gr2)
    have b2 := below_row b1 o1 (Nat.le_refl _) gr2
    refine (specMany_any _ _ _ zs w2 hzl.out (by omega)).mono ?_
    rintro e w2' ⟨rfl, rfl⟩
    go_wp2
    go_ret
    rw [HE.out]
    exact ⟨_, _, _, rfl, o2, b2⟩

def eightB (ws : List Int) : Bool := decide (ws.length = 8) && wordsB ws
theorem eightB_img (ws : List Int) : eightB ws = (decide (ws.length = 8) && imgB ws) := by
  unfold eightB imgB
  by_cases h : ws.length = 8 <;> simp [h]
theorem eightB_len {ws : List Int} (h : eightB ws = true) : ws.length = 8 := by
  simp [eightB] at h
  exact h.1

theorem specEight_any (A : Option Addr) (n c : Nat) (xs : List Int) (B : Nat) (w : World) (h : Rd w B A n xs) (hn : n ≤ 2097152) :
    Calls Try.prog 24 #[.slice A n c] w fun e w' => e = .returned (.bool (eightB xs)) ∧ w = w' := by
  have hx := Lib.hid h.len
  by_cases hs : n = 8
  · subst hs
    have hd : (((8 : Nat) : Int) == 8) = true := by simp
    go_enter Try.func24, Try.ntmps24
    go_wp2_with (go_at_call 16; refine (specImg_any _ _ _ _ _ _ h (by omega)).mono ?_; rintro e w' ⟨rfl, rfl⟩)
    go_ret
    have hl := hx.out
    exact ⟨ret_bool (by rw [eightB_img, hl]; simp), rfl⟩
  · have hd : ((n : Int) == 8) = false := by rw [beq_eq_false_iff_ne]; omega
    go_enter Try.func24, Try.ntmps24
    go_wp2
    go_ret
    have hl := hx.out
    exact ⟨ret_bool (by rw [eightB_img, hl]; simp [hs]), rfl⟩

theorem implEight_any (A : Option Addr) (n c : Nat) (xs : List Int) (B : Nat) (w : World) (h : Rd w B A n xs) (hn : n ≤ 2097152) :
    Calls Try.prog 27 #[.slice A n c] w fun e w' => e = .returned (.bool (eightB xs)) ∧ w = w' := by
  have hx := Lib.hid h.len
  by_cases hs : n = 8
  · subst hs
    have hd : (((8 : Nat) : Int) == 8) = true := by simp
    go_enter Try.func27, Try.ntmps27
    go_wp2_with (go_at_call 29; refine (implWords_any _ _ _ _ _ _ h (by omega)).mono ?_; rintro e w' ⟨rfl, rfl⟩)
    go_ret
    have hl := hx.out
    exact ⟨ret_bool (by rw [eightB, hl]; simp), rfl⟩
  · have hd : ((n : Int) == 8) = false := by rw [beq_eq_false_iff_ne]; omega
    go_enter Try.func27, Try.ntmps27
    go_wp2
    go_ret
    have hl := hx.out
    exact ⟨ret_bool (by rw [eightB, hl]; simp [hs]), rfl⟩

/-- WithCluster. -/
def withB (xs : List Int) (at_ : Int) (ws : List Int) : Bool := imgB xs && (eightB ws && (inB at_ 0 (manyN xs) && decide (at_ < 64)))
def withL (xs : List Int) (at_ : Int) (ws : List Int) : List Int := if withB xs at_ ws = true then setCl (whole xs) at_.toNat ws else []

set_option maxRecDepth 100000 in
set_option maxHeartbeats 800000 in
theorem specWcl_any (A : Option Addr) (n c : Nat) (xs : List Int) (at_ : Int) (W : Option Addr) (nw cw : Nat) (ws : List Int) (w : World) (h : Rd w w.heap.size A n xs) (hw : Rd w w.heap.size W nw ws) (hn : n ≤ 2097152) (hnw : nw ≤ 2097152) :
    Calls Try.prog 14 #[.slice A n c, .int .i64 at_, .slice W nw cw] w (Ret w (withL xs at_ ws)) := by
  have hxl := Lib.hid h.len
  have hwl := Lib.hid hw.len
  have hno : withB xs at_ ws = false → withL xs at_ ws = [] := fun h => by simp [withL, h]
  cases hi : imgB xs
  · have H2 := Lib.hid (hno (by simp [withB, hi]))
    clear hno
    go_enter Try.func14, Try.ntmps14
    go_wp2_with (go_at_call 16; refine (specImg_any _ _ _ _ _ _ h hn).mono ?_; rintro e w' ⟨rfl, rfl⟩)
    go_ret
    rw [H2.out]
    exact Ret.empty _ _ rfl
  have hl := imgB_len hi
  have hm : manyN xs ≤ 64 := by unfold manyN; omega
  cases h8 : eightB ws
  · have H2 := Lib.hid (hno (by simp [withB, h8]))
    clear hno
    go_enter Try.func14, Try.ntmps14
    go_wp2_with (first | (go_at_call 16; refine (specImg_any _ _ _ _ _ _ h hn).mono ?_; rintro e w' ⟨rfl, rfl⟩) | (go_at_call 24; refine (specEight_any _ _ _ _ _ _ hw hnw).mono ?_; rintro e w' ⟨rfl, rfl⟩))
    go_ret
    rw [H2.out]
    exact Ret.empty _ _ rfl
  cases h2 : inB at_ 0 (manyN xs)
  · have H2 := Lib.hid (hno (by simp [withB, h2]))
    clear hno
    go_enter Try.func14, Try.ntmps14
    go_wp2_with (first | (go_at_call 16; refine (specImg_any _ _ _ _ _ _ h hn).mono ?_; rintro e w' ⟨rfl, rfl⟩) | (go_at_call 24; refine (specEight_any _ _ _ _ _ _ hw hnw).mono ?_; rintro e w' ⟨rfl, rfl⟩) | (go_at_call 17; refine (specMany_any _ _ _ _ _ hxl.out hn).mono ?_; rintro e w' ⟨rfl, rfl⟩) | (go_at_call 20; refine (in_any _ _ _ _).mono ?_; rintro e w' ⟨rfl, rfl⟩))
    go_ret
    rw [H2.out]
    exact Ret.empty _ _ rfl
  obtain ⟨h3, h4⟩ := inB_true.1 h2
  by_cases h64 : at_ < 64
  · have H2 := Lib.hid (show withL xs at_ ws = setCl (whole xs) at_.toNat ws by simp [withL, withB, hi, h8, h2, h64])
    clear hno
    obtain ⟨a, rfl⟩ := Int.eq_ofNat_of_zero_le h3
    have h6 : decide ((64 : Int) ≤ (a : Int)) = false := by simp; omega
    have hw8 := eightB_len h8
    obtain rfl : nw = 8 := hwl.out.symm.trans hw8
    clear hw8
    have HW := Lib.hid (whole_length xs)
    have HM := Lib.hid (show manyN xs * 8 < n + 8 ∧ a ≤ manyN xs by have := hxl.out; unfold manyN at *; omega)
    go_enter Try.func14, Try.ntmps14
    go_wp2_with (first | (go_at_call 16; refine (specImg_any _ _ _ _ _ _ h hn).mono ?_; rintro e w' ⟨rfl, rfl⟩) | (go_at_call 24; refine (specEight_any _ _ _ _ _ _ hw hnw).mono ?_; rintro e w' ⟨rfl, rfl⟩) | (go_at_call 17; refine (specMany_any _ _ _ _ _ hxl.out hn).mono ?_; rintro e w' ⟨rfl, rfl⟩) | (go_at_call 20; refine (in_any _ _ _ _).mono ?_; rintro e w' ⟨rfl, rfl⟩))
    refine (specWhole_any A n c xs w h hn).mono ?_
    rintro e w1 ⟨g1, n1, c1, rfl, hc1, o1, b1⟩
    have hl1 : Hid (n1 = manyN xs * 8) := (o1.len).symm.trans HW.out
    go_wp2_with fail
    refine (specWith_any g1 0 n1 c1 a (whole xs) ws W cw w1 o1.rd ((hw.below b1).more b1.size) hc1 (by have := hl1.out; have := HM.out; omega) (by have := hl1.out; omega) (by have := hl1.out; have := HM.out; omega)).mono ?_
    rintro e w2 ⟨A2, n2, c2, rfl, o2, b2⟩
    go_wp2
    go_ret
    rw [H2.out, Int.toNat_natCast]
    exact ⟨A2, n2, c2, rfl, o2.more b1.size (Nat.le_refl _), below_more b1 b2 b1.size⟩
  · have H2 := Lib.hid (hno (by simp [withB, h64]))
    clear hno
    have h6 : decide ((64 : Int) ≤ at_) = true := by simp; omega
    go_enter Try.func14, Try.ntmps14
    go_wp2_with (first | (go_at_call 16; refine (specImg_any _ _ _ _ _ _ h hn).mono ?_; rintro e w' ⟨rfl, rfl⟩) | (go_at_call 24; refine (specEight_any _ _ _ _ _ _ hw hnw).mono ?_; rintro e w' ⟨rfl, rfl⟩) | (go_at_call 17; refine (specMany_any _ _ _ _ _ hxl.out hn).mono ?_; rintro e w' ⟨rfl, rfl⟩) | (go_at_call 20; refine (in_any _ _ _ _).mono ?_; rintro e w' ⟨rfl, rfl⟩))
    go_ret
    rw [H2.out]
    exact Ret.empty _ _ rfl
end Go.Proofs.Ytiokfhdkbpoadaa
