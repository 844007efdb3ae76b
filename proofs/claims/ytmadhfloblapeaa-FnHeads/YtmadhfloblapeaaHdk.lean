/- WithHead: both sides. -/
import Derived.Test.YtmadhfloblapeaaHdj
namespace Go.Proofs.Ytmadhfloblapeaa
open Go.RowKit

/-- WithHead. -/
def withHead (xs : List Int) (h : Hd) : List Int := withL xs 0 (hdWords h)
theorem withHead_no {xs : List Int} {h : Hd} (hi : imgB xs = false) : withHead xs h = [] := by simp [withHead, withL, withB, hi]
theorem withHead_bad {xs : List Int} {h : Hd} (hb : headB h = false) : withHead xs h = [] := by simp [withHead, withL, withB, hdWords_no hb, eightB]
theorem withHead_yes {xs : List Int} {h : Hd} (hb : headB h = true) : withHead xs h = withL xs 0 (hdW h) := by rw [withHead, hdWords_yes hb]

set_option maxHeartbeats 1000000 in
theorem implWithHead_any (A : Option Addr) (n c : Nat) (xs : List Int) (h : Hd) (w : World) (hr : Rd w w.heap.size A n xs) (hn : n ≤ 2097152) :
    Calls Try.prog 6 #[.slice A n c, hdV h] w (Ret w (withHead xs h)) := by
  obtain ⟨s, f, r, t, m⟩ := h
  have hB := Lib.hid ((Below.refl w.heap.size w).alloc (Nat.le_refl _) (.cells #[.int .i64 s, .int .i64 f, .int .i64 r, .int .i64 t, .int .i64 m] 26))
  have HL := Lib.hid (hdWords_len ⟨s, f, r, t, m⟩)
  have HW := Lib.hid (show withHead xs ⟨s, f, r, t, m⟩ = withL xs 0 (hdWords ⟨s, f, r, t, m⟩) from rfl)
  unfold hdV
  go_enter Try.func6, Try.ntmps6
  go_wp2_with fail
  refine (implHeadWords_any ⟨s, f, r, t, m⟩ _).mono ?_
  rintro e w1 ⟨G, ng, cg, rfl, oG, b1⟩
  have b01 := below_more hB.out b1 hB.out.size
  have lG := Lib.hid oG.len
  go_wp2_with fail
  refine (implWcl_any A n c xs 0 G ng cg _ w1 ((hr.below b01).more b01.size) oG.rd hn (by have := lG.out; have := HL.out; omega)).mono ?_
  rintro e w2 ⟨K, nk, ck, rfl, oK, b2⟩
  go_wp2_with fail
  go_ret
  rw [HW.out]
  exact ⟨K, nk, ck, rfl, oK.more b01.size (Nat.le_refl _), below_more b01 b2 b01.size⟩

set_option maxHeartbeats 1000000 in
theorem specWithHead_any (A : Option Addr) (n c : Nat) (xs : List Int) (h : Hd) (w : World) (hr : Rd w w.heap.size A n xs) (hn : n ≤ 2097152) :
    Calls Try.prog 13 #[.slice A n c, hdV h] w (Ret w (withHead xs h)) := by
  obtain ⟨s, f, r, t, m⟩ := h
  have hB := Lib.hid ((Below.refl w.heap.size w).alloc (Nat.le_refl _) (.cells #[.int .i64 s, .int .i64 f, .int .i64 r, .int .i64 t, .int .i64 m] 26))
  have hr1 := hr.below hB.out
  cases hi : imgB xs
  · have H := Lib.hid (withHead_no (h := ⟨s, f, r, t, m⟩) hi)
    unfold hdV
    go_enter Try.func13, Try.ntmps13
    go_wp2_with fail
    refine (specImg_any _ _ _ _ _ _ hr1 hn).mono ?_
    rintro e w' ⟨rfl, rfl⟩
    go_wp2_with fail
    go_ret
    rw [H.out]
    exact ⟨_, 0, 0, rfl, made_ow _ _ [] 0 _ _ _ rfl rfl (by omega) (by simp) (by simp) (by simp), hB.out.alloc hB.out.size _⟩
  cases hb : headB ⟨s, f, r, t, m⟩
  · have H := Lib.hid (withHead_bad (xs := xs) hb)
    unfold hdV
    go_enter Try.func13, Try.ntmps13
    go_wp2_with fail
    refine (specImg_any _ _ _ _ _ _ hr1 hn).mono ?_
    rintro e w' ⟨rfl, rfl⟩
    go_wp2_with fail
    refine (specHeadOk_any ⟨s, f, r, t, m⟩ _).mono ?_
    rintro e w1 ⟨rfl, b1⟩
    have b01 := below_more hB.out b1 hB.out.size
    go_wp2_with fail
    go_ret
    rw [H.out]
    exact ⟨_, 0, 0, rfl, (empty_ow w1).more b01.size (by simp), b01.alloc b01.size _⟩
  have H := Lib.hid (withHead_yes (xs := xs) hb)
  unfold hdV
  go_enter Try.func13, Try.ntmps13
  go_wp2_with fail
  refine (specImg_any _ _ _ _ _ _ hr1 hn).mono ?_
  rintro e w' ⟨rfl, rfl⟩
  go_wp2_with fail
  refine (specHeadOk_any ⟨s, f, r, t, m⟩ _).mono ?_
  rintro e w1 ⟨rfl, b1⟩
  have b01 := below_more hB.out b1 hB.out.size
  have c0 : w1.cell? ⟨w.heap.size, 0, none⟩ = some (.int .i64 s) := boxed b1 0
  have c1 : w1.cell? ⟨w.heap.size, 1, none⟩ = some (.int .i64 f) := boxed b1 1
  have c2 : w1.cell? ⟨w.heap.size, 2, none⟩ = some (.int .i64 r) := boxed b1 2
  have c3 : w1.cell? ⟨w.heap.size, 3, none⟩ = some (.int .i64 t) := boxed b1 3
  have c4 : w1.cell? ⟨w.heap.size, 4, none⟩ = some (.int .i64 m) := boxed b1 4
  go_wp2_with fail
  refine (specHdWords_any ⟨s, f, r, t, m⟩ w1).mono ?_
  rintro e w2 ⟨g, n2, c2', rfl, _, o2, b2⟩
  have b02 := below_more b01 b2 b01.size
  have l2 := Lib.hid o2.len
  go_wp2_with fail
  refine (specWcl_any A n c xs 0 _ n2 c2' _ w2 ((hr.below b02).more b02.size) o2.rd hn (by have := l2.out; simp [hdW] at this; omega)).mono ?_
  rintro e w3 ⟨K, nk, ck, rfl, oK, b3⟩
  go_wp2_with fail
  go_ret
  rw [H.out]
  exact ⟨K, nk, ck, rfl, oK.more b02.size (Nat.le_refl _), below_more b02 b3 b02.size⟩
end Go.Proofs.Ytmadhfloblapeaa
