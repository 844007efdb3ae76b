/- WithHead: both sides. -/
import Derived.Test.YtfolbhjljpnjlabGreatHdj
namespace Go.Proofs.YtfolbhjljpnjlabGreat
open Go.RowKit

/-- WithHead. -/
def withHead (xs : List Int) (h : Hd) : List Int := withL xs 0 (hdWords h)
theorem withHead_no {xs : List Int} {h : Hd} (hi : imgB xs = false) : withHead xs h = [] := by simp [withHead, withL, withB, hi]
theorem withHead_bad {xs : List Int} {h : Hd} (hb : headB h = false) : withHead xs h = [] := by simp [withHead, withL, withB, hdWords_no hb, eightB]
theorem withHead_yes {xs : List Int} {h : Hd} (hb : headB h = true) : withHead xs h = withL xs 0 (hdW h) := by rw [withHead, hdWords_yes hb]

set_option maxHeartbeats 1000000 in
theorem implWithHead_any (A : Option Addr) (n c : Nat) (xs : List Int) (h : Hd) (w : World) (hr : Rd w w.heap.size A n xs) (hn : n ≤ 2097152) :
    Calls Tryz.prog 50 #[.slice A n c, hdV h] w (Ret w (withHead xs h)) := by
  obtain ⟨s, f, r, t, m⟩ := h
  have hB := Lib.hid ((Below.refl w.heap.size w).alloc (Nat.le_refl _) (.cells #[.int .i64 s, .int .i64 f, .int .i64 r, .int .i64 t, .int .i64 m] 34))
  have HL := Lib.hid (hdWords_len ⟨s, f, r, t, m⟩)
  have HW := Lib.hid (show withHead xs ⟨s, f, r, t, m⟩ = withL xs 0 (hdWords ⟨s, f, r, t, m⟩) from rfl)
  unfold hdV
  go_enter Tryz.func50, Tryz.ntmps50
  go_wp2_with fail
  refine (implHeadWords_any ⟨s, f, r, t, m⟩ _).mono ?_
  rintro e w1 ⟨G, ng, cg, rfl, oG, b1⟩
  have b01 := below_more hB.out b1 hB.out.size
  have lG := Lib.hid oG.len
  go_wp2_with fail
  refine (implWcl_any A n c xs 0 G ng cg _ w1 ((hr.below b01).more b01.size) oG.rd hn (by have := lG.out; have := HL.out; omega)).mono ?_
  rintro e w2 ⟨K, nk, ck, rfl, oK, b2⟩
  go_wp2_with fail
  go_ret
  rw [HW.out]
  exact ⟨K, nk, ck, rfl, oK.more b01.size (Nat.le_refl _), below_more b01 b2 b01.size⟩

end Go.Proofs.YtfolbhjljpnjlabGreat