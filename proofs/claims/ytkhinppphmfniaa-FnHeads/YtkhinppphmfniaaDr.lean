/- A disk that is drawn (l17Draw). -/
import Derived.Test.YtkhinppphmfniaaDw
namespace Go.Proofs.Ytkhinppphmfniaa
open Go.RowKit

theorem ret_row {w w' : World} {A : Option Addr} {n c : Nat} {ys : List Int} (h : Ow w' w.heap.size w'.heap.size A n c ys) (hn : 0 < n) : ∃ q, A = some ⟨q, 0, none⟩ ∧ n ≤ c ∧ OwV 2 1 w' w.heap.size w'.heap.size q n c (iv ys) := by
  rcases h.form with ⟨_, h0, _⟩ | ⟨q, rfl, _, _, _, hc⟩
  · omega
  · exact ⟨q, rfl, hc, h.toV⟩
theorem blank_len (x : Int) (h : x = 8 ∨ x = 16 ∨ x = 20 ∨ x = 64 ∨ x = 5) : (blankL x).length = 32 := by
  rcases h with rfl | rfl | rfl | rfl | rfl <;> rfl
theorem size_cell {w w' : World} {g : Nat} (hg : (w.alloc (.cells (iv [8, 16, 20, 64, 5]).toArray 2)).grownBy w' (some g)) (hlt : g < w.heap.size) (j : Nat) (hj : j < 5) :
    ∃ y : Int, (y = 8 ∨ y = 16 ∨ y = 20 ∨ y = 64 ∨ y = 5) ∧ w'.cell? ⟨w.heap.size, j, none⟩ = some (.int .i64 y) := by
  refine ⟨_, ?_, new_cell [8, 16, 20, 64, 5] hg hlt j (by simp; omega)⟩
  rcases (by omega : j = 0 ∨ j = 1 ∨ j = 2 ∨ j = 3 ∨ j = 4) with rfl | rfl | rfl | rfl | rfl <;> simp
/-- A row that is not empty, of one's own, and a cursor. -/
def Img (w0 : World) (g B : Nat) (v : Value) (w : World) : Prop :=
  ∃ (h n c : Nat) (ys : List Int), 0 < n ∧ n ≤ 520 ∧ n ≤ c ∧ v = .slice (some ⟨h, 0, none⟩) n c ∧ OwV 2 1 w w0.heap.size w.heap.size h n c (iv ys) ∧ Cur w g B ∧ w0.grownBy w (some g)
theorem Img.draw {w0 w w' : World} {g B : Nat} {v : Value} (h : Img w0 g B v w) (hg : w.grownBy w' (some g)) (hc : Cur w' g B) (hlt : g < w0.heap.size) : Img w0 g B v w' := by
  obtain ⟨h, n, c, ys, h1, h2, h3, rfl, h5, _, h7⟩ := h
  exact ⟨h, n, c, ys, h1, h2, h3, rfl, h5.draw hg hlt hg.size, hc, grown_trans h7 hg⟩

set_option maxRecDepth 100000 in
set_option maxHeartbeats 2000000 in
theorem draw17_any (g B : Nat) (w : World) (hc : Cur w g B) :
    Calls Try.prog 38 #[.pointer (some ⟨g, 0, none⟩)] w (DrawRow g B w (fun ys => 0 < ys.length ∧ ys.length ≤ 520)) := by
  have hgl := hc.lt
  go_enter Try.func38, Try.ntmps38
  go_wp2_with fail
  refine (below_any g B 5 _ (hc.grown (grown_alloc _ _ none) (by simp))).mono ?_
  rintro e w1 ⟨x, hx, rfl, hc1, hg1⟩
  obtain ⟨h0, h1⟩ := hx.lt (by omega)
  obtain ⟨j, rfl⟩ : ∃ j : Nat, x = j := ⟨x.toNat, by omega⟩
  have hj : j < 5 := by omega
  obtain ⟨y, hv, hcell⟩ := size_cell hg1 hgl j hj
  have HV := Lib.hid (blank_len y hv)
  have hg01 := grown_trans (grown_alloc w (.cells (iv [8, 16, 20, 64, 5]).toArray 2) (some g)) hg1
  clear hx h0 h1 hv hg1
  go_wp2_with fail
  refine (specBlank_any y _).mono ?_
  rintro e w2 ⟨A, n, c, rfl, o2, b2⟩
  have hn : n = 32 := by rw [← o2.len, HV.out]
  subst hn
  obtain ⟨q, rfl, hq, v2⟩ := ret_row o2 (by omega)
  have hg2 := grown_trans hg01 (grown_under b2 (some g))
  go_wp2_with fail
  refine (below_any g B 9 _ (hc1.grown (grown_under b2 none) (by simp))).mono ?_
  rintro e w3 ⟨x, hx, rfl, hc3, hg3⟩
  obtain ⟨h0, h1⟩ := hx.lt (by omega)
  obtain ⟨m, rfl⟩ : ∃ m : Nat, x = m := ⟨x.toNat, by omega⟩
  have hm : m < 9 := by omega
  have hst : Img w g B (.slice (some ⟨q, 0, none⟩) 32 c) w3 := ⟨q, 32, c, blankL y, by omega, by omega, hq, rfl, (v2.draw hg3 (by have := hg01.size; omega) hg3.size).more hg01.size (Nat.le_refl _), hc3, grown_trans hg2 hg3⟩
  clear hx h0 h1 o2 v2 hg2 hg3 hg01 b2 hc1 hcell hc3
  go_wp2_with fail
  go_loopw [3, 4] (fun b n wr => ∃ (k : Nat), n = .int .i64 k ∧ k ≤ 9 ∧ Img w g B b wr) (fun _ n _ => (intOf n).toNat)
  case atStart => exact ⟨m, rfl, by omega, hst⟩
  case round =>
    obtain ⟨k, rfl, hk, h, n, c, ys, hp, hn, hnc, rfl, ho, hcr, hgr⟩ := hrel
    have hs := hgr.size
    by_cases hlt : 0 < k
    · go_wp2_with fail
      refine (below_any g B 90 _ hcr).mono ?_
      rintro e w1 ⟨x, hx, rfl, hc1, hg1⟩
      have hx' := hx.lt (by omega)
      obtain ⟨hx0, hx1⟩ := hx'
      clear hx
      have o1 := ho.draw hg1 hgl hg1.size
      have G1 := grown_trans hgr hg1
      clear hg1 ho hgr
      go_wp2_with fail
      refine (specPictured_any _ _ _ ys _ _ o1.toI.rd (by omega)).mono ?_
      rintro e w2 ⟨A2, n2, c2, rfl, o2, b2⟩
      have hn2 : n2 ≤ 520 := by rw [← o2.len]; exact pictured_len _ _
      have HP2 : Hid (0 < n2 → Img w g B (.slice A2 n2 c2) w2) := Lib.hid fun h0 => by
        obtain ⟨q, rfl, hq, v2⟩ := ret_row o2 h0
        exact ⟨q, n2, c2, _, h0, hn2, hq, rfl, v2.more G1.size (Nat.le_refl _), hc1.grown (grown_under b2 none) (by simp), grown_trans G1 (grown_under b2 _)⟩
      have o2' := (o1.below b2 (Nat.le_refl _)).more (Nat.le_refl _) b2.size
      have hc2 : Cur w2 g B := hc1.grown (grown_under b2 none) (by simp)
      have G2 := grown_trans G1 (grown_under b2 (some g))
      clear o2 b2 o1 hc1 G1
      go_wp2_with fail
      refine (once_any g B 4 _ hc2).mono ?_
      rintro e w3 ⟨b3, rfl, hc3, hg3⟩
      have G3 := grown_trans G2 hg3
      have o3 := o2'.draw hg3 hgl hg3.size
      cases b3
      · go_wp2_with fail
        refine (specHeadIn_any _ _ _ ys _ o3.toI.rd (by omega)).mono ?_
        rintro e w4 ⟨rfl, b4⟩
        generalize headIn ys = r
        obtain ⟨⟨s, f, r, u, m⟩, is⟩ := r
        unfold hdV
        have hc4 : Cur w4 g B := hc3.grown (grown_under b4 none) (by simp)
        have G4 := grown_trans G3 (grown_under b4 (some g))
        have o4 := (o3.below b4 (Nat.le_refl _)).more (Nat.le_refl _) b4.size
        have a5 := grown_alloc w4 (.cells #[.int .i64 s, .int .i64 f, .int .i64 r, .int .i64 u, .int .i64 m] 26) none
        have hc5 := hc4.grown a5 (by simp)
        have G5 := grown_trans G4 (grown_alloc w4 (.cells #[.int .i64 s, .int .i64 f, .int .i64 r, .int .i64 u, .int .i64 m] 26) (some g))
        have o5 := (o4.grown a5 (by simp)).more (Nat.le_refl _) a5.size
        have c0 : (w4.alloc (.cells #[.int .i64 s, .int .i64 f, .int .i64 r, .int .i64 u, .int .i64 m] 26)).cell? ⟨w4.heap.size, 0, none⟩ = some (.int .i64 s) := World.cell?_alloc_new _ _ _ _
        clear a5 o4 G4 hc4 b4 o3 G3 hc3 hg3 o2' hc2 G2 HP2
        go_wp2_with fail
        refine (min_any _ _ _).mono ?_
        rintro e w6 ⟨rfl, rfl⟩
        generalize (if s < 20 then s else 20) = mm
        go_wp2_with fail
        refine (below_any g B mm _ hc5).mono ?_
        rintro e w7 ⟨z, hz, rfl, hc7, hg7⟩
        clear hz
        have G7 := grown_trans G5 hg7
        have o7 := o5.draw hg7 hgl hg7.size
        clear hg7 hc5 o5 G5 c0
        go_wp2_with fail
        refine (drawWords_any g B 8 _ hc7 (by omega)).mono ?_
        rintro e w8 ⟨q, n8, c8, vs, hvs, _, _, rfl, v8, hc8, hg8⟩
        have G8 := grown_trans G7 hg8
        have o8 := o7.draw hg8 hgl hg8.size
        have hn8 : n8 = 8 := by rw [← v8.lenI]; exact hvs
        subst hn8
        clear hg8 hc7 o7 G7
        go_wp2_with fail
        refine (specWritten_any _ _ _ ys _ _ _ _ vs _ o8.toI.rd hnc v8.toI.rd (by omega) (by omega)).mono ?_
        rintro e w9 ⟨A9, n9, c9, rfl, o9, b9⟩
        have hn9 : n9 ≤ 520 := by rw [← o9.len]; exact written_len _ _ _ (by rw [v8.lenI]; omega)
        have HP9 : Hid (0 < n9 → Img w g B (.slice A9 n9 c9) w9) := Lib.hid fun h0 => by
          obtain ⟨q, rfl, hq, v2⟩ := ret_row o9 h0
          exact ⟨q, n9, c9, _, h0, hn9, hq, rfl, v2.more G8.size (Nat.le_refl _), hc8.grown (grown_under b9 none) (by simp), grown_trans G8 (grown_under b9 _)⟩
        have HO9 : Hid (Img w g B (.slice (some ⟨h, 0, none⟩) n c) w9) := Lib.hid ⟨h, n, c, ys, hp, hn, hnc, rfl, (o8.below b9 (Nat.le_refl _)).more (Nat.le_refl _) b9.size, hc8.grown (grown_under b9 none) (by simp), grown_trans G8 (grown_under b9 _)⟩
        clear o9 b9 o8 G8 v8 hvs hc8
        by_cases h9 : 0 < n9
        · go_wp2_with fail
          go_roundw
          case rel => exact ⟨k - 1, by go_num, by omega, HP9.out h9⟩
          case measure => simp [intOf]; omega
        · go_wp2_with fail
          go_roundw
          case rel => exact ⟨k - 1, by go_num, by omega, HO9.out⟩
          case measure => simp [intOf]; omega
      · have HO3 : Hid (Img w g B (.slice (some ⟨h, 0, none⟩) n c) w3) := Lib.hid ⟨h, n, c, ys, hp, hn, hnc, rfl, o3, hc3, G3⟩
        have HP3 : Hid (0 < n2 → Img w g B (.slice A2 n2 c2) w3) := Lib.hid fun h0 => (HP2.out h0).draw hg3 hc3 hgl
        clear o3 G3 hc3 HP2 hg3 o2' hc2 G2
        by_cases h9 : 0 < n2
        · go_wp2_with fail
          go_roundw
          case rel => exact ⟨k - 1, by go_num, by omega, HP3.out h9⟩
          case measure => simp [intOf]; omega
        · go_wp2_with fail
          go_roundw
          case rel => exact ⟨k - 1, by go_num, by omega, HO3.out⟩
          case measure => simp [intOf]; omega
    · go_wp2_with fail
      go_ret
      exact ⟨h, n, c, ys, by show 0 < ys.length ∧ ys.length ≤ 520; rw [ho.lenI]; exact ⟨hp, hn⟩, by omega, hnc, rfl, ho, hcr, hgr⟩

end Go.Proofs.Ytkhinppphmfniaa
