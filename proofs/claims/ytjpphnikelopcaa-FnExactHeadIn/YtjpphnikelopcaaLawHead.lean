/- The exact laws of chapter 3, walked: each returns true and writes nothing that was there. -/
import Derived.Test.YtjpphnikelopcaaHdk
import Derived.Test.YtjpphnikelopcaaLawWithCluster
namespace Go.Proofs.Ytjpphnikelopcaa
open Go.RowKit

set_option maxRecDepth 100000 in
set_option maxHeartbeats 1000000 in
theorem toHead_any (h : Hd) (w : World) :
    Calls Try.prog 8 #[hdV h] w fun e w' => e = .returned (hdV h) ∧ Below w.heap.size w w' := by
  obtain ⟨s, f, r, t, m⟩ := h
  unfold hdV
  go_enter Try.func8, Try.ntmps8
  go_wp2_with fail
  refine bodyPost_ret (v := hdV ⟨s, f, r, t, m⟩) (by simp [results, Try.results8, go_sem, hdV]) rfl ⟨rfl, ?_⟩
  exact (((Below.refl _ _).alloc (Nat.le_refl _) _).alloc (by simp) _).alloc (by simp; omega) _

set_option maxHeartbeats 1000000 in
theorem eqHead_any (h : Hd) (w : World) :
    Calls Try.prog 18 #[hdV h, hdV h] w fun e w' => e = .returned (.bool true) ∧ Below w.heap.size w w' := by
  obtain ⟨s, f, r, t, m⟩ := h
  unfold hdV
  have q1 : (s != s) = false := by simp
  have q2 : (f != f) = false := by simp
  have q3 : (r != r) = false := by simp
  have q4 : (t != t) = false := by simp
  have q5 : (m != m) = false := by simp
  go_enter Try.func18, Try.ntmps18
  go_wp2_with fail
  go_ret
  exact ⟨rfl, ((Below.refl _ _).alloc (Nat.le_refl _) _).alloc (by simp) _⟩

set_option maxHeartbeats 1000000 in
theorem law_HeadOk (h : Hd) (w : World) :
    Calls Try.prog 3 #[hdV h] w fun e w' => e = .returned (.bool true) ∧ Below w.heap.size w w' := by
  have hbb : (headB h != headB h) = false := by simp
  obtain ⟨s, f, r, t, m⟩ := h
  have B0 := Lib.hid ((Below.refl w.heap.size w).alloc (Nat.le_refl _) (.cells #[.int .i64 s, .int .i64 f, .int .i64 r, .int .i64 t, .int .i64 m] 23))
  unfold hdV
  go_enter Try.func3, Try.ntmps3
  go_wp2_with fail
  refine (toHead_any ⟨s, f, r, t, m⟩ _).mono ?_
  rintro e w1 ⟨rfl, b1⟩
  have b01 := below_more B0.out b1 B0.out.size
  go_wp2_with fail
  refine (specHeadOk_any ⟨s, f, r, t, m⟩ w1).mono ?_
  rintro e w2 ⟨rfl, b2⟩
  have b02 := below_more b01 b2 b01.size
  have b12 := below_more b1 b2 b1.size
  have c0 : w2.cell? ⟨w.heap.size, 0, none⟩ = some (.int .i64 s) := boxed b12 0
  have c1 : w2.cell? ⟨w.heap.size, 1, none⟩ = some (.int .i64 f) := boxed b12 1
  have c2 : w2.cell? ⟨w.heap.size, 2, none⟩ = some (.int .i64 r) := boxed b12 2
  have c3 : w2.cell? ⟨w.heap.size, 3, none⟩ = some (.int .i64 t) := boxed b12 3
  have c4 : w2.cell? ⟨w.heap.size, 4, none⟩ = some (.int .i64 m) := boxed b12 4
  go_wp2_with fail
  refine (toHead_any ⟨s, f, r, t, m⟩ _).mono ?_
  rintro e w3 ⟨rfl, b3⟩
  have b03 := below_more b02 b3 b02.size
  go_wp2_with fail
  refine (implHeadOk_any ⟨s, f, r, t, m⟩ w3).mono ?_
  rintro e w4 ⟨rfl, b4⟩
  have b04 := below_more b03 b4 b03.size
  go_wp2_with fail
  go_ret
  exact ⟨rfl, b04⟩
/-- The cells of a Head in memory. -/
def BoxH (w : World) (g : Nat) (h : Hd) : Prop := ∀ j : Nat, w.cell? ⟨g, j, none⟩ = (#[.int .i64 h.size, .int .i64 h.first, .int .i64 h.refs, .int .i64 h.shots, .int .i64 h.many] : Array Value)[j]?
theorem BoxH.new (w : World) (h : Hd) (t : TypeId) : BoxH (w.alloc (.cells #[.int .i64 h.size, .int .i64 h.first, .int .i64 h.refs, .int .i64 h.shots, .int .i64 h.many] t)) w.heap.size h := fun _ => World.cell?_alloc_new _ _ _ _
theorem BoxH.below {w w' : World} {g B : Nat} {h : Hd} (hx : BoxH w g h) (hb : Below B w w') (hg : g < B) : BoxH w' g h := fun j => (hb.cell (p := ⟨g, j, none⟩) hg).trans (hx j)
theorem BoxH.alloc {w : World} {g : Nat} {h : Hd} (hx : BoxH w g h) (hg : g < w.heap.size) (o : Obj) : BoxH (w.alloc o) g h := fun j => (World.cell?_alloc_lt w o ⟨g, j, none⟩ hg).trans (hx j)

set_option maxHeartbeats 2000000 in
theorem law_HeadIn (A : Option Addr) (n c : Nat) (xs : List Int) (w : World) (h : Rd w w.heap.size A n xs) :
    Calls Try.prog 5 #[.slice A n c] w fun e w' => e = .returned (.bool true) ∧ Below w.heap.size w w' := by
  by_cases hbig : 1048576 < n
  · have hb : decide ((1048576 : Int) < (n : Int)) = true := by simp; omega
    go_enter Try.func5, Try.ntmps5
    go_wp2
    go_ret
    exact ⟨rfl, Below.refl _ _⟩
  have hb : decide ((1048576 : Int) < (n : Int)) = false := by simp; omega
  have hee : (xs == xs) = true := by simp
  obtain ⟨hd, hhd⟩ : ∃ hd, hd = headIn xs := ⟨_, rfl⟩
  obtain ⟨⟨s, f, r, t, m⟩, v⟩ := hd
  have hvv : (v != v) = false := by simp
  go_enter Try.func5, Try.ntmps5
  go_wp2_with fail
  refine (to_any A n c xs w h (by omega)).mono ?_
  rintro e w1 ⟨B1, rfl, o1, b1⟩
  go_wp2_with fail
  refine (specHeadIn_any B1 n n xs w1 o1.rd (by omega)).mono ?_
  rintro e w2 ⟨rfl, b2⟩
  rw [← hhd]
  have b02 := below_more b1 b2 b1.size
  have B02 := Lib.hid (b02.alloc b02.size (.cells #[.int .i64 s, .int .i64 f, .int .i64 r, .int .i64 t, .int .i64 m] 25))
  have X0 := BoxH.new w2 ⟨s, f, r, t, m⟩ 25
  unfold hdV
  dsimp only
  go_wp2_with fail
  refine (to_any A n c xs _ ((h.below B02.out).more B02.out.size) (by omega)).mono ?_
  rintro e w3 ⟨X, rfl, oX, b3⟩
  have b03 := below_more B02.out b3 B02.out.size
  have X3 := X0.below b3 (by simp)
  have s3 : w2.heap.size < w3.heap.size := by have := b3.size; simp at this; omega
  go_wp2_with fail
  refine (implHeadIn_any X n n xs w3 oX.rd (by omega)).mono ?_
  rintro e w4 ⟨rfl, b4⟩
  rw [← hhd]
  clear hhd
  have b04 := below_more b03 b4 b03.size
  have s4 := b4.size
  have X4 := (X3.below b4 s3).alloc (show w2.heap.size < w4.heap.size by omega) (.cells #[.int .i64 s, .int .i64 f, .int .i64 r, .int .i64 t, .int .i64 m] 25)
  have oX := oX.below b4 (Nat.le_refl _)
  have B04 := Lib.hid (b04.alloc b04.size (.cells #[.int .i64 s, .int .i64 f, .int .i64 r, .int .i64 t, .int .i64 m] 25))
  have c0 : (w4.alloc (.cells #[.int .i64 s, .int .i64 f, .int .i64 r, .int .i64 t, .int .i64 m] 25)).cell? ⟨w2.heap.size, 0, none⟩ = some (.int .i64 s) := X4 0
  have c1 : (w4.alloc (.cells #[.int .i64 s, .int .i64 f, .int .i64 r, .int .i64 t, .int .i64 m] 25)).cell? ⟨w2.heap.size, 1, none⟩ = some (.int .i64 f) := X4 1
  have c2 : (w4.alloc (.cells #[.int .i64 s, .int .i64 f, .int .i64 r, .int .i64 t, .int .i64 m] 25)).cell? ⟨w2.heap.size, 2, none⟩ = some (.int .i64 r) := X4 2
  have c3 : (w4.alloc (.cells #[.int .i64 s, .int .i64 f, .int .i64 r, .int .i64 t, .int .i64 m] 25)).cell? ⟨w2.heap.size, 3, none⟩ = some (.int .i64 t) := X4 3
  have c4 : (w4.alloc (.cells #[.int .i64 s, .int .i64 f, .int .i64 r, .int .i64 t, .int .i64 m] 25)).cell? ⟨w2.heap.size, 4, none⟩ = some (.int .i64 m) := X4 4
  have hne : w2.heap.size ≠ w4.heap.size := by omega
  unfold hdV
  dsimp only
  go_wp2_with fail
  refine (eqHead_any ⟨s, f, r, t, m⟩ _).mono ?_
  rintro e w5 ⟨rfl, b5⟩
  have b05 := below_more B04.out b5 B04.out.size
  have s5 : w4.heap.size < w5.heap.size := by have := b5.size; simp at this; omega
  have rX : Rd w5 w5.heap.size X n xs := (((oX.rd.more s4).below ((Below.refl w4.heap.size w4).alloc (Nat.le_refl _) (.cells #[.int .i64 s, .int .i64 f, .int .i64 r, .int .i64 t, .int .i64 m] 25))).below (b5.mono (by simp))).more (by omega)
  go_wp2_with fail
  refine (to_any A n c xs w5 ((h.below b05).more b05.size) (by omega)).mono ?_
  rintro e w6 ⟨Y, rfl, oY, b6⟩
  have b06 := below_more b05 b6 b05.size
  go_wp2_with fail
  refine (eq_any X Y n n n n xs xs w6.heap.size w6 ((rX.below b6).more b6.size) oY.rd (by omega)).mono ?_
  rintro e w6' ⟨rfl, d2, rfl⟩
  go_wp2_with fail
  go_ret
  exact ⟨rfl, below_drewN b06 d2⟩

set_option maxHeartbeats 2000000 in
theorem law_HeadWords (h : Hd) (w : World) :
    Calls Try.prog 4 #[hdV h] w fun e w' => e = .returned (.bool true) ∧ Below w.heap.size w w' := by
  obtain ⟨ys, hys⟩ : ∃ ys, ys = hdWords h := ⟨_, rfl⟩
  have hyy : (ys == ys) = true := by simp
  have hyl : ys.length ≤ 8 := by rw [hys]; exact hdWords_len h
  have HY := Lib.hid hys
  clear hys
  obtain ⟨s, f, r, t, m⟩ := h
  have B0 := Lib.hid ((Below.refl w.heap.size w).alloc (Nat.le_refl _) (.cells #[.int .i64 s, .int .i64 f, .int .i64 r, .int .i64 t, .int .i64 m] 23))
  have X0 := BoxH.new w ⟨s, f, r, t, m⟩ 23
  unfold hdV
  go_enter Try.func4, Try.ntmps4
  go_wp2_with fail
  refine (toHead_any ⟨s, f, r, t, m⟩ _).mono ?_
  rintro e w1 ⟨rfl, b1⟩
  have b01 := below_more B0.out b1 B0.out.size
  have X1 := X0.below b1 (by simp)
  have s1 : w.heap.size < w1.heap.size := by have := b1.size; simp at this; omega
  go_wp2_with fail
  refine (specHeadWords_any ⟨s, f, r, t, m⟩ w1).mono ?_
  rintro e w2 ⟨S, ns, cs, rfl, oS, b2⟩
  rw [← HY.out] at oS
  have b02 := below_more b01 b2 b01.size
  have X2 := X1.below b2 s1
  have s2 := b2.size
  have c0 : w2.cell? ⟨w.heap.size, 0, none⟩ = some (.int .i64 s) := X2 0
  have c1 : w2.cell? ⟨w.heap.size, 1, none⟩ = some (.int .i64 f) := X2 1
  have c2 : w2.cell? ⟨w.heap.size, 2, none⟩ = some (.int .i64 r) := X2 2
  have c3 : w2.cell? ⟨w.heap.size, 3, none⟩ = some (.int .i64 t) := X2 3
  have c4 : w2.cell? ⟨w.heap.size, 4, none⟩ = some (.int .i64 m) := X2 4
  go_wp2_with fail
  refine (toHead_any ⟨s, f, r, t, m⟩ _).mono ?_
  rintro e w3 ⟨rfl, b3⟩
  clear c0 c1 c2 c3 c4
  have b03 := below_more b02 b3 b02.size
  have X3 := X2.below b3 (by omega)
  have oS := oS.below b3 (Nat.le_refl _)
  have s3 := b3.size
  go_wp2_with fail
  refine (implHeadWords_any ⟨s, f, r, t, m⟩ w3).mono ?_
  rintro e w4 ⟨G, ng, cg, rfl, oG, b4⟩
  rw [← HY.out] at oG
  have b04 := below_more b03 b4 b03.size
  have X4 := X3.below b4 (by omega)
  have oS := oS.below b4 s3
  have s4 := b4.size
  have lS := Lib.hid oS.len
  have lG := Lib.hid oG.len
  go_wp2_with fail
  refine (eq_any G S ng cg ns cs ys ys w4.heap.size w4 oG.rd (oS.rd.more (by omega)) (by have := lG.out; omega)).mono ?_
  rintro e w4' ⟨rfl, d1, rfl⟩
  go_wp2_with fail
  refine (mark_any G ng cg _ _ ys 1 (w4.drewN d1) (oG.drewN d1) (by have := lG.out; omega) (by omega) (by omega)).mono ?_
  rintro e w5 ⟨rfl, oG5, g5⟩
  have rG := row_of oG5
  have k45 : Below w3.heap.size (w4.drewN d1) w5 := (Below.refl _ _).grown g5 s4 (fun g hg => (rG g hg).1)
  have b05 : Below w.heap.size w w5 := (below_drewN b04 d1).trans (k45.mono (by omega))
  have X5 : BoxH w5 w.heap.size ⟨s, f, r, t, m⟩ := BoxH.below (w := w4.drewN d1) X4 k45 (by omega)
  have s5 : w4.heap.size ≤ w5.heap.size := g5.size
  have oS := (oS.drewN d1).grown g5 (fun g hg => by have := rG g hg; omega)
  go_wp2_with fail
  refine (held_any G ng cg w4.heap.size 1 w5 oG5.rd (by have := lG.out; omega) (by omega) (by omega)).mono ?_
  rintro e w5' ⟨rfl, rfl⟩
  have hq : decide ((1 : Int) + (ng : Int) < 0) = false := by simp; omega
  have hq2 : ((1 : Int) + (ng : Int) != 1 + (ng : Int)) = false := by simp
  have c0 : w5.cell? ⟨w.heap.size, 0, none⟩ = some (.int .i64 s) := X5 0
  have c1 : w5.cell? ⟨w.heap.size, 1, none⟩ = some (.int .i64 f) := X5 1
  have c2 : w5.cell? ⟨w.heap.size, 2, none⟩ = some (.int .i64 r) := X5 2
  have c3 : w5.cell? ⟨w.heap.size, 3, none⟩ = some (.int .i64 t) := X5 3
  have c4 : w5.cell? ⟨w.heap.size, 4, none⟩ = some (.int .i64 m) := X5 4
  go_wp2_with fail
  refine (toHead_any ⟨s, f, r, t, m⟩ _).mono ?_
  rintro e w6 ⟨rfl, b6⟩
  clear c0 c1 c2 c3 c4
  have b06 := below_more b05 b6 b05.size
  have s6 := b6.size
  have oS := oS.below b6 (by omega)
  have oG6 := oG5.below b6 (by omega)
  go_wp2_with fail
  refine (implHeadWords_any ⟨s, f, r, t, m⟩ w6).mono ?_
  rintro e w7 ⟨K, nk, ck, rfl, oK, b7⟩
  rw [← HY.out] at oK
  have b07 := below_more b06 b7 b06.size
  have s7 := b7.size
  have lK := Lib.hid oK.len
  have oS := oS.below b7 (by omega)
  have oG7 := oG6.below b7 (by omega)
  go_wp2_with fail
  refine (eq_any K S nk ck ns cs ys ys w7.heap.size w7 oK.rd (oS.rd.more (by omega)) (by have := lK.out; omega)).mono ?_
  rintro e w7' ⟨rfl, d4, rfl⟩
  go_wp2_with fail
  refine (held_any G ng cg w4.heap.size 1 (w7.drewN d4) (oG7.drewN d4).rd (by have := lG.out; omega) (by omega) (by omega)).mono ?_
  rintro e w7' ⟨rfl, rfl⟩
  go_wp2_with fail
  go_ret
  exact ⟨rfl, below_drewN b07 d4⟩

set_option maxHeartbeats 4000000 in
theorem law_WithHead (A : Option Addr) (n c : Nat) (xs : List Int) (h : Hd) (w : World) (hr : Rd w w.heap.size A n xs) :
    Calls Try.prog 6 #[.slice A n c, hdV h] w fun e w' => e = .returned (.bool true) ∧ Below w.heap.size w w' := by
  obtain ⟨ys, hys⟩ : ∃ ys, ys = withHead xs h := ⟨_, rfl⟩
  have hyy : (ys == ys) = true := by simp
  have hee : (xs == xs) = true := by simp
  have hyl : ys.length ≤ 2097152 := by rw [hys]; exact withL_len _ _ _
  have HY := Lib.hid hys
  clear hys
  obtain ⟨s, f, r, t, m⟩ := h
  have B0 := Lib.hid ((Below.refl w.heap.size w).alloc (Nat.le_refl _) (.cells #[.int .i64 s, .int .i64 f, .int .i64 r, .int .i64 t, .int .i64 m] 23))
  have X0 := BoxH.new w ⟨s, f, r, t, m⟩ 23
  unfold hdV
  by_cases hbig : 1048576 < n
  · have hb : decide ((1048576 : Int) < (n : Int)) = true := by simp; omega
    go_enter Try.func6, Try.ntmps6
    go_wp2_with fail
    go_ret
    exact ⟨rfl, B0.out⟩
  have hb : decide ((1048576 : Int) < (n : Int)) = false := by simp; omega
  have hr0 := (hr.below B0.out).more B0.out.size
  go_enter Try.func6, Try.ntmps6
  go_wp2_with fail
  have hz0 : w.heap.size < (w.alloc (.cells #[.int .i64 s, .int .i64 f, .int .i64 r, .int .i64 t, .int .i64 m] 23)).heap.size := by simp
  generalize (w.alloc (.cells #[.int .i64 s, .int .i64 f, .int .i64 r, .int .i64 t, .int .i64 m] 23)) = w0 at *
  have c0 : w0.cell? ⟨w.heap.size, 0, none⟩ = some (.int .i64 s) := X0 0
  have c1 : w0.cell? ⟨w.heap.size, 1, none⟩ = some (.int .i64 f) := X0 1
  have c2 : w0.cell? ⟨w.heap.size, 2, none⟩ = some (.int .i64 r) := X0 2
  have c3 : w0.cell? ⟨w.heap.size, 3, none⟩ = some (.int .i64 t) := X0 3
  have c4 : w0.cell? ⟨w.heap.size, 4, none⟩ = some (.int .i64 m) := X0 4
  go_region_held3 (fun w' => w'.cell? ⟨w.heap.size, 0, none⟩ = some (.int .i64 s) ∧ w'.cell? ⟨w.heap.size, 1, none⟩ = some (.int .i64 f) ∧ w'.cell? ⟨w.heap.size, 2, none⟩ = some (.int .i64 r) ∧ w'.cell? ⟨w.heap.size, 3, none⟩ = some (.int .i64 t) ∧ w'.cell? ⟨w.heap.size, 4, none⟩ = some (.int .i64 m))
    (first
      | go_keep
      | (go_split_ands
         refine ⟨?_, ?_, ?_, ?_, ?_⟩
         all_goals (refine (b2.cell hz1b).trans ?_; assumption))
      | (go_split_ands
         refine ⟨?_, ?_, ?_, ?_, ?_⟩
         all_goals (refine (b1b.cell hz1).trans ?_; assumption))
      | (go_split_ands
         refine ⟨?_, ?_, ?_, ?_, ?_⟩
         all_goals (refine (b1.cell hz0).trans ?_; assumption)))
    (first
      | (go_at_call 16; refine (to_any A n c xs w0.drew (show Rd w0.drew w0.heap.size A n xs from hr0) (by omega)).mono ?_; rintro e w1 ⟨B1, rfl, o1, b1⟩; have hz1 : w.heap.size < w1.heap.size := Nat.lt_of_lt_of_le hz0 b1.size)
      | (go_at_call 8; refine (toHead_any ⟨s, f, r, t, m⟩ w1).mono ?_; rintro e w1b ⟨rfl, b1b⟩; have hz1b : w.heap.size < w1b.heap.size := Nat.lt_of_lt_of_le hz1 b1b.size)
      | (go_at_call 19; refine (specWithHead_any B1 n n xs ⟨s, f, r, t, m⟩ w1b ((o1.below b1b (Nat.le_refl _)).rd.more b1b.size) (by omega)).mono ?_; rintro e w2 ⟨S, ns, cs, rfl, oS, b2⟩))
  clear c0 c1 c2 c3 c4
  have b01 := below_more B0.out.drew b1 B0.out.size
  have b01b := below_more b01 b1b b01.size
  have X1 : BoxH w1 w.heap.size ⟨s, f, r, t, m⟩ := BoxH.below (w := w0.drew) X0 b1 hz0
  have X1b := X1.below b1b hz1
  have s1b := b1b.size
  rw [← HY.out] at oS
  have b02 := below_more b01b b2 b01b.size
  have X2 := X1b.below b2 (by omega)
  have s2 := b2.size
  go_wp2_with fail
  refine (to_any A n c xs w2 ((hr.below b02).more b02.size) (by omega)).mono ?_
  rintro e w3a ⟨X, rfl, oX, b3a⟩
  have b03a := below_more b02 b3a b02.size
  have X3a := X2.below b3a (by omega)
  have oS := oS.below b3a (Nat.le_refl _)
  have s3a := b3a.size
  have c0 : w3a.cell? ⟨w.heap.size, 0, none⟩ = some (.int .i64 s) := X3a 0
  have c1 : w3a.cell? ⟨w.heap.size, 1, none⟩ = some (.int .i64 f) := X3a 1
  have c2 : w3a.cell? ⟨w.heap.size, 2, none⟩ = some (.int .i64 r) := X3a 2
  have c3 : w3a.cell? ⟨w.heap.size, 3, none⟩ = some (.int .i64 t) := X3a 3
  have c4 : w3a.cell? ⟨w.heap.size, 4, none⟩ = some (.int .i64 m) := X3a 4
  go_wp2_with fail
  refine (toHead_any ⟨s, f, r, t, m⟩ _).mono ?_
  rintro e w3 ⟨rfl, b3⟩
  clear c0 c1 c2 c3 c4
  have b03 := below_more b03a b3 b03a.size
  have X3 := X3a.below b3 (by omega)
  have s3 := b3.size
  have oS := oS.below b3 (by omega)
  have oX := oX.below b3 (Nat.le_refl _)
  go_wp2_with fail
  refine (implWithHead_any X n n xs ⟨s, f, r, t, m⟩ w3 (oX.rd.more s3) (by omega)).mono ?_
  rintro e w4 ⟨G, ng, cg, rfl, oG, b4⟩
  rw [← HY.out] at oG
  have b04 := below_more b03 b4 b03.size
  have X4 := X3.below b4 (by omega)
  have s4 := b4.size
  have s02 := b02.size
  have oS := oS.below b4 (by omega)
  have oX := oX.below b4 (by omega)
  have lS := Lib.hid oS.len
  have lG := Lib.hid oG.len
  go_wp2_with fail
  refine (eq_any G S ng cg ns cs ys ys w4.heap.size w4 oG.rd (oS.rd.more (by omega)) (by have := lG.out; omega)).mono ?_
  rintro e w4' ⟨rfl, d1, rfl⟩
  go_wp2_with fail
  refine (to_any A n c xs (w4.drewN d1) ((hr.below b04).more b04.size) (by omega)).mono ?_
  rintro e w5 ⟨Z, rfl, oZ, b5⟩
  have b05 := below_more (below_drewN b04 d1) b5 b04.size
  have s5 : w4.heap.size ≤ w5.heap.size := b5.size
  have X5 : BoxH w5 w.heap.size ⟨s, f, r, t, m⟩ := BoxH.below (w := w4.drewN d1) X4 b5 (show w.heap.size < w4.heap.size by omega)
  have oS := (oS.drewN d1).below b5 (show _ ≤ w4.heap.size by omega)
  have oX := (oX.drewN d1).below b5 (show _ ≤ w4.heap.size by omega)
  have oG := (oG.drewN d1).below b5 (Nat.le_refl _)
  go_wp2_with fail
  refine (eq_any X Z n n n n xs xs w5.heap.size w5 (oX.rd.more (by omega)) oZ.rd (by omega)).mono ?_
  rintro e w5' ⟨rfl, d2, rfl⟩
  go_wp2_with fail
  refine (mark_any X n n _ _ xs 1 (w5.drewN d2) (oX.drewN d2) (by omega) (by omega) (by omega)).mono ?_
  rintro e w7 ⟨rfl, oX7, g7⟩
  have rX := row_of oX7
  have k57 : Below w2.heap.size (w5.drewN d2) w7 := (Below.refl _ _).grown g7 (show w2.heap.size ≤ w5.heap.size by omega) (fun g hg => (rX g hg).1)
  have b07 : Below w.heap.size w w7 := (below_drewN b05 d2).trans (k57.mono (by omega))
  have X7 : BoxH w7 w.heap.size ⟨s, f, r, t, m⟩ := BoxH.below (w := w5.drewN d2) X5 k57 (by omega)
  have s7 : w5.heap.size ≤ w7.heap.size := g7.size
  have oS := (oS.drewN d2).grown g7 (fun g hg => by have := rX g hg; omega)
  have oG := (oG.drewN d2).grown g7 (fun g hg => by have := rX g hg; omega)
  have hk : decide ((1 : Int) + (n : Int) < 0) = false := by simp; omega
  go_wp2_with fail
  refine (eq_any G S ng cg ns cs ys ys w4.heap.size w7 oG.rd (oS.rd.more (by omega)) (by have := lG.out; omega)).mono ?_
  rintro e w7' ⟨rfl, d3, rfl⟩
  go_wp2_with fail
  refine (mark_any G ng cg _ _ ys 1 (w7.drewN d3) (oG.drewN d3) (by have := lG.out; omega) (by omega) (by omega)).mono ?_
  rintro e w9 ⟨rfl, oG9, g9⟩
  have rG := row_of oG9
  have k79 : Below w3.heap.size (w7.drewN d3) w9 := (Below.refl _ _).grown g9 (show w3.heap.size ≤ w7.heap.size by omega) (fun g hg => (rG g hg).1)
  have b09 : Below w.heap.size w w9 := (below_drewN b07 d3).trans (k79.mono (by omega))
  have X9 : BoxH w9 w.heap.size ⟨s, f, r, t, m⟩ := BoxH.below (w := w7.drewN d3) X7 k79 (by omega)
  have s9 : w7.heap.size ≤ w9.heap.size := g9.size
  have oS := (oS.drewN d3).grown g9 (fun g hg => by have := rG g hg; omega)
  go_wp2_with fail
  refine (held_any G ng cg w4.heap.size 1 w9 oG9.rd (by have := lG.out; omega) (by omega) (by omega)).mono ?_
  rintro e w9' ⟨rfl, rfl⟩
  have hq : decide ((1 : Int) + (ng : Int) < 0) = false := by simp; omega
  have hq2 : ((1 : Int) + (ng : Int) != 1 + (ng : Int)) = false := by simp
  go_wp2_with fail
  have hr9 := (hr.below b09).more b09.size
  have hz9 : w.heap.size < w9.heap.size := by omega
  have c0 : w9.cell? ⟨w.heap.size, 0, none⟩ = some (.int .i64 s) := X9 0
  have c1 : w9.cell? ⟨w.heap.size, 1, none⟩ = some (.int .i64 f) := X9 1
  have c2 : w9.cell? ⟨w.heap.size, 2, none⟩ = some (.int .i64 r) := X9 2
  have c3 : w9.cell? ⟨w.heap.size, 3, none⟩ = some (.int .i64 t) := X9 3
  have c4 : w9.cell? ⟨w.heap.size, 4, none⟩ = some (.int .i64 m) := X9 4
  go_region_held3 (fun w' => w'.cell? ⟨w.heap.size, 0, none⟩ = some (.int .i64 s) ∧ w'.cell? ⟨w.heap.size, 1, none⟩ = some (.int .i64 f) ∧ w'.cell? ⟨w.heap.size, 2, none⟩ = some (.int .i64 r) ∧ w'.cell? ⟨w.heap.size, 3, none⟩ = some (.int .i64 t) ∧ w'.cell? ⟨w.heap.size, 4, none⟩ = some (.int .i64 m))
    (first
      | go_keep
      | (go_split_ands
         refine ⟨?_, ?_, ?_, ?_, ?_⟩
         all_goals (refine (b12.cell hz11).trans ?_; assumption))
      | (go_split_ands
         refine ⟨?_, ?_, ?_, ?_, ?_⟩
         all_goals (refine (b11.cell hz10).trans ?_; assumption))
      | (go_split_ands
         refine ⟨?_, ?_, ?_, ?_, ?_⟩
         all_goals (refine (b10.cell hz9).trans ?_; assumption)))
    (first
      | (go_at_call 16; refine (to_any A n c xs w9.drew (show Rd w9.drew w9.heap.size A n xs from hr9) (by omega)).mono ?_; rintro e w10 ⟨E, rfl, oE, b10⟩; have hz10 : w.heap.size < w10.heap.size := Nat.lt_of_lt_of_le hz9 b10.size)
      | (go_at_call 8; refine (toHead_any ⟨s, f, r, t, m⟩ w10).mono ?_; rintro e w11 ⟨rfl, b11⟩; have hz11 : w.heap.size < w11.heap.size := Nat.lt_of_lt_of_le hz10 b11.size)
      | (go_at_call 20; refine (implWithHead_any E n n xs ⟨s, f, r, t, m⟩ w11 ((oE.below b11 (Nat.le_refl _)).rd.more b11.size) (by omega)).mono ?_; rintro e w12 ⟨K, nk, ck, rfl, oK, b12⟩))
  clear c0 c1 c2 c3 c4
  have b010 := below_more b09.drew b10 b09.size
  have b011 := below_more b010 b11 b010.size
  have s10 : w9.heap.size ≤ w10.heap.size := b10.size
  have s11 := b11.size
  have oS := ((oS.drewN 1).below b10 (show _ ≤ w9.heap.size by omega)).below b11 (by omega)
  have oG := ((oG9.drewN 1).below b10 (show _ ≤ w9.heap.size by omega)).below b11 (by omega)
  rw [← HY.out] at oK
  have lK := Lib.hid oK.len
  have b012 := below_more b011 b12 b011.size
  have s12 := b12.size
  have oS := oS.below b12 (by omega)
  have oG := oG.below b12 (by omega)
  go_wp2_with fail
  refine (eq_any K S nk ck ns cs ys ys w12.heap.size w12 oK.rd (oS.rd.more (by omega)) (by have := lK.out; omega)).mono ?_
  rintro e w12' ⟨rfl, d5, rfl⟩
  go_wp2_with fail
  refine (held_any G ng cg w4.heap.size 1 (w12.drewN d5) (oG.drewN d5).rd (by have := lG.out; omega) (by omega) (by omega)).mono ?_
  rintro e w12' ⟨rfl, rfl⟩
  go_wp2_with fail
  go_ret
  exact ⟨rfl, below_drewN b012 d5⟩
end Go.Proofs.Ytjpphnikelopcaa
