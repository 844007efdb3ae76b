/- The law FnHeads, walked. -/
import Derived.Test.YtmadhfloblapeaaDi
import Derived.Test.YtmadhfloblapeaaLawWords
namespace Go.Proofs.Ytmadhfloblapeaa
open Go.RowKit

theorem hdW_eight {h : Hd} (hb : headB h = true) : eightB (hdW h) = true := by
  obtain ⟨h1, h2, h3, h4, h5⟩ := headB_all hb
  simp only [eightB, hdW, List.length_cons, List.length_nil, List.all_cons, List.all_nil, wordsB, wordB, inB, Bool.and_eq_true, decide_eq_true_eq]
  simp
  omega
theorem withHead_empty {bs : List Int} {h : Hd} (h0 : (withHead bs h).length = 0) : headB h = false ∨ imgB bs = false := by
  cases hb : headB h
  · exact .inl rfl
  · cases hi : imgB bs
    · exact .inr rfl
    · exfalso
      have h8 := hdW_eight hb
      have hM := manyN_le hi
      rw [withHead_yes hb, withL, if_pos (by simp [withB, hi, h8, inB])] at h0
      have := setCl_long (whole bs) (manyN bs) 0 (hdW h) (whole_length bs) (eightB_len h8) (by omega)
      have e : (0 : Int).toNat = 0 := rfl
      rw [e, this] at h0
      split at h0 <;> omega
theorem withHead_facts {bs : List Int} {h : Hd} (h0 : (withHead bs h).length ≠ 0) : headIn (withHead bs h) = (h, true) ∧ clusterL (withHead bs h) 0 = hdWords h := by
  have F := (with_facts (xs := bs) (at_ := 0) (ws := hdWords h) h0).same
  change clusterL (withHead bs h) 0 = hdWords h at F
  refine ⟨?_, F⟩
  have hb : headB h = true := by
    cases hb : headB h
    · rw [withHead_bad hb] at h0; exact absurd rfl h0
    · rfl
  rw [hdWords_yes hb] at F
  generalize withHead bs h = ys at *
  by_cases hok : imgB ys = true ∧ ys.length ≠ 0
  · rw [clusterL_zero hok.1 hok.2] at F
    have e : ∀ j, j < 8 → ys.getD j 0 = (hdW h).getD j 0 := fun j hj => by rw [← cl0_get ys j hj, F]
    have e0 := e 0 (by omega)
    have e1 := e 1 (by omega)
    have e2 := e 2 (by omega)
    have e3 := e 3 (by omega)
    have e4 := e 4 (by omega)
    have e5 := e 5 (by omega)
    have e6 := e 6 (by omega)
    have e7 := e 7 (by omega)
    have hof : headOf ys = h := by unfold headOf; rw [e2, e3, e4, e5, e6]; rfl
    refine (headIn_yes ?_).trans (by rw [hof])
    unfold hasHead
    rw [e0, e1, e7, hof, hok.1, hb]
    simp only [hok.2, ne_eq, not_false_eq_true, decide_true]
    rfl
  · rw [clusterL_none hok] at F
    simp [hdW] at F

theorem box_keep {w w' : World} {B g : Nat} {a0 a1 a2 a3 a4 : Value} (hb : Below B w w') (hg : g < B) (h0 : w.cell? ⟨g, 0, none⟩ = some a0) (h1 : w.cell? ⟨g, 1, none⟩ = some a1) (h2 : w.cell? ⟨g, 2, none⟩ = some a2) (h3 : w.cell? ⟨g, 3, none⟩ = some a3) (h4 : w.cell? ⟨g, 4, none⟩ = some a4) :
    w'.cell? ⟨g, 0, none⟩ = some a0 ∧ w'.cell? ⟨g, 1, none⟩ = some a1 ∧ w'.cell? ⟨g, 2, none⟩ = some a2 ∧ w'.cell? ⟨g, 3, none⟩ = some a3 ∧ w'.cell? ⟨g, 4, none⟩ = some a4 :=
  ⟨(hb.cell (p := ⟨g, 0, none⟩) hg).trans h0, (hb.cell (p := ⟨g, 1, none⟩) hg).trans h1, (hb.cell (p := ⟨g, 2, none⟩) hg).trans h2, (hb.cell (p := ⟨g, 3, none⟩) hg).trans h3, (hb.cell (p := ⟨g, 4, none⟩) hg).trans h4⟩

set_option maxRecDepth 100000 in
set_option maxHeartbeats 16000000 in
theorem law_Heads (A : Option Addr) (n c : Nat) (xs : List Int) (w : World) (hr : Rd8 w w.heap.size A n xs) :
    Calls Try.prog 3 #[.slice A n c] w fun e w' => e = .returned (.bool true) ∧ Below w.heap.size w w' := by
  by_cases hbig : 4096 < n
  · have hb : decide ((4096 : Int) < (n : Int)) = true := by simp; omega
    go_enter Try.func3, Try.ntmps3
    go_wp2_with fail
    refine (big_words _ _ _ _).mono ?_
    rintro e w' ⟨rfl, rfl⟩
    rw [hb]
    go_wp2_with fail
    go_ret
    exact ⟨rfl, Below.refl _ _⟩
  · have hb : decide ((4096 : Int) < (n : Int)) = false := by simp; omega
    go_enter Try.func3, Try.ntmps3
    go_wp2_with fail
    refine (big_words _ _ _ _).mono ?_
    rintro e w' ⟨rfl, rfl⟩
    rw [hb]
    clear hb
    go_wp2_with fail
    refine (drawWithHead_any A n c xs w hr (by omega)).mono ?_
    rintro e w1 ⟨B, nb, cb, bs, ⟨a0, a1, a2, a3, a4⟩, hnb, rfl, rB, b1⟩
    have ba := (Below.refl w1.heap.size w1).alloc (Nat.le_refl _) (.cells #[.int .i64 a0, .int .i64 a1, .int .i64 a2, .int .i64 a3, .int .i64 a4] 26)
    replace rB := (rB.below ba).more ba.size
    replace b1 := below_more b1 ba b1.size
    have X4 := HdAt.new w1 ⟨a0, a1, a2, a3, a4⟩ 26
    have l4 : w1.heap.size < (w1.alloc (.cells #[.int .i64 a0, .int .i64 a1, .int .i64 a2, .int .i64 a3, .int .i64 a4] 26)).heap.size := by simp
    clear ba
    unfold hdV
    dsimp only
    go_wp2_with fail
    change HdAt (w1.alloc (.cells #[.int .i64 a0, .int .i64 a1, .int .i64 a2, .int .i64 a3, .int .i64 a4] 26)) _ _ at X4
    generalize (w1.alloc (.cells #[.int .i64 a0, .int .i64 a1, .int .i64 a2, .int .i64 a3, .int .i64 a4] 26)) = v1 at *
    generalize w1.heap.size = g4 at *
    refine (implWithHead_any B nb cb bs ⟨a0, a1, a2, a3, a4⟩ v1 rB (by omega)).mono ?_
    rintro e w2 ⟨X, nx, cx, rfl, oX, b2⟩
    have lX := oX.len
    have rX := oX.rd
    have B2 := below_more b1 b2 b1.size
    replace rB := (rB.below b2).more b2.size
    replace X4 := X4.below b2 l4
    replace l4 := Nat.lt_of_lt_of_le l4 b2.size
    have HF := Lib.hid (fun h => withHead_facts (bs := bs) (h := ⟨a0, a1, a2, a3, a4⟩) h)
    have HE := Lib.hid (fun h => withHead_empty (bs := bs) (h := ⟨a0, a1, a2, a3, a4⟩) h)
    have hXl : (withHead bs ⟨a0, a1, a2, a3, a4⟩).length ≤ 600 := withL_short _ _ _
    obtain ⟨ys, hys⟩ : ∃ ys, ys = withHead bs ⟨a0, a1, a2, a3, a4⟩ := ⟨_, rfl⟩
    rw [← hys] at lX rX hXl HF HE
    have HY := Lib.hid hys
    clear hys oX b1 b2
    go_wp2_with fail
    refine (drawHeadIn_any A n c xs _ ((hr.below B2).more B2.size) (by omega)).mono ?_
    rintro e w3 ⟨C, nc, cc, cs, hnc, rfl, rC, b3⟩
    have B3 := below_more B2 b3 B2.size
    replace rB := (rB.below b3).more b3.size
    replace rX := (rX.below b3).more b3.size
    replace X4 := X4.below b3 l4
    replace l4 := Nat.lt_of_lt_of_le l4 b3.size
    clear b3 B2
    obtain ⟨kk, hkk⟩ : ∃ kk, kk = headIn cs := ⟨_, rfl⟩
    obtain ⟨⟨k0, k1, k2, k3, k4⟩, kv⟩ := kk
    have HK := Lib.hid hkk
    clear hkk
    have hkv : (kv != kv) = false := by simp
    go_wp2_with fail
    refine (implHeadIn_any C nc cc cs w3 rC (by omega)).mono ?_
    rintro e w4 ⟨rfl, b4⟩
    rw [← HK.out]
    have B4 := below_more B3 b4 B3.size
    replace rB := (rB.below b4).more b4.size
    replace rX := (rX.below b4).more b4.size
    replace rC := (rC.below b4).more b4.size
    replace X4 := X4.below b4 l4
    replace l4 := Nat.lt_of_lt_of_le l4 b4.size
    clear b4 B3
    have ba := (Below.refl w4.heap.size w4).alloc (Nat.le_refl _) (.cells #[.int .i64 k0, .int .i64 k1, .int .i64 k2, .int .i64 k3, .int .i64 k4] 26)
    replace rB := (rB.below ba).more ba.size
    replace rX := (rX.below ba).more ba.size
    replace rC := (rC.below ba).more ba.size
    replace X4 := X4.below ba l4
    replace l4 := Nat.lt_of_lt_of_le l4 ba.size
    replace B4 := below_more B4 ba B4.size
    have X7 := HdAt.new w4 ⟨k0, k1, k2, k3, k4⟩ 26
    have l7 : w4.heap.size < (w4.alloc (.cells #[.int .i64 k0, .int .i64 k1, .int .i64 k2, .int .i64 k3, .int .i64 k4] 26)).heap.size := by simp
    clear ba
    unfold hdV
    dsimp only
    go_wp2_with fail
    change HdAt (w4.alloc (.cells #[.int .i64 k0, .int .i64 k1, .int .i64 k2, .int .i64 k3, .int .i64 k4] 26)) _ _ at X7
    generalize (w4.alloc (.cells #[.int .i64 k0, .int .i64 k1, .int .i64 k2, .int .i64 k3, .int .i64 k4] 26)) = v4 at *
    generalize w4.heap.size = g7 at *
    refine (specHeadIn_any C nc cc cs v4 rC (by omega)).mono ?_
    rintro e w5 ⟨rfl, b5⟩
    rw [← HK.out]
    have B5 := below_more B4 b5 B4.size
    replace rB := (rB.below b5).more b5.size
    replace rX := (rX.below b5).more b5.size
    replace X4 := X4.below b5 l4
    replace l4 := Nat.lt_of_lt_of_le l4 b5.size
    replace X7 := X7.below b5 l7
    replace l7 := Nat.lt_of_lt_of_le l7 b5.size
    clear b5 B4 rC HK
    have ba := (Below.refl w5.heap.size w5).alloc (Nat.le_refl _) (.cells #[.int .i64 k0, .int .i64 k1, .int .i64 k2, .int .i64 k3, .int .i64 k4] 26)
    replace rB := (rB.below ba).more ba.size
    replace rX := (rX.below ba).more ba.size
    replace X4 := X4.below ba l4
    replace l4 := Nat.lt_of_lt_of_le l4 ba.size
    replace X7 := X7.below ba l7
    replace l7 := Nat.lt_of_lt_of_le l7 ba.size
    replace B5 := below_more B5 ba B5.size
    have X9 := HdAt.new w5 ⟨k0, k1, k2, k3, k4⟩ 26
    have l9 : w5.heap.size < (w5.alloc (.cells #[.int .i64 k0, .int .i64 k1, .int .i64 k2, .int .i64 k3, .int .i64 k4] 26)).heap.size := by simp
    clear ba
    unfold hdV
    dsimp only
    go_wp2_with fail
    change HdAt (w5.alloc (.cells #[.int .i64 k0, .int .i64 k1, .int .i64 k2, .int .i64 k3, .int .i64 k4] 26)) _ _ at X9
    generalize (w5.alloc (.cells #[.int .i64 k0, .int .i64 k1, .int .i64 k2, .int .i64 k3, .int .i64 k4] 26)) = v5 at *
    generalize w5.heap.size = g9 at *
    refine (drawHeadWords_any A n c xs v5 ((hr.below B5).more B5.size) (by omega)).mono ?_
    rintro e w6 ⟨⟨p0, p1, p2, p3, p4⟩, rfl, b6⟩
    have B6 := below_more B5 b6 B5.size
    replace rB := (rB.below b6).more b6.size
    replace rX := (rX.below b6).more b6.size
    replace X4 := X4.below b6 l4
    replace l4 := Nat.lt_of_lt_of_le l4 b6.size
    replace X7 := X7.below b6 l7
    replace l7 := Nat.lt_of_lt_of_le l7 b6.size
    replace X9 := X9.below b6 l9
    replace l9 := Nat.lt_of_lt_of_le l9 b6.size
    clear b6 B5
    have ba := (Below.refl w6.heap.size w6).alloc (Nat.le_refl _) (.cells #[.int .i64 p0, .int .i64 p1, .int .i64 p2, .int .i64 p3, .int .i64 p4] 26)
    replace rB := (rB.below ba).more ba.size
    replace rX := (rX.below ba).more ba.size
    replace X4 := X4.below ba l4
    replace l4 := Nat.lt_of_lt_of_le l4 ba.size
    replace X7 := X7.below ba l7
    replace l7 := Nat.lt_of_lt_of_le l7 ba.size
    replace X9 := X9.below ba l9
    replace l9 := Nat.lt_of_lt_of_le l9 ba.size
    replace B6 := below_more B6 ba B6.size
    have X11 := HdAt.new w6 ⟨p0, p1, p2, p3, p4⟩ 26
    have l11 : w6.heap.size < (w6.alloc (.cells #[.int .i64 p0, .int .i64 p1, .int .i64 p2, .int .i64 p3, .int .i64 p4] 26)).heap.size := by simp
    clear ba
    unfold hdV
    dsimp only
    go_wp2_with fail
    change HdAt (w6.alloc (.cells #[.int .i64 p0, .int .i64 p1, .int .i64 p2, .int .i64 p3, .int .i64 p4] 26)) _ _ at X11
    generalize (w6.alloc (.cells #[.int .i64 p0, .int .i64 p1, .int .i64 p2, .int .i64 p3, .int .i64 p4] 26)) = v6 at *
    generalize w6.heap.size = g11 at *
    refine (drawHeadOk_any A n c xs v6 ((hr.below B6).more B6.size) (by omega)).mono ?_
    rintro e w7 ⟨⟨q0, q1, q2, q3, q4⟩, rfl, b7⟩
    have B7 := below_more B6 b7 B6.size
    replace rB := (rB.below b7).more b7.size
    replace rX := (rX.below b7).more b7.size
    replace X4 := X4.below b7 l4
    replace l4 := Nat.lt_of_lt_of_le l4 b7.size
    replace X7 := X7.below b7 l7
    replace l7 := Nat.lt_of_lt_of_le l7 b7.size
    replace X9 := X9.below b7 l9
    replace l9 := Nat.lt_of_lt_of_le l9 b7.size
    replace X11 := X11.below b7 l11
    replace l11 := Nat.lt_of_lt_of_le l11 b7.size
    clear b7 B6
    have ba := (Below.refl w7.heap.size w7).alloc (Nat.le_refl _) (.cells #[.int .i64 q0, .int .i64 q1, .int .i64 q2, .int .i64 q3, .int .i64 q4] 26)
    replace rB := (rB.below ba).more ba.size
    replace rX := (rX.below ba).more ba.size
    replace X4 := X4.below ba l4
    replace l4 := Nat.lt_of_lt_of_le l4 ba.size
    replace X7 := X7.below ba l7
    replace l7 := Nat.lt_of_lt_of_le l7 ba.size
    replace X9 := X9.below ba l9
    replace l9 := Nat.lt_of_lt_of_le l9 ba.size
    replace X11 := X11.below ba l11
    replace l11 := Nat.lt_of_lt_of_le l11 ba.size
    replace B7 := below_more B7 ba B7.size
    have X12 := HdAt.new w7 ⟨q0, q1, q2, q3, q4⟩ 26
    have l12 : w7.heap.size < (w7.alloc (.cells #[.int .i64 q0, .int .i64 q1, .int .i64 q2, .int .i64 q3, .int .i64 q4] 26)).heap.size := by simp
    clear ba
    unfold hdV
    dsimp only
    go_wp2_with fail
    change HdAt (w7.alloc (.cells #[.int .i64 q0, .int .i64 q1, .int .i64 q2, .int .i64 q3, .int .i64 q4] 26)) _ _ at X12
    generalize (w7.alloc (.cells #[.int .i64 q0, .int .i64 q1, .int .i64 q2, .int .i64 q3, .int .i64 q4] 26)) = v7 at *
    generalize w7.heap.size = g12 at *
    have c40 : v7.cell? ⟨g4, 0, none⟩ = some (.int .i64 a0) := X4.cell 0
    have c41 : v7.cell? ⟨g4, 1, none⟩ = some (.int .i64 a1) := X4.cell 1
    have c42 : v7.cell? ⟨g4, 2, none⟩ = some (.int .i64 a2) := X4.cell 2
    have c43 : v7.cell? ⟨g4, 3, none⟩ = some (.int .i64 a3) := X4.cell 3
    have c44 : v7.cell? ⟨g4, 4, none⟩ = some (.int .i64 a4) := X4.cell 4
    have c70 : v7.cell? ⟨g7, 0, none⟩ = some (.int .i64 k0) := X7.cell 0
    have c71 : v7.cell? ⟨g7, 1, none⟩ = some (.int .i64 k1) := X7.cell 1
    have c72 : v7.cell? ⟨g7, 2, none⟩ = some (.int .i64 k2) := X7.cell 2
    have c73 : v7.cell? ⟨g7, 3, none⟩ = some (.int .i64 k3) := X7.cell 3
    have c74 : v7.cell? ⟨g7, 4, none⟩ = some (.int .i64 k4) := X7.cell 4
    have c90 : v7.cell? ⟨g9, 0, none⟩ = some (.int .i64 k0) := X9.cell 0
    have c91 : v7.cell? ⟨g9, 1, none⟩ = some (.int .i64 k1) := X9.cell 1
    have c92 : v7.cell? ⟨g9, 2, none⟩ = some (.int .i64 k2) := X9.cell 2
    have c93 : v7.cell? ⟨g9, 3, none⟩ = some (.int .i64 k3) := X9.cell 3
    have c94 : v7.cell? ⟨g9, 4, none⟩ = some (.int .i64 k4) := X9.cell 4
    have c110 : v7.cell? ⟨g11, 0, none⟩ = some (.int .i64 p0) := X11.cell 0
    have c111 : v7.cell? ⟨g11, 1, none⟩ = some (.int .i64 p1) := X11.cell 1
    have c112 : v7.cell? ⟨g11, 2, none⟩ = some (.int .i64 p2) := X11.cell 2
    have c113 : v7.cell? ⟨g11, 3, none⟩ = some (.int .i64 p3) := X11.cell 3
    have c114 : v7.cell? ⟨g11, 4, none⟩ = some (.int .i64 p4) := X11.cell 4
    have c120 : v7.cell? ⟨g12, 0, none⟩ = some (.int .i64 q0) := X12.cell 0
    have c121 : v7.cell? ⟨g12, 1, none⟩ = some (.int .i64 q1) := X12.cell 1
    have c122 : v7.cell? ⟨g12, 2, none⟩ = some (.int .i64 q2) := X12.cell 2
    have c123 : v7.cell? ⟨g12, 3, none⟩ = some (.int .i64 q3) := X12.cell 3
    have c124 : v7.cell? ⟨g12, 4, none⟩ = some (.int .i64 q4) := X12.cell 4
    have hyy : (ys == ys) = true := by simp
    have hpp : (hdWords ⟨p0, p1, p2, p3, p4⟩ == hdWords ⟨p0, p1, p2, p3, p4⟩) = true := by simp
    have hqq : (headB ⟨q0, q1, q2, q3, q4⟩ != headB ⟨q0, q1, q2, q3, q4⟩) = false := by simp
    have hpl := hdWords_len ⟨p0, p1, p2, p3, p4⟩
    have rB0 : Rd v7.drew v7.heap.size B nb bs := rB
    have rX0 : Rd v7.drew v7.heap.size X nx ys := rX
    have hnx : nx ≤ 600 := by omega
    go_region_held3 (fun w' => (w'.cell? ⟨g4, 0, none⟩ = some (.int .i64 a0) ∧ w'.cell? ⟨g4, 1, none⟩ = some (.int .i64 a1) ∧ w'.cell? ⟨g4, 2, none⟩ = some (.int .i64 a2) ∧ w'.cell? ⟨g4, 3, none⟩ = some (.int .i64 a3) ∧ w'.cell? ⟨g4, 4, none⟩ = some (.int .i64 a4)) ∧ (w'.cell? ⟨g7, 0, none⟩ = some (.int .i64 k0) ∧ w'.cell? ⟨g7, 1, none⟩ = some (.int .i64 k1) ∧ w'.cell? ⟨g7, 2, none⟩ = some (.int .i64 k2) ∧ w'.cell? ⟨g7, 3, none⟩ = some (.int .i64 k3) ∧ w'.cell? ⟨g7, 4, none⟩ = some (.int .i64 k4)) ∧ (w'.cell? ⟨g9, 0, none⟩ = some (.int .i64 k0) ∧ w'.cell? ⟨g9, 1, none⟩ = some (.int .i64 k1) ∧ w'.cell? ⟨g9, 2, none⟩ = some (.int .i64 k2) ∧ w'.cell? ⟨g9, 3, none⟩ = some (.int .i64 k3) ∧ w'.cell? ⟨g9, 4, none⟩ = some (.int .i64 k4)) ∧ (w'.cell? ⟨g11, 0, none⟩ = some (.int .i64 p0) ∧ w'.cell? ⟨g11, 1, none⟩ = some (.int .i64 p1) ∧ w'.cell? ⟨g11, 2, none⟩ = some (.int .i64 p2) ∧ w'.cell? ⟨g11, 3, none⟩ = some (.int .i64 p3) ∧ w'.cell? ⟨g11, 4, none⟩ = some (.int .i64 p4)) ∧ (w'.cell? ⟨g12, 0, none⟩ = some (.int .i64 q0) ∧ w'.cell? ⟨g12, 1, none⟩ = some (.int .i64 q1) ∧ w'.cell? ⟨g12, 2, none⟩ = some (.int .i64 q2) ∧ w'.cell? ⟨g12, 3, none⟩ = some (.int .i64 q3) ∧ w'.cell? ⟨g12, 4, none⟩ = some (.int .i64 q4)))
      (first
        | (go_split_ands; exact ⟨box_keep bE (Nat.lt_of_lt_of_le l4 hzD) (by assumption) (by assumption) (by assumption) (by assumption) (by assumption), box_keep bE (Nat.lt_of_lt_of_le l7 hzD) (by assumption) (by assumption) (by assumption) (by assumption) (by assumption), box_keep bE (Nat.lt_of_lt_of_le l9 hzD) (by assumption) (by assumption) (by assumption) (by assumption) (by assumption), box_keep bE (Nat.lt_of_lt_of_le l11 hzD) (by assumption) (by assumption) (by assumption) (by assumption) (by assumption), box_keep bE (Nat.lt_of_lt_of_le l12 hzD) (by assumption) (by assumption) (by assumption) (by assumption) (by assumption)⟩)
        | (go_split_ands; exact ⟨box_keep bD (Nat.lt_of_lt_of_le l4 hzC) (by assumption) (by assumption) (by assumption) (by assumption) (by assumption), box_keep bD (Nat.lt_of_lt_of_le l7 hzC) (by assumption) (by assumption) (by assumption) (by assumption) (by assumption), box_keep bD (Nat.lt_of_lt_of_le l9 hzC) (by assumption) (by assumption) (by assumption) (by assumption) (by assumption), box_keep bD (Nat.lt_of_lt_of_le l11 hzC) (by assumption) (by assumption) (by assumption) (by assumption) (by assumption), box_keep bD (Nat.lt_of_lt_of_le l12 hzC) (by assumption) (by assumption) (by assumption) (by assumption) (by assumption)⟩)
        | (go_split_ands; exact ⟨box_keep bC (Nat.lt_of_lt_of_le l4 hzB) (by assumption) (by assumption) (by assumption) (by assumption) (by assumption), box_keep bC (Nat.lt_of_lt_of_le l7 hzB) (by assumption) (by assumption) (by assumption) (by assumption) (by assumption), box_keep bC (Nat.lt_of_lt_of_le l9 hzB) (by assumption) (by assumption) (by assumption) (by assumption) (by assumption), box_keep bC (Nat.lt_of_lt_of_le l11 hzB) (by assumption) (by assumption) (by assumption) (by assumption) (by assumption), box_keep bC (Nat.lt_of_lt_of_le l12 hzB) (by assumption) (by assumption) (by assumption) (by assumption) (by assumption)⟩)
        | (go_split_ands; exact ⟨box_keep bB (Nat.lt_of_lt_of_le l4 hzA) (by assumption) (by assumption) (by assumption) (by assumption) (by assumption), box_keep bB (Nat.lt_of_lt_of_le l7 hzA) (by assumption) (by assumption) (by assumption) (by assumption) (by assumption), box_keep bB (Nat.lt_of_lt_of_le l9 hzA) (by assumption) (by assumption) (by assumption) (by assumption) (by assumption), box_keep bB (Nat.lt_of_lt_of_le l11 hzA) (by assumption) (by assumption) (by assumption) (by assumption) (by assumption), box_keep bB (Nat.lt_of_lt_of_le l12 hzA) (by assumption) (by assumption) (by assumption) (by assumption) (by assumption)⟩)
        | (go_split_ands; exact ⟨box_keep bA l4 (by assumption) (by assumption) (by assumption) (by assumption) (by assumption), box_keep bA l7 (by assumption) (by assumption) (by assumption) (by assumption) (by assumption), box_keep bA l9 (by assumption) (by assumption) (by assumption) (by assumption) (by assumption), box_keep bA l11 (by assumption) (by assumption) (by assumption) (by assumption) (by assumption), box_keep bA l12 (by assumption) (by assumption) (by assumption) (by assumption) (by assumption)⟩)
        | (go_split_ands; exact ⟨⟨by assumption, by assumption, by assumption, by assumption, by assumption⟩, ⟨by assumption, by assumption, by assumption, by assumption, by assumption⟩, ⟨by assumption, by assumption, by assumption, by assumption, by assumption⟩, ⟨by assumption, by assumption, by assumption, by assumption, by assumption⟩, ⟨by assumption, by assumption, by assumption, by assumption, by assumption⟩⟩)
        | go_keep)
      (first
        | (go_at_call 13; refine (specWithHead_any B nb cb bs ⟨a0, a1, a2, a3, a4⟩ v7.drew rB0 (by omega)).mono ?_; rintro e wA ⟨S, ns, cS, rfl, oS, bA⟩; have hzA : v7.heap.size ≤ wA.heap.size := bA.size)
        | (go_at_call 12; refine (like_any P Q np cp nq cq (hdWords ⟨p0, p1, p2, p3, p4⟩) (hdWords ⟨p0, p1, p2, p3, p4⟩) wC.heap.size wC ((oP.rd.below bC).more bC.size) oQ.rd (by have := oP.len; omega)).mono ?_; rintro e w' ⟨rfl, d2, rfl⟩; rw [hpp])
        | (go_at_call 12; refine (like_any X S nx cx ns cS ys ys wA.heap.size wA ((rX0.below bA).more bA.size) (HY.out ▸ oS.rd) (by omega)).mono ?_; rintro e w' ⟨rfl, d1, rfl⟩; rw [hyy])
        | (go_at_call 14; refine (implHeadWords_any ⟨p0, p1, p2, p3, p4⟩ (wA.drewN d1)).mono ?_; rintro e wB ⟨P, np, cp, rfl, oP, bB⟩; have hzB : v7.heap.size ≤ wB.heap.size := Nat.le_trans hzA bB.size)
        | (go_at_call 15; refine (specHeadWords_any ⟨p0, p1, p2, p3, p4⟩ wB).mono ?_; rintro e wC ⟨Q, nq, cq, rfl, oQ, bC⟩; have hzC : v7.heap.size ≤ wC.heap.size := Nat.le_trans hzB bC.size)
        | (go_at_call 16; refine (implHeadOk_any ⟨q0, q1, q2, q3, q4⟩ (wC.drewN d2)).mono ?_; rintro e wD ⟨rfl, bD⟩; have hzD : v7.heap.size ≤ wD.heap.size := Nat.le_trans hzC bD.size)
        | (go_at_call 17; refine (specHeadOk_any ⟨q0, q1, q2, q3, q4⟩ wD).mono ?_; rintro e wE ⟨rfl, bE⟩))
    have e1 : Below v7.heap.size v7 wA := below_more (Below.refl v7.heap.size v7).drew bA (Nat.le_refl _)
    have e2 := below_more (below_drewN e1 d1) bB e1.size
    have e3 := below_more e2 bC e2.size
    have e4 := below_more (below_drewN e3 d2) bD e3.size
    have e5 := below_more e4 bE e4.size
    clear rB0 rX0 e1 e2 e3 e4 bA bB bC bD bE oS oP oQ hzA hzB hzC hzD hpp hqq hpl hkv hyy
    clear X7 X9 X11 X12 l7 l9 l11 l12
    clear c40 c41 c42 c43 c44
    clear c70 c71 c72 c73 c74
    clear c90 c91 c92 c93 c94
    clear c110 c111 c112 c113 c114
    clear c120 c121 c122 c123 c124
    replace rB := (rB.below e5).more e5.size
    replace rX := (rX.below e5).more e5.size
    replace X4 := X4.below e5 l4
    replace l4 := Nat.lt_of_lt_of_le l4 e5.size
    replace B7 := below_more B7 e5 B7.size
    clear e5
    by_cases hx0 : nx = 0
    · have hx0' : ((nx : Int) == 0) = true := by simp [hx0]
      have hor := HE.out (by omega)
      clear HE HF HY
      have c40 : wE.cell? ⟨g4, 0, none⟩ = some (.int .i64 a0) := X4.cell 0
      have c41 : wE.cell? ⟨g4, 1, none⟩ = some (.int .i64 a1) := X4.cell 1
      have c42 : wE.cell? ⟨g4, 2, none⟩ = some (.int .i64 a2) := X4.cell 2
      have c43 : wE.cell? ⟨g4, 3, none⟩ = some (.int .i64 a3) := X4.cell 3
      have c44 : wE.cell? ⟨g4, 4, none⟩ = some (.int .i64 a4) := X4.cell 4
      go_wp2_with fail
      refine (specHeadOk_any ⟨a0, a1, a2, a3, a4⟩ wE).mono ?_
      rintro e wF ⟨rfl, bF⟩
      have BF := below_more B7 bF B7.size
      cases hb : headB ⟨a0, a1, a2, a3, a4⟩
      · go_wp2_with fail
        go_ret
        exact ⟨rfl, BF⟩
      · have hi : imgB bs = false := by
          rcases hor with h | h
          · rw [hb] at h; cases h
          · exact h
        go_wp2_with fail
        refine (specImg_any B nb cb bs _ wF ((rB.below bF).more bF.size) (by omega)).mono ?_
        rintro e w' ⟨rfl, rfl⟩
        rw [hi]
        go_wp2_with fail
        go_ret
        exact ⟨rfl, BF⟩
    · have hx0' : ((nx : Int) == 0) = false := by simp; omega
      obtain ⟨F1, F2⟩ := HF.out (by omega)
      have HF1 := Lib.hid F1
      have HF2 := Lib.hid F2
      clear HE HF HY F1 F2
      go_wp2_with fail
      refine (implHeadIn_any X nx cx ys wE rX (by omega)).mono ?_
      rintro e w8 ⟨rfl, b8⟩
      rw [HF1.out]
      have B8 := below_more B7 b8 B7.size
      replace rX := (rX.below b8).more b8.size
      replace X4 := X4.below b8 l4
      replace l4 := Nat.lt_of_lt_of_le l4 b8.size
      clear b8 B7 rB
      have ba := (Below.refl w8.heap.size w8).alloc (Nat.le_refl _) (.cells #[.int .i64 a0, .int .i64 a1, .int .i64 a2, .int .i64 a3, .int .i64 a4] 26)
      replace rX := (rX.below ba).more ba.size
      replace X4 := X4.below ba l4
      replace l4 := Nat.lt_of_lt_of_le l4 ba.size
      replace B8 := below_more B8 ba B8.size
      have X13 := HdAt.new w8 ⟨a0, a1, a2, a3, a4⟩ 26
      have l13 : w8.heap.size < (w8.alloc (.cells #[.int .i64 a0, .int .i64 a1, .int .i64 a2, .int .i64 a3, .int .i64 a4] 26)).heap.size := by simp
      clear ba
      unfold hdV
      dsimp only
      go_wp2_with fail
      change HdAt (w8.alloc (.cells #[.int .i64 a0, .int .i64 a1, .int .i64 a2, .int .i64 a3, .int .i64 a4] 26)) _ _ at X13
      generalize (w8.alloc (.cells #[.int .i64 a0, .int .i64 a1, .int .i64 a2, .int .i64 a3, .int .i64 a4] 26)) = v8 at *
      generalize w8.heap.size = g13 at *
      have c130 : v8.cell? ⟨g13, 0, none⟩ = some (.int .i64 a0) := X13.cell 0
      have c131 : v8.cell? ⟨g13, 1, none⟩ = some (.int .i64 a1) := X13.cell 1
      have c132 : v8.cell? ⟨g13, 2, none⟩ = some (.int .i64 a2) := X13.cell 2
      have c133 : v8.cell? ⟨g13, 3, none⟩ = some (.int .i64 a3) := X13.cell 3
      have c134 : v8.cell? ⟨g13, 4, none⟩ = some (.int .i64 a4) := X13.cell 4
      have c40 : v8.cell? ⟨g4, 0, none⟩ = some (.int .i64 a0) := X4.cell 0
      have c41 : v8.cell? ⟨g4, 1, none⟩ = some (.int .i64 a1) := X4.cell 1
      have c42 : v8.cell? ⟨g4, 2, none⟩ = some (.int .i64 a2) := X4.cell 2
      have c43 : v8.cell? ⟨g4, 3, none⟩ = some (.int .i64 a3) := X4.cell 3
      have c44 : v8.cell? ⟨g4, 4, none⟩ = some (.int .i64 a4) := X4.cell 4
      have haa : (hdWords ⟨a0, a1, a2, a3, a4⟩ == hdWords ⟨a0, a1, a2, a3, a4⟩) = true := by simp
      have hal := hdWords_len ⟨a0, a1, a2, a3, a4⟩
      have rX0 : Rd v8.drew v8.heap.size X nx ys := rX
      go_region_held3 (fun w' => (w'.cell? ⟨g13, 0, none⟩ = some (.int .i64 a0) ∧ w'.cell? ⟨g13, 1, none⟩ = some (.int .i64 a1) ∧ w'.cell? ⟨g13, 2, none⟩ = some (.int .i64 a2) ∧ w'.cell? ⟨g13, 3, none⟩ = some (.int .i64 a3) ∧ w'.cell? ⟨g13, 4, none⟩ = some (.int .i64 a4)) ∧ (w'.cell? ⟨g4, 0, none⟩ = some (.int .i64 a0) ∧ w'.cell? ⟨g4, 1, none⟩ = some (.int .i64 a1) ∧ w'.cell? ⟨g4, 2, none⟩ = some (.int .i64 a2) ∧ w'.cell? ⟨g4, 3, none⟩ = some (.int .i64 a3) ∧ w'.cell? ⟨g4, 4, none⟩ = some (.int .i64 a4)))
        (first
          | (go_split_ands; exact ⟨box_keep bB (Nat.lt_of_lt_of_le l13 hzA) (by assumption) (by assumption) (by assumption) (by assumption) (by assumption), box_keep bB (Nat.lt_of_lt_of_le l4 hzA) (by assumption) (by assumption) (by assumption) (by assumption) (by assumption)⟩)
          | (go_split_ands; exact ⟨box_keep bA l13 (by assumption) (by assumption) (by assumption) (by assumption) (by assumption), box_keep bA l4 (by assumption) (by assumption) (by assumption) (by assumption) (by assumption)⟩)
          | (go_split_ands; exact ⟨⟨by assumption, by assumption, by assumption, by assumption, by assumption⟩, ⟨by assumption, by assumption, by assumption, by assumption, by assumption⟩⟩)
          | go_keep)
        (first
          | (go_at_call 19; refine (implClat_any X nx cx ys 0 v8.drew rX0 (by omega)).mono ?_; rintro e wA ⟨P, np, cp, rfl, oP, bA⟩; have hzA : v8.heap.size ≤ wA.heap.size := bA.size)
          | (go_at_call 14; refine (implHeadWords_any ⟨a0, a1, a2, a3, a4⟩ wA).mono ?_; rintro e wB ⟨Q, nq, cq, rfl, oQ, bB⟩)
          | (go_at_call 12; refine (like_any P Q np cp nq cq (hdWords ⟨a0, a1, a2, a3, a4⟩) (hdWords ⟨a0, a1, a2, a3, a4⟩) wB.heap.size wB (((HF2.out ▸ oP.rd).below bB).more bB.size) oQ.rd (by have := oP.len; rw [HF2.out] at this; omega)).mono ?_; rintro e w' ⟨rfl, d2, rfl⟩; rw [haa]))
      have e1 : Below v8.heap.size v8 wA := below_more (Below.refl v8.heap.size v8).drew bA (Nat.le_refl _)
      have e2 := below_more e1 bB e1.size
      have B9 := below_drewN (below_more B8 e2 B8.size) d2
      go_wp2_with fail
      go_ret
      exact ⟨rfl, B9⟩
end Go.Proofs.Ytmadhfloblapeaa
