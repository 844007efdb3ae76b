/- FirstOf, and places (chapter 5), the model's side. -/
import Derived.Test.YtimbfilbojejiabGreatTb
namespace Go.Proofs.YtimbfilbojejiabGreat
open Go.RowKit

/-- It answers a number; nothing that was there has turned. -/
def RetI (w : World) (x : Int) (e : Ending) (w' : World) : Prop := e = .returned (.int .i64 x) ∧ Below w.heap.size w w'
theorem RetI.mk {w w' : World} {x y : Int} (h : y = x) (hb : Below w.heap.size w w') : RetI w x (.returned (.int .i64 y)) w' := by subst h; exact ⟨rfl, hb⟩

theorem firstOf_no {xs : List Int} {q : Int} (h : hasHead xs = false) : firstOf xs q = 0 := by simp [firstOf, h]
theorem firstOf_zero {xs : List Int} (h : hasHead xs = true) : firstOf xs 0 = (headOf xs).first := by simp [firstOf, h]
theorem firstOf_out {xs : List Int} {q : Int} (h : hasHead xs = true) (h0 : q ≠ 0) (hi : inB q 1 ((shotsL xs).length : Int) = false) : firstOf xs q = 0 := by simp [firstOf, h, h0, hi]
theorem firstOf_in {xs : List Int} {q : Int} (h : hasHead xs = true) (h0 : q ≠ 0) (hi : inB q 1 ((shotsL xs).length : Int) = true) : firstOf xs q = ((shotsL xs).getD (q - 1).toNat (0, 0)).2 := by simp [firstOf, h, h0, hi]
theorem shotsL_length (xs : List Int) : (shotsL xs).length ≤ 4 := by
  unfold shotsL
  split
  · rename_i ht
    simp only [List.length_map, List.length_range]
    cases hb : hasHead xs
    · rw [headIn_no hb]; simp [hd0]
    · rw [headIn_yes hb]
      have := headB_all (hasHead_ok hb)
      show (headOf xs).many.toNat ≤ 4
      omega
  · simp
theorem sh_cell {l : List (Int × Int)} {k j : Nat} (hk : k < l.length) (hj : j < 2) : (l.flatMap shV)[k * 2 + j]? = (shV (l.getD k (0, 0)))[j]? := by
  rw [flat_get shV 2 shV_length l k j hk hj, List.getD_eq_getElem?_getD, List.getElem?_eq_getElem hk]; rfl

set_option maxHeartbeats 1000000 in
theorem specFirstOf_any (A : Option Addr) (n c : Nat) (xs : List Int) (q : Int) (w : World) (h : Rd w w.heap.size A n xs) (hn : n ≤ 2097152) :
    Calls Tryz.prog 97 #[.slice A n c, .int .i64 q] w (RetI w (firstOf xs q)) := by
  go_enter Tryz.func97, Tryz.ntmps97
  go_wp2_with fail
  refine (specHeadIn_any _ _ _ xs _ h hn).mono ?_
  rintro e w1 ⟨rfl, b1⟩
  generalize hr : headIn xs = r
  obtain ⟨⟨s, f, r, u, m⟩, is⟩ := r
  have HR := Lib.hid hr
  clear hr
  unfold hdV
  have b2 := b1.alloc b1.size (.cells #[.int .i64 s, .int .i64 f, .int .i64 r, .int .i64 u, .int .i64 m] 32)
  cases is
  · have HN := Lib.hid (firstOf_no (q := q) (headIn_false HR.out).1)
    go_wp2_with fail
    go_ret
    exact RetI.mk HN.out.symm b2
  · have HY := Lib.hid (headIn_true HR.out)
    by_cases h0 : q = 0
    · subst h0
      have HF := Lib.hid (show firstOf xs 0 = f by rw [firstOf_zero HY.out.1, HY.out.2])
      go_wp2_with fail
      go_ret
      exact RetI.mk HF.out.symm b2
    · have hd : (q == 0) = false := by simpa using h0
      go_wp2_with fail
      refine (specShots_any A n c xs _ ((h.below b2).more b2.size) hn).mono ?_
      rintro e w3 ⟨g, cg, rfl, oG, b3⟩
      have b03 := below_more b2 b3 b2.size
      have hl4 := shotsL_length xs
      cases hi : inB q 1 ((shotsL xs).length : Int)
      · have HF := Lib.hid (firstOf_out HY.out.1 h0 hi)
        go_wp2_with fail
        refine (in_any _ _ _ _).mono ?_
        rintro e w' ⟨rfl, rfl⟩
        go_wp2_with fail
        go_ret
        exact RetI.mk HF.out.symm b03
      · have HF := Lib.hid (firstOf_in HY.out.1 h0 hi)
        obtain ⟨i1, i2⟩ := inB_true.1 hi
        obtain ⟨k, rfl⟩ : ∃ k : Nat, q = k + 1 := ⟨(q - 1).toNat, by omega⟩
        have hk : k < (shotsL xs).length := by omega
        have hc : w3.cell? ⟨g, k * 2 + 1, none⟩ = some (.int .i64 ((shotsL xs).getD k (0, 0)).2) := by rw [oG.cell (by omega), sh_cell hk (by omega)]; rfl
        go_wp2_with fail
        refine (in_any _ _ _ _).mono ?_
        rintro e w' ⟨rfl, rfl⟩
        go_wp2_with fail
        go_ret
        exact RetI.mk (by rw [HF.out]; simp [List.getD_eq_getElem?_getD, hk]) b03

theorem firstEntry_in {xs : List Int} {q t : Int} (h : inB t 0 (((tableL xs (firstOf xs q)).length : Int) - 1) = true) : firstEntry xs q t = (tableL xs (firstOf xs q)).getD t.toNat 0 := by simp [firstEntry, h]
theorem firstEntry_out {xs : List Int} {q t : Int} (h : inB t 0 (((tableL xs (firstOf xs q)).length : Int) - 1) = false) : firstEntry xs q t = 0 := by simp [firstEntry, h]

set_option maxHeartbeats 1000000 in
theorem specFirstEntry_any (A : Option Addr) (n c : Nat) (xs : List Int) (q t : Int) (w : World) (h : Rd w w.heap.size A n xs) (hn : n ≤ 2097152) :
    Calls Tryz.prog 88 #[.slice A n c, .int .i64 q, .int .i64 t] w (RetI w (firstEntry xs q t)) := by
  go_enter Tryz.func88, Tryz.ntmps88
  go_wp2_with fail
  refine (specFirstOf_any A n c xs q w h hn).mono ?_
  rintro e w1 ⟨rfl, b1⟩
  go_wp2_with fail
  refine (specTable_any A n c xs _ w1 ((h.below b1).more b1.size) hn).mono ?_
  rintro e w2 ⟨G, ng, cg, rfl, oG, b2⟩
  have b02 := below_more b1 b2 b1.size
  have HL := Lib.hid oG.len
  have hl8 : ng ≤ 8 := by have := tableL_length xs (firstOf xs q); have := HL.out; omega
  cases hi : inB t 0 ((ng : Int) - 1)
  · have HF := Lib.hid (firstEntry_out (xs := xs) (q := q) (t := t) (by rw [HL.out]; exact hi))
    go_wp2_with fail
    refine (in_any _ _ _ _).mono ?_
    rintro e w' ⟨rfl, rfl⟩
    go_wp2_with fail
    go_ret
    exact RetI.mk HF.out.symm b02
  · have HF := Lib.hid (firstEntry_in (xs := xs) (q := q) (t := t) (by rw [HL.out]; exact hi))
    obtain ⟨i1, i2⟩ := inB_true.1 hi
    obtain ⟨k, rfl⟩ := Int.eq_ofNat_of_zero_le i1
    have hk : k < ng := by omega
    rcases oG.form with ⟨_, h0, _⟩ | ⟨g, rfl, g1, g2, g3, g4⟩
    · omega
    have hc := oG.cell hk
    go_wp2_with fail
    refine (in_any _ _ _ _).mono ?_
    rintro e w' ⟨rfl, rfl⟩
    go_wp2_with fail
    go_ret
    exact RetI.mk (by rw [HF.out]; simp) b02

theorem entryAt_no {xs : List Int} {q g : Int} (h : hasHead xs = false) : entryAt xs q g = 0 := by simp [entryAt, h]
theorem entryAt_out {xs : List Int} {q g : Int} (h : inB g 0 ((headOf xs).size - 1) = false) : entryAt xs q g = 0 := by simp [entryAt, h]
theorem entryAt_in {xs : List Int} {q g : Int} (h : hasHead xs = true) (h2 : inB g 0 ((headOf xs).size - 1) = true) : entryAt xs q g = (tableL xs (targetOf (firstEntry xs q (g / 8)))).getD (g % 8).toNat 0 := by simp [entryAt, h, h2]

set_option maxHeartbeats 1000000 in
theorem specEntryAt_any (A : Option Addr) (n c : Nat) (xs : List Int) (q g : Int) (w : World) (h : Rd w w.heap.size A n xs) (hn : n ≤ 2097152) :
    Calls Tryz.prog 87 #[.slice A n c, .int .i64 q, .int .i64 g] w (RetI w (entryAt xs q g)) := by
  go_enter Tryz.func87, Tryz.ntmps87
  go_wp2_with fail
  refine (specHeadIn_any _ _ _ xs _ h hn).mono ?_
  rintro e w1 ⟨rfl, b1⟩
  generalize hr : headIn xs = r
  obtain ⟨⟨s, f, r, u, m⟩, is⟩ := r
  have HR := Lib.hid hr
  clear hr
  unfold hdV
  have b2 := b1.alloc b1.size (.cells #[.int .i64 s, .int .i64 f, .int .i64 r, .int .i64 u, .int .i64 m] 32)
  cases is
  · have HN := Lib.hid (entryAt_no (q := q) (g := g) (headIn_false HR.out).1)
    go_wp2_with fail
    go_ret
    exact RetI.mk HN.out.symm b2
  · have HY := Lib.hid (headIn_true HR.out)
    have hall := headB_all (hasHead_ok HY.out.1)
    rw [HY.out.2] at hall
    obtain ⟨⟨z1, z2⟩, _⟩ := hall
    simp only at z1 z2
    cases hi : inB g 0 (s - 1)
    · have HF := Lib.hid (entryAt_out (xs := xs) (q := q) (g := g) (by rw [HY.out.2]; exact hi))
      go_wp2_with fail
      refine (in_any _ _ _ _).mono ?_
      rintro e w' ⟨rfl, rfl⟩
      go_wp2_with fail
      go_ret
      exact RetI.mk HF.out.symm b2
    · have HF := Lib.hid (entryAt_in (xs := xs) (q := q) (g := g) HY.out.1 (by rw [HY.out.2]; exact hi))
      obtain ⟨i1, i2⟩ := inB_true.1 hi
      go_wp2_with fail
      refine (in_any _ _ _ _).mono ?_
      rintro e w' ⟨rfl, rfl⟩
      go_wp2_with fail
      refine (specFirstEntry_any A n c xs q (g / 8) _ ((h.below b2).more b2.size) hn).mono ?_
      rintro e w3 ⟨rfl, b3⟩
      have b03 := below_more b2 b3 b2.size
      go_wp2_with fail
      refine (specTarget_any _ _).mono ?_
      rintro e w' ⟨rfl, rfl⟩
      go_wp2_with fail
      refine (specTable_any A n c xs _ w3 ((h.below b03).more b03.size) hn).mono ?_
      rintro e w4 ⟨G, ng, cg, rfl, oG, b4⟩
      have b04 := below_more b03 b4 b03.size
      have HL := Lib.hid oG.len
      have h08 := tableL_length xs (targetOf (firstEntry xs q (g / 8)))
      rw [HL.out] at h08
      rcases h08 with h0 | h8
      · subst h0
        have hd : (((0 : Nat) : Int) == 0) = true := by simp
        go_wp2_with fail
        go_ret
        refine RetI.mk ?_ b04
        rw [HF.out, List.eq_nil_of_length_eq_zero HL.out]; rfl
      · subst h8
        have hd : (((8 : Nat) : Int) == 0) = false := by simp
        rcases oG.form with ⟨_, h0, _⟩ | ⟨b, rfl, g1, g2, g3, g4⟩
        · omega
        obtain ⟨k, hk⟩ : ∃ k : Nat, g % 8 = k := ⟨(g % 8).toNat, by omega⟩
        have hk8 : k < 8 := by omega
        have hc := oG.cell hk8
        have HK := Lib.hid hk
        rw [hk] at HF
        go_wp2_with fail
        go_ret
        exact RetI.mk (by rw [HF.out]; simp) b04

end Go.Proofs.YtimbfilbojejiabGreat
