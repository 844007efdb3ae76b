/- A disk whose counts and flags are wrong (l11DrawMild), and the draws of Mild and Owned. The Draw functions of Mild and Owned. -/
import Derived.Test.YtfolbhjljpnjlabGreatH5
import Derived.Test.YtfolbhjljpnjlabGreatG6
namespace Go.Proofs.YtfolbhjljpnjlabGreat
open Go.RowKit

theorem put_head {xs : List Int} {i : Nat} {v : Int} (h : hasHead xs = true) (hi : 8 ≤ i) (hv : wordB v = true) : hasHead (xs.set i v) = true ∧ headOf (xs.set i v) = headOf xs := by
  have e : ∀ j, j < 8 → (xs.set i v).getD j 0 = xs.getD j 0 := fun j hj => by rw [getD_set, if_neg (by omega)]
  have hd : headOf (xs.set i v) = headOf xs := by
    unfold headOf
    rw [e 2 (by omega), e 3 (by omega), e 4 (by omega), e 5 (by omega), e 6 (by omega)]
  refine ⟨?_, hd⟩
  unfold hasHead at h ⊢
  rw [hd, e 0 (by omega), e 1 (by omega), e 7 (by omega), List.length_set]
  rw [Bool.and_eq_true] at h ⊢
  refine ⟨?_, h.2⟩
  have hi := h.1
  rw [imgB_iff] at hi ⊢
  refine ⟨fun x hx => ?_, by rw [List.length_set]; exact hi.2⟩
  rcases List.mem_or_eq_of_mem_set hx with h' | rfl
  · exact hi.1 x h'
  · exact hv

/-- The words of the first block are few. -/
structure MildI (ys : List Int) (β k : Nat) (zs : List Int) : Prop where
  head : hasHead zs = true
  len : zs.length = ys.length
  same : headOf zs = headOf ys
  few : ∀ j, j < 8 → 0 ≤ zs.getD (β * 8 + j) 0 ∧ zs.getD (β * 8 + j) 0 ≤ 1296 + 2 * (k : Int)

theorem MildI.start {ys : List Int} (h : soundB ys = true) (h0 : (blocksC (claimsC ys)).getD 0 0 ≠ 0) : MildI ys ((blocksC (claimsC ys)).getD 0 0).toNat 0 ys := by
  refine ⟨sound_head h, rfl, rfl, fun j hj => ?_⟩
  have e := sound_stored h
  unfold storedL countsL at e
  rw [if_pos (sound_head h), if_pos (sound_head h)] at e
  have e2 : (storedC ys (blocksC (claimsC ys))).getD j 0 = ys.getD (((blocksC (claimsC ys)).getD 0 0).toNat * 8 + j) 0 := by
    unfold storedC
    rw [List.getD_eq_getElem?_getD, List.getElem?_map, List.getElem?_range (by omega)]
    rw [Option.map_some, Option.getD_some, show j / 8 = 0 by omega, show j % 8 = j by omega, if_pos h0, cl_word_get _ _ _ hj]
  rw [← e2, e]
  obtain ⟨_, hb⟩ := cnt_take (claimsC ys) (claimsC ys).length
  rw [List.take_length] at hb
  have h1 := hb j
  have h2 := claims_length ys
  unfold countsC
  omega
theorem MildI.step {ys zs : List Int} {β k j : Nat} {x : Int} (h : MildI ys β k zs) (hb : 1 ≤ β) (hj : j < 8) (hk : k ≤ 3) (h0 : 0 ≤ x) (h1 : x ≤ 2) : MildI ys β (k + 1) (zs.set (β * 8 + j) (zs.getD (β * 8 + j) 0 + x)) := by
  obtain ⟨f0, f1⟩ := h.few j hj
  obtain ⟨a, b⟩ := put_head (i := β * 8 + j) (v := zs.getD (β * 8 + j) 0 + x) h.head (by omega) (by unfold wordB; rw [inB_true]; omega)
  refine ⟨a, by rw [List.length_set]; exact h.len, b.trans h.same, fun i hi => ?_⟩
  rw [getD_set]
  split
  · rename_i hh
    have : i = j := by omega
    subst this
    omega
  · have := h.few i hi
    omega
theorem MildI.more {ys zs : List Int} {β k k' : Nat} (h : MildI ys β k zs) (hk : k ≤ k') : MildI ys β k' zs := ⟨h.head, h.len, h.same, fun j hj => by have := h.few j hj; omega⟩
theorem many_same {xs zs : List Int} (h : zs.length = xs.length) : manyN zs = manyN xs := by unfold manyN; rw [h]

/-- There is a table. -/
theorem tables_some {ys zs : List Int} (h : soundB ys = true) (h1 : hasHead zs = true) (h2 : zs.length = ys.length) (h3 : headOf zs = headOf ys) : (tablesC (claimsC zs)).length ≠ 0 := by
  obtain ⟨t, _⟩ := sound_first h
  have t' : thereB zs (headOf zs).first = true := by
    unfold thereB at t ⊢
    rw [h3, many_same h2]
    exact t
  have hm := (c6_prefix zs _).subset ((c5_prefix zs _).subset (first_claim zs))
  have hs := (headB_all (hasHead_ok h1)).1.1
  have hg : goodB zs (headOf zs).size [⟨1, 0, 0, 0, 0, true⟩] ⟨2, 0, 0, 0, (headOf zs).first, false⟩ = true := by
    have t2 : 1 ≤ (headOf zs).first := by unfold thereB at t'; exact (inB_true.1 t').1
    unfold goodB
    rw [t']
    simp [barsB]
    omega
  have : (headOf zs).first ∈ tablesC (claimsC zs) := tables_in hm hg (by simp)
  exact fun e => by rw [List.eq_nil_of_length_eq_zero e] at this; cases this

/-- A row with its words, and a cursor. -/
def Mi (w0 : World) (g B h n c : Nat) (zs : List Int) (w : World) : Prop := OwV 2 1 w w0.heap.size w.heap.size h n c (iv zs) ∧ Cur w g B ∧ w0.grownBy w (some g)
theorem Mi.draw {w0 w w' : World} {g B h n c : Nat} {zs : List Int} (hi : Mi w0 g B h n c zs w) (hg : w.grownBy w' (some g)) (hc : Cur w' g B) (hlt : g < w0.heap.size) : Mi w0 g B h n c zs w' :=
  ⟨hi.1.draw hg hlt hg.size, hc, grown_trans hi.2.2 hg⟩
theorem Mi.put {w0 w : World} {g B h n c j : Nat} {zs : List Int} (x : Int) (hi : Mi w0 g B h n c zs w) (hlt : g < w0.heap.size) : Mi w0 g B h n c (zs.set j x) (w.setCell ⟨h, j, none⟩ (.int .i64 x)) := by
  obtain ⟨h5, h6, h7⟩ := hi
  obtain ⟨s1, s2⟩ := h5.set j (.int .i64 x)
  rw [iv_set] at s1
  have hlo := h5.low
  exact ⟨s1.more (Nat.le_refl _) s2.size, h6.grown s2 (fun k e => by cases e; omega), grown_row h7 s2 hlo⟩
theorem Mi.under {w0 w w' : World} {g B h n c : Nat} {zs : List Int} (hi : Mi w0 g B h n c zs w) (hb : Below w.heap.size w w') : Mi w0 g B h n c zs w' :=
  ⟨(hi.1.below hb (Nat.le_refl _)).more (Nat.le_refl _) hb.size, hi.2.1.grown (grown_under hb none) (by simp), grown_trans hi.2.2 (grown_under hb (some g))⟩
theorem Mi.drew {w0 w : World} {g B h n c : Nat} {zs : List Int} (hi : Mi w0 g B h n c zs w) : Mi w0 g B h n c zs w.drew := hi.under (Below.refl _ _).drew

theorem words_set {us : List Int} {n i : Nat} {x : Int} (h : us.length = n ∧ ∀ j, 0 ≤ us.getD j 0 ∧ us.getD j 0 ≤ 65535) (h0 : 0 ≤ x) (h1 : x ≤ 65535) : (us.set i x).length = n ∧ ∀ j, 0 ≤ (us.set i x).getD j 0 ∧ (us.set i x).getD j 0 ≤ 65535 := by
  refine ⟨by rw [List.length_set]; exact h.1, fun j => ?_⟩
  rw [getD_set]
  split
  · exact ⟨h0, h1⟩
  · exact h.2 j
/-- What the counts' loop keeps. -/
structure MR (ys : List Int) (bz : Int) (k : Nat) (zs : List Int) : Prop where
  head : hasHead zs = true
  len : zs.length = ys.length
  same : headOf zs = headOf ys
  mild : bz ≠ 0 → MildI ys bz.toNat k zs
theorem MR.more {ys zs : List Int} {bz : Int} {k k' : Nat} (h : MR ys bz k zs) (hk : k ≤ k') : MR ys bz k' zs := ⟨h.head, h.len, h.same, fun h0 => (h.mild h0).more hk⟩
theorem MR.step {ys zs : List Int} {b k j : Nat} {x : Int} (h : MR ys (b : Int) k zs) (hb : 1 ≤ b) (hj : j < 8) (hk : k ≤ 3) (h0 : 0 ≤ x) (h1 : x ≤ 2) : MR ys (b : Int) (k + 1) (zs.set (b * 8 + j) (zs.getD (b * 8 + j) 0 + x)) := by
  have m := (h.mild (by omega)).step (by simp; omega) hj hk h0 h1
  rw [Int.toNat_natCast] at m
  exact ⟨m.head, m.len, m.same, fun _ => by rw [Int.toNat_natCast]; exact m⟩

/-- .. and the blocks' first word. -/
def MiB (w0 : World) (g B h n c gb : Nat) (bz : Int) (zs : List Int) (w : World) : Prop := Mi w0 g B h n c zs w ∧ w.cell? ⟨gb, 0, none⟩ = some (.int .i64 bz) ∧ gb < w.heap.size

end Go.Proofs.YtfolbhjljpnjlabGreat
