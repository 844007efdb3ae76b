/- What is stored (chapter 9): the program's side: StoredIn asks a closure that keeps the blocks, given what ClaimsIn and TableAt answer. -/
import Derived.Test.YtfolbhjljpnjlabGreatGdi
import Derived.Test.YtfolbhjljpnjlabGreatWro
import Derived.Test.YtfolbhjljpnjlabGreatCpy
import Derived.Test.YtfolbhjljpnjlabGreatLawSto
import Derived.Test.YtfolbhjljpnjlabGreatY5
import Derived.Test.YtfolbhjljpnjlabGreatWci
import Derived.Deep.RegionHeld3
namespace Go.Proofs.YtfolbhjljpnjlabGreat
open Go.RowKit Go.Shelf

attribute [local go_sem] Oper.semAt_some

/-- What is kept of a good claim. -/
abbrev Gs (xs : List Int) := Gq (fun c => c.good = true ∧ (c.kind = 4 → 0 ≤ c.slot ∧ c.slot < 8 ∧ thereB xs c.target = true))

theorem blk_good : ∀ (l : List Cm) (o : List Int), (l.filter (fun c => c.good)).foldl blkStep o = l.foldl blkStep o
  | [], _ => rfl
  | c :: l, o => by
    rw [List.foldl_cons]
    cases h : c.good
    · rw [List.filter_cons_of_neg (by simp [h]), blk_good l o]
      congr 1
      unfold blkStep
      rw [if_neg (by simp [h])]
    · rw [List.filter_cons_of_pos (by simp [h]), List.foldl_cons]
      exact blk_good l _

theorem blk_snoc {xs : List Int} (pre : List (Gs xs)) (x : Gs xs) (o : List Int) : ((pre ++ [x]).map Subtype.val).foldl blkStep o = if x.1.kind = 4 then ((pre.map Subtype.val).foldl blkStep o).set x.1.slot.toNat x.1.target else (pre.map Subtype.val).foldl blkStep o := by
  rw [List.map_append, List.foldl_append]
  have hg := x.2.1
  show blkStep _ x.1 = _
  unfold blkStep
  by_cases h : x.1.kind = 4
  · rw [if_pos ⟨hg, h⟩, if_pos h]
  · rw [if_neg (fun hh => h hh.2), if_neg h]

theorem storedC_zero (xs : List Int) : storedC xs (List.replicate 8 0) = List.replicate 64 0 := by
  apply List.ext_getElem
  · simp [storedC]
  · intro i h1 h2
    simp only [storedC, List.getElem_map, List.getElem_range, List.getElem_replicate]
    rw [if_neg]
    rw [List.getD_eq_getElem?_getD, List.getElem?_replicate]
    split <;> simp

theorem stored_splice (xs bs : List Int) (s t : Nat) (hs : s < 8) (ht : t ≠ 0) (hb : bs.length = 8) : Go.splice (iv (storedC xs bs)) (s * 8) (iv (cl xs t)) = iv (storedC xs (bs.set s (t : Int))) := by
  have hl : ∀ b, (storedC xs b).length = 64 := fun b => by simp [storedC]
  have e : (storedC xs bs).take (s * 8) ++ (cl xs t ++ (storedC xs bs).drop (s * 8 + 8)) = storedC xs (bs.set s (t : Int)) := by
    apply List.ext_getElem
    · simp [hl, cl_length]; omega
    · intro i h1 h2
      rw [hl] at h2
      have hg : ∀ b, ∀ (h : i < (storedC xs b).length), (storedC xs b)[i] = stored_at xs b i := fun b h => by simp [storedC, stored_at]
      rw [hg]
      have hsd : (bs.set s (t : Int)).getD (i / 8) 0 = if i / 8 = s then (t : Int) else bs.getD (i / 8) 0 := by
        rw [List.getD_eq_getElem?_getD, List.getElem?_set, hb]
        by_cases h : s = i / 8
        · rw [if_pos h, if_pos (by omega), if_pos h.symm]; rfl
        · rw [if_neg h, if_neg (fun e => h e.symm), List.getD_eq_getElem?_getD]
      rw [List.getElem_append]
      split
      · rename_i h3
        simp [hl] at h3
        rw [List.getElem_take, hg]
        unfold stored_at
        rw [hsd]
        simp only [if_neg (show ¬ i / 8 = s by omega)]
      · rename_i h3
        simp [hl] at h3
        rw [List.getElem_append]
        split
        · rename_i h4
          simp [hl, cl_length] at h4
          unfold stored_at
          rw [hsd, if_pos (by omega), if_pos (by omega), Int.toNat_natCast, List.getD_eq_getElem?_getD, List.getElem?_eq_getElem (by rw [cl_length]; omega), Option.getD_some]
          congr 1
          simp [hl]
          omega
        · rename_i h4
          simp [hl, cl_length] at h4
          rw [List.getElem_drop]
          have h5 : s * 8 + 8 + (i - (List.take (s * 8) (storedC xs bs)).length - (cl xs t).length) = i := by simp [hl, cl_length]; omega
          simp only [h5]
          rw [hg]
          unfold stored_at
          rw [hsd]
          simp only [if_neg (show ¬ i / 8 = s by omega)]
  rw [← e, Go.splice, iv_append, iv_append, iv_length, cl_length]
  simp [iv, List.map_take, List.map_drop]

/-- The blocks, kept whole. -/
def Blk (xs : List Int) (gv : Nat) (bs : List Int) (W : World) : Prop := W.heap[gv]? = some (.cells (iv (storedC xs bs)).toArray 76 (0, 0))
theorem Blk.lt {xs : List Int} {gv : Nat} {bs : List Int} {W : World} (h : Blk xs gv bs W) : gv < W.heap.size := (Array.getElem?_eq_some_iff.1 h).1
theorem Blk.kept {xs : List Int} {gv : Nat} {bs : List Int} {W W' : World} {row : Option Nat} (h : Blk xs gv bs W) (hg : W.grownBy W' row) (hne : some gv ≠ row) : Blk xs gv bs W' := (hg.block gv h.lt hne).trans h
theorem Blk.below {xs : List Int} {gv : Nat} {bs : List Int} {W W' : World} (h : Blk xs gv bs W) (hg : Below W.heap.size W W') : Blk xs gv bs W' := (hg.block gv h.lt).trans h
theorem Blk.cell {xs : List Int} {gv : Nat} {bs : List Int} {W : World} (h : Blk xs gv bs W) {j : Nat} (hj : j < 64) : W.cell? ⟨gv, j, none⟩ = some (.int .i64 (stored_at xs bs j)) := by
  have hl : (storedC xs bs).length = 64 := by simp [storedC]
  have hg : (storedC xs bs).getD j 0 = stored_at xs bs j := by rw [List.getD_eq_getElem?_getD, List.getElem?_eq_getElem (by omega)]; simp [storedC, stored_at]
  have := iv_get (storedC xs bs) j (by omega)
  rw [hg] at this
  simp [World.cell?, show W.heap[gv]? = _ from h, this]

/-- Between two rounds: the blocks of those that have come. -/
def StI (w : World) (A : Option Addr) (n c Bb gv : Nat) (xs : List Int) (pre : List (Gs xs)) (W : World) : Prop :=
  Boxed W Bb 24 (.slice A n c) ∧ Blk xs gv ((pre.map Subtype.val).foldl blkStep (List.replicate 8 0)) W ∧ Below w.heap.size w W
/-- The round's claim lies in a box of its own. -/
def StX {xs : List Int} (Bb gv : Nat) (tm : Gs xs → Nat → Array Value) (x : Gs xs) (a : Act) (W : World) : Prop :=
  ∃ Bx, Bb < Bx ∧ gv < Bx ∧ W.heap[Bx]? = some (.cells #[.int .i64 x.1.kind, .int .i64 x.1.frm, .int .i64 x.1.slot, .int .i64 x.1.place, .int .i64 x.1.target, .bool x.1.good] 51 (0, 0)) ∧ a = { tmps := tm x Bx, defers := [] }

theorem StI.own {w : World} {A : Option Addr} {n c Bb gv B : Nat} {xs : List Int} (h1 : w.heap.size ≤ B) (h2 : gv < B) (h3 : Bb < B) : OwnFrom B (StI w A n c Bb gv xs) := fun s X Y row hs hg hr => by
  obtain ⟨b, o, l⟩ := hs
  exact ⟨b.kept hg (fun e => by have := (hr _ e.symm).1; omega), o.kept hg (fun e => by have := (hr _ e.symm).1; omega), l.grown hg l.size (fun k e => by have := (hr _ e).1; omega)⟩
theorem StX.own {xs : List Int} {Bb gv B : Nat} {tm : Gs xs → Nat → Array Value} {x : Gs xs} {a : Act} : OwnFrom B (fun (_ : Unit) W => StX Bb gv tm x a W) := fun _ X Y row hs hg hr => by
  obtain ⟨Bx, h1, h2, h3, h4⟩ := hs
  refine ⟨Bx, h1, h2, ?_, h4⟩
  refine (hg.block Bx (Array.getElem?_eq_some_iff.1 h3).1 (fun e => ?_)).trans h3
  obtain ⟨_, o, ho, hc⟩ := hr _ e.symm
  rw [h3] at ho
  cases ho
  cases hc

/-- What the closure is asked. -/
theorem stored1_any (xs bs : List Int) (gv k : Nat) (hk : k < 64) (w : World) (h : Blk xs gv bs w) :
    Calls Tryz.prog 61 #[.int .i64 (k : Int), .pointer (some ⟨gv, 0, none⟩)] w fun e w' => e = .returned (.int .i64 (stored_at xs bs k)) ∧ w' = w := by
  have hc : w.cell? ⟨gv, k / 8 * 8 + k % 8, none⟩ = some (.int .i64 (stored_at xs bs k)) := by rw [show k / 8 * 8 + k % 8 = k by omega]; exact h.cell hk
  clear h
  generalize stored_at xs bs k = v at *
  go_enter Tryz.func61, Tryz.ntmps61
  go_wp2
  go_ret
  exact ⟨rfl, rfl⟩

set_option maxRecDepth 100000 in
set_option maxHeartbeats 4000000 in
theorem storedBy_any (hC : ClaimsC) (hT : TableC) (A : Option Addr) (n c : Nat) (xs : List Int) (w : World) (hr : Rd w w.heap.size A n xs) (hn : n ≤ 2097152) (hnc : n ≤ c) (hh : hasHead xs = true) :
    Calls Tryz.prog 30 #[.slice A n c] w fun e w' => ∃ gv, e = .returned (.func (.func 61) #[] #[.pointer (some ⟨gv, 0, none⟩)]) ∧ w.heap.size ≤ gv ∧ Blk xs gv (blocksC (claimsC xs)) w' ∧ Below w.heap.size w w' := by
  refine (callsIn_wide (n := 5)).1 ?_
  refine callsIn_of_wp_marks Tryz.func30 rfl trivial ?_ rfl
  simp only [Tryz.ntmps30, List.size_toArray, List.length_cons, List.length_nil, Nat.reduceAdd, Nat.reduceSub, Array.replicate_succ, Array.replicate_zero, List.push_toArray, List.append_toArray, List.nil_append, List.cons_append]
  have HCL : Hid (claimsL xs = claimsC xs) := by unfold claimsL; rw [hh]; exact rfl
  have HT : ∀ c ∈ claimsL xs, c.good = true → (c.good = true ∧ (c.kind = 4 → 0 ≤ c.slot ∧ c.slot < 8 ∧ thereB xs c.target = true)) := by
    intro c hc hg
    rw [HCL.out] at hc
    have ok := claims_ok xs c hc
    have := ok.slot1
    refine ⟨hg, fun hk => ⟨ok.slot0, by omega, ?_⟩⟩
    rcases ok.lead hg with h | h
    · omega
    · exact h
  have HT := Lib.hid HT
  have HH := Lib.hid hh
  clear hh
  gi_wp2_with (refine ⟨trivial, ?_⟩; gi_at_call 31; refine (good_in A n c _ _).mono ?_; rintro e w' ⟨rfl, rfl⟩)
  generalize hob : Obj.cells #[.int .i64 0, .int .i64 0, .int .i64 0, .int .i64 0, .int .i64 0, .int .i64 0, .int .i64 0, .int .i64 0, .int .i64 0, .int .i64 0, .int .i64 0, .int .i64 0, .int .i64 0, .int .i64 0, .int .i64 0, .int .i64 0, .int .i64 0, .int .i64 0, .int .i64 0, .int .i64 0, .int .i64 0, .int .i64 0, .int .i64 0, .int .i64 0, .int .i64 0, .int .i64 0, .int .i64 0, .int .i64 0, .int .i64 0, .int .i64 0, .int .i64 0, .int .i64 0, .int .i64 0, .int .i64 0, .int .i64 0, .int .i64 0, .int .i64 0, .int .i64 0, .int .i64 0, .int .i64 0, .int .i64 0, .int .i64 0, .int .i64 0, .int .i64 0, .int .i64 0, .int .i64 0, .int .i64 0, .int .i64 0, .int .i64 0, .int .i64 0, .int .i64 0, .int .i64 0, .int .i64 0, .int .i64 0, .int .i64 0, .int .i64 0, .int .i64 0, .int .i64 0, .int .i64 0, .int .i64 0, .int .i64 0, .int .i64 0, .int .i64 0, .int .i64 0] 76 = ob at *
  have hob2 : ob = .cells (iv (storedC xs (List.replicate 8 0))).toArray 76 (0, 0) := by rw [storedC_zero]; exact hob.symm
  clear hob
  have b1 := (Below.refl w.heap.size w).alloc (Nat.le_refl _) (.cells #[.slice A n c] 24)
  have b2 := b1.alloc b1.size ob
  have b5 := b2.alloc b2.size (.cells #[.slice A n c] 24)
  have x1 : Boxed (w.alloc (.cells #[.slice A n c] 24)) w.heap.size 24 (.slice A n c) := Boxed.new _ _ _
  have x5 := (x1.alloc ob).alloc (.cells #[.slice A n c] 24)
  have y5 := Boxed.new ((w.alloc (.cells #[.slice A n c] 24)).alloc ob) 24 (.slice A n c)
  rw [World.size_alloc, World.size_alloc] at y5
  have o5 : Blk xs (w.heap.size + 1) (List.replicate 8 0) (((w.alloc (.cells #[.slice A n c] 24)).alloc ob).alloc (.cells #[.slice A n c] 24)) := by
    have hk := World.alloc_heap_new (w.alloc (.cells #[.slice A n c] 24)) ob
    rw [World.size_alloc] at hk
    have hB : Blk xs (w.heap.size + 1) (List.replicate 8 0) ((w.alloc (.cells #[.slice A n c] 24)).alloc ob) := by unfold Blk; rw [hk, hob2]
    exact hB.kept (World.grownBy_alloc _ _ none) (by simp)
  have z5 : (((w.alloc (.cells #[.slice A n c] 24)).alloc ob).alloc (.cells #[.slice A n c] 24)).heap.size = w.heap.size + 3 := by simp
  generalize ((w.alloc (.cells #[.slice A n c] 24)).alloc ob).alloc (.cells #[.slice A n c] 24) = w5 at *
  clear b1 b2 x1 hob2
  refine wpIn_rangeFunc_ownH rfl (by omega) (gf := 62) (lb := #[.pointer (some ⟨w.heap.size + 1 + 1, 0, none⟩)]) rfl trivial (enters_of Tryz.func62 (by kernel_rfl) rfl)
    (good_stops hC 4 (w.heap.size + 1 + 1) (w.heap.size + 1) (by omega) A n c xs w5 (by omega) y5.cell ((hr.below b5).more b5.size) hn hnc (by omega) HT.out) KpC.trans (fun W l o o' _ h ho _ => KpC.put o' h ho) (Below.refl _ _) (fun _ => rfl)
    (StI w A n c w.heap.size (w.heap.size + 1) xs) (fun _ _ _ => False) (StI.own (by omega) (by omega) (by omega)) (fun _ _ _ _ _ hs _ _ => hs) ⟨x5, o5, b5⟩
    (StX w.heap.size (w.heap.size + 1) (fun x Bx => #[.slice A n c, .pointer (some ⟨w.heap.size, 0, none⟩), .nilFunc, .pointer (some ⟨w.heap.size + 1, 0, none⟩), .pointer (some ⟨Bx, 0, none⟩), .slice A n c, .func (.func 62) #[] #[.pointer (some ⟨w.heap.size + 1 + 1, 0, none⟩)],
      .agg #[.int .i64 x.1.kind, .int .i64 x.1.frm, .int .i64 x.1.slot, .int .i64 x.1.place, .int .i64 x.1.target, .bool x.1.good], undef, undef, undef, undef, undef, undef, undef, undef, undef, undef, undef, undef, undef])) (fun _ _ => StX.own) ?assign ?body ?done ?stop
  case assign =>
    rintro l pre x W K ⟨hb, ho, hw⟩ hK
    gi_wp2
    exact hK _ _ ((KeepsOthers.alloc _ _).from _) ((KpC.refl _ _).alloc _) ⟨hb.alloc _, ho.kept (World.grownBy_alloc _ _ none) (by simp), hw.alloc hw.size _⟩ ⟨W.heap.size, hb.lt, ho.lt, World.alloc_heap_new W _, rfl⟩
  case body =>
    rintro l pre x a' W hl _ ⟨hb, ho, hw⟩ ⟨Bx, h1, h2, h3, rfl⟩ hlt
    have HS := Lib.hid (blk_snoc pre x (List.replicate 8 0))
    have HL := Lib.hid (blk_len (pre.map Subtype.val) (List.replicate 8 0))
    obtain ⟨⟨xk, xf, xs', xp, xt, xg⟩, tg, t4⟩ := x
    simp only at tg t4 h3 HS
    subst tg
    have e0 : W.cell? ⟨Bx, 0, none⟩ = some (.int .i64 xk) := by simp [World.cell?, h3]
    have e2 : W.cell? ⟨Bx, 2, none⟩ = some (.int .i64 xs') := by simp [World.cell?, h3]
    have e4 : W.cell? ⟨Bx, 4, none⟩ = some (.int .i64 xt) := by simp [World.cell?, h3]
    have c1 := hb.cell
    have lx := (Array.getElem?_eq_some_iff.1 h3).1
    have lb := hb.lt
    have lo := ho.lt
    have HO := Lib.hid ho
    clear h3 ho
    generalize ((pre.map Subtype.val).foldl blkStep (List.replicate 8 0)) = bs at *
    by_cases hk : xk = 4
    · subst hk
      obtain ⟨s0, s1, ht⟩ := t4 rfl
      obtain ⟨t0, t1⟩ := there_lt ht
      have HTL := Lib.hid (tableL_in HH.out ht)
      clear ht
      obtain ⟨σ, rfl⟩ := Int.eq_ofNat_of_zero_le s0
      obtain ⟨τ, rfl⟩ := Int.eq_ofNat_of_zero_le (show 0 ≤ xt by omega)
      have hσ : σ < 8 := by omega
      have s2 : (0 : Int) ≤ (σ : Int) := s0
      have HTb := Lib.hid (hT A n c xs (τ : Int) W.drew ((hr.below hw).more hw.size) hn hnc)
      have hd4 : ((4 : Int) == 4) = true := rfl
      gi_wp2_with fail
      refine wpIn_region_round (S := fun w' => w'.cell? ⟨Bx, 2, none⟩ = some (.int .i64 (σ : Int)) ∧ w'.cell? ⟨Bx, 4, none⟩ = some (.int .i64 (τ : Int)) ∧ w'.cell? ⟨w.heap.size, 0, none⟩ = some (.slice A n c)) (by kernel_rfl) (by kernel_rfl) (by rintro ⟨_, _, h⟩; exact h) ⟨e2, e4, c1⟩ (fun hHeld => ?_)
      refine wpAnyH_take_to (i := 0) (d := some 11) (v := ?_) rfl rfl (by kernel_rfl) (by kernel_rfl) (by kernel_rfl) (fun _ _ _ h => h) (Or.inl ⟨by rfl, ?_⟩) (by assumption) ?_
      rotate_left 1
      · intro w hSw
        (try dsimp only at hSw)
        go_simp <;> with_reducible rfl
      simp only [Act.put, List.setIfInBounds_toArray, List.set_cons_zero, List.set_cons_succ]
      refine wpAnyH_take_to (i := 1) (d := some 12) (v := ?_) rfl rfl (by kernel_rfl) (by kernel_rfl) (by kernel_rfl) (fun _ _ _ h => h) (Or.inl ⟨by rfl, ?_⟩) (by assumption) ?_
      rotate_left 1
      · intro w hSw
        (try dsimp only at hSw)
        go_simp <;> with_reducible rfl
      simp only [Act.put, List.setIfInBounds_toArray, List.set_cons_zero, List.set_cons_succ]
      refine wpAnyH_take_to (i := 2) (d := some 13) (v := ?_) rfl rfl (by kernel_rfl) (by kernel_rfl) (by kernel_rfl) (fun _ _ _ h => h) (Or.inl ⟨by rfl, ?_⟩) (by assumption) ?_
      rotate_left 1
      · intro w hSw
        (try dsimp only at hSw)
        go_simp <;> with_reducible rfl
      simp only [Act.put, List.setIfInBounds_toArray, List.set_cons_zero, List.set_cons_succ]
      refine wpAnyH_take_to (i := 3) (d := some 14) (v := ?_) rfl rfl (by kernel_rfl) (by kernel_rfl) (by kernel_rfl) (fun _ _ _ h => h) (Or.inl ⟨by rfl, ?_⟩) (by assumption) ?_
      rotate_left 1
      · intro w hSw
        (try dsimp only at hSw)
        go_simp <;> with_reducible rfl
      simp only [Act.put, List.setIfInBounds_toArray, List.set_cons_zero, List.set_cons_succ]
      refine wpAnyH_take_to (i := 4) (d := some 15) (v := ?_) rfl rfl (by kernel_rfl) (by kernel_rfl) (by kernel_rfl) (fun _ _ _ h => h) (Or.inl ⟨by rfl, ?_⟩) (by assumption) ?_
      rotate_left 1
      · intro w hSw
        (try dsimp only at hSw)
        go_simp <;> with_reducible rfl
      simp only [Act.put, List.setIfInBounds_toArray, List.set_cons_zero, List.set_cons_succ]
      refine wpAnyH_take_to (i := 5) (d := some 16) (v := ?_) rfl rfl (by kernel_rfl) (by kernel_rfl) (by kernel_rfl) (fun _ _ _ h => h) (Or.inl ⟨by rfl, ?_⟩) (by assumption) ?_
      rotate_left 1
      · intro w hSw
        (try dsimp only at hSw)
        go_simp <;> with_reducible rfl
      simp only [Act.put, List.setIfInBounds_toArray, List.set_cons_zero, List.set_cons_succ]
      refine wpAnyH_take_to (i := 6) (d := some 17) (v := ?_) rfl rfl (by kernel_rfl) (by kernel_rfl) (by kernel_rfl) (fun _ _ _ h => h) (Or.inl ⟨by rfl, ?_⟩) (by assumption) ?_
      rotate_left 1
      · intro w hSw
        (try dsimp only at hSw)
        go_simp <;> with_reducible rfl
      simp only [Act.put, List.setIfInBounds_toArray, List.set_cons_zero, List.set_cons_succ]
      refine wpAnyH_ready (rs := [7]) (by kernel_rfl) (by simp) ?_
      refine AllReadyH.cons rfl (fun K hK => ?_) AllReadyH.nil
      rw [if_pos (by rfl)]
      go_simp
      refine HTb.out.mono ?_
      rintro e w2 ⟨X, nx, cx, rfl, oX, b2⟩
      rw [HTL.out, Int.toNat_natCast] at oX
      obtain rfl : 8 = nx := by have := oX.len; rw [cl_length] at this; exact this
      rcases oX.form with ⟨_, h0, _⟩ | ⟨g, rfl, g1, g2, g3, g4⟩
      · omega
      obtain ⟨ad, ead, hsrc⟩ := rd_src oX.rd
      have HSR := Lib.hid hsrc
      have b2' : Below W.heap.size W w2 := Below.trans (Below.refl _ W).drew b2
      have ho2 := Lib.hid (HO.out.below b2')
      have hS2 : w2.cell? ⟨Bx, 2, none⟩ = some (.int .i64 (σ : Int)) ∧ w2.cell? ⟨Bx, 4, none⟩ = some (.int .i64 (τ : Int)) ∧ w2.cell? ⟨w.heap.size, 0, none⟩ = some (.slice A n c) := ⟨(b2'.cell (p := ⟨Bx, 2, none⟩) lx).trans e2, (b2'.cell (p := ⟨Bx, 4, none⟩) lx).trans e4, (b2'.cell (p := ⟨w.heap.size, 0, none⟩) lb).trans c1⟩
      refine hK.out _ _ hS2 (fun hHeld2 => ?_)
      refine wpAnyH_ready (rs := [8]) (by kernel_rfl) (by simp) ?_
      refine AllReadyH.cons rfl (fun K2 hK2 => ?_) AllReadyH.nil
      refine step_copy_block rfl (.tmp 14) (.tmp 18) 24 24 rfl 2 Tryz.underlying24 info2s (w.heap.size + 1) (σ * 8) ad 8 8 8 cx (by rfl) (by rw [← ead]; rfl) (iv (storedC xs bs)) 76 ho2.out (iv (cl xs τ)) (by rw [iv_length, cl_length]; rfl) HSR.out (by rw [iv_length, iv_length, cl_length]; simp [storedC]; omega) (int_one _) ?_
      intro w3 h3 gr3
      rw [stored_splice xs bs σ τ hσ (by omega) (by have := HL.out; simpa using this)] at h3
      refine hK2.out _ _ ⟨gr3.cell hS2.1 (fun e => by injection e with e; have : Bx = w.heap.size + 1 := e; omega), gr3.cell hS2.2.1 (fun e => by injection e with e; have : Bx = w.heap.size + 1 := e; omega), gr3.cell hS2.2.2 (fun e => by injection e with e; have : w.heap.size = w.heap.size + 1 := e; omega)⟩ (fun _ => ?_)
      refine wpAnyH_done (by kernel_rfl) ?_ _
      refine ⟨?_, ?_, ?_, ?_, ?_⟩
      · exact (KeepsFrom.of_grownBy (below_grownBy b2') (fun _ e => by cases e)).trans (KeepsFrom.of_grownBy gr3 (fun j e => by cases e; omega))
      · exact (KpC.below b2').trans (KpC.grown gr3)
      · exact (hb.kept (below_grownBy b2') (by simp)).kept gr3 (fun e => by injection e with e; omega)
      · rw [HS.out, if_pos trivial, Int.toNat_natCast]
        exact h3
      · exact (below_more hw b2' hw.size).grown gr3 (Nat.le_trans hw.size b2'.size) (fun k e => by cases e; omega)
    · have hd4 : (xk == 4) = false := by simpa using hk
      gi_wp2
      exact ⟨KeepsFrom.refl _ _, KpC.refl _ _, hb, by rw [HS.out, if_neg hk]; exact HO.out, hw⟩
  case done =>
    rintro D ys W hD hS ⟨hb, ho, hw⟩ hK
    gi_wp2
    refine ⟨by simp, .inl ⟨_, _, rfl, run_takeDeferred hK, ?_⟩⟩
    refine ⟨_, results_tmp rfl _ _ _, ?_⟩
    rw [hS, blk_good, HCL.out] at ho
    have g7 := grownBy_putObj' W D (.deferred none)
    have lw := ho.lt
    exact ⟨w.heap.size + 1, rfl, by omega, ho.kept g7 (fun e => by cases e; omega), hw.grown g7 hw.size (fun k e => by cases e; omega)⟩
  case stop =>
    rintro D c pre W _ _ h _
    exact h.elim

set_option maxRecDepth 100000 in
set_option maxHeartbeats 4000000 in
theorem implStored_any (hC : ClaimsC) (hT : TableC) : StoredC := by
  intro A n c xs w hr hn hnc
  obtain ⟨i0, hi0, hz0, hz1, hz2⟩ := info_parts info2
  go_enter Tryz.func9, Tryz.ntmps9
  go_wp2_with fail
  refine (implHeadIn_any _ _ _ xs _ hr hn).mono ?_
  rintro e w1 ⟨rfl, b1⟩
  generalize hh : headIn xs = r
  obtain ⟨⟨s, f, r, u, m⟩, is⟩ := r
  have HR := Lib.hid hh
  clear hh
  unfold hdV
  have b2 := b1.alloc b1.size (.cells #[.int .i64 s, .int .i64 f, .int .i64 r, .int .i64 u, .int .i64 m] 34)
  cases is
  · have HN : Hid (storedL xs = []) := by unfold storedL; rw [(headIn_false HR.out).1]; exact rfl
    go_wp2_with fail
    go_ret
    rw [HN.out]
    exact Ret.nil _ _ b2
  · have HH := Lib.hid (headIn_true HR.out).1
    have HN : Hid (storedL xs = storedC xs (blocksC (claimsC xs))) := by unfold storedL; rw [HH.out]; exact rfl
    go_wp2_with fail
    refine (storedBy_any hC hT A n c xs _ ((hr.below b2).more b2.size) hn hnc HH.out).mono ?_
    rintro e w3 ⟨gv, rfl, hgv, hB, b3⟩
    have B3 := below_more b2 b3 b2.size
    have s2 := b2.size
    have lB := hB.lt
    clear b3
    go_wp2_with (at_make; refine wpList_make_full _ rfl _ _ 24 rfl w3.heap.size 2 i0 (.int .i64 0) 1 Tryz.underlying24 hi0 hz0 hz1 .i64 .i64 _ _ 64 rfl rfl rfl rfl (by rw [hz2]; omega) (by simp only [maxLen]; omega) (Nat.le_refl _) ?_; intro w4 hown hg; rw [made_iv] at hown)
    have o4 := zeros_ow hown
    have lo := ow_lt o4
    have b4 : Below w3.heap.size w3 w4 := below_grown hg (Nat.le_refl _) (fun _ h => by cases h)
    have B4 := below_more B3 b4 B3.size
    have HB4 := Lib.hid (hB.below b4)
    have s3 := B3.size
    clear hown hg hi0 hz0 hz1 hz2 b1 b2 b4 hB B3
    generalize w3.heap.size = g at *
    generalize hbs : blocksC (claimsC xs) = bs at *
    have HBS := Lib.hid hbs
    clear hbs
    go_loopw [20] (fun i wr => ∃ k : Nat, k ≤ 64 ∧ i = .int .i64 k ∧ Ow wr g (g + 1) (some ⟨g, 0, none⟩) 64 64 (storedTo xs bs k) ∧ w4.grownBy wr (some g)) (fun i _ => 64 - (intOf i).toNat)
    case atStart => exact ⟨0, by omega, rfl, o4, grown_refl _ _⟩
    case round =>
      obtain ⟨k, hk, rfl, hok, hg⟩ := hrel
      by_cases hlt : k < 64
      · have HBk := Lib.hid (HB4.out.kept hg (fun e => by injection e with e; omega))
        have HE := Lib.hid (storedTo_step xs bs k hlt)
        have hco := hok.cell hlt
        have hfo := hok.free k
        have HSt := Lib.hid (hok.set k (stored_at xs bs k))
        go_wp2_with fail
        refine (stored1_any xs bs gv k hlt wr HBk.out).mono ?_
        rintro e w' ⟨rfl, rfl⟩
        generalize stored_at xs bs k = y at *
        go_wp2_with fail
        go_roundw
        case rel =>
          obtain ⟨h1, h2⟩ := HSt.out
          exact ⟨k + 1, by omega, by go_num, by rw [← HE.out]; exact h1, grown_trans hg h2⟩
        case measure => simp [intOf]; omega
      · obtain rfl : k = 64 := by omega
        go_wp2_with fail
        go_ret
        rw [storedTo_all] at hok
        rw [HN.out]
        have sg := hg.size
        exact ⟨_, 64, 64, rfl, hok.more (by omega) (by omega), below_of_grown B4 hg (by omega)⟩
end Go.Proofs.YtfolbhjljpnjlabGreat
