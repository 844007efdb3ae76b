/- ClaimsIn, LooseIn, counts and blocks: plain functions, and that the model's Go functions compute them. Counts, blocks, what is stored: that the model's Go functions compute them. What is stored (StoredIn), the model's side. -/
import Derived.Test.YtiokfhdkbpoadaaGreatDoorG2
namespace Go.Proofs.YtiokfhdkbpoadaaGreatDoor
open Go.RowKit

def claimsL (xs : List Int) : List Cm := if hasHead xs = true then claimsC xs else []
def looseL (xs : List Int) : List Cm := (claimsL xs).filter (fun c => !c.good)
def cntStep (o : List Int) (c : Cm) : List Int := if c.good = true then o.set c.target.toNat (o.getD c.target.toNat 0 + 1) else o
def countsC (l : List Cm) : List Int := l.foldl cntStep (List.replicate 64 0)
def blkStep (o : List Int) (c : Cm) : List Int := if c.good = true ∧ c.kind = 4 then o.set c.slot.toNat c.target else o
def blocksC (l : List Cm) : List Int := l.foldl blkStep (List.replicate 8 0)
def storedC (xs bs : List Int) : List Int := (List.range 64).map (fun c => if bs.getD (c / 8) 0 ≠ 0 then (cl xs (bs.getD (c / 8) 0).toNat).getD (c % 8) 0 else 0)
def storedL (xs : List Int) : List Int := if hasHead xs = true then storedC xs (blocksC (claimsC xs)) else []

theorem getD_set (o : List Int) (i j : Nat) (x : Int) : (o.set i x).getD j 0 = if i = j ∧ i < o.length then x else o.getD j 0 := by
  rw [List.getD_eq_getElem?_getD, List.getElem?_set, List.getD_eq_getElem?_getD]
  by_cases h : i = j
  · subst h
    by_cases h2 : i < o.length
    · simp [h2]
    · simp [h2]
  · simp [h]

theorem cnt_inv (l : List Cm) : ∀ (o : List Int) (B : Int), (∀ j, 0 ≤ o.getD j 0 ∧ o.getD j 0 ≤ B) → (l.foldl cntStep o).length = o.length ∧ ∀ j, 0 ≤ (l.foldl cntStep o).getD j 0 ∧ (l.foldl cntStep o).getD j 0 ≤ B + l.length := by
  induction l with
  | nil => intro o B h; exact ⟨rfl, fun j => by simpa using h j⟩
  | cons c l ih =>
    intro o B h
    have h1 : (cntStep o c).length = o.length := by unfold cntStep; split <;> simp
    have h2 : ∀ j, 0 ≤ (cntStep o c).getD j 0 ∧ (cntStep o c).getD j 0 ≤ B + 1 := by
      intro j
      unfold cntStep
      split
      · rw [getD_set]
        have := h j
        have := h c.target.toNat
        split <;> omega
      · have := h j; omega
    obtain ⟨h3, h4⟩ := ih (cntStep o c) (B + 1) h2
    refine ⟨by rw [List.foldl_cons, h3, h1], fun j => ?_⟩
    have := h4 j
    rw [List.foldl_cons, List.length_cons]
    omega
theorem zeros_get (n j : Nat) : (List.replicate n (0 : Int)).getD j 0 = 0 := by
  rw [List.getD_eq_getElem?_getD, List.getElem?_replicate]; split <;> rfl
theorem cnt_take (l : List Cm) (k : Nat) : ((l.take k).foldl cntStep (List.replicate 64 0)).length = 64 ∧ ∀ j, 0 ≤ ((l.take k).foldl cntStep (List.replicate 64 0)).getD j 0 ∧ ((l.take k).foldl cntStep (List.replicate 64 0)).getD j 0 ≤ k := by
  obtain ⟨h1, h2⟩ := cnt_inv (l.take k) (List.replicate 64 0) 0 (fun j => by rw [zeros_get]; omega)
  refine ⟨by rw [h1]; simp, fun j => ?_⟩
  have := h2 j
  have : (l.take k).length ≤ k := List.length_take_le _ _
  omega
theorem blk_len (l : List Cm) : ∀ o : List Int, (l.foldl blkStep o).length = o.length := by
  induction l with
  | nil => intro o; rfl
  | cons c l ih => intro o; rw [List.foldl_cons, ih]; unfold blkStep; split <;> simp
theorem blk_all (P : Int → Prop) (l : List Cm) : ∀ o : List Int, (∀ j, P (o.getD j 0)) → (∀ c ∈ l, c.good = true → c.kind = 4 → P c.target) → ∀ j, P ((l.foldl blkStep o).getD j 0) := by
  induction l with
  | nil => intro o h _; exact h
  | cons c l ih =>
    intro o h hc
    rw [List.foldl_cons]
    refine ih _ (fun j => ?_) (fun x hx => hc x (by simp [hx]))
    unfold blkStep
    split
    · rename_i hk
      rw [getD_set]
      split
      · exact hc c (by simp) hk.1 hk.2
      · exact h j
    · exact h j
/-- A block is none, or there. -/
theorem blocks_there (xs : List Int) (j : Nat) : (blocksC (claimsC xs)).getD j 0 = 0 ∨ thereB xs ((blocksC (claimsC xs)).getD j 0) = true := by
  refine blk_all (fun b => b = 0 ∨ thereB xs b = true) (claimsC xs) _ (fun j => .inl (zeros_get _ _)) ?_ j
  intro c hc hg hk
  rcases (claims_ok xs c hc).lead hg with h | h
  · omega
  · exact .inr h
theorem blocks_length (l : List Cm) : (blocksC l).length = 8 := by unfold blocksC; rw [blk_len]; simp
theorem counts_length (l : List Cm) : (countsC l).length = 64 := by
  have := (cnt_take l l.length).1
  rwa [List.take_length] at this
/-- Where a good claim leads. -/
theorem good_target {xs : List Int} (hh : hasHead xs = true) {c : Cm} (hc : c ∈ claimsC xs) (hg : c.good = true) : 0 ≤ c.target ∧ c.target < manyN xs := by
  have hl := hasHead_len hh
  rcases (claims_ok xs c hc).lead hg with h | h
  · have : 0 < manyN xs := by unfold manyN; omega
    omega
  · have := there_lt h
    omega

set_option maxHeartbeats 1000000 in
theorem specClaimsIn_any (A : Option Addr) (n cb : Nat) (xs : List Int) (w : World) (hr : Rd w w.heap.size A n xs) (hn : n ≤ 2097152) :
    Calls Tryz.prog 106 #[.slice A n cb] w (RetCm w (claimsL xs)) := by
  go_enter Tryz.func106, Tryz.ntmps106
  go_wp2_with fail
  refine (specHeadIn_any _ _ _ xs _ hr hn).mono ?_
  rintro e w1 ⟨rfl, b1⟩
  generalize hh : headIn xs = r
  obtain ⟨⟨s, f, r, u, m⟩, is⟩ := r
  have HR := Lib.hid hh
  clear hh
  unfold hdV
  have b2 := b1.alloc b1.size (.cells #[.int .i64 s, .int .i64 f, .int .i64 r, .int .i64 u, .int .i64 m] 31)
  cases is
  · have HN : Hid (claimsL xs = []) := by unfold claimsL; rw [(headIn_false HR.out).1]; exact rfl
    go_wp2_with fail
    go_ret
    rw [HN.out]
    exact ⟨w1.heap.size + 1, 0, rfl, emptyV _ _ _ _ _ _ b2.size (by simp) (by simp), b2.alloc b2.size _⟩
  · have HN : Hid (claimsL xs = claimsC xs) := by unfold claimsL; rw [(headIn_true HR.out).1]; exact rfl
    go_wp2_with fail
    refine (specClaims_any A n cb xs _ ((hr.below b2).more b2.size) hn (headIn_true HR.out).1).mono ?_
    rintro e w3 ⟨g, c, rfl, ho, b3⟩
    go_wp2_with fail
    go_ret
    rw [HN.out]
    exact ⟨g, c, rfl, ho.more b2.size (Nat.le_refl _), below_more b2 b3 b2.size⟩

theorem loose_step (l : List Cm) (k : Nat) (hk : k < l.length) : (l.take (k + 1)).filter (fun c => !c.good) = if (l.getD k cm0).good = true then (l.take k).filter (fun c => !c.good) else (l.take k).filter (fun c => !c.good) ++ [l.getD k cm0] := by
  rw [List.take_succ_eq_append_getElem hk, List.filter_append, List.getD_eq_getElem?_getD, List.getElem?_eq_getElem hk]
  simp only [Option.getD_some]
  by_cases h : l[k].good = true
  · rw [if_pos h]; simp [h]
  · rw [if_neg h]; simp [h]
theorem claimsL_length (xs : List Int) : (claimsL xs).length ≤ 1296 := by
  unfold claimsL; split
  · exact claims_length xs
  · simp

set_option maxRecDepth 100000 in
set_option maxHeartbeats 2000000 in
theorem specLoose_any (A : Option Addr) (n cb : Nat) (xs : List Int) (w : World) (hr : Rd w w.heap.size A n xs) (hn : n ≤ 2097152) :
    Calls Tryz.prog 78 #[.slice A n cb] w (RetCm w (looseL xs)) := by
  obtain ⟨i0, hi0, hz0, hz1, hz2⟩ := info_parts infoCm
  have b1 := (Below.refl w.heap.size w).alloc (Nat.le_refl _) (.cells #[] 80)
  have o1 := emptyV 80 6 w w.heap.size (w.heap.size + 1) w.heap.size (Nat.le_refl _) rfl (by omega)
  go_enter Tryz.func78, Tryz.ntmps78
  go_wp2_with fail
  refine (specClaimsIn_any A n cb xs _ ((hr.below b1).more b1.size) hn).mono ?_
  rintro e w2 ⟨g, c, rfl, ho, b2⟩
  have hs2 := b2.size
  have hsz : (w.alloc (.cells #[] 80)).heap.size = w.heap.size + 1 := by simp
  rw [hsz] at hs2
  have hgl := ho.low
  rw [hsz] at hgl
  have hgt := ho.lt
  have o2 := o1.below b2 (by omega)
  have b02 := below_more b1 b2 b1.size
  have HL : Hid (looseL xs = (claimsL xs).filter (fun c => !c.good)) := rfl
  have hll := claimsL_length xs
  have HR := Lib.hid ho.rd
  clear hsz b1 b2 o1 ho
  generalize claimsL xs = l at *
  go_wp2_with fail
  go_loopw [3, 5] (fun v i wr => ∃ (k g' c' : Nat), k ≤ l.length ∧ i = .int .i64 k ∧ v = .slice (some ⟨g', 0, none⟩) ((l.take k).filter (fun c => !c.good)).length c' ∧
    OwV 80 6 wr w.heap.size wr.heap.size g' ((l.take k).filter (fun c => !c.good)).length c' (((l.take k).filter (fun c => !c.good)).flatMap cmV) ∧ w2.grownBy wr (some w.heap.size) ∧ (g' = w.heap.size ∨ w2.heap.size ≤ g')) (fun _ i _ => l.length - (intOf i).toNat)
  case atStart => exact ⟨0, w.heap.size, 0, Nat.zero_le _, rfl, rfl, o2.more (Nat.le_refl _) (by omega), grown_refl _ _, .inl rfl⟩
  case round =>
    obtain ⟨k, g', c', hk, rfl, rfl, hok, hg, hat⟩ := hrel
    have AT := Lib.hid hat
    clear hat
    have sr := hg.size
    by_cases hlt : k < l.length
    · have hce := cm_cells (HR.out.grown hg hgt (by show g ≠ _; omega)) hlt
      have HS := Lib.hid (loose_step l k hlt)
      have HLe := Lib.hid (show ((l.take k).filter (fun c => !c.good)).length ≤ 1296 by
        have h1 := List.length_filter_le (fun c : Cm => !c.good) (l.take k)
        have h2 : (l.take k).length ≤ k := List.length_take_le _ _
        omega)
      have hfl := HLe.out
      generalize (l.take k).filter (fun c => !c.good) = fs at *
      generalize l.getD k cm0 = x at *
      obtain ⟨xk, xf, xs', xp, xt, xg⟩ := x
      have e0 : wr.cell? ⟨g, k * 6, none⟩ = some (.int .i64 xk) := hce 0 (by omega)
      have e1 : wr.cell? ⟨g, k * 6 + 1, none⟩ = some (.int .i64 xf) := hce 1 (by omega)
      have e2 : wr.cell? ⟨g, k * 6 + 2, none⟩ = some (.int .i64 xs') := hce 2 (by omega)
      have e3 : wr.cell? ⟨g, k * 6 + 3, none⟩ = some (.int .i64 xp) := hce 3 (by omega)
      have e4 : wr.cell? ⟨g, k * 6 + 4, none⟩ = some (.int .i64 xt) := hce 4 (by omega)
      have e5 : wr.cell? ⟨g, k * 6 + 5, none⟩ = some (.bool xg) := hce 5 (by omega)
      clear hce
      cases xg
      · have HE : Hid ((l.take (k + 1)).filter (fun c => !c.good) = fs ++ [⟨xk, xf, xs', xp, xt, false⟩]) := by rw [HS.out]; simp [Hid]
        clear HS
        go_wp2_with (at_builtin; refine wpList_append_lit rfl (.tmp 21) (.tmp 26) 77 rfl 80 6 48 _ i0 Tryz.underlying77 hi0 hz0 hz1 hz2 rfl (by omega) (by omega) w.heap.size wr.heap.size g' fs.length c' _ rfl hok #[.int .i64 xk, .int .i64 xf, .int .i64 xs', .int .i64 xp, .int .i64 xt, .bool false] 1 1 rfl rfl (by simp [Value.oneCell']) (by omega) (by omega) ?_; intro g2 cd w5 ho5 hgr hat _)
        go_roundw
        case rel =>
          refine ⟨k + 1, g2, cd, by omega, by go_num, by rw [HE.out]; simp, ?_, grown_next hg AT.out hgr, by have := AT.out; omega⟩
          rw [HE.out, List.flatMap_append, List.length_append]
          exact ho5
        case measure => simp [intOf]; omega
      · have HE : Hid ((l.take (k + 1)).filter (fun c => !c.good) = fs) := by rw [HS.out]; simp [Hid]
        clear HS
        go_wp2_with fail
        go_roundw
        case rel => exact ⟨k + 1, g', c', by omega, by go_num, by rw [HE.out], by rw [HE.out]; exact hok, hg, AT.out⟩
        case measure => simp [intOf]; omega
    · obtain rfl : k = l.length := by omega
      go_wp2_with fail
      go_ret
      rw [List.take_length] at hok ⊢
      rw [HL.out]
      exact ⟨g', c', rfl, hok, below_of_grown b02 hg (Nat.le_refl _)⟩

theorem ow_lt {w : World} {lo hi g n c : Nat} {xs : List Int} (h : Ow w lo hi (some ⟨g, 0, none⟩) n c xs) : g < w.heap.size := (h.own.lt g rfl).2

/-- A new slice of zeros. -/
theorem zeros_ow {w w1 : World} {n : Nat} (hown : w1.ownsRow w.heap.size 2 1 (.slice (some ⟨w.heap.size, 0, none⟩) n n) n (iv (List.replicate n 0))) : Ow w1 w.heap.size (w.heap.size + 1) (some ⟨w.heap.size, 0, none⟩) n n (List.replicate n 0) :=
  ⟨hown, fun g hg => by simp [Value.ownBlock] at hg; omega⟩

set_option maxRecDepth 100000 in
set_option maxHeartbeats 2000000 in
theorem specCounts_any (A : Option Addr) (n cb : Nat) (xs : List Int) (w : World) (hr : Rd w w.heap.size A n xs) (hn : n ≤ 2097152) (hh : hasHead xs = true) :
    Calls Tryz.prog 107 #[.slice A n cb] w (RetS w (countsC (claimsC xs))) := by
  obtain ⟨i0, hi0, hz0, hz1, hz2⟩ := info_parts info2
  have HH := Lib.hid hh
  have HM := Lib.hid (manyN_le (hasHead_img hh))
  clear hh
  go_enter Tryz.func107, Tryz.ntmps107
  go_wp2_with (at_make; refine wpList_make_full _ rfl _ _ 22 rfl w.heap.size 2 i0 (.int .i64 0) 1 Tryz.underlying22 hi0 hz0 hz1 .i64 .i64 _ _ 64 rfl rfl rfl rfl (by rw [hz2]; omega) (by simp only [maxLen]; omega) (Nat.le_refl _) ?_; intro w1 hown hg; rw [made_iv] at hown)
  have hb1 : Below w.heap.size w w1 := below_grown hg (Nat.le_refl _) (fun _ h => by cases h)
  have ho1 := zeros_ow hown
  have hlt1 := ow_lt ho1
  clear hown hg hi0 hz0 hz1 hz2
  refine (specClaims_any A n cb xs w1 ((hr.below hb1).more hb1.size) hn HH.out).mono ?_
  rintro e w2 ⟨g, c, rfl, ho, b2⟩
  have hs2 := b2.size
  have hgl := ho.low
  have hgt := ho.lt
  have o2 := ho1.below b2 (by omega)
  have b02 := below_more hb1 b2 hb1.size
  have HR := Lib.hid ho.rd
  have hll := claims_length xs
  have HT := Lib.hid (fun c hc hg => good_target HH.out (c := c) hc hg)
  clear hb1 b2 ho1 ho
  generalize claimsC xs = l at *
  go_wp2_with fail
  go_loopw [5] (fun i wr => ∃ k : Nat, k ≤ l.length ∧ i = .int .i64 k ∧ Ow wr w.heap.size (w.heap.size + 1) (some ⟨w.heap.size, 0, none⟩) 64 64 ((l.take k).foldl cntStep (List.replicate 64 0)) ∧ w2.grownBy wr (some w.heap.size)) (fun i _ => l.length - (intOf i).toNat)
  case atStart => exact ⟨0, Nat.zero_le _, rfl, o2, grown_refl _ _⟩
  case round =>
    obtain ⟨k, hk, rfl, hok, hg⟩ := hrel
    have sr := hg.size
    by_cases hlt : k < l.length
    · have hce := cm_cells (HR.out.grown hg hgt (by show g ≠ _; omega)) hlt
      have HS := Lib.hid (take_fold cntStep l (List.replicate 64 0) k hlt)
      have hgd : l.getD k cm0 = l[k] := by simp [List.getD_eq_getElem?_getD, hlt]
      have HTk := Lib.hid (HT.out _ (List.getElem_mem hlt))
      rw [hgd] at hce
      clear hgd
      obtain ⟨_, hbd⟩ := cnt_take l k
      have HB := Lib.hid hbd
      clear hbd
      generalize (l.take k).foldl cntStep (List.replicate 64 0) = fs at *
      generalize l[k] = x at *
      obtain ⟨xk, xf, xs', xp, xt, xg⟩ := x
      have e4 : wr.cell? ⟨g, k * 6 + 4, none⟩ = some (.int .i64 xt) := hce 4 (by omega)
      have e5 : wr.cell? ⟨g, k * 6 + 5, none⟩ = some (.bool xg) := hce 5 (by omega)
      clear hce
      cases xg
      · have HE : Hid ((l.take (k + 1)).foldl cntStep (List.replicate 64 0) = fs) := by rw [HS.out]; simp [cntStep, Hid]
        clear HS
        go_wp2_with fail
        go_roundw
        case rel => exact ⟨k + 1, by omega, by go_num, by rw [HE.out]; exact hok, hg⟩
        case measure => simp [intOf]; omega
      · have HE : Hid ((l.take (k + 1)).foldl cntStep (List.replicate 64 0) = fs.set xt.toNat (fs.getD xt.toNat 0 + 1)) := by rw [HS.out]; simp [cntStep, Hid]
        obtain ⟨t0, t1⟩ := HTk.out rfl
        simp only at t0 t1
        obtain ⟨τ, rfl⟩ := Int.eq_ofNat_of_zero_le t0
        have hτ : τ < 64 := by have := HM.out; omega
        have hco := hok.cell hτ
        have hfo := hok.free τ
        have hbd := HB.out τ
        obtain ⟨v0, v1⟩ := hbd
        have HSt := Lib.hid (hok.set τ (fs.getD τ 0 + 1))
        rw [Int.toNat_natCast] at HE
        clear HS HTk t0 t1
        generalize fs.getD τ 0 = v at *
        go_wp2_with fail
        have n1 : IntKind.i64.wrap (v + 1) = v + 1 := IntWalk.i64_in _ (by omega)
        have n2 : (0 : Int) ≤ (k : Int) := by omega
        have n3 : (k : Int) < (l.length : Int) := by omega
        have n4 : (τ : Int) < 64 := by omega
        have n5 : (0 : Int) ≤ (τ : Int) := by omega
        go_still_tail 16, (by kernel_rfl)
        change wpList _ _ _ _ _ wr.drew
        go_wp2_with fail
        go_roundw
        case rel =>
          obtain ⟨h1, h2⟩ := HSt.out
          refine ⟨k + 1, by omega, by go_num, ?_, ?_⟩
          · rw [HE.out]; exact h1.drew
          · exact grown_trans hg (grown_drew h2)
        case measure => simp [intOf]; omega
    · obtain rfl : k = l.length := by omega
      go_wp2_with fail
      go_ret
      rw [List.take_length] at hok
      exact ⟨w.heap.size, 64, 64, rfl, Nat.le_refl _, hok.more (Nat.le_refl _) (by omega), below_of_grown b02 hg (Nat.le_refl _)⟩

set_option maxRecDepth 100000 in
set_option maxHeartbeats 2000000 in
theorem specBlocks_any (A : Option Addr) (n cb : Nat) (xs : List Int) (w : World) (hr : Rd w w.heap.size A n xs) (hn : n ≤ 2097152) (hh : hasHead xs = true) :
    Calls Tryz.prog 113 #[.slice A n cb] w (RetS w (blocksC (claimsC xs))) := by
  obtain ⟨i0, hi0, hz0, hz1, hz2⟩ := info_parts info2
  have HH := Lib.hid hh
  clear hh
  go_enter Tryz.func113, Tryz.ntmps113
  go_wp2_with (at_make; refine wpList_make_full _ rfl _ _ 22 rfl w.heap.size 2 i0 (.int .i64 0) 1 Tryz.underlying22 hi0 hz0 hz1 .i64 .i64 _ _ 8 rfl rfl rfl rfl (by rw [hz2]; omega) (by simp only [maxLen]; omega) (Nat.le_refl _) ?_; intro w1 hown hg; rw [made_iv] at hown)
  have hb1 : Below w.heap.size w w1 := below_grown hg (Nat.le_refl _) (fun _ h => by cases h)
  have ho1 := zeros_ow hown
  have hlt1 := ow_lt ho1
  clear hown hg hi0 hz0 hz1 hz2
  refine (specClaims_any A n cb xs w1 ((hr.below hb1).more hb1.size) hn HH.out).mono ?_
  rintro e w2 ⟨g, c, rfl, ho, b2⟩
  have hs2 := b2.size
  have hgl := ho.low
  have hgt := ho.lt
  have o2 := ho1.below b2 (by omega)
  have b02 := below_more hb1 b2 hb1.size
  have HR := Lib.hid ho.rd
  have hll := claims_length xs
  have HT := Lib.hid (claims_ok xs)
  clear hb1 b2 ho1 ho
  generalize claimsC xs = l at *
  go_wp2_with fail
  go_loopw [5] (fun i wr => ∃ k : Nat, k ≤ l.length ∧ i = .int .i64 k ∧ Ow wr w.heap.size (w.heap.size + 1) (some ⟨w.heap.size, 0, none⟩) 8 8 ((l.take k).foldl blkStep (List.replicate 8 0)) ∧ w2.grownBy wr (some w.heap.size)) (fun i _ => l.length - (intOf i).toNat)
  case atStart => exact ⟨0, Nat.zero_le _, rfl, o2, grown_refl _ _⟩
  case round =>
    obtain ⟨k, hk, rfl, hok, hg⟩ := hrel
    have sr := hg.size
    by_cases hlt : k < l.length
    · have hce := cm_cells (HR.out.grown hg hgt (by show g ≠ _; omega)) hlt
      have HS := Lib.hid (take_fold blkStep l (List.replicate 8 0) k hlt)
      have hgd : l.getD k cm0 = l[k] := by simp [List.getD_eq_getElem?_getD, hlt]
      have HTk := Lib.hid (HT.out _ (List.getElem_mem hlt))
      rw [hgd] at hce
      clear hgd
      generalize (l.take k).foldl blkStep (List.replicate 8 0) = fs at *
      generalize l[k] = x at *
      obtain ⟨xk, xf, xs', xp, xt, xg⟩ := x
      have e0 : wr.cell? ⟨g, k * 6, none⟩ = some (.int .i64 xk) := hce 0 (by omega)
      have e2 : wr.cell? ⟨g, k * 6 + 2, none⟩ = some (.int .i64 xs') := hce 2 (by omega)
      have e4 : wr.cell? ⟨g, k * 6 + 4, none⟩ = some (.int .i64 xt) := hce 4 (by omega)
      have e5 : wr.cell? ⟨g, k * 6 + 5, none⟩ = some (.bool xg) := hce 5 (by omega)
      clear hce
      cases xg
      · have HE : Hid ((l.take (k + 1)).foldl blkStep (List.replicate 8 0) = fs) := by rw [HS.out]; simp [blkStep, Hid]
        clear HS
        go_wp2_with fail
        go_roundw
        case rel => exact ⟨k + 1, by omega, by go_num, by rw [HE.out]; exact hok, hg⟩
        case measure => simp [intOf]; omega
      · by_cases hk4 : xk = 4
        · subst hk4
          have HE : Hid ((l.take (k + 1)).foldl blkStep (List.replicate 8 0) = fs.set xs'.toNat xt) := by rw [HS.out]; simp [blkStep, Hid]
          have t0 : 0 ≤ xs' := HTk.out.slot0
          have t1 : xs' ≤ 7 := HTk.out.slot1
          obtain ⟨τ, rfl⟩ := Int.eq_ofNat_of_zero_le t0
          have hτ : τ < 8 := by omega
          have hco := hok.cell hτ
          have hfo := hok.free τ
          have HSt := Lib.hid (hok.set τ xt)
          rw [Int.toNat_natCast] at HE
          clear HS HTk t0 t1
          go_wp2_with fail
          have n2 : (0 : Int) ≤ (k : Int) := by omega
          have n3 : (k : Int) < (l.length : Int) := by omega
          have n4 : (τ : Int) < 8 := by omega
          have n5 : (0 : Int) ≤ (τ : Int) := by omega
          go_still_tail 12, (by kernel_rfl)
          change wpList _ _ _ _ _ wr.drew
          go_wp2_with fail
          go_roundw
          case rel =>
            obtain ⟨h1, h2⟩ := HSt.out
            refine ⟨k + 1, by omega, by go_num, ?_, ?_⟩
            · rw [HE.out]; exact h1.drew
            · exact grown_trans hg (grown_drew h2)
          case measure => simp [intOf]; omega
        · have hd4 : (xk == 4) = false := by simpa using hk4
          have HE : Hid ((l.take (k + 1)).foldl blkStep (List.replicate 8 0) = fs) := by rw [HS.out]; simp [blkStep, hk4, Hid]
          clear HS
          go_wp2_with fail
          go_roundw
          case rel => exact ⟨k + 1, by omega, by go_num, by rw [HE.out]; exact hok, hg⟩
          case measure => simp [intOf]; omega
    · obtain rfl : k = l.length := by omega
      go_wp2_with fail
      go_ret
      rw [List.take_length] at hok
      exact ⟨w.heap.size, 8, 8, rfl, Nat.le_refl _, hok.more (Nat.le_refl _) (by omega), below_of_grown b02 hg (Nat.le_refl _)⟩

/-- What is stored, as far as it has been looked up. -/
def stored_at (xs bs : List Int) (c : Nat) : Int := if bs.getD (c / 8) 0 ≠ 0 then (cl xs (bs.getD (c / 8) 0).toNat).getD (c % 8) 0 else 0
def storedTo (xs bs : List Int) (k : Nat) : List Int := (List.range k).map (stored_at xs bs) ++ List.replicate (64 - k) 0
theorem storedTo_zero (xs bs : List Int) : storedTo xs bs 0 = List.replicate 64 0 := rfl
theorem storedTo_all (xs bs : List Int) : storedTo xs bs 64 = storedC xs bs := by simp [storedTo, storedC, stored_at]
theorem storedTo_step (xs bs : List Int) (k : Nat) (hk : k < 64) : (storedTo xs bs k).set k (stored_at xs bs k) = storedTo xs bs (k + 1) := by
  unfold storedTo
  rw [List.set_append, if_neg (by simp), List.range_succ, List.map_append, show 64 - k = (64 - (k + 1)) + 1 by omega, List.replicate_succ]
  simp
theorem storedTo_skip (xs bs : List Int) (k : Nat) (hk : k < 64) (h : stored_at xs bs k = 0) : storedTo xs bs (k + 1) = storedTo xs bs k := by
  rw [← storedTo_step xs bs k hk, h]
  apply List.ext_getElem?
  intro j
  rw [List.getElem?_set]
  by_cases hj : k = j
  · subst hj
    simp only [if_true]
    have hl : (storedTo xs bs k).length = 64 := by simp [storedTo]; omega
    rw [if_pos (by omega)]
    unfold storedTo
    rw [List.getElem?_append_right (by simp), List.getElem?_replicate]
    simp; omega
  · simp [hj]

theorem cl_word_get (xs : List Int) (a j : Nat) (h : j < 8) : (cl xs a).getD j 0 = xs.getD (a * 8 + j) 0 := by unfold cl; rw [f8_get _ j h]
theorem word_get {xs : List Int} (h : imgB xs = true) (j : Nat) : 0 ≤ xs.getD j 0 ∧ xs.getD j 0 ≤ 65535 := by
  by_cases hj : j < xs.length
  · have hw : wordsB xs = true := by simp [imgB] at h; exact h.1
    unfold wordsB at hw
    rw [List.all_eq_true] at hw
    have := inB_true.1 (hw xs[j] (List.getElem_mem hj))
    rw [List.getD_eq_getElem?_getD, List.getElem?_eq_getElem hj]
    exact this
  · rw [getD_past _ _ (by omega)]; omega

set_option maxRecDepth 100000 in
set_option maxHeartbeats 4000000 in
theorem specStored_any (A : Option Addr) (n cb : Nat) (xs : List Int) (w : World) (hr : Rd w w.heap.size A n xs) (hn : n ≤ 2097152) :
    Calls Tryz.prog 108 #[.slice A n cb] w (Ret w (storedL xs)) := by
  obtain ⟨i0, hi0, hz0, hz1, hz2⟩ := info_parts info2
  go_enter Tryz.func108, Tryz.ntmps108
  go_wp2_with fail
  refine (specHeadIn_any _ _ _ xs _ hr hn).mono ?_
  rintro e w1 ⟨rfl, b1⟩
  generalize hh : headIn xs = r
  obtain ⟨⟨s, f, r, u, m⟩, is⟩ := r
  have HR := Lib.hid hh
  clear hh
  unfold hdV
  have b2 := b1.alloc b1.size (.cells #[.int .i64 s, .int .i64 f, .int .i64 r, .int .i64 u, .int .i64 m] 31)
  cases is
  · have HN : Hid (storedL xs = []) := by unfold storedL; rw [(headIn_false HR.out).1]; exact rfl
    go_wp2_with fail
    go_ret
    rw [HN.out]
    exact Ret.emptyAt _ (by simp) b2
  · have HH := Lib.hid (headIn_true HR.out).1
    have HN : Hid (storedL xs = storedC xs (blocksC (claimsC xs))) := by unfold storedL; rw [HH.out]; exact rfl
    have hsz : (w1.alloc (.cells #[.int .i64 s, .int .i64 f, .int .i64 r, .int .i64 u, .int .i64 m] 31)).heap.size = w1.heap.size + 1 := by simp
    have HZ := Lib.hid hsz
    clear hsz
    go_wp2_with (at_make; refine wpList_make_full _ rfl _ _ 22 rfl (w1.heap.size + 1) 2 i0 (.int .i64 0) 1 Tryz.underlying22 hi0 hz0 hz1 .i64 .i64 _ _ 64 rfl rfl rfl rfl (by rw [hz2]; omega) (by simp only [maxLen]; omega) (by have := HZ.out; omega) ?_; intro w3 hown hg; rw [made_iv, HZ.out] at hown; rw [HZ.out])
    have b3 : Below w.heap.size w w3 := b2.grown hg b2.size (fun _ h => by cases h)
    have ho3 : Ow w3 (w1.heap.size + 1) (w1.heap.size + 2) (some ⟨w1.heap.size + 1, 0, none⟩) 64 64 (List.replicate 64 0) := ⟨hown, fun g hg => by simp [Value.ownBlock] at hg; omega⟩
    have hlt3 := ow_lt ho3
    have hb1 := b1.size
    clear hown hg hi0 hz0 hz1 hz2 HZ b2
    refine (specBlocks_any A n cb xs w3 ((hr.below b3).more b3.size) hn HH.out).mono ?_
    rintro e w4 ⟨gb, nb, cbk, rfl, _, ob, b4⟩
    obtain rfl : 8 = nb := by have := ob.len; rw [blocks_length] at this; exact this
    have hs4 := b4.size
    have hgb : w3.heap.size ≤ gb ∧ gb < w4.heap.size := by
      rcases ob.form with ⟨h, _⟩ | ⟨x, hx, h1, h2, _⟩
      · cases h
      · injection hx with hx; injection hx with hx; omega
    have o4 := ho3.below b4 (by omega)
    have b04 := below_more b3 b4 b3.size
    have HCB := Lib.hid (fun (j : Nat) (hj : j < 8) => ob.cell hj)
    have HTB := Lib.hid (blocks_there xs)
    have hmany := manyN_le (hasHead_img HH.out)
    clear b3 b4 ho3 ob
    generalize blocksC (claimsC xs) = bs at *
    go_wp2_with fail
    go_loopw [7] (fun i wr => ∃ k : Nat, k ≤ 64 ∧ i = .int .i64 k ∧ Ow wr (w1.heap.size + 1) (w1.heap.size + 2) (some ⟨w1.heap.size + 1, 0, none⟩) 64 64 (storedTo xs bs k) ∧ w4.grownBy wr (some (w1.heap.size + 1))) (fun i _ => 64 - (intOf i).toNat)
    case atStart => exact ⟨0, by omega, rfl, o4, grown_refl _ _⟩
    case round =>
      obtain ⟨k, hk, rfl, hok, hg⟩ := hrel
      have sr := hg.size
      by_cases hlt : k < 64
      · have hcb : wr.cell? ⟨gb, k / 8, none⟩ = some (.int .i64 (bs.getD (k / 8) 0)) := hg.cell (HCB.out (k / 8) (by omega)) (fun e => by injection e with e; have : gb = w1.heap.size + 1 := e; omega)
        have HS : Hid (stored_at xs bs k = if bs.getD (k / 8) 0 ≠ 0 then (cl xs (bs.getD (k / 8) 0).toNat).getD (k % 8) 0 else 0) := rfl
        have HT := Lib.hid (HTB.out (k / 8))
        generalize bs.getD (k / 8) 0 = v at *
        by_cases hv : v = 0
        · subst hv
          have hd : ((0 : Int) != 0) = false := by simp
          have HE := Lib.hid (storedTo_skip xs bs k hlt (by rw [HS.out]; simp))
          clear HT HS
          go_wp2_with fail
          go_roundw
          case rel => exact ⟨k + 1, by omega, by go_num, by rw [HE.out]; exact hok, hg⟩
          case measure => simp [intOf]; omega
        · have hd : (v != 0) = true := by simpa using hv
          have hth : thereB xs v = true := by rcases HT.out with h | h; exact absurd h hv; exact h
          obtain ⟨t1, t2⟩ := there_lt hth
          obtain ⟨τ, rfl⟩ := Int.eq_ofNat_of_zero_le (show 0 ≤ v by omega)
          have hr5 : Rd wr w.heap.size A n xs := (hr.below b04).grown hg (by omega) (by have := b04.size; omega)
          have HE := Lib.hid (storedTo_step xs bs k hlt)
          have HS2 : Hid (stored_at xs bs k = (cl xs τ).getD (k % 8) 0) := by rw [HS.out, if_pos hv, Int.toNat_natCast]; exact rfl
          clear HT HS hth
          go_wp2_with fail
          refine (specCluster_any A n cb τ xs wr (hr5.more (by have := b04.size; omega)) hn (by omega)).mono ?_
          rintro e w5 ⟨G, ng, cg, rfl, oG, b5⟩
          obtain rfl : 8 = ng := by have := oG.len; simpa [cl, f8_length] using this
          rcases oG.form with ⟨_, h0, _⟩ | ⟨g, rfl, g1, g2, g3, g4⟩
          · omega
          have hcg := oG.cell (j := k % 8) (by omega)
          have hok5 := hok.below b5 (by omega)
          have hco := hok5.cell hlt
          have hfo := hok5.free k
          have HSt := Lib.hid (hok5.set k ((cl xs τ).getD (k % 8) 0))
          generalize (cl xs τ).getD (k % 8) 0 = y at *
          go_wp2_with fail
          go_roundw
          case rel =>
            obtain ⟨h1, h2⟩ := HSt.out
            refine ⟨k + 1, by omega, by go_num, ?_, ?_⟩
            · rw [← HE.out, HS2.out]; exact h1
            · exact grown_trans (grown_trans hg ⟨b5.os, b5.tape, b5.output, b5.size, fun q hq _ => b5.block q hq⟩) h2
          case measure => simp [intOf]; omega
      · obtain rfl : k = 64 := by omega
        go_wp2_with fail
        go_ret
        rw [storedTo_all] at hok
        rw [HN.out]
        exact ⟨_, 64, 64, rfl, hok.more (by omega) (by omega), below_of_grown b04 hg (by omega)⟩

end Go.Proofs.YtiokfhdkbpoadaaGreatDoor
