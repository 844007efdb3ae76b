/- ClaimsIn, LooseIn, counts and blocks: plain functions, and that the model's Go functions compute them. -/
import Derived.Test.YtimbfilbojejiabGreatCmc
namespace Go.Proofs.YtimbfilbojejiabGreat
open Go.RowKit

def claimsL (xs : List Int) : List Cm := if hasHead xs = true then claimsC xs else []
def looseL (xs : List Int) : List Cm := (claimsL xs).filter (fun c => !c.good)
def cntStep (o : List Int) (c : Cm) : List Int := if c.good = true then o.set c.target.toNat (o.getD c.target.toNat 0 + 1) else o
def countsC (l : List Cm) : List Int := l.foldl cntStep (List.replicate 64 0)
def blkStep (o : List Int) (c : Cm) : List Int := if c.good = true ∧ c.kind = 4 then o.set c.slot.toNat c.target else o
def blocksC (l : List Cm) : List Int := l.foldl blkStep (List.replicate 8 0)
def storedC (xs bs : List Int) : List Int := (List.range 64).map (fun c => if bs.getD (c / 8) 0 ≠ 0 then (cl xs (bs.getD (c / 8) 0).toNat).getD (c % 8) 0 else 0)
def storedL (xs : List Int) : List Int := if hasHead xs = true then storedC xs (blocksC (claimsC xs)) else []

theorem getD_set (o : List Int) (i j : Nat) (x : Int) : (o.set i x).getD j 0 = if i = j ∧ i < o.length then x else o.getD j 0 := by
  rw [List.getD_eq_getElem?_getD, List.getElem?_set, List.getD_eq_getElem?_getD]
  by_cases h : i = j
  · subst h
    by_cases h2 : i < o.length
    · simp [h2]
    · simp [h2]
  · simp [h]

theorem cnt_inv (l : List Cm) : ∀ (o : List Int) (B : Int), (∀ j, 0 ≤ o.getD j 0 ∧ o.getD j 0 ≤ B) → (l.foldl cntStep o).length = o.length ∧ ∀ j, 0 ≤ (l.foldl cntStep o).getD j 0 ∧ (l.foldl cntStep o).getD j 0 ≤ B + l.length := by
  induction l with
  | nil => intro o B h; exact ⟨rfl, fun j => by simpa using h j⟩
  | cons c l ih =>
    intro o B h
    have h1 : (cntStep o c).length = o.length := by unfold cntStep; split <;> simp
    have h2 : ∀ j, 0 ≤ (cntStep o c).getD j 0 ∧ (cntStep o c).getD j 0 ≤ B + 1 := by
      intro j
      unfold cntStep
      split
      · rw [getD_set]
        have := h j
        have := h c.target.toNat
        split <;> omega
      · have := h j; omega
    obtain ⟨h3, h4⟩ := ih (cntStep o c) (B + 1) h2
    refine ⟨by rw [List.foldl_cons, h3, h1], fun j => ?_⟩
    have := h4 j
    rw [List.foldl_cons, List.length_cons]
    omega
theorem zeros_get (n j : Nat) : (List.replicate n (0 : Int)).getD j 0 = 0 := by
  rw [List.getD_eq_getElem?_getD, List.getElem?_replicate]; split <;> rfl
theorem cnt_take (l : List Cm) (k : Nat) : ((l.take k).foldl cntStep (List.replicate 64 0)).length = 64 ∧ ∀ j, 0 ≤ ((l.take k).foldl cntStep (List.replicate 64 0)).getD j 0 ∧ ((l.take k).foldl cntStep (List.replicate 64 0)).getD j 0 ≤ k := by
  obtain ⟨h1, h2⟩ := cnt_inv (l.take k) (List.replicate 64 0) 0 (fun j => by rw [zeros_get]; omega)
  refine ⟨by rw [h1]; simp, fun j => ?_⟩
  have := h2 j
  have : (l.take k).length ≤ k := List.length_take_le _ _
  omega
theorem blk_len (l : List Cm) : ∀ o : List Int, (l.foldl blkStep o).length = o.length := by
  induction l with
  | nil => intro o; rfl
  | cons c l ih => intro o; rw [List.foldl_cons, ih]; unfold blkStep; split <;> simp
theorem blk_all (P : Int → Prop) (l : List Cm) : ∀ o : List Int, (∀ j, P (o.getD j 0)) → (∀ c ∈ l, c.good = true → c.kind = 4 → P c.target) → ∀ j, P ((l.foldl blkStep o).getD j 0) := by
  induction l with
  | nil => intro o h _; exact h
  | cons c l ih =>
    intro o h hc
    rw [List.foldl_cons]
    refine ih _ (fun j => ?_) (fun x hx => hc x (by simp [hx]))
    unfold blkStep
    split
    · rename_i hk
      rw [getD_set]
      split
      · exact hc c (by simp) hk.1 hk.2
      · exact h j
    · exact h j
/-- A block is none, or there. -/
theorem blocks_there (xs : List Int) (j : Nat) : (blocksC (claimsC xs)).getD j 0 = 0 ∨ thereB xs ((blocksC (claimsC xs)).getD j 0) = true := by
  refine blk_all (fun b => b = 0 ∨ thereB xs b = true) (claimsC xs) _ (fun j => .inl (zeros_get _ _)) ?_ j
  intro c hc hg hk
  rcases (claims_ok xs c hc).lead hg with h | h
  · omega
  · exact .inr h
theorem blocks_length (l : List Cm) : (blocksC l).length = 8 := by unfold blocksC; rw [blk_len]; simp
theorem counts_length (l : List Cm) : (countsC l).length = 64 := by
  have := (cnt_take l l.length).1
  rwa [List.take_length] at this
/-- Where a good claim leads. -/
theorem good_target {xs : List Int} (hh : hasHead xs = true) {c : Cm} (hc : c ∈ claimsC xs) (hg : c.good = true) : 0 ≤ c.target ∧ c.target < manyN xs := by
  have hl := hasHead_len hh
  rcases (claims_ok xs c hc).lead hg with h | h
  · have : 0 < manyN xs := by unfold manyN; omega
    omega
  · have := there_lt h
    omega

set_option maxHeartbeats 1000000 in
theorem specClaimsIn_any (A : Option Addr) (n cb : Nat) (xs : List Int) (w : World) (hr : Rd w w.heap.size A n xs) (hn : n ≤ 2097152) :
    Calls Tryz.prog 111 #[.slice A n cb] w (RetCm w (claimsL xs)) := by
  go_enter Tryz.func111, Tryz.ntmps111
  go_wp2_with fail
  refine (specHeadIn_any _ _ _ xs _ hr hn).mono ?_
  rintro e w1 ⟨rfl, b1⟩
  generalize hh : headIn xs = r
  obtain ⟨⟨s, f, r, u, m⟩, is⟩ := r
  have HR := Lib.hid hh
  clear hh
  unfold hdV
  have b2 := b1.alloc b1.size (.cells #[.int .i64 s, .int .i64 f, .int .i64 r, .int .i64 u, .int .i64 m] 32)
  cases is
  · have HN : Hid (claimsL xs = []) := by unfold claimsL; rw [(headIn_false HR.out).1]; exact rfl
    go_wp2_with fail
    go_ret
    rw [HN.out]
    exact ⟨w1.heap.size + 1, 0, rfl, emptyV _ _ _ _ _ _ b2.size (by simp) (by simp), b2.alloc b2.size _⟩
  · have HN : Hid (claimsL xs = claimsC xs) := by unfold claimsL; rw [(headIn_true HR.out).1]; exact rfl
    go_wp2_with fail
    refine (specClaims_any A n cb xs _ ((hr.below b2).more b2.size) hn (headIn_true HR.out).1).mono ?_
    rintro e w3 ⟨g, c, rfl, ho, b3⟩
    go_wp2_with fail
    go_ret
    rw [HN.out]
    exact ⟨g, c, rfl, ho.more b2.size (Nat.le_refl _), below_more b2 b3 b2.size⟩

theorem loose_step (l : List Cm) (k : Nat) (hk : k < l.length) : (l.take (k + 1)).filter (fun c => !c.good) = if (l.getD k cm0).good = true then (l.take k).filter (fun c => !c.good) else (l.take k).filter (fun c => !c.good) ++ [l.getD k cm0] := by
  rw [List.take_succ_eq_append_getElem hk, List.filter_append, List.getD_eq_getElem?_getD, List.getElem?_eq_getElem hk]
  simp only [Option.getD_some]
  by_cases h : l[k].good = true
  · rw [if_pos h]; simp [h]
  · rw [if_neg h]; simp [h]
theorem claimsL_length (xs : List Int) : (claimsL xs).length ≤ 1296 := by
  unfold claimsL; split
  · exact claims_length xs
  · simp

set_option maxRecDepth 100000 in
set_option maxHeartbeats 2000000 in
theorem specLoose_any (A : Option Addr) (n cb : Nat) (xs : List Int) (w : World) (hr : Rd w w.heap.size A n xs) (hn : n ≤ 2097152) :
    Calls Tryz.prog 103 #[.slice A n cb] w (RetCm w (looseL xs)) := by
  obtain ⟨i0, hi0, hz0, hz1, hz2⟩ := info_parts infoCm
  have b1 := (Below.refl w.heap.size w).alloc (Nat.le_refl _) (.cells #[] 54)
  have o1 := emptyV 54 6 w w.heap.size (w.heap.size + 1) w.heap.size (Nat.le_refl _) rfl (by omega)
  go_enter Tryz.func103, Tryz.ntmps103
  go_wp2_with fail
  refine (specClaimsIn_any A n cb xs _ ((hr.below b1).more b1.size) hn).mono ?_
  rintro e w2 ⟨g, c, rfl, ho, b2⟩
  have hs2 := b2.size
  have hsz : (w.alloc (.cells #[] 54)).heap.size = w.heap.size + 1 := by simp
  rw [hsz] at hs2
  have hgl := ho.low
  rw [hsz] at hgl
  have hgt := ho.lt
  have o2 := o1.below b2 (by omega)
  have b02 := below_more b1 b2 b1.size
  have HL : Hid (looseL xs = (claimsL xs).filter (fun c => !c.good)) := rfl
  have hll := claimsL_length xs
  have HR := Lib.hid ho.rd
  clear hsz b1 b2 o1 ho
  generalize claimsL xs = l at *
  go_wp2_with fail
  go_loopw [3, 5] (fun v i wr => ∃ (k g' c' : Nat), k ≤ l.length ∧ i = .int .i64 k ∧ v = .slice (some ⟨g', 0, none⟩) ((l.take k).filter (fun c => !c.good)).length c' ∧
    OwV 54 6 wr w.heap.size wr.heap.size g' ((l.take k).filter (fun c => !c.good)).length c' (((l.take k).filter (fun c => !c.good)).flatMap cmV) ∧ w2.grownBy wr (some w.heap.size) ∧ (g' = w.heap.size ∨ w2.heap.size ≤ g')) (fun _ i _ => l.length - (intOf i).toNat)
  case atStart => exact ⟨0, w.heap.size, 0, Nat.zero_le _, rfl, rfl, o2.more (Nat.le_refl _) (by omega), grown_refl _ _, .inl rfl⟩
  case round =>
    obtain ⟨k, g', c', hk, rfl, rfl, hok, hg, hat⟩ := hrel
    have AT := Lib.hid hat
    clear hat
    have sr := hg.size
    by_cases hlt : k < l.length
    · have hce := cm_cells (HR.out.grown hg hgt (by show g ≠ _; omega)) hlt
      have HS := Lib.hid (loose_step l k hlt)
      have HLe := Lib.hid (show ((l.take k).filter (fun c => !c.good)).length ≤ 1296 by
        have h1 := List.length_filter_le (fun c : Cm => !c.good) (l.take k)
        have h2 : (l.take k).length ≤ k := List.length_take_le _ _
        omega)
      have hfl := HLe.out
      generalize (l.take k).filter (fun c => !c.good) = fs at *
      generalize l.getD k cm0 = x at *
      obtain ⟨xk, xf, xs', xp, xt, xg⟩ := x
      have e0 : wr.cell? ⟨g, k * 6, none⟩ = some (.int .i64 xk) := hce 0 (by omega)
      have e1 : wr.cell? ⟨g, k * 6 + 1, none⟩ = some (.int .i64 xf) := hce 1 (by omega)
      have e2 : wr.cell? ⟨g, k * 6 + 2, none⟩ = some (.int .i64 xs') := hce 2 (by omega)
      have e3 : wr.cell? ⟨g, k * 6 + 3, none⟩ = some (.int .i64 xp) := hce 3 (by omega)
      have e4 : wr.cell? ⟨g, k * 6 + 4, none⟩ = some (.int .i64 xt) := hce 4 (by omega)
      have e5 : wr.cell? ⟨g, k * 6 + 5, none⟩ = some (.bool xg) := hce 5 (by omega)
      clear hce
      cases xg
      · have HE : Hid ((l.take (k + 1)).filter (fun c => !c.good) = fs ++ [⟨xk, xf, xs', xp, xt, false⟩]) := by rw [HS.out]; simp [Hid]
        clear HS
        go_wp2_with (at_builtin; refine wpList_append_lit rfl (.tmp 21) (.tmp 26) 51 rfl 54 6 48 _ i0 Tryz.underlying51 hi0 hz0 hz1 hz2 rfl (by omega) (by omega) w.heap.size wr.heap.size g' fs.length c' _ rfl hok #[.int .i64 xk, .int .i64 xf, .int .i64 xs', .int .i64 xp, .int .i64 xt, .bool false] 1 1 rfl rfl (by simp [Value.oneCell']) (by omega) (by omega) ?_; intro g2 cd w5 ho5 hgr hat _)
        go_roundw
        case rel =>
          refine ⟨k + 1, g2, cd, by omega, by go_num, by rw [HE.out]; simp, ?_, grown_next hg AT.out hgr, by have := AT.out; omega⟩
          rw [HE.out, List.flatMap_append, List.length_append]
          exact ho5
        case measure => simp [intOf]; omega
      · have HE : Hid ((l.take (k + 1)).filter (fun c => !c.good) = fs) := by rw [HS.out]; simp [Hid]
        clear HS
        go_wp2_with fail
        go_roundw
        case rel => exact ⟨k + 1, g', c', by omega, by go_num, by rw [HE.out], by rw [HE.out]; exact hok, hg, AT.out⟩
        case measure => simp [intOf]; omega
    · obtain rfl : k = l.length := by omega
      go_wp2_with fail
      go_ret
      rw [List.take_length] at hok ⊢
      rw [HL.out]
      exact ⟨g', c', rfl, hok, below_of_grown b02 hg (Nat.le_refl _)⟩

end Go.Proofs.YtimbfilbojejiabGreat
