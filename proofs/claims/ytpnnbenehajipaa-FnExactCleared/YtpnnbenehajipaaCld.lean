/- Cleared (chapter 12): plain functions, and that the model's Go functions compute them. -/
import Derived.Test.YtpnnbenehajipaaCnt
import Derived.Test.YtpnnbenehajipaaWcl
import Derived.StillTailTactics
import Derived.Deep.RegionLaw
namespace Go.Proofs.Ytpnnbenehajipaa
open Go.RowKit

theorem range_next {β : Type} (f : β → Nat → β) (z : β) (k : Nat) : (List.range (k + 1)).foldl f z = f ((List.range k).foldl f z) k := by
  rw [List.range_succ, List.foldl_append]; rfl
/-- The pairs that stay. -/
def pairW (b : List Int) (c : Cm) : List Int := [((shotsL b).getD c.slot.toNat (0, 0)).1, ((shotsL b).getD c.slot.toNat (0, 0)).2]
def keepW (b : List Int) : List Int := ((claimsC b).filter (fun c => c.kind == 6 && c.good)).flatMap (pairW b)
def keepStep (h : Hd) (kw : List Int) (o : List Int) (i : Nat) : List Int := o.set (h.shots.toNat * 8 + i) (kw.getD i 0)
def keepL (h : Hd) (kw z : List Int) : List Int := (List.range (2 * h.many).toNat).foldl (keepStep h kw) z
def shotsOk (l : List Cm) : Bool := l.any (fun c => c.good && c.kind == 5)
def lzB (c : Cm) : Bool := !c.good && (c.kind == 4 || decide (7 ≤ c.kind))
def clrStep (o : List Int) (c : Cm) : List Int := if lzB c = true then o.set (c.frm.toNat * 8 + c.slot.toNat) 0 else o
def clr1 (b : List Int) : List Int := if shotsOk (claimsC b) = true then keepL (headOf b) (keepW b) (whole b) else whole b
def clr2 (b : List Int) : List Int := (claimsC b).foldl clrStep (clr1 b)
def clrHead (b : List Int) : Hd := ⟨(headOf b).size, if (claimsC b).any (fun c => !c.good && c.kind == 2) = true then 0 else (headOf b).first, if (claimsC b).any (fun c => !c.good && c.kind == 3) = true then 0 else (headOf b).refs,
  if ((keepW b).length / 2 : Nat) = 0 then 0 else (headOf b).shots, ((keepW b).length / 2 : Nat)⟩
/-- Of an image with a head. -/
def clrC (b : List Int) : List Int := setCl (clr2 b) 0 (hdW (clrHead b))
def clearedL (b : List Int) : List Int := if hasHead b = true then clrC b else []
theorem keep_get (h : Hd) (kw : List Int) : ∀ (k : Nat) (z : List Int) (j : Nat), h.shots.toNat * 8 + k ≤ z.length →
    ((List.range k).foldl (keepStep h kw) z).getD j 0 = (if h.shots.toNat * 8 ≤ j ∧ j < h.shots.toNat * 8 + k then kw.getD (j - h.shots.toNat * 8) 0 else z.getD j 0) ∧ ((List.range k).foldl (keepStep h kw) z).length = z.length
  | 0, z, j, _ => by
    refine ⟨?_, rfl⟩
    rw [if_neg (by omega)]
    rfl
  | k + 1, z, j, hk => by
    obtain ⟨h1, h2⟩ := keep_get h kw k z j (by omega)
    rw [range_next]
    refine ⟨?_, (List.length_set ..).trans h2⟩
    refine (getD_set _ _ _ _).trans ?_
    rw [h2, h1]
    by_cases e : h.shots.toNat * 8 + k = j
    · subst e
      rw [if_pos ⟨rfl, by omega⟩, if_pos (by omega)]
      congr 1
      omega
    · rw [if_neg (by omega)]
      by_cases h3 : h.shots.toNat * 8 ≤ j ∧ j < h.shots.toNat * 8 + k
      · rw [if_pos h3, if_pos (by omega)]
      · rw [if_neg h3, if_neg (by omega)]
theorem clr_len (l : List Cm) : ∀ z : List Int, (l.foldl clrStep z).length = z.length := by
  induction l with
  | nil => intro z; rfl
  | cons c l ih => intro z; rw [List.foldl_cons, ih]; unfold clrStep; split <;> simp
def isKept (c : Cm) : Bool := c.kind == 6 && c.good
def keepOf (b : List Int) (l : List Cm) : List Int := (l.filter isKept).flatMap (pairW b)
theorem keepOf_all (b : List Int) : keepOf b (claimsC b) = keepW b := rfl
theorem keepOf_step (b : List Int) (l : List Cm) (k : Nat) (hk : k < l.length) : keepOf b (l.take (k + 1)) = if isKept (l.getD k cm0) = true then keepOf b (l.take k) ++ pairW b (l.getD k cm0) else keepOf b (l.take k) := by
  unfold keepOf
  rw [List.take_succ_eq_append_getElem hk, List.filter_append, List.flatMap_append, List.getD_eq_getElem?_getD, List.getElem?_eq_getElem hk]
  simp only [Option.getD_some]
  cases h : isKept l[k]
  · rw [List.filter_cons_of_neg (by simp [h])]; simp
  · rw [List.filter_cons_of_pos h]; simp
theorem keepOf_length (b : List Int) (l : List Cm) : (keepOf b l).length ≤ 2 * l.length := by
  unfold keepOf
  have h1 := List.length_filter_le isKept l
  have h2 : ∀ l : List Cm, (l.flatMap (pairW b)).length = 2 * l.length := by
    intro l
    induction l with
    | nil => rfl
    | cons c l ih => rw [List.flatMap_cons, List.length_append, ih, List.length_cons]; show 2 + _ = _; omega
  rw [h2]
  omega
theorem iv_two (ys : List Int) (a b : Int) : iv (ys ++ [a, b]) = iv ys ++ [.int .i64 a, .int .i64 b] := by rw [iv_append]; rfl

set_option maxRecDepth 100000 in
set_option maxHeartbeats 4000000 in
theorem specKept_any (A : Option Addr) (n cb g cap : Nat) (xs : List Int) (l : List Cm) (w : World) (hr : Rd w w.heap.size A n xs) (hn : n ≤ 2097152) (h : RdV 6 w w.heap.size (some ⟨g, 0, none⟩) l.length (l.flatMap cmV)) (hl : l.length ≤ 10000)
    (hs : ∀ c ∈ l, c.kind = 6 → 0 ≤ c.slot ∧ c.slot < (shotsL xs).length) :
    Calls Try.prog 21 #[.slice A n cb, .slice (some ⟨g, 0, none⟩) l.length cap] w (RetS w (keepOf xs l)) := by
  obtain ⟨i0, hi0, hz0, hz1, hz2⟩ := info_parts info2
  have b1 := (Below.refl w.heap.size w).alloc (Nat.le_refl _) (.cells #[] 2)
  have o1 := emptyV 2 1 w w.heap.size (w.heap.size + 1) w.heap.size (Nat.le_refl _) rfl (by omega)
  go_enter Try.func21, Try.ntmps21
  go_wp2_with fail
  refine (specShots_any A n cb xs _ ((hr.below b1).more b1.size) hn).mono ?_
  rintro e w2 ⟨gs, cs, rfl, oG, b2⟩
  have hs2 := b2.size
  have hsz : (w.alloc (.cells #[] 2)).heap.size = w.heap.size + 1 := by simp
  rw [hsz] at hs2
  have hgl := oG.low
  rw [hsz] at hgl
  have o2 := o1.below b2 (by omega)
  have b02 := below_more b1 b2 b1.size
  have HG := Lib.hid oG
  have HSl := Lib.hid hs
  have HR := Lib.hid (h.below b02)
  have hgg : l.length ≠ 0 → g < w.heap.size := fun h0 => by
    obtain ⟨b', off', e, hb', _⟩ := h.2 (by omega)
    injection e with e
    injection e with e1 e2
    omega
  have HGG := Lib.hid hgg
  clear hsz b1 b2 o1 oG hs h hgg
  have hsl := shotsL_length xs
  have HP : Hid (∀ c : Cm, pairW xs c = [((shotsL xs).getD c.slot.toNat (0, 0)).1, ((shotsL xs).getD c.slot.toNat (0, 0)).2]) := fun _ => rfl
  generalize shotsL xs = sh at *
  go_wp2_with fail
  go_loopw [5, 7] (fun v i wr => ∃ (k g' c' : Nat), k ≤ l.length ∧ i = .int .i64 k ∧ v = .slice (some ⟨g', 0, none⟩) (keepOf xs (l.take k)).length c' ∧
    OwV 2 1 wr w.heap.size wr.heap.size g' (keepOf xs (l.take k)).length c' (iv (keepOf xs (l.take k))) ∧ w2.grownBy wr (some w.heap.size) ∧ (g' = w.heap.size ∨ w2.heap.size ≤ g')) (fun _ i _ => l.length - (intOf i).toNat)
  case atStart => exact ⟨0, w.heap.size, 0, Nat.zero_le _, rfl, rfl, o2.more (Nat.le_refl _) (by omega), grown_refl _ _, .inl rfl⟩
  case round =>
    obtain ⟨k, g', c', hk, rfl, rfl, hok, hg, hat⟩ := hrel
    have AT := Lib.hid hat
    clear hat
    have sr := hg.size
    by_cases hlt : k < l.length
    · have hgl2 := HGG.out (by omega)
      have hce := cm_cells (HR.out.grown hg (by show g < _; omega) (by show g ≠ _; omega)) hlt
      have HS := Lib.hid (keepOf_step xs l k hlt)
      have hgd : l.getD k cm0 = l[k] := by simp [List.getD_eq_getElem?_getD, hlt]
      have HSk := Lib.hid (HSl.out _ (List.getElem_mem hlt))
      rw [hgd] at hce HS
      clear hgd
      have hfl : (keepOf xs (l.take k)).length ≤ 20000 := by
        have h1 := keepOf_length xs (l.take k)
        have h2 : (l.take k).length ≤ k := List.length_take_le _ _
        omega
      generalize keepOf xs (l.take k) = fs at *
      generalize l[k] = x at *
      obtain ⟨xk, xf, xs', xp, xt, xg⟩ := x
      have e0 : wr.cell? ⟨g, k * 6, none⟩ = some (.int .i64 xk) := hce 0 (by omega)
      have e2 : wr.cell? ⟨g, k * 6 + 2, none⟩ = some (.int .i64 xs') := hce 2 (by omega)
      have e5 : wr.cell? ⟨g, k * 6 + 5, none⟩ = some (.bool xg) := hce 5 (by omega)
      clear hce
      by_cases h6 : xk = 6
      · subst h6
        have d6 : ((6 : Int) == 6) = true := by simp
        cases xg
        · have HE : Hid (keepOf xs (l.take (k + 1)) = fs) := by rw [HS.out]; exact rfl
          clear HS HSk
          go_wp2_with fail
          go_roundw
          case rel => exact ⟨k + 1, g', c', by omega, by go_num, by rw [HE.out], by rw [HE.out]; exact hok, hg, AT.out⟩
          case measure => simp [intOf]; omega
        · obtain ⟨s0, s1⟩ := HSk.out rfl
          simp only at s0 s1
          obtain ⟨σ, rfl⟩ := Int.eq_ofNat_of_zero_le s0
          have hσ : σ < sh.length := by omega
          have HE : Hid (keepOf xs (l.take (k + 1)) = fs ++ [(sh.getD σ (0, 0)).1, (sh.getD σ (0, 0)).2]) := by rw [HS.out]; show fs ++ pairW xs _ = _; rw [HP.out]; exact rfl
          have q0 : wr.cell? ⟨gs, σ * 2, none⟩ = some (.int .i64 (sh.getD σ (0, 0)).1) := by
            refine hg.cell ?_ (fun e => by injection e with e; have : gs = w.heap.size := e; omega)
            have := HG.out.cell (j := σ * 2 + 0) (by omega)
            rw [sh_cell hσ (by omega)] at this
            exact this
          have q1 : wr.cell? ⟨gs, σ * 2 + 1, none⟩ = some (.int .i64 (sh.getD σ (0, 0)).2) := by
            refine hg.cell ?_ (fun e => by injection e with e; have : gs = w.heap.size := e; omega)
            have := HG.out.cell (j := σ * 2 + 1) (by omega)
            rw [sh_cell hσ (by omega)] at this
            exact this
          generalize (sh.getD σ (0, 0)).1 = p0 at *
          generalize (sh.getD σ (0, 0)).2 = p1 at *
          clear HS HSk
          go_wp2_with fail
          have n1 : (0 : Int) ≤ (k : Int) := by omega
          have n2 : (k : Int) < (l.length : Int) := by omega
          have n3 : (0 : Int) ≤ (σ : Int) := by omega
          have n4 : (σ : Int) < (sh.length : Int) := by omega
          go_region_law ((refine step_append_lit (by rfl) _ _ _ (by rfl) 2 1 8 _ i0 Try.underlying22 hi0 hz0 hz1 hz2 rfl (by omega) (by omega) w.heap.size _ g' fs.length c' _ (by rfl) hok #[.int .i64 p0, .int .i64 p1] 2 2 (by rfl) (by rfl) (by simp [Value.oneCell']) (by omega) (by omega) ?_; intro g3 cd w5 ho5 hgr hat hold))
          all_goals
            have hgr' : wr.grownBy w5 (some g') := ⟨hgr.os, hgr.tape, hgr.output, Nat.le_trans (by simp) hgr.size, fun q h1 h2 => (hgr.block q (by simp; omega) h2).trans (Below.heap_alloc _ _ _ h1)⟩
            clear hgr hold n1 n2 n3 n4 e0 e2 e5 q0 q1
            go_wp2_with fail
            go_roundw
            case rel =>
              refine ⟨k + 1, g3, cd, by omega, by go_num, by rw [HE.out]; simp, ?_, grown_next hg AT.out hgr', by have := AT.out; omega⟩
              rw [HE.out, iv_two, List.length_append]
              exact ho5
            case measure => simp [intOf]; omega
      · have d6 : (xk == 6) = false := by simpa using h6
        have HE : Hid (keepOf xs (l.take (k + 1)) = fs) := by rw [HS.out, if_neg (by unfold isKept; simp [h6])]; exact rfl
        clear HS HSk h6
        go_wp2_with fail
        go_roundw
        case rel => exact ⟨k + 1, g', c', by omega, by go_num, by rw [HE.out], by rw [HE.out]; exact hok, hg, AT.out⟩
        case measure => simp [intOf]; omega
    · obtain rfl : k = l.length := by omega
      go_wp2_with fail
      go_ret
      rw [List.take_length] at hok ⊢
      exact ⟨g', _, c', rfl, hok.cap, hok.toI, below_of_grown b02 hg (Nat.le_refl _)⟩
end Go.Proofs.Ytpnnbenehajipaa
