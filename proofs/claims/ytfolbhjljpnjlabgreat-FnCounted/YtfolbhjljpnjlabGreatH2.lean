/- Cleared (chapter 12): plain functions, and that the model's Go functions compute them. Cleared: the table of shots. Cleared: the head as it is then. Cleared (chapter 12): the model's Go function computes it. Cleared, as a plain function: its words. Plain mathematics. Cleared, as a plain function; it is neat, and has the good claims: plain mathematics. -/
import Derived.Test.YtfolbhjljpnjlabGreatG7
import Derived.Test.YtfolbhjljpnjlabGreatWcl
import Derived.StillTailTactics
import Derived.Deep.RegionLaw
import Derived.Test.YtfolbhjljpnjlabGreatH1
import Derived.Test.YtfolbhjljpnjlabGreatG3
namespace Go.Proofs.YtfolbhjljpnjlabGreat
open Go.RowKit

theorem range_next {β : Type} (f : β → Nat → β) (z : β) (k : Nat) : (List.range (k + 1)).foldl f z = f ((List.range k).foldl f z) k := by
  rw [List.range_succ, List.foldl_append]; rfl
/-- The pairs that stay. -/
def pairW (b : List Int) (c : Cm) : List Int := [((shotsL b).getD c.slot.toNat (0, 0)).1, ((shotsL b).getD c.slot.toNat (0, 0)).2]
def keepW (b : List Int) : List Int := ((claimsC b).filter (fun c => c.kind == 6 && c.good)).flatMap (pairW b)
def keepStep (h : Hd) (kw : List Int) (o : List Int) (i : Nat) : List Int := o.set (h.shots.toNat * 8 + i) (kw.getD i 0)
def keepL (h : Hd) (kw z : List Int) : List Int := (List.range (2 * h.many).toNat).foldl (keepStep h kw) z
def shotsOk (l : List Cm) : Bool := l.any (fun c => c.good && c.kind == 5)
def lzB (c : Cm) : Bool := !c.good && (c.kind == 4 || decide (7 ≤ c.kind))
def clrStep (o : List Int) (c : Cm) : List Int := if lzB c = true then o.set (c.frm.toNat * 8 + c.slot.toNat) 0 else o
def clr1 (b : List Int) : List Int := if shotsOk (claimsC b) = true then keepL (headOf b) (keepW b) (whole b) else whole b
def clr2 (b : List Int) : List Int := (claimsC b).foldl clrStep (clr1 b)
def clrHead (b : List Int) : Hd := ⟨(headOf b).size, if (claimsC b).any (fun c => !c.good && c.kind == 2) = true then 0 else (headOf b).first, if (claimsC b).any (fun c => !c.good && c.kind == 3) = true then 0 else (headOf b).refs,
  if ((keepW b).length / 2 : Nat) = 0 then 0 else (headOf b).shots, ((keepW b).length / 2 : Nat)⟩
/-- Of an image with a head. -/
def clrC (b : List Int) : List Int := setCl (clr2 b) 0 (hdW (clrHead b))
def clearedL (b : List Int) : List Int := if hasHead b = true then clrC b else []
theorem keep_get (h : Hd) (kw : List Int) : ∀ (k : Nat) (z : List Int) (j : Nat), h.shots.toNat * 8 + k ≤ z.length →
    ((List.range k).foldl (keepStep h kw) z).getD j 0 = (if h.shots.toNat * 8 ≤ j ∧ j < h.shots.toNat * 8 + k then kw.getD (j - h.shots.toNat * 8) 0 else z.getD j 0) ∧ ((List.range k).foldl (keepStep h kw) z).length = z.length
  | 0, z, j, _ => by
    refine ⟨?_, rfl⟩
    rw [if_neg (by omega)]
    rfl
  | k + 1, z, j, hk => by
    obtain ⟨h1, h2⟩ := keep_get h kw k z j (by omega)
    rw [range_next]
    refine ⟨?_, (List.length_set ..).trans h2⟩
    refine (getD_set _ _ _ _).trans ?_
    rw [h2, h1]
    by_cases e : h.shots.toNat * 8 + k = j
    · subst e
      rw [if_pos ⟨rfl, by omega⟩, if_pos (by omega)]
      congr 1
      omega
    · rw [if_neg (by omega)]
      by_cases h3 : h.shots.toNat * 8 ≤ j ∧ j < h.shots.toNat * 8 + k
      · rw [if_pos h3, if_pos (by omega)]
      · rw [if_neg h3, if_neg (by omega)]
theorem clr_len (l : List Cm) : ∀ z : List Int, (l.foldl clrStep z).length = z.length := by
  induction l with
  | nil => intro z; rfl
  | cons c l ih => intro z; rw [List.foldl_cons, ih]; unfold clrStep; split <;> simp
def isKept (c : Cm) : Bool := c.kind == 6 && c.good
def keepOf (b : List Int) (l : List Cm) : List Int := (l.filter isKept).flatMap (pairW b)
theorem keepOf_all (b : List Int) : keepOf b (claimsC b) = keepW b := rfl
theorem keepOf_step (b : List Int) (l : List Cm) (k : Nat) (hk : k < l.length) : keepOf b (l.take (k + 1)) = if isKept (l.getD k cm0) = true then keepOf b (l.take k) ++ pairW b (l.getD k cm0) else keepOf b (l.take k) := by
  unfold keepOf
  rw [List.take_succ_eq_append_getElem hk, List.filter_append, List.flatMap_append, List.getD_eq_getElem?_getD, List.getElem?_eq_getElem hk]
  simp only [Option.getD_some]
  cases h : isKept l[k]
  · rw [List.filter_cons_of_neg (by simp [h])]; simp
  · rw [List.filter_cons_of_pos h]; simp
theorem keepOf_length (b : List Int) (l : List Cm) : (keepOf b l).length ≤ 2 * l.length := by
  unfold keepOf
  have h1 := List.length_filter_le isKept l
  have h2 : ∀ l : List Cm, (l.flatMap (pairW b)).length = 2 * l.length := by
    intro l
    induction l with
    | nil => rfl
    | cons c l ih => rw [List.flatMap_cons, List.length_append, ih, List.length_cons]; show 2 + _ = _; omega
  rw [h2]
  omega
theorem iv_two (ys : List Int) (a b : Int) : iv (ys ++ [a, b]) = iv ys ++ [.int .i64 a, .int .i64 b] := by rw [iv_append]; rfl

set_option maxRecDepth 100000 in
set_option maxHeartbeats 4000000 in
theorem specKept_any (A : Option Addr) (n cb g cap : Nat) (xs : List Int) (l : List Cm) (w : World) (hr : Rd w w.heap.size A n xs) (hn : n ≤ 2097152) (h : RdV 6 w w.heap.size (some ⟨g, 0, none⟩) l.length (l.flatMap cmV)) (hl : l.length ≤ 10000)
    (hs : ∀ c ∈ l, c.kind = 6 → 0 ≤ c.slot ∧ c.slot < (shotsL xs).length) :
    Calls Tryz.prog 42 #[.slice A n cb, .slice (some ⟨g, 0, none⟩) l.length cap] w (RetS w (keepOf xs l)) := by
  obtain ⟨i0, hi0, hz0, hz1, hz2⟩ := info_parts info2
  have b1 := (Below.refl w.heap.size w).alloc (Nat.le_refl _) (.cells #[] 2)
  have o1 := emptyV 2 1 w w.heap.size (w.heap.size + 1) w.heap.size (Nat.le_refl _) rfl (by omega)
  go_enter Tryz.func42, Tryz.ntmps42
  go_wp2_with fail
  refine (specShots_any A n cb xs _ ((hr.below b1).more b1.size) hn).mono ?_
  rintro e w2 ⟨gs, cs, rfl, oG, b2⟩
  have hs2 := b2.size
  have hsz : (w.alloc (.cells #[] 2)).heap.size = w.heap.size + 1 := by simp
  rw [hsz] at hs2
  have hgl := oG.low
  rw [hsz] at hgl
  have o2 := o1.below b2 (by omega)
  have b02 := below_more b1 b2 b1.size
  have HG := Lib.hid oG
  have HSl := Lib.hid hs
  have HR := Lib.hid (h.below b02)
  have hgg : l.length ≠ 0 → g < w.heap.size := fun h0 => by
    obtain ⟨b', off', e, hb', _⟩ := h.2 (by omega)
    injection e with e
    injection e with e1 e2
    omega
  have HGG := Lib.hid hgg
  clear hsz b1 b2 o1 oG hs h hgg
  have hsl := shotsL_length xs
  have HP : Hid (∀ c : Cm, pairW xs c = [((shotsL xs).getD c.slot.toNat (0, 0)).1, ((shotsL xs).getD c.slot.toNat (0, 0)).2]) := fun _ => rfl
  generalize shotsL xs = sh at *
  go_wp2_with fail
  go_loopw [5, 7] (fun v i wr => ∃ (k g' c' : Nat), k ≤ l.length ∧ i = .int .i64 k ∧ v = .slice (some ⟨g', 0, none⟩) (keepOf xs (l.take k)).length c' ∧
    OwV 2 1 wr w.heap.size wr.heap.size g' (keepOf xs (l.take k)).length c' (iv (keepOf xs (l.take k))) ∧ w2.grownBy wr (some w.heap.size) ∧ (g' = w.heap.size ∨ w2.heap.size ≤ g')) (fun _ i _ => l.length - (intOf i).toNat)
  case atStart => exact ⟨0, w.heap.size, 0, Nat.zero_le _, rfl, rfl, o2.more (Nat.le_refl _) (by omega), grown_refl _ _, .inl rfl⟩
  case round =>
    obtain ⟨k, g', c', hk, rfl, rfl, hok, hg, hat⟩ := hrel
    have AT := Lib.hid hat
    clear hat
    have sr := hg.size
    by_cases hlt : k < l.length
    · have hgl2 := HGG.out (by omega)
      have hce := cm_cells (HR.out.grown hg (by show g < _; omega) (by show g ≠ _; omega)) hlt
      have HS := Lib.hid (keepOf_step xs l k hlt)
      have hgd : l.getD k cm0 = l[k] := by simp [List.getD_eq_getElem?_getD, hlt]
      have HSk := Lib.hid (HSl.out _ (List.getElem_mem hlt))
      rw [hgd] at hce HS
      clear hgd
      have hfl : (keepOf xs (l.take k)).length ≤ 20000 := by
        have h1 := keepOf_length xs (l.take k)
        have h2 : (l.take k).length ≤ k := List.length_take_le _ _
        omega
      generalize keepOf xs (l.take k) = fs at *
      generalize l[k] = x at *
      obtain ⟨xk, xf, xs', xp, xt, xg⟩ := x
      have e0 : wr.cell? ⟨g, k * 6, none⟩ = some (.int .i64 xk) := hce 0 (by omega)
      have e2 : wr.cell? ⟨g, k * 6 + 2, none⟩ = some (.int .i64 xs') := hce 2 (by omega)
      have e5 : wr.cell? ⟨g, k * 6 + 5, none⟩ = some (.bool xg) := hce 5 (by omega)
      clear hce
      by_cases h6 : xk = 6
      · subst h6
        have d6 : ((6 : Int) == 6) = true := by simp
        cases xg
        · have HE : Hid (keepOf xs (l.take (k + 1)) = fs) := by rw [HS.out]; exact rfl
          clear HS HSk
          go_wp2_with fail
          go_roundw
          case rel => exact ⟨k + 1, g', c', by omega, by go_num, by rw [HE.out], by rw [HE.out]; exact hok, hg, AT.out⟩
          case measure => simp [intOf]; omega
        · obtain ⟨s0, s1⟩ := HSk.out rfl
          simp only at s0 s1
          obtain ⟨σ, rfl⟩ := Int.eq_ofNat_of_zero_le s0
          have hσ : σ < sh.length := by omega
          have HE : Hid (keepOf xs (l.take (k + 1)) = fs ++ [(sh.getD σ (0, 0)).1, (sh.getD σ (0, 0)).2]) := by rw [HS.out]; show fs ++ pairW xs _ = _; rw [HP.out]; exact rfl
          have q0 : wr.cell? ⟨gs, σ * 2, none⟩ = some (.int .i64 (sh.getD σ (0, 0)).1) := by
            refine hg.cell ?_ (fun e => by injection e with e; have : gs = w.heap.size := e; omega)
            have := HG.out.cell (j := σ * 2 + 0) (by omega)
            rw [sh_cell hσ (by omega)] at this
            exact this
          have q1 : wr.cell? ⟨gs, σ * 2 + 1, none⟩ = some (.int .i64 (sh.getD σ (0, 0)).2) := by
            refine hg.cell ?_ (fun e => by injection e with e; have : gs = w.heap.size := e; omega)
            have := HG.out.cell (j := σ * 2 + 1) (by omega)
            rw [sh_cell hσ (by omega)] at this
            exact this
          generalize (sh.getD σ (0, 0)).1 = p0 at *
          generalize (sh.getD σ (0, 0)).2 = p1 at *
          clear HS HSk
          go_wp2_with fail
          have n1 : (0 : Int) ≤ (k : Int) := by omega
          have n2 : (k : Int) < (l.length : Int) := by omega
          have n3 : (0 : Int) ≤ (σ : Int) := by omega
          have n4 : (σ : Int) < (sh.length : Int) := by omega
          go_region_law ((refine step_append_lit (by rfl) _ _ _ (by rfl) 2 1 8 _ i0 Tryz.underlying24 hi0 hz0 hz1 hz2 rfl (by omega) (by omega) w.heap.size _ g' fs.length c' _ (by rfl) hok #[.int .i64 p0, .int .i64 p1] 2 2 (by rfl) (by rfl) (by simp [Value.oneCell']) (by omega) (by omega) ?_; intro g3 cd w5 ho5 hgr hat hold))
          all_goals
            have hgr' : wr.grownBy w5 (some g') := ⟨hgr.os, hgr.tape, hgr.output, Nat.le_trans (by simp) hgr.size, fun q h1 h2 => (hgr.block q (by simp; omega) h2).trans (Below.heap_alloc _ _ _ h1)⟩
            clear hgr hold n1 n2 n3 n4 e0 e2 e5 q0 q1
            go_wp2_with fail
            go_roundw
            case rel =>
              refine ⟨k + 1, g3, cd, by omega, by go_num, by rw [HE.out]; simp, ?_, grown_next hg AT.out hgr', by have := AT.out; omega⟩
              rw [HE.out, iv_two, List.length_append]
              exact ho5
            case measure => simp [intOf]; omega
      · have d6 : (xk == 6) = false := by simpa using h6
        have HE : Hid (keepOf xs (l.take (k + 1)) = fs) := by rw [HS.out, if_neg (by unfold isKept; simp [h6])]; exact rfl
        clear HS HSk h6
        go_wp2_with fail
        go_roundw
        case rel => exact ⟨k + 1, g', c', by omega, by go_num, by rw [HE.out], by rw [HE.out]; exact hok, hg, AT.out⟩
        case measure => simp [intOf]; omega
    · obtain rfl : k = l.length := by omega
      go_wp2_with fail
      go_ret
      rw [List.take_length] at hok ⊢
      exact ⟨g', _, c', rfl, hok.cap, hok.toI, below_of_grown b02 hg (Nat.le_refl _)⟩

theorem set_twice (z : List Int) (p : Nat) (a b : Int) : (z.set p a).set p b = z.set p b := List.set_set a
/-- In an image of one's own: the table of shots has just these of its first pairs. -/
def KeepRel (w1 : World) (lo hi g n c : Nat) (h : Hd) (kw zs : List Int) (M : Nat) (i : Value) (wr : World) : Prop :=
  ∃ k : Nat, k ≤ M ∧ i = .int .i64 k ∧ Ow wr lo hi (some ⟨g, 0, none⟩) n c ((List.range k).foldl (keepStep h kw) zs) ∧ w1.grownBy wr (some g)

set_option maxRecDepth 100000 in
set_option maxHeartbeats 4000000 in
theorem specKeep_any (g n c lo hi nk ck : Nat) (K : Option Addr) (zs kw : List Int) (h : Hd) (w : World) (ho : Ow w lo hi (some ⟨g, 0, none⟩) n c zs) (hk : Rd w lo K nk kw) (hlo : lo ≤ g) (hs0 : 0 ≤ h.shots) (hm0 : 0 ≤ h.many) (hm4 : h.many ≤ 4) (hin : h.shots.toNat * 8 + 8 ≤ n) (hn : n ≤ 1000) (hnk : nk ≤ 100000) :
    Calls Tryz.prog 44 #[.slice (some ⟨g, 0, none⟩) n c, hdV h, .slice K nk ck] w fun e w' => e = .returned (.slice (some ⟨g, 0, none⟩) n c) ∧ Ow w' lo hi (some ⟨g, 0, none⟩) n c (keepL h kw zs) ∧ w.grownBy w' (some g) := by
  have hgl := ow_lt ho
  have HK : Hid (keepL h kw zs = (List.range (2 * h.many).toNat).foldl (keepStep h kw) zs) := rfl
  have HSt : Hid (∀ (o : List Int) (i : Nat), keepStep h kw o i = o.set (h.shots.toNat * 8 + i) (kw.getD i 0)) := fun _ _ => rfl
  have hkl := Lib.hid hk.len
  have HR := Lib.hid hk
  have hlen : zs.length = n := ho.len
  have HLn : Hid (∀ k, k ≤ 8 → ((List.range k).foldl (keepStep h kw) zs).length = n) := fun k hk8 => by
    rw [(keep_get h kw k zs 0 (by omega)).2]; exact hlen
  generalize hF : keepStep h kw = F at *
  clear hF hk hlen
  obtain ⟨s, f, r, u, m⟩ := h
  simp only at *
  obtain ⟨μ, rfl⟩ := Int.eq_ofNat_of_zero_le hm0
  obtain ⟨υ, rfl⟩ := Int.eq_ofNat_of_zero_le hs0
  have e2 : ((2 : Int) * (μ : Int)).toNat = 2 * μ := by omega
  rw [e2] at HK
  rw [Int.toNat_natCast] at HSt hin
  clear hm0 hs0 e2
  unfold hdV
  have hz : (w.alloc (.cells #[.int .i64 s, .int .i64 f, .int .i64 r, .int .i64 υ, .int .i64 μ] 34)).heap.size = w.heap.size + 1 := by simp
  have HBX : Hid ((w.alloc (.cells #[.int .i64 s, .int .i64 f, .int .i64 r, .int .i64 υ, .int .i64 μ] 34)).heap[w.heap.size]? = some (.cells #[.int .i64 s, .int .i64 f, .int .i64 r, .int .i64 υ, .int .i64 μ] 34 (0, 0))) := heap_alloc_new w _
  have hal := World.grownBy_alloc w (.cells #[.int .i64 s, .int .i64 f, .int .i64 r, .int .i64 υ, .int .i64 μ] 34) (some g)
  have ho1 := ho.keep (w' := w.alloc (.cells #[.int .i64 s, .int .i64 f, .int .i64 r, .int .i64 υ, .int .i64 μ] 34)) (fun q _ _ hq => Below.heap_alloc _ _ _ hq)
  have HZ := Lib.hid hz
  have HAL := Lib.hid hal
  have HR1 : Hid (Rd (w.alloc (.cells #[.int .i64 s, .int .i64 f, .int .i64 r, .int .i64 υ, .int .i64 μ] 34)) lo K nk kw) := HR.out.below ((Below.refl lo w).alloc (by omega) _)
  clear hz hal ho HR
  go_enter Tryz.func44, Tryz.ntmps44
  go_wp2_with fail
  generalize (w.alloc (.cells #[.int .i64 s, .int .i64 f, .int .i64 r, .int .i64 υ, .int .i64 μ] 34)) = w1 at *
  go_loopw [7] (fun i wr => ∃ k : Nat, k ≤ 2 * μ ∧ i = .int .i64 k ∧ Ow wr lo hi (some ⟨g, 0, none⟩) n c ((List.range k).foldl F zs) ∧ w1.grownBy wr (some g)) (fun i _ => 2 * μ - (intOf i).toNat)
  case atStart => exact ⟨0, Nat.zero_le _, rfl, ho1, grown_refl _ _⟩
  case round =>
    obtain ⟨k, hk, rfl, hok, hg⟩ := hrel
    have sr := hg.size
    have HBr : Hid (wr.heap[w.heap.size]? = some (.cells #[.int .i64 s, .int .i64 f, .int .i64 r, .int .i64 υ, .int .i64 μ] 34 (0, 0))) := (hg.block w.heap.size (by have := HZ.out; omega) (fun e => by injection e with e; omega)).trans HBX.out
    have k3 : wr.cell? ⟨w.heap.size, 3, none⟩ = some (.int .i64 υ) := by rw [cell_of_row wr w.heap.size 3 _ _ _ HBr.out]; rfl
    have k4 : wr.cell? ⟨w.heap.size, 4, none⟩ = some (.int .i64 μ) := by rw [cell_of_row wr w.heap.size 4 _ _ _ HBr.out]; rfl
    by_cases hlt : k < 2 * μ
    · have hidx : υ * 8 + k < n := by omega
      have hco := hok.cell hidx
      have hfo := hok.free (υ * 8 + k)
      have HS := Lib.hid (range_next F zs k)
      rw [HSt.out] at HS
      obtain ⟨h1, h2⟩ := hok.set (υ * 8 + k) 0
      have H1 := Lib.hid h1
      have H2 := Lib.hid h2
      clear h1 h2
      generalize (List.range k).foldl F zs = fs at *
      generalize fs.getD (υ * 8 + k) 0 = v0 at *
      have n6a : (0 : Int) ≤ (υ : Int) * 8 + (k : Int) := by omega
      have n6b : (υ : Int) * 8 + (k : Int) < (n : Int) := by omega
      have n6c : ((υ : Int) * 8 + (k : Int)).toNat = υ * 8 + k := by omega
      have hd1 : decide ((k : Int) < 2 * (μ : Int)) = true := by simp; omega
      have k3s : (wr.setCell ⟨g, υ * 8 + k, none⟩ (.int .i64 0)).cell? ⟨w.heap.size, 3, none⟩ = some (.int .i64 υ) := (World.cell?_of_block (w := wr) (Below.heap_setCell _ _ _ _ (by show w.heap.size ≠ g; omega))).trans k3
      have k4s : (wr.setCell ⟨g, υ * 8 + k, none⟩ (.int .i64 0)).cell? ⟨w.heap.size, 4, none⟩ = some (.int .i64 μ) := (World.cell?_of_block (w := wr) (Below.heap_setCell _ _ _ _ (by show w.heap.size ≠ g; omega))).trans k4
      by_cases hkn : k < nk
      · obtain ⟨kb, koff, rfl, hkb, hkc⟩ := HR1.out.2 (by omega)
        have q0 : (wr.setCell ⟨g, υ * 8 + k, none⟩ (.int .i64 0)).cell? ⟨kb, koff + k, none⟩ = some (.int .i64 (kw.getD k 0)) := by
          refine (World.cell?_of_block (w := wr) (Below.heap_setCell _ _ _ _ (by show kb ≠ g; omega))).trans ?_
          exact hg.cell (hkc k hkn) (fun e => by injection e with e; have : kb = g := e; omega)
        have hd2 : decide ((k : Int) < (nk : Int)) = true := by simp; omega
        have hco2 := H1.out.cell hidx
        have hfo2 := H1.out.free (υ * 8 + k)
        have HSt2 := Lib.hid (H1.out.set (υ * 8 + k) (kw.getD k 0))
        rw [set_twice] at HSt2
        generalize (fs.set (υ * 8 + k) 0).getD (υ * 8 + k) 0 = v1 at *
        generalize kw.getD k 0 = x at *
        clear HR1 hkc
        go_wp2_with fail
        generalize wr.setCell ⟨g, υ * 8 + k, none⟩ (.int .i64 0) = w3 at *
        have n1 : (0 : Int) ≤ (k : Int) := by omega
        have n2 : (k : Int) < (nk : Int) := by omega
        have n3 : IntKind.i64.wrap ((υ : Int) * 8) = (υ : Int) * 8 := IntWalk.i64_in _ (by omega)
        have n6 : IntKind.i64.wrap ((υ : Int) * 8 + (k : Int)) = (υ : Int) * 8 + (k : Int) := IntWalk.i64_in _ (by omega)
        go_still_tail 11, (by kernel_rfl)
        change wpList _ _ _ _ _ w3.drew
        clear n1 n2 n3 n6 n6a n6b n6c
        go_wp2_with fail
        go_roundw
        case rel =>
          obtain ⟨h3, h4⟩ := HSt2.out
          refine ⟨k + 1, by omega, by go_num, ?_, grown_trans hg (grown_trans H2.out (grown_drew h4))⟩
          rw [HS.out]
          exact h3.drew
        case measure => simp [intOf]; omega
      · have hd2 : decide ((k : Int) < (nk : Int)) = false := by simp; omega
        have HX : Hid (kw.getD k 0 = 0) := getD_past kw k (by have := hkl.out; omega)
        rw [HX.out] at HS
        clear HR1 HX
        go_wp2_with fail
        go_roundw
        case rel => exact ⟨k + 1, by omega, by go_num, by rw [HS.out]; exact H1.out, grown_trans hg H2.out⟩
        case measure => simp [intOf]; omega
    · obtain rfl : k = 2 * μ := by omega
      have hd1 : decide (((2 * μ : Nat) : Int) < 2 * (μ : Int)) = false := by simp
      go_wp2_with fail
      go_ret
      rw [HK.out]
      refine ⟨rfl, hok, ?_⟩
      exact grown_trans HAL.out hg

/-- A head of one's own lies in block p. -/
def HBox (w : World) (p : Nat) (h : Hd) : Prop := w.heap[p]? = some (.cells #[.int .i64 h.size, .int .i64 h.first, .int .i64 h.refs, .int .i64 h.shots, .int .i64 h.many] 34 (0, 0))
theorem HBox.cell {w : World} {p : Nat} {h : Hd} (hb : HBox w p h) (j : Nat) : w.cell? ⟨p, j, none⟩ = (#[.int .i64 h.size, .int .i64 h.first, .int .i64 h.refs, .int .i64 h.shots, .int .i64 h.many] : Array Value)[j]? := cell_of_row w p j _ _ _ hb
theorem HBox.free {w : World} {p : Nat} {h : Hd} (hb : HBox w p h) (j : Nat) : w.frozen? ⟨p, j, none⟩ = false := frozen_of_row w p j _ _ hb
theorem HBox.lt {w : World} {p : Nat} {h : Hd} (hb : HBox w p h) : p < w.heap.size := (Array.getElem?_eq_some_iff.1 hb).1
theorem HBox.keep {w w' : World} {p : Nat} {h : Hd} (hb : HBox w p h) (hk : w'.heap[p]? = w.heap[p]?) : HBox w' p h := hk.trans hb
theorem HBox.new (w : World) (h : Hd) : HBox (w.alloc (.cells #[.int .i64 h.size, .int .i64 h.first, .int .i64 h.refs, .int .i64 h.shots, .int .i64 h.many] 34)) w.heap.size h := heap_alloc_new w _
theorem HBox.put1 {w : World} {p : Nat} {h : Hd} (hb : HBox w p h) (x : Int) : HBox (w.setCell ⟨p, 1, none⟩ (.int .i64 x)) p { h with first := x } := by
  unfold HBox at *
  simp only [World.setCell, Array.getElem?_modify]
  simp [hb]
theorem HBox.put2 {w : World} {p : Nat} {h : Hd} (hb : HBox w p h) (x : Int) : HBox (w.setCell ⟨p, 2, none⟩ (.int .i64 x)) p { h with refs := x } := by
  unfold HBox at *
  simp only [World.setCell, Array.getElem?_modify]
  simp [hb]
theorem HBox.put3 {w : World} {p : Nat} {h : Hd} (hb : HBox w p h) (x : Int) : HBox (w.setCell ⟨p, 3, none⟩ (.int .i64 x)) p { h with shots := x } := by
  unfold HBox at *
  simp only [World.setCell, Array.getElem?_modify]
  simp [hb]
theorem HBox.put4 {w : World} {p : Nat} {h : Hd} (hb : HBox w p h) (x : Int) : HBox (w.setCell ⟨p, 4, none⟩ (.int .i64 x)) p { h with many := x } := by
  unfold HBox at *
  simp only [World.setCell, Array.getElem?_modify]
  simp [hb]
def firstK (l : List Cm) (f : Int) : Int := if l.any (fun c => !c.good && c.kind == 2) = true then 0 else f
def refsK (l : List Cm) (r : Int) : Int := if l.any (fun c => !c.good && c.kind == 3) = true then 0 else r
theorem any_step (p : Cm → Bool) (l : List Cm) (k : Nat) (hk : k < l.length) : (l.take (k + 1)).any p = ((l.take k).any p || p l[k]) := by
  rw [List.take_succ_eq_append_getElem hk, List.any_append]; simp
/-- Where the loop of the head stands. -/
def HdRel (w : World) (l : List Cm) (s f r u m : Int) (b i : Value) (wr : World) : Prop :=
  ∃ k : Nat, k ≤ l.length ∧ i = .int .i64 k ∧ b = .bool (shotsOk (l.take k)) ∧ HBox wr w.heap.size ⟨s, firstK (l.take k) f, refsK (l.take k) r, u, m⟩ ∧ HBox wr (w.heap.size + 1) ⟨0, 0, 0, 0, 0⟩ ∧ Below w.heap.size w wr

set_option maxRecDepth 100000 in
set_option maxHeartbeats 4000000 in
theorem specHead12_any (g cap : Nat) (l : List Cm) (h : Hd) (keep : Int) (w : World) (hr : RdV 6 w w.heap.size (some ⟨g, 0, none⟩) l.length (l.flatMap cmV)) (hl : l.length ≤ 10000) :
    Calls Tryz.prog 43 #[hdV h, .slice (some ⟨g, 0, none⟩) l.length cap, .int .i64 keep] w fun e w' => e = .returned (.tuple #[hdV ⟨h.size, firstK l h.first, refsK l h.refs, if keep = 0 then 0 else h.shots, keep⟩, .bool (shotsOk l)]) ∧ Below w.heap.size w w' := by
  obtain ⟨s, f, r, u, m⟩ := h
  have b0 := HBox.new w ⟨s, f, r, u, m⟩
  have b1 := HBox.new (w.alloc (.cells #[.int .i64 s, .int .i64 f, .int .i64 r, .int .i64 u, .int .i64 m] 34)) ⟨0, 0, 0, 0, 0⟩
  have b0' := b0.keep (w' := (w.alloc (.cells #[.int .i64 s, .int .i64 f, .int .i64 r, .int .i64 u, .int .i64 m] 34)).alloc (.cells #[.int .i64 0, .int .i64 0, .int .i64 0, .int .i64 0, .int .i64 0] 34)) (Below.heap_alloc _ _ _ (by simp))
  have hz : (w.alloc (.cells #[.int .i64 s, .int .i64 f, .int .i64 r, .int .i64 u, .int .i64 m] 34)).heap.size = w.heap.size + 1 := by simp
  rw [hz] at b1
  have B2 := ((Below.refl w.heap.size w).alloc (Nat.le_refl _) (.cells #[.int .i64 s, .int .i64 f, .int .i64 r, .int .i64 u, .int .i64 m] 34)).alloc (by simp) (.cells #[.int .i64 0, .int .i64 0, .int .i64 0, .int .i64 0, .int .i64 0] 34)
  clear hz b0
  unfold hdV
  simp only
  go_enter Tryz.func43, Tryz.ntmps43
  go_wp2_with fail
  generalize ((w.alloc (.cells #[.int .i64 s, .int .i64 f, .int .i64 r, .int .i64 u, .int .i64 m] 34)).alloc (.cells #[.int .i64 0, .int .i64 0, .int .i64 0, .int .i64 0, .int .i64 0] 34)) = w2 at *
  go_loopw [8, 9] (fun b i wr => HdRel w l s f r u m b i wr) (fun _ i _ => l.length - (intOf i).toNat)
  case atStart => exact ⟨0, Nat.zero_le _, rfl, rfl, b0', b1, B2⟩
  case round =>
    obtain ⟨k, hk, rfl, rfl, hb0, hb1, hB⟩ := hrel
    have sr := hB.size
    have p0 := hb0.lt
    have p1 := hb1.lt
    by_cases hlt : k < l.length
    · have hce := cm_cells (hr.below hB) hlt
      have hgd : l.getD k cm0 = l[k] := by simp [List.getD_eq_getElem?_getD, hlt]
      rw [hgd] at hce
      have A5 := Lib.hid (any_step (fun c => c.good && c.kind == 5) l k hlt)
      have A2 := Lib.hid (any_step (fun c => !c.good && c.kind == 2) l k hlt)
      have A3 := Lib.hid (any_step (fun c => !c.good && c.kind == 3) l k hlt)
      have HS : Hid (∀ q, shotsOk (l.take q) = (l.take q).any (fun c => c.good && c.kind == 5)) := fun _ => rfl
      have HF : Hid (∀ q, firstK (l.take q) f = if (l.take q).any (fun c => !c.good && c.kind == 2) = true then 0 else f) := fun _ => rfl
      have HRf : Hid (∀ q, refsK (l.take q) r = if (l.take q).any (fun c => !c.good && c.kind == 3) = true then 0 else r) := fun _ => rfl
      have HB := Lib.hid hB
      clear hgd hB
      generalize l[k] = x at *
      obtain ⟨xk, xf, xs', xp, xt, xg⟩ := x
      have e0 : wr.cell? ⟨g, k * 6, none⟩ = some (.int .i64 xk) := hce 0 (by omega)
      have e1 : wr.cell? ⟨g, k * 6 + 1, none⟩ = some (.int .i64 xf) := hce 1 (by omega)
      have e2 : wr.cell? ⟨g, k * 6 + 2, none⟩ = some (.int .i64 xs') := hce 2 (by omega)
      have e3 : wr.cell? ⟨g, k * 6 + 3, none⟩ = some (.int .i64 xp) := hce 3 (by omega)
      have e4 : wr.cell? ⟨g, k * 6 + 4, none⟩ = some (.int .i64 xt) := hce 4 (by omega)
      have e5 : wr.cell? ⟨g, k * 6 + 5, none⟩ = some (.bool xg) := hce 5 (by omega)
      clear hce
      have hba := hb0.keep (w' := wr.alloc (.cells #[.int .i64 xk, .int .i64 xf, .int .i64 xs', .int .i64 xp, .int .i64 xt, .bool xg] 51)) (Below.heap_alloc _ _ _ p0)
      have hbb := hb1.keep (w' := wr.alloc (.cells #[.int .i64 xk, .int .i64 xf, .int .i64 xs', .int .i64 xp, .int .i64 xt, .bool xg] 51)) (Below.heap_alloc _ _ _ p1)
      have hBa := HB.out.alloc sr (.cells #[.int .i64 xk, .int .i64 xf, .int .i64 xs', .int .i64 xp, .int .i64 xt, .bool xg] 51)
      have HBa := Lib.hid hBa
      have HHa := Lib.hid hba
      have HHb := Lib.hid hbb
      have H0 := Lib.hid hb0
      have H1 := Lib.hid hb1
      clear hBa hb0 hb1 hbb
      cases xg
      · have E5 : Hid (shotsOk (l.take (k + 1)) = shotsOk (l.take k)) := by rw [HS.out, HS.out, A5.out]; exact Bool.or_false _
        by_cases h2 : xk = 2
        · subst h2
          have d2 : ((2 : Int) == 2) = true := by simp
          have E2 : Hid (firstK (l.take (k + 1)) f = 0) := by rw [HF.out, A2.out]; simp [Hid]
          have E3 : Hid (refsK (l.take (k + 1)) r = refsK (l.take k) r) := by rw [HRf.out, HRf.out, A3.out]; simp [Hid]
          have c1 := hba.cell 1
          have f1 := hba.free 1
          have HP := Lib.hid (H0.out.put1 0)
          have HBs1 : Hid (Below w.heap.size w (wr.setCell ⟨w.heap.size, 1, none⟩ (.int .i64 0))) := HB.out.setCell (Nat.le_refl _) _
          clear A2 A3 A5 HS HF HRf hba
          generalize shotsOk (l.take k) = bk at *
          generalize firstK (l.take k) f = fk at *
          generalize refsK (l.take k) r = rk at *
          go_wp2_with fail
          go_roundw
          case rel => exact ⟨k + 1, by omega, by go_num, by rw [E5.out], by rw [E2.out, E3.out]; exact HP.out.keep (Below.heap_alloc _ _ _ HP.out.lt), (H1.out.keep (w' := wr.setCell ⟨w.heap.size, 1, none⟩ (.int .i64 0)) (Below.heap_setCell _ _ _ _ (by show w.heap.size + 1 ≠ w.heap.size; omega))).keep (Below.heap_alloc _ _ _ (H1.out.keep (w' := wr.setCell ⟨w.heap.size, 1, none⟩ (.int .i64 0)) (Below.heap_setCell _ _ _ _ (by show w.heap.size + 1 ≠ w.heap.size; omega))).lt), HBs1.out.alloc (by have := HP.out.lt; omega) _⟩
          case measure => simp [intOf]; omega
        · have d2 : (xk == 2) = false := by simpa using h2
          have E2 : Hid (firstK (l.take (k + 1)) f = firstK (l.take k) f) := by rw [HF.out, HF.out, A2.out]; simp [h2, Hid]
          by_cases h3 : xk = 3
          · subst h3
            have d3 : ((3 : Int) == 3) = true := by simp
            have E3 : Hid (refsK (l.take (k + 1)) r = 0) := by rw [HRf.out, A3.out]; simp [Hid]
            have c2 := hba.cell 2
            have f2 := hba.free 2
            have HP := Lib.hid (H0.out.put2 0)
            have HBs2 : Hid (Below w.heap.size w (wr.setCell ⟨w.heap.size, 2, none⟩ (.int .i64 0))) := HB.out.setCell (Nat.le_refl _) _
            clear A2 A3 A5 HS HF HRf hba h2
            generalize shotsOk (l.take k) = bk at *
            generalize firstK (l.take k) f = fk at *
            generalize refsK (l.take k) r = rk at *
            go_wp2_with fail
            go_roundw
            case rel => exact ⟨k + 1, by omega, by go_num, by rw [E5.out], by rw [E2.out, E3.out]; exact HP.out.keep (Below.heap_alloc _ _ _ HP.out.lt), (H1.out.keep (w' := wr.setCell ⟨w.heap.size, 2, none⟩ (.int .i64 0)) (Below.heap_setCell _ _ _ _ (by show w.heap.size + 1 ≠ w.heap.size; omega))).keep (Below.heap_alloc _ _ _ (H1.out.keep (w' := wr.setCell ⟨w.heap.size, 2, none⟩ (.int .i64 0)) (Below.heap_setCell _ _ _ _ (by show w.heap.size + 1 ≠ w.heap.size; omega))).lt), HBs2.out.alloc (by have := HP.out.lt; omega) _⟩
            case measure => simp [intOf]; omega
          · have d3 : (xk == 3) = false := by simpa using h3
            have E3 : Hid (refsK (l.take (k + 1)) r = refsK (l.take k) r) := by rw [HRf.out, HRf.out, A3.out]; simp [h3, Hid]
            clear A2 A3 A5 HS HF HRf hba h2 h3
            generalize shotsOk (l.take k) = bk at *
            go_wp2_with fail
            go_roundw
            case rel => exact ⟨k + 1, by omega, by go_num, by rw [E5.out], by rw [E2.out, E3.out]; exact HHa.out, HHb.out, HBa.out⟩
            case measure => simp [intOf]; omega
      · have E2 : Hid (firstK (l.take (k + 1)) f = firstK (l.take k) f) := by rw [HF.out, HF.out, A2.out]; simp [Hid]
        have E3 : Hid (refsK (l.take (k + 1)) r = refsK (l.take k) r) := by rw [HRf.out, HRf.out, A3.out]; simp [Hid]
        have E5 : Hid (shotsOk (l.take (k + 1)) = (shotsOk (l.take k) || (xk == 5))) := by rw [HS.out, HS.out, A5.out]; exact rfl
        clear A2 A3 A5 HS HF HRf hba
        generalize shotsOk (l.take k) = bk at *
        cases bk
        · go_wp2_with fail
          go_roundw
          case rel => exact ⟨k + 1, by omega, by go_num, by rw [E5.out, Bool.false_or], by rw [E2.out, E3.out]; exact HHa.out, HHb.out, HBa.out⟩
          case measure => simp [intOf]; omega
        · go_wp2_with fail
          go_roundw
          case rel => exact ⟨k + 1, by omega, by go_num, by rw [E5.out, Bool.true_or], by rw [E2.out, E3.out]; exact HHa.out, HHb.out, HBa.out⟩
          case measure => simp [intOf]; omega
    · obtain rfl : k = l.length := by omega
      rw [List.take_length] at hb0 ⊢
      have c0 : wr.cell? ⟨w.heap.size, 0, none⟩ = some (.int .i64 s) := hb0.cell 0
      have c1 : wr.cell? ⟨w.heap.size, 1, none⟩ = some (.int .i64 (firstK l f)) := hb0.cell 1
      have c2 : wr.cell? ⟨w.heap.size, 2, none⟩ = some (.int .i64 (refsK l r)) := hb0.cell 2
      have c3 : wr.cell? ⟨w.heap.size, 3, none⟩ = some (.int .i64 u) := hb0.cell 3
      have c4 : wr.cell? ⟨w.heap.size, 4, none⟩ = some (.int .i64 m) := hb0.cell 4
      have f3 := hb0.free 3
      have f4 := hb0.free 4
      have e0 : wr.cell? ⟨w.heap.size + 1, 0, none⟩ = some (.int .i64 0) := hb1.cell 0
      have e1 : wr.cell? ⟨w.heap.size + 1, 1, none⟩ = some (.int .i64 0) := hb1.cell 1
      have e2 : wr.cell? ⟨w.heap.size + 1, 2, none⟩ = some (.int .i64 0) := hb1.cell 2
      have e3 : wr.cell? ⟨w.heap.size + 1, 3, none⟩ = some (.int .i64 0) := hb1.cell 3
      have e4 : wr.cell? ⟨w.heap.size + 1, 4, none⟩ = some (.int .i64 0) := hb1.cell 4
      have k0 := hb1.free 0
      have k1 := hb1.free 1
      have k2 := hb1.free 2
      have k3 := hb1.free 3
      have k4 := hb1.free 4
      have HB := Lib.hid hB
      clear hb0 hb1 hB
      by_cases h0 : keep = 0
      · subst h0
        have d0 : ((0 : Int) == 0) = true := by simp
        go_wp2_with fail
        refine bodyPost_ret (v := .tuple #[hdV ⟨s, firstK l f, refsK l r, 0, 0⟩, .bool (shotsOk l)]) (by simp [results, Tryz.results43, go_sem, hdV, e0, e1, e2, e3, e4]) rfl ⟨rfl, ?_⟩
        iterate 7 (refine Below.setCell ?_ (by show w.heap.size ≤ _; simp) _)
        exact HB.out
      · have d0 : (keep == 0) = false := by simpa using h0
        go_wp2_with fail
        refine bodyPost_ret (v := .tuple #[hdV ⟨s, firstK l f, refsK l r, u, keep⟩, .bool (shotsOk l)]) (by simp [results, Tryz.results43, go_sem, hdV, e0, e1, e2, e3, e4]) rfl ⟨rfl, ?_⟩
        iterate 6 (refine Below.setCell ?_ (by show w.heap.size ≤ _; simp) _)
        exact HB.out

theorem kind5_tab {xs : List Int} {size : Int} {l : List Cm} {kind : Int} {frm : Nat} {place step t : Int} (hk : kind ≠ 5) (hl : ∀ c ∈ l, c.kind = 5 → c.target = t) : ∀ c ∈ tabC xs size l kind frm place step, c.kind = 5 → c.target = t := by
  unfold tabC
  refine foldl_all (fun c : Cm => c.kind = 5 → c.target = t) (fun _ => True) _ (fun l i hl _ => ?_) _ _ hl (fun _ _ => trivial)
  unfold tabStep
  split
  · exact addC_all _ hl (fun h => absurd h hk)
  · exact hl
theorem kind5_shots (xs : List Int) : ∀ c ∈ claimsC xs, c.kind = 5 → c.target = (headOf xs).shots := by
  have h2 : ∀ c ∈ c2C xs (headOf xs), c.kind = 5 → c.target = (headOf xs).shots := by
    intro c hc
    unfold c2C c1C addC at hc
    simp at hc
    rcases hc with rfl | rfl | rfl <;> simp
  have h3 : ∀ c ∈ c3C xs (headOf xs), c.kind = 5 → c.target = (headOf xs).shots := by
    unfold c3C; split
    · exact kind5_tab (by omega) h2
    · exact h2
  have h4 : ∀ c ∈ c4C xs (headOf xs), c.kind = 5 → c.target = (headOf xs).shots := by
    have h5 : ∀ c ∈ addC xs (headOf xs).size (c3C xs (headOf xs)) ⟨5, 0, 0, 0, (headOf xs).shots, false⟩, c.kind = 5 → c.target = (headOf xs).shots := addC_all _ h3 (fun _ => rfl)
    unfold c4C shotsC; split
    · exact h3
    · split
      · exact foldl_all (fun c : Cm => c.kind = 5 → c.target = (headOf xs).shots) (fun _ => True) _ (fun l i hl _ => addC_all _ hl (fun h => by simp at h)) _ _ h5 (fun _ _ => trivial)
      · exact h5
  have h5 : ∀ c ∈ c5C xs (headOf xs), c.kind = 5 → c.target = (headOf xs).shots := by
    unfold c5C
    exact foldl_all (fun c : Cm => c.kind = 5 → c.target = (headOf xs).shots) (fun _ => True) _ (fun l i hl _ => kind5_tab (by omega) hl) _ _ h4 (fun _ _ => trivial)
  unfold claimsC c6C
  refine foldl_all (fun c : Cm => c.kind = 5 → c.target = (headOf xs).shots) (fun _ => True) _ (fun l c hl _ => ?_) _ _ h5 (fun _ _ => trivial)
  unfold datStep
  split
  · exact kind5_tab (by omega) hl
  · exact hl
theorem shots_there {xs : List Int} (h : shotsOk (claimsC xs) = true) : thereB xs (headOf xs).shots = true := by
  unfold shotsOk at h
  rw [List.any_eq_true] at h
  obtain ⟨c, hc, hk⟩ := h
  simp at hk
  have := kind5_shots xs c hc hk.2
  rcases (claims_ok xs c hc).lead hk.1 with h1 | h1
  · omega
  · rw [this] at h1; exact h1
/-- Where the last loop stands. -/
def ClrRel (w6 : World) (lo hi g n c : Nat) (l : List Cm) (z : List Int) (i : Value) (wr : World) : Prop :=
  ∃ k : Nat, k ≤ l.length ∧ i = .int .i64 k ∧ Ow wr lo hi (some ⟨g, 0, none⟩) n c ((l.take k).foldl clrStep z) ∧ w6.grownBy wr (some g)

set_option maxRecDepth 100000 in
set_option maxHeartbeats 8000000 in
theorem specClr_any (A : Option Addr) (n cb : Nat) (xs : List Int) (w : World) (hr : Rd w w.heap.size A n xs) (hh : hasHead xs = true) :
    Calls Tryz.prog 16 #[.slice A n cb] w (Ret w (clrC xs)) := by
  have hlen := hasHead_len hh
  have hn : n ≤ 512 := by have := hr.len; omega
  have hmany := manyN_le (hasHead_img hh)
  have hall := headB_all (hasHead_ok hh)
  have HI := Lib.hid (headIn_yes hh)
  have HH := Lib.hid hh
  have HC : Hid (clrC xs = setCl ((claimsC xs).foldl clrStep (if shotsOk (claimsC xs) = true then keepL (headOf xs) (keepOf xs (claimsC xs)) (whole xs) else whole xs)) 0 (hdW ⟨(headOf xs).size, firstK (claimsC xs) (headOf xs).first, refsK (claimsC xs) (headOf xs).refs, if ((keepOf xs (claimsC xs)).length / 2 : Nat) = 0 then 0 else (headOf xs).shots, ((keepOf xs (claimsC xs)).length / 2 : Nat)⟩)) := rfl
  have HTh := Lib.hid (fun h => shots_there (xs := xs) h)
  have HOk := Lib.hid (claims_ok xs)
  have hp : 0 < manyN xs := by unfold manyN; omega
  clear hh
  go_enter Tryz.func16, Tryz.ntmps16
  go_wp2_with fail
  refine (specHeadIn_any _ _ _ xs _ hr (by omega)).mono ?_
  rintro e w1 ⟨rfl, b1⟩
  rw [HI.out]
  generalize headOf xs = h at *
  obtain ⟨s, f, r, u, m⟩ := h
  simp only at hall
  unfold hdV
  have b2 := b1.alloc b1.size (.cells #[.int .i64 s, .int .i64 f, .int .i64 r, .int .i64 u, .int .i64 m] 34)
  have hx0 : HBox (w1.alloc (.cells #[.int .i64 s, .int .i64 f, .int .i64 r, .int .i64 u, .int .i64 m] 34)) w1.heap.size ⟨s, f, r, u, m⟩ := HBox.new w1 ⟨s, f, r, u, m⟩
  have hz : (w1.alloc (.cells #[.int .i64 s, .int .i64 f, .int .i64 r, .int .i64 u, .int .i64 m] 34)).heap.size = w1.heap.size + 1 := by simp
  go_wp2_with fail
  generalize (w1.alloc (.cells #[.int .i64 s, .int .i64 f, .int .i64 r, .int .i64 u, .int .i64 m] 34)) = w2 at *
  refine (specClaims_any A n cb xs w2 ((hr.below b2).more b2.size) (by omega) HH.out).mono ?_
  rintro e w3 ⟨g, cg, rfl, oG, b3⟩
  have s3 := b3.size
  have b03 := below_more b2 b3 b2.size
  have hgl := oG.low
  have hgt := oG.lt
  have hx3 := hx0.keep (b3.block _ (by omega))
  have hll := claims_length xs
  have HSl : Hid (∀ c ∈ claimsC xs, c.kind = 6 → 0 ≤ c.slot ∧ c.slot < (shotsL xs).length) := fun c hc hk => ⟨(HOk.out c hc).slot0, (HOk.out c hc).shot hk⟩
  have RD := Lib.hid oG.rd
  go_wp2_with fail
  refine (specKept_any A n cb g cg xs (claimsC xs) w3 ((hr.below b03).more b03.size) (by omega) RD.out (by omega) HSl.out).mono ?_
  rintro e w4 ⟨gk, nk, ck, rfl, hck, ok4, b4⟩
  have s4 := b4.size
  have b04 := below_more b03 b4 b03.size
  have hx4 := hx3.keep (b4.block _ (by omega))
  have RD4 := Lib.hid (RD.out.below b4)
  have hnk := ok4.len
  have hkl := keepOf_length xs (claimsC xs)
  go_wp2_with fail
  refine (specWhole_any A n cb xs w4 ((hr.below b04).more b04.size) (by omega)).mono ?_
  rintro e w5 ⟨go, no, co, rfl, hco, o5, b5⟩
  have s5 := b5.size
  have b05 := below_more b04 b5 b04.size
  have hx5 := hx4.keep (b5.block _ (by omega))
  have RD5 := Lib.hid ((RD4.out.more (by omega : w3.heap.size ≤ w4.heap.size)).below b5)
  have rk5 := ok4.rd.below b5
  obtain rfl : manyN xs * 8 = no := by have := o5.len; rw [whole_length] at this; exact this
  have hgo : w4.heap.size ≤ go ∧ go < w5.heap.size := by
    rcases o5.form with ⟨h, _⟩ | ⟨x, hx, h1, h2, _⟩
    · cases h
    · injection hx with hx; injection hx with hx; omega
  have k0 : w5.cell? ⟨w1.heap.size, 0, none⟩ = some (.int .i64 s) := hx5.cell 0
  have k1 : w5.cell? ⟨w1.heap.size, 1, none⟩ = some (.int .i64 f) := hx5.cell 1
  have k2 : w5.cell? ⟨w1.heap.size, 2, none⟩ = some (.int .i64 r) := hx5.cell 2
  have k3 : w5.cell? ⟨w1.heap.size, 3, none⟩ = some (.int .i64 u) := hx5.cell 3
  have k4 : w5.cell? ⟨w1.heap.size, 4, none⟩ = some (.int .i64 m) := hx5.cell 4
  have hb1 := b1.size
  have hb2 := b2.size
  clear b1 b2 b3 b4 oG hx0 hx3 hx4 b03 b04 RD RD4
  generalize claimsC xs = l at *
  obtain ⟨kw, hkw⟩ : ∃ kw, kw = keepOf xs l := ⟨_, rfl⟩
  rw [← hkw] at HC ok4 rk5 hnk hkl
  have HKW := Lib.hid hkw
  clear hkw
  go_wp2_with fail
  refine (specHead12_any g cg l ⟨s, f, r, u, m⟩ ((nk : Int) / 2) w5 (RD5.out.more (by omega)) (by omega)).mono ?_
  rintro e w6 ⟨rfl, b6⟩
  simp only
  have HQ : Hid ((kw.length / 2 : Nat) = ((nk / 2 : Nat))) := by rw [hnk]; exact rfl
  obtain ⟨U, hU⟩ : ∃ U : Int, (if (nk : Int) / 2 = 0 then 0 else u) = U := ⟨_, rfl⟩
  have HX : Hid (clrC xs = setCl (l.foldl clrStep (if shotsOk l = true then keepL ⟨s, f, r, u, m⟩ kw (whole xs) else whole xs)) 0 (hdW ⟨s, firstK l f, refsK l r, U, (nk : Int) / 2⟩)) := by
    rw [HC.out, HQ.out, ← hU]
    have e1 : ((nk / 2 : Nat) : Int) = (nk : Int) / 2 := by omega
    have e2 : (if (nk / 2 : Nat) = 0 then (0 : Int) else u) = (if (nk : Int) / 2 = 0 then 0 else u) := by
      by_cases h0 : nk / 2 = 0
      · rw [if_pos h0, if_pos (by omega)]
      · rw [if_neg h0, if_neg (by omega)]
    rw [e2, e1]
    exact rfl
  rw [hU]
  clear hU HC HQ k0 k1 k2 k3 k4
  generalize firstK l f = F at *
  generalize refsK l r = R at *
  generalize (nk : Int) / 2 = Q at *
  unfold hdV
  have b06 := below_more b05 b6 b05.size
  have s6 := b6.size
  have hx6 := hx5.keep (b6.block _ (by omega))
  have o6 := o5.below b6 (Nat.le_refl _)
  have rk6 := rk5.below (b6.mono (by omega))
  have RD6 := Lib.hid (RD5.out.below (b6.mono (by omega)))
  have b07 := b06.alloc b06.size (.cells #[.int .i64 s, .int .i64 F, .int .i64 R, .int .i64 U, .int .i64 Q] 34)
  have y7 : HBox (w6.alloc (.cells #[.int .i64 s, .int .i64 F, .int .i64 R, .int .i64 U, .int .i64 Q] 34)) w6.heap.size ⟨s, F, R, U, Q⟩ := HBox.new w6 ⟨s, F, R, U, Q⟩
  have al7 := (Below.refl w6.heap.size w6).alloc (Nat.le_refl _) (.cells #[.int .i64 s, .int .i64 F, .int .i64 R, .int .i64 U, .int .i64 Q] 34)
  have hx7 := hx6.keep (al7.block _ (by have := hx6.lt; omega))
  have o7 := o6.below al7 (by omega)
  have rk7 := rk6.below (al7.mono (by omega))
  have RD7 := Lib.hid (RD6.out.below (al7.mono (by omega)))
  have hz7 : (w6.alloc (.cells #[.int .i64 s, .int .i64 F, .int .i64 R, .int .i64 U, .int .i64 Q] 34)).heap.size = w6.heap.size + 1 := by simp
  have k0 : (w6.alloc (.cells #[.int .i64 s, .int .i64 F, .int .i64 R, .int .i64 U, .int .i64 Q] 34)).cell? ⟨w1.heap.size, 0, none⟩ = some (.int .i64 s) := hx7.cell 0
  have k1 : (w6.alloc (.cells #[.int .i64 s, .int .i64 F, .int .i64 R, .int .i64 U, .int .i64 Q] 34)).cell? ⟨w1.heap.size, 1, none⟩ = some (.int .i64 f) := hx7.cell 1
  have k2 : (w6.alloc (.cells #[.int .i64 s, .int .i64 F, .int .i64 R, .int .i64 U, .int .i64 Q] 34)).cell? ⟨w1.heap.size, 2, none⟩ = some (.int .i64 r) := hx7.cell 2
  have k3 : (w6.alloc (.cells #[.int .i64 s, .int .i64 F, .int .i64 R, .int .i64 U, .int .i64 Q] 34)).cell? ⟨w1.heap.size, 3, none⟩ = some (.int .i64 u) := hx7.cell 3
  have k4 : (w6.alloc (.cells #[.int .i64 s, .int .i64 F, .int .i64 R, .int .i64 U, .int .i64 Q] 34)).cell? ⟨w1.heap.size, 4, none⟩ = some (.int .i64 m) := hx7.cell 4
  clear o5 o6 rk5 rk6 ok4 RD5 RD6 hx5 hx6 b05 b06 b5 b6 al7
  cases hso : shotsOk l
  case' false =>
    have HZ1 : Hid (clrC xs = setCl (l.foldl clrStep (whole xs)) 0 (hdW ⟨s, F, R, U, Q⟩)) := by rw [HX.out, hso]; exact rfl
    clear HX
    go_wp2_with fail
    generalize (w6.alloc (.cells #[.int .i64 s, .int .i64 F, .int .i64 R, .int .i64 U, .int .i64 Q] 34)) = w7 at *
    obtain ⟨z, hzz⟩ : ∃ z, z = whole xs := ⟨_, rfl⟩
    rw [← hzz] at HZ1 o7
    have HZZ : Hid (z.length = manyN xs * 8) := by rw [hzz]; exact whole_length xs
    clear hzz
    obtain ⟨w8, h78⟩ : ∃ w8, w8 = w7 := ⟨_, rfl⟩
    rw [← h78] at o7 y7 b07 RD7 hz7 ⊢
    have s8 : w6.heap.size + 1 ≤ w8.heap.size := by omega
    clear h78 hz7 k0 k1 k2 k3 k4 hx7 rk7
  case' true =>
    have hth := HTh.out hso
    have htl := there_lt hth
    have HZ1 : Hid (clrC xs = setCl (l.foldl clrStep (keepL ⟨s, f, r, u, m⟩ kw (whole xs))) 0 (hdW ⟨s, F, R, U, Q⟩)) := by rw [HX.out, hso]; exact rfl
    clear HX
    go_wp2_with fail
    generalize (w6.alloc (.cells #[.int .i64 s, .int .i64 F, .int .i64 R, .int .i64 U, .int .i64 Q] 34)) = w7 at *
    refine (specKeep_any go (manyN xs * 8) co w4.heap.size w5.heap.size nk ck (some ⟨gk, 0, none⟩) (whole xs) kw ⟨s, f, r, u, m⟩ w7 o7 rk7 hgo.1 (by simp only; omega) (by simp only; omega) (by simp only; omega) (by simp only; omega) (by omega) (by omega)).mono ?_
    rintro e w8 ⟨rfl, o8, g8⟩
    have y7 := y7.keep (g8.block _ (by omega) (fun e => by injection e with e; omega))
    have b07 := b07.grown g8 b07.size (fun q e => by cases e; omega)
    have RD7 := Lib.hid (RD7.out.grown g8 (by show g < _; omega) (by show g ≠ go; omega))
    have s8 : w6.heap.size + 1 ≤ w8.heap.size := by have := g8.size; omega
    obtain ⟨z, hzz⟩ : ∃ z, z = keepL ⟨s, f, r, u, m⟩ kw (whole xs) := ⟨_, rfl⟩
    have HZZ : Hid (z.length = manyN xs * 8) := by rw [hzz]; exact o8.len ▸ rfl
    rw [← hzz] at HZ1 o8
    have o7 := o8
    clear hzz o8 g8 hz7 k0 k1 k2 k3 k4 hx7 rk7 hth htl
    go_wp2_with fail
  all_goals
    have HY := Lib.hid y7
    have HB := Lib.hid b07
    clear y7 b07 hso HTh
    go_loopw [10] (fun i wr => ClrRel w8 w4.heap.size w5.heap.size go (manyN xs * 8) co l z i wr) (fun i _ => l.length - (intOf i).toNat)
    case atStart => exact ⟨0, Nat.zero_le _, rfl, o7, grown_refl _ _⟩
    case round =>
      obtain ⟨k, hk, rfl, ho, hg⟩ := hrel
      have sr := hg.size
      by_cases hlt : k < l.length
      · have hce := cm_cells (RD7.out.grown hg (by show g < _; omega) (by show g ≠ go; omega)) hlt
        have hgd : l.getD k cm0 = l[k] := by simp [List.getD_eq_getElem?_getD, hlt]
        rw [hgd] at hce
        have HS := Lib.hid (take_fold clrStep l z k hlt)
        have HO := Lib.hid (HOk.out _ (List.getElem_mem hlt))
        clear hgd
        generalize (l.take k).foldl clrStep z = fs at *
        generalize l[k] = x at *
        obtain ⟨xk, xf, xs', xp, xt, xg⟩ := x
        have e0 : wr.cell? ⟨g, k * 6, none⟩ = some (.int .i64 xk) := hce 0 (by omega)
        have e1 : wr.cell? ⟨g, k * 6 + 1, none⟩ = some (.int .i64 xf) := hce 1 (by omega)
        have e2 : wr.cell? ⟨g, k * 6 + 2, none⟩ = some (.int .i64 xs') := hce 2 (by omega)
        have e3 : wr.cell? ⟨g, k * 6 + 3, none⟩ = some (.int .i64 xp) := hce 3 (by omega)
        have e4 : wr.cell? ⟨g, k * 6 + 4, none⟩ = some (.int .i64 xt) := hce 4 (by omega)
        have e5 : wr.cell? ⟨g, k * 6 + 5, none⟩ = some (.bool xg) := hce 5 (by omega)
        clear hce
        have hoa := Lib.hid (ho.keep (w' := wr.alloc (.cells #[.int .i64 xk, .int .i64 xf, .int .i64 xs', .int .i64 xp, .int .i64 xt, .bool xg] 51)) (fun q _ _ hq => Below.heap_alloc _ _ _ hq))
        have hga := Lib.hid (grown_trans hg (World.grownBy_alloc wr (.cells #[.int .i64 xk, .int .i64 xf, .int .i64 xs', .int .i64 xp, .int .i64 xt, .bool xg] 51) (some go)))
        cases xg
        · by_cases hkk : xk = 4 ∨ 7 ≤ xk
          · have HE : Hid ((l.take (k + 1)).foldl clrStep z = fs.set (xf.toNat * 8 + xs'.toNat) 0) := by
              rw [HS.out]
              show clrStep fs _ = _
              unfold clrStep lzB
              exact if_pos (by rcases hkk with h | h <;> simp [h])
            have hk8 := HO.out.kind1
            have hfr := HO.out.from_ (by simp only at hk8 ⊢; omega)
            have hs0 := HO.out.slot0
            have hs1 := HO.out.slot1
            simp only at hfr hs0 hs1
            obtain ⟨t1, t2⟩ := there_lt hfr
            obtain ⟨τ, rfl⟩ := Int.eq_ofNat_of_zero_le (show 0 ≤ xf by omega)
            obtain ⟨σ, rfl⟩ := Int.eq_ofNat_of_zero_le hs0
            rw [Int.toNat_natCast, Int.toNat_natCast] at HE
            have hidx : τ * 8 + σ < manyN xs * 8 := by omega
            have hcc := ho.cell hidx
            have hff := ho.free (τ * 8 + σ)
            have HSt := Lib.hid (ho.set (τ * 8 + σ) 0)
            have n6a : (0 : Int) ≤ (τ : Int) * 8 + (σ : Int) := by omega
            have n6b : (τ : Int) * 8 + (σ : Int) < (manyN xs : Int) * 8 := by omega
            have n6c : ((τ : Int) * 8 + (σ : Int)).toNat = τ * 8 + σ := by omega
            have n6d : (τ : Int) * 8 + (σ : Int) < ((manyN xs * 8 : Nat) : Int) := by omega
            have hgw := ow_lt ho
            clear HS HO hfr hs0 hk8
            generalize fs.getD (τ * 8 + σ) 0 = v0 at *
            have fin : Hid (ClrRel w8 w4.heap.size w5.heap.size go (manyN xs * 8) co l z (.int .i64 ((k + 1 : Nat) : Int)) ((wr.setCell ⟨go, τ * 8 + σ, none⟩ (.int .i64 0)).alloc (.cells #[.int .i64 xk, .int .i64 τ, .int .i64 σ, .int .i64 xp, .int .i64 xt, .bool false] 51))) := by
              obtain ⟨h1, h2⟩ := HSt.out
              refine ⟨k + 1, by omega, rfl, ?_, grown_trans hg (grown_trans h2 (World.grownBy_alloc _ _ _))⟩
              rw [HE.out]
              exact h1.keep (fun q _ _ hq => Below.heap_alloc _ _ _ hq)
            rcases (show xk < 7 ∨ 7 ≤ xk by omega) with h7 | h7
            · obtain rfl : xk = 4 := by omega
              have d4 : ((4 : Int) == 4) = true := by simp
              clear hkk
              go_wp2_with fail
              go_roundw
              case rel => exact fin.out
              case measure => simp [intOf]; omega
            · have d4 : (xk == 4) = false := by simp; omega
              have d7 : decide ((7 : Int) ≤ xk) = true := by simpa using h7
              clear hkk
              go_wp2_with fail
              go_roundw
              case rel => exact fin.out
              case measure => simp [intOf]; omega
          · have HE : Hid ((l.take (k + 1)).foldl clrStep z = fs) := by
              rw [HS.out]
              show clrStep fs _ = _
              unfold clrStep lzB
              exact if_neg (by simp; omega)
            have d4 : (xk == 4) = false := by simp; omega
            have d7 : decide ((7 : Int) ≤ xk) = false := by simp; omega
            clear HS HO hkk
            go_wp2_with fail
            go_roundw
            case rel => exact ⟨k + 1, by omega, by go_num, by rw [HE.out]; exact hoa.out, hga.out⟩
            case measure => simp [intOf]; omega
        · have HE : Hid ((l.take (k + 1)).foldl clrStep z = fs) := by rw [HS.out]; exact rfl
          clear HS HO
          go_wp2_with fail
          go_roundw
          case rel => exact ⟨k + 1, by omega, by go_num, by rw [HE.out]; exact hoa.out, hga.out⟩
          case measure => simp [intOf]; omega
      · obtain rfl : k = l.length := by omega
        rw [List.take_length] at ho
        have hyr := HY.out.keep (hg.block _ (by omega) (fun e => by injection e with e; omega))
        have q0 : wr.cell? ⟨w6.heap.size, 0, none⟩ = some (.int .i64 s) := hyr.cell 0
        have q1 : wr.cell? ⟨w6.heap.size, 1, none⟩ = some (.int .i64 F) := hyr.cell 1
        have q2 : wr.cell? ⟨w6.heap.size, 2, none⟩ = some (.int .i64 R) := hyr.cell 2
        have q3 : wr.cell? ⟨w6.heap.size, 3, none⟩ = some (.int .i64 U) := hyr.cell 3
        have q4 : wr.cell? ⟨w6.heap.size, 4, none⟩ = some (.int .i64 Q) := hyr.cell 4
        have br := HB.out.grown hg HB.out.size (fun q e => by cases e; omega)
        clear hyr
        go_wp2_with fail
        refine (specHdWords_any ⟨s, F, R, U, Q⟩ wr).mono ?_
        rintro e w9 ⟨g9, n9, c9, rfl, hc9, o9, b9⟩
        obtain rfl : 8 = n9 := o9.len
        have b09 := below_more br b9 br.size
        have s9 := b9.size
        go_wp2_with fail
        refine (specWith_any go 0 (manyN xs * 8) co 0 (l.foldl clrStep z) (hdW ⟨s, F, R, U, Q⟩) (some ⟨g9, 0, none⟩) c9 w9 ((ho.below b9 (by omega)).rd.more (by omega)) o9.rd hco (by omega) (by omega) (by omega)).mono ?_
        rintro e w10 ⟨G, ng, cg', rfl, oG, b10⟩
        go_wp2_with fail
        go_ret
        rw [HZ1.out]
        exact ⟨G, ng, cg', rfl, oG.more b09.size (Nat.le_refl _), below_more b09 b10 b09.size⟩

theorem keep_all (b : List Int) : (claimsC b).filter (fun c => c.kind == 6 && c.good) = keepC b := by
  obtain ⟨J3, J4, J5, J6, P⟩ := claims_parts b
  unfold keepC
  rw [P.c6, P.c5, List.filter_append, List.filter_append]
  have e5 : J5.filter (fun c => c.kind == 6 && c.good) = [] := by
    rw [List.filter_eq_nil_iff]
    intro c hc
    obtain ⟨d, _, h, _⟩ := P.of5 hc
    simp [h]
  have e6 : J6.filter (fun c => c.kind == 6 && c.good) = [] := by
    rw [List.filter_eq_nil_iff]
    intro c hc
    obtain ⟨d, _, h, _⟩ := P.of6 hc
    simp [h]
  rw [e5, e6]
  simp
theorem keepW_flat (b : List Int) : keepW b = (keepC b).flatMap (pairW b) := by unfold keepW; rw [keep_all]
theorem pairs_length {α : Type} (f : α → List Int) (hf : ∀ x, (f x).length = 2) : ∀ l : List α, (l.flatMap f).length = 2 * l.length
  | [] => rfl
  | x :: l => by rw [List.flatMap_cons, List.length_append, hf, pairs_length f hf l, List.length_cons]; omega
theorem keepW_length (b : List Int) : (keepW b).length = 2 * (keepC b).length := by rw [keepW_flat]; exact pairs_length _ (fun _ => rfl) _
theorem pairs_get {α : Type} (f : α → List Int) (hf : ∀ x, (f x).length = 2) : ∀ (l : List α) (i : Nat) (j : Nat) (hi : i < l.length), j < 2 → (l.flatMap f).getD (2 * i + j) 0 = (f l[i]).getD j 0
  | [], i, _, hi, _ => by simp at hi
  | x :: l, 0, j, _, hj => by
    rw [List.flatMap_cons, List.getD_eq_getElem?_getD, List.getElem?_append_left (by rw [hf]; omega), List.getD_eq_getElem?_getD]
    simp
  | x :: l, i + 1, j, hi, hj => by
    have := pairs_get f hf l i j (by simpa using hi) hj
    rw [List.flatMap_cons, List.getD_eq_getElem?_getD, List.getElem?_append_right (by rw [hf]; omega), hf, show 2 * (i + 1) + j - 2 = 2 * i + j by omega, ← List.getD_eq_getElem?_getD, this]
    rfl
theorem keepC_mem {b : List Int} {c : Cm} (hc : c ∈ keepC b) : c ∈ claimsC b ∧ c.kind = 6 ∧ c.good = true := by
  rw [← keep_all, List.mem_filter] at hc
  simp at hc
  exact hc
theorem keepC_shot {b : List Int} {c : Cm} (hc : c ∈ keepC b) : c.target = ((shotsL b).getD c.slot.toNat (0, 0)).2 ∧ (⟨5, 0, 0, 0, (headOf b).shots, true⟩ : Cm) ∈ claimsC b := by
  obtain ⟨h1, h2, _⟩ := keepC_mem hc
  obtain ⟨J3, J4, J5, J6, P⟩ := claims_parts b
  rcases P.of4 (P.kind6 h1 (.inr h2)) with h | h
  · omega
  · exact ⟨h.2.2.2.2.1, h.2.2.2.2.2⟩
theorem keepC_le (b : List Int) : (keepC b).length ≤ (shotsL b).length := by
  obtain ⟨J3, J4, J5, J6, P⟩ := claims_parts b
  have e : keepC b = J4.filter (fun c => c.kind == 6 && c.good) := by
    unfold keepC
    rw [P.c4, List.filter_append]
    have : (c3C b (headOf b)).filter (fun c => c.kind == 6 && c.good) = [] := by
      rw [List.filter_eq_nil_iff]
      intro c hc
      have := c3_kind b _ c hc
      simp
      intro h
      omega
    rw [this, List.nil_append]
  rw [e]
  rcases P.e4 with ⟨g, h1, _⟩ | h1 | ⟨J, h1, h2⟩
  · rw [h1]; simp
  · rw [h1]; simp
  · rw [h1, List.filter_cons_of_neg (by simp)]
    have h3 := congrArg List.length h2
    rw [List.length_map, List.length_map] at h3
    have h4 : (shotT (headOf b) (shotsL b)).length = (shotsL b).length := by unfold shotT; simp
    have := List.length_filter_le (fun c : Cm => c.kind == 6 && c.good) J
    omega

theorem clr_get (l : List Cm) : ∀ (z : List Int) (j : Nat), (l.foldl clrStep z).getD j 0 = if l.any (fun c => lzB c && decide (c.frm.toNat * 8 + c.slot.toNat = j)) = true then 0 else z.getD j 0 := by
  induction l with
  | nil => intro z j; simp
  | cons c l ih =>
    intro z j
    rw [List.foldl_cons, ih, List.any_cons]
    by_cases h2 : l.any (fun c => lzB c && decide (c.frm.toNat * 8 + c.slot.toNat = j)) = true
    · rw [if_pos h2, if_pos (by rw [h2]; simp)]
    · rw [if_neg h2]
      rw [Bool.not_eq_true] at h2
      rw [h2, Bool.or_false]
      unfold clrStep
      cases hz : lzB c
      · rw [if_neg (by simp), if_neg (by simp)]
      · rw [if_pos rfl, getD_set]
        by_cases e : c.frm.toNat * 8 + c.slot.toNat = j
        · have hr : (if (true && decide (c.frm.toNat * 8 + c.slot.toNat = j)) = true then (0 : Int) else z.getD j 0) = 0 := if_pos (by simp [e])
          rw [hr]
          by_cases hl : c.frm.toNat * 8 + c.slot.toNat < z.length
          · rw [if_pos ⟨e, hl⟩]
          · rw [if_neg (fun h => hl h.2), getD_past z j (by omega)]
        · have hr : (if (true && decide (c.frm.toNat * 8 + c.slot.toNat = j)) = true then (0 : Int) else z.getD j 0) = z.getD j 0 := if_neg (by simp [e])
          rw [hr, if_neg (fun h => e h.1)]
theorem shots_ok {b : List Int} : shotsOk (claimsC b) = true ↔ (⟨5, 0, 0, 0, (headOf b).shots, true⟩ : Cm) ∈ claimsC b := by
  unfold shotsOk
  rw [List.any_eq_true]
  refine ⟨fun ⟨c, hc, h⟩ => ?_, fun h => ⟨_, h, rfl⟩⟩
  simp at h
  obtain ⟨J3, J4, J5, J6, P⟩ := claims_parts b
  have hm := P.kind6 hc (.inl h.2)
  rcases P.e4 with ⟨g, h1, h2⟩ | h1 | ⟨J, h1, h2⟩
  · rw [h1, List.mem_singleton] at hm; subst hm; rw [h2] at h; cases h.1
  · rw [h1] at hm; cases hm
  · exact P.mem.2 (.inr (.inr (.inl (by rw [h1]; simp))))
theorem shots_len {b : List Int} (hh : hasHead b = true) (h : (⟨5, 0, 0, 0, (headOf b).shots, true⟩ : Cm) ∈ claimsC b) : shotsL b = (List.range (headOf b).many.toNat).map (fun i => ((cl b (headOf b).shots.toNat).getD (2 * i) 0, (cl b (headOf b).shots.toNat).getD (2 * i + 1) 0)) :=
  shotsL_some (headIn_yes hh) (good_there h rfl (by simp))
theorem clr1_length {b : List Int} (hh : hasHead b = true) : (clr1 b).length = manyN b * 8 := by
  unfold clr1
  split
  · rename_i h
    have h5 := shots_ok.1 h
    have ht := there_lt (good_there h5 rfl (by simp))
    have hm := (headB_all (hasHead_ok hh)).2.2.2.2
    simp only at ht
    unfold keepL
    rw [(keep_get (headOf b) (keepW b) _ (whole b) 0 (by rw [whole_length]; omega)).2, whole_length]
  · exact whole_length b
theorem clr2_length {b : List Int} (hh : hasHead b = true) : (clr2 b).length = manyN b * 8 := by unfold clr2; rw [clr_len, clr1_length hh]
theorem clr1_get {b : List Int} (hh : hasHead b = true) (j : Nat) : (clr1 b).getD j 0 = if shotsOk (claimsC b) = true ∧ (headOf b).shots.toNat * 8 ≤ j ∧ j < (headOf b).shots.toNat * 8 + (2 * (headOf b).many).toNat then (keepW b).getD (j - (headOf b).shots.toNat * 8) 0 else b.getD j 0 := by
  unfold clr1
  by_cases h : shotsOk (claimsC b) = true
  · rw [if_pos h]
    have h5 := shots_ok.1 h
    have ht := there_lt (good_there h5 rfl (by simp))
    have hm := (headB_all (hasHead_ok hh)).2.2.2.2
    simp only at ht
    unfold keepL
    rw [(keep_get (headOf b) (keepW b) _ (whole b) j (by rw [whole_length]; omega)).1, whole_get]
    by_cases h2 : (headOf b).shots.toNat * 8 ≤ j ∧ j < (headOf b).shots.toNat * 8 + (2 * (headOf b).many).toNat
    · rw [if_pos h2, if_pos ⟨h, h2⟩]
    · rw [if_neg h2, if_neg (fun h3 => h2 h3.2)]
  · rw [if_neg h, if_neg (fun h3 => h h3.1), whole_get]
/-- A table that is gone into is not that of the shots. -/
theorem tab_shots {b : List Int} {d : Cm} (hd : d ∈ claimsC b) (hg : d.good = true) (hk : d.kind = 2 ∨ d.kind = 3 ∨ d.kind = 6 ∨ d.kind = 7) (hs : shotsOk (claimsC b) = true) : d.target ≠ (headOf b).shots := by
  intro e
  have := (good_one hd (shots_ok.1 hs) hg rfl e).1
  simp only at this
  omega
theorem clrHead_ok {b : List Int} (hh : hasHead b = true) : headB (clrHead b) = true := by
  have h := headB_all (hasHead_ok hh)
  have h4 := keepW_length b
  have h5 := keepC_le b
  have h6 := shotsL_length b
  simp only [headB, wordB, Bool.and_eq_true, inB_true, clrHead]
  refine ⟨⟨⟨⟨h.1, ?_⟩, ?_⟩, ?_⟩, by omega, by omega⟩
  · split <;> omega
  · split <;> omega
  · split <;> omega

theorem keepW_word {b : List Int} (hh : hasHead b = true) (i : Nat) : wordB ((keepW b).getD i 0) = true := by
  by_cases hi : i < (keepW b).length
  · rw [List.getD_eq_getElem?_getD, List.getElem?_eq_getElem hi]
    simp only [Option.getD_some]
    have hm := List.getElem_mem hi
    generalize (keepW b)[i] = v at hm
    rw [keepW_flat, List.mem_flatMap] at hm
    obtain ⟨c, hc, hm⟩ := hm
    obtain ⟨_, h5⟩ := keepC_shot hc
    have hw : ∀ k : Nat, wordB ((shotsL b).getD k (0, 0)).1 = true ∧ wordB ((shotsL b).getD k (0, 0)).2 = true := by
      intro k
      rw [shots_len hh h5, List.getD_eq_getElem?_getD, List.getElem?_map]
      by_cases hk : k < (headOf b).many.toNat
      · rw [List.getElem?_range hk]
        have hmm := (headB_all (hasHead_ok hh)).2.2.2.2
        simp only [Option.map_some, Option.getD_some]
        rw [cl_word_get b _ _ (by omega), cl_word_get b _ _ (by omega)]
        have h1 := word_get (hasHead_img hh) ((headOf b).shots.toNat * 8 + 2 * k)
        have h2 := word_get (hasHead_img hh) ((headOf b).shots.toNat * 8 + (2 * k + 1))
        exact ⟨inB_true.2 h1, inB_true.2 h2⟩
      · rw [List.getElem?_eq_none (by simpa using hk)]
        exact ⟨rfl, rfl⟩
    unfold pairW at hm
    rw [List.mem_cons, List.mem_singleton] at hm
    rcases hm with h | h <;> rw [h]
    · exact (hw _).1
    · exact (hw _).2
  · rw [getD_past _ _ (by omega)]; rfl
theorem imgB_gets {zs : List Int} (hl : zs.length ≤ 512) (h : ∀ j, wordB (zs.getD j 0) = true) : imgB zs = true := by
  rw [imgB_iff]
  refine ⟨fun x hx => ?_, hl⟩
  obtain ⟨i, hi, rfl⟩ := List.mem_iff_getElem.1 hx
  have := h i
  rw [List.getD_eq_getElem?_getD, List.getElem?_eq_getElem hi] at this
  exact this
theorem clr2_img {b : List Int} (hh : hasHead b = true) : imgB (clr2 b) = true := by
  have hm := manyN_le (hasHead_img hh)
  refine imgB_gets (by rw [clr2_length hh]; omega) (fun j => ?_)
  unfold clr2
  rw [clr_get]
  split
  · rfl
  · rw [clr1_get hh]
    split
    · exact keepW_word hh _
    · exact inB_true.2 (word_get (hasHead_img hh) j)
theorem clr_head {b : List Int} (hh : hasHead b = true) : hasHead (clrC b) = true ∧ headOf (clrC b) = clrHead b ∧ (clrC b).length = manyN b * 8 := by
  have hp := whole_pos hh
  have hl := clr2_length hh
  obtain ⟨h1, h2, h3⟩ := hd_set (h := clrHead b) (clr2_img hh) (by rw [hl]; omega) (by rw [hl]; omega) (clrHead_ok hh)
  exact ⟨h1, h2, h3.trans hl⟩
theorem clr_word {b : List Int} (hh : hasHead b = true) {t i : Nat} (ht : 1 ≤ t) (hi : i < 8) : (cl (clrC b) t).getD i 0 = (clr2 b).getD (t * 8 + i) 0 := by
  have hp := whole_pos hh
  rw [cl_word_get _ _ _ hi]
  unfold clrC
  rw [setCl_get (by omega) (hdW_length _), if_neg (by omega)]
/-- A loose claim's word is 0. -/
theorem clr_w0 {b : List Int} (hh : hasHead b = true) {c : Cm} (hc : c ∈ claimsC b) (hg : c.good = false) (hk : c.kind = 4 ∨ c.kind = 7 ∨ c.kind = 8) : (cl (clrC b) c.frm.toNat).getD c.slot.toNat 0 = 0 := by
  obtain ⟨d, hd, _⟩ := claim_tab hc hk
  have ht := there_lt hd.there
  have h0 := hd.slot0
  have h1 := hd.slot1
  have hf := hd.frm
  rw [clr_word hh (by omega) (by omega)]
  unfold clr2
  rw [clr_get, if_pos]
  rw [List.any_eq_true]
  refine ⟨c, hc, ?_⟩
  unfold lzB
  rw [hg]
  simp
  omega
theorem clr_w1 {b : List Int} (hh : hasHead b = true) {t i : Nat} (ht : 1 ≤ t) (hi : i < 8) (h : ∀ c ∈ claimsC b, c.good = false → c.kind = 4 ∨ c.kind = 7 ∨ c.kind = 8 → c.frm = t → c.slot = i → False) : (cl (clrC b) t).getD i 0 = (clr1 b).getD (t * 8 + i) 0 := by
  rw [clr_word hh ht hi]
  unfold clr2
  rw [clr_get, if_neg]
  rw [List.any_eq_true]
  rintro ⟨c, hc, h2⟩
  unfold lzB at h2
  simp at h2
  have hk8 := (claims_ok b c hc).kind1
  have hk : c.kind = 4 ∨ c.kind = 7 ∨ c.kind = 8 := by omega
  obtain ⟨d, hd, _⟩ := claim_tab hc hk
  have htl := there_lt hd.there
  have h0 := hd.slot0
  have h1 := hd.slot1
  have hf := hd.frm
  exact h c hc h2.1.1 hk (by omega) (by omega)
theorem clr1_tab {b : List Int} (hh : hasHead b = true) {d : Cm} (hd : d ∈ claimsC b) (hg : d.good = true) (hk : d.kind = 2 ∨ d.kind = 3 ∨ d.kind = 6 ∨ d.kind = 7) {i : Nat} (hi : i < 8) : (clr1 b).getD (d.target.toNat * 8 + i) 0 = (cl b d.target.toNat).getD i 0 := by
  rw [clr1_get hh, cl_word_get _ _ _ hi, if_neg]
  rintro ⟨hs, h1, h2⟩
  have hne := tab_shots hd hg hk hs
  have ht := there_lt (good_there hd hg (by omega))
  have ht5 := there_lt (good_there (shots_ok.1 hs) rfl (by simp))
  have hm := (headB_all (hasHead_ok hh)).2.2.2.2
  simp only at ht5
  omega
theorem first_any {b : List Int} : ((claimsC b).any (fun c => !c.good && c.kind == 2)) = !(goodB b (headOf b).size [⟨1, 0, 0, 0, 0, true⟩] ⟨2, 0, 0, 0, (headOf b).first, false⟩) := by
  have hm : ∀ c ∈ claimsC b, c.kind = 2 → c = ⟨2, 0, 0, 0, (headOf b).first, goodB b (headOf b).size [⟨1, 0, 0, 0, 0, true⟩] ⟨2, 0, 0, 0, (headOf b).first, false⟩⟩ := by
    intro c hc hk
    obtain ⟨J3, J4, J5, J6, P⟩ := claims_parts b
    rcases P.mem.1 hc with h | h | h | h | h
    · unfold c2C c1C addC at h
      simp at h
      rcases h with rfl | rfl | rfl
      · cases hk
      · rfl
      · cases hk
    · obtain ⟨d, _, h, _⟩ := P.of3 h; omega
    · rcases P.of4 h with h | h <;> omega
    · obtain ⟨d, _, h, _⟩ := P.of5 h; omega
    · obtain ⟨d, _, h, _⟩ := P.of6 h; omega
  have hf := c4_sub b _ (first_claim b)
  generalize goodB b (headOf b).size [⟨1, 0, 0, 0, 0, true⟩] ⟨2, 0, 0, 0, (headOf b).first, false⟩ = g at *
  cases g
  · rw [Bool.not_false, List.any_eq_true]
    exact ⟨_, hf, rfl⟩
  · rw [Bool.not_true, List.any_eq_false]
    intro c hc h
    simp at h
    rw [hm c hc h.2] at h
    cases h.1
theorem refs_any {b : List Int} : ((claimsC b).any (fun c => !c.good && c.kind == 3)) = !(goodB b (headOf b).size (c1C b (headOf b)) ⟨3, 0, 0, 0, (headOf b).refs, false⟩) := by
  have hm : ∀ c ∈ claimsC b, c.kind = 3 → c = ⟨3, 0, 0, 0, (headOf b).refs, goodB b (headOf b).size (c1C b (headOf b)) ⟨3, 0, 0, 0, (headOf b).refs, false⟩⟩ := by
    intro c hc hk
    obtain ⟨J3, J4, J5, J6, P⟩ := claims_parts b
    rcases P.mem.1 hc with h | h | h | h | h
    · unfold c2C at h
      have : addC b (headOf b).size (c1C b (headOf b)) ⟨3, 0, 0, 0, (headOf b).refs, false⟩ = c1C b (headOf b) ++ [⟨3, 0, 0, 0, (headOf b).refs, goodB b (headOf b).size (c1C b (headOf b)) ⟨3, 0, 0, 0, (headOf b).refs, false⟩⟩] := rfl
      rw [this, List.mem_append, List.mem_singleton] at h
      rcases h with h | h
      · unfold c1C addC at h
        simp at h
        rcases h with rfl | rfl <;> cases hk
      · exact h
    · obtain ⟨d, _, h, _⟩ := P.of3 h; omega
    · rcases P.of4 h with h | h <;> omega
    · obtain ⟨d, _, h, _⟩ := P.of5 h; omega
    · obtain ⟨d, _, h, _⟩ := P.of6 h; omega
  have hf := refs_claim b
  generalize goodB b (headOf b).size (c1C b (headOf b)) ⟨3, 0, 0, 0, (headOf b).refs, false⟩ = g at *
  cases g
  · rw [Bool.not_false, List.any_eq_true]
    exact ⟨_, hf, rfl⟩
  · rw [Bool.not_true, List.any_eq_false]
    intro c hc h
    simp at h
    rw [hm c hc h.2] at h
    cases h.1
theorem clr_shots {b : List Int} (hh : hasHead b = true) (hn : keepC b ≠ []) : (headOf (clrC b)).shots = (headOf b).shots ∧ (shotsL (clrC b)).map (·.2) = (keepC b).map (·.target) ∧ (shotsL (clrC b)).map (·.1) = (keepC b).map (fun c => ((shotsL b).getD c.slot.toNat (0, 0)).1) := by
  obtain ⟨h1, h2, h3⟩ := clr_head hh
  have hl := keepW_length b
  have hp := List.length_pos_iff.2 hn
  obtain ⟨c0, hc0⟩ := List.exists_mem_of_ne_nil _ hn
  have h5 := (keepC_shot hc0).2
  have hok := shots_ok.2 h5
  have ht := good_there h5 rfl (by simp)
  have htl := there_lt ht
  simp only at ht htl
  have hle := keepC_le b
  have hsl : (shotsL b).length = (headOf b).many.toNat := by rw [shots_len hh h5]; simp
  have hs : (headOf (clrC b)).shots = (headOf b).shots := by
    rw [h2]
    show (if ((keepW b).length / 2 : Nat) = 0 then 0 else (headOf b).shots) = _
    rw [if_neg (by omega)]
  have hm : (headOf (clrC b)).many = ((keepC b).length : Nat) := by
    rw [h2]
    show (((keepW b).length / 2 : Nat) : Int) = _
    rw [hl]
    congr 1
    omega
  have hmm := (headB_all (hasHead_ok hh)).2.2.2.2
  have hth : thereB (clrC b) (headOf (clrC b)).shots = true := by
    rw [hs, there_many (xs := b) (by show ((clrC b).length + 7) / 8 = _; rw [h3]; omega)]
    exact ht
  have hw : ∀ j, j < 2 * (keepC b).length → (cl (clrC b) (headOf b).shots.toNat).getD j 0 = (keepW b).getD j 0 := by
    intro j hj
    rw [clr_w1 hh (by omega) (by omega), clr1_get hh, if_pos ⟨hok, by omega, by omega⟩]
    · congr 1
      omega
    · intro c hc hg hk hf hsl
      obtain ⟨d, hd, h⟩ := claim_tab hc hk
      have := tab_shots hd.mem hd.good (by rcases h with h | h | h <;> omega) hok
      have := hd.frm
      omega
  have e : shotsL (clrC b) = (List.range (keepC b).length).map (fun i => ((keepW b).getD (2 * i) 0, (keepW b).getD (2 * i + 1) 0)) := by
    rw [shotsL_some (headIn_yes h1) hth, hm, hs, Int.toNat_natCast]
    refine List.map_congr_left (fun i hi => ?_)
    rw [List.mem_range] at hi
    rw [hw _ (by omega), hw _ (by omega)]
  have g : ∀ (i : Nat) (hi : i < (keepC b).length), (keepW b).getD (2 * i) 0 = ((shotsL b).getD ((keepC b)[i]).slot.toNat (0, 0)).1 ∧ (keepW b).getD (2 * i + 1) 0 = ((shotsL b).getD ((keepC b)[i]).slot.toNat (0, 0)).2 := by
    intro i hi
    rw [keepW_flat]
    exact ⟨pairs_get (pairW b) (fun _ => rfl) (keepC b) i 0 hi (by omega), pairs_get (pairW b) (fun _ => rfl) (keepC b) i 1 hi (by omega)⟩
  refine ⟨hs, ?_, ?_⟩
  · rw [e, List.map_map]
    apply List.ext_getElem?
    intro i
    rw [List.getElem?_map, List.getElem?_map]
    by_cases hi : i < (keepC b).length
    · rw [List.getElem?_range hi, List.getElem?_eq_getElem hi]
      simp only [Option.map_some, Function.comp]
      rw [(g i hi).2, (keepC_shot (List.getElem_mem hi)).1]
    · rw [List.getElem?_eq_none (by simpa using hi), List.getElem?_eq_none (by simpa using hi)]
      rfl
  · rw [e, List.map_map]
    apply List.ext_getElem?
    intro i
    rw [List.getElem?_map, List.getElem?_map]
    by_cases hi : i < (keepC b).length
    · rw [List.getElem?_range hi, List.getElem?_eq_getElem hi]
      simp only [Option.map_some, Function.comp]
      rw [(g i hi).1]
    · rw [List.getElem?_eq_none (by simpa using hi), List.getElem?_eq_none (by simpa using hi)]
      rfl
/-- What is cleared is so. -/
theorem clr_is {b : List Int} (hh : hasHead b = true) : Clr b (clrC b) := by
  obtain ⟨h1, h2, h3⟩ := clr_head hh
  have hl := keepW_length b
  refine ⟨?_, ?_, ?_, ?_, ?_, ?_, ?_, ?_⟩
  · show ((clrC b).length + 7) / 8 = _; rw [h3]; omega
  · rw [h2]; rfl
  · rw [h2]
    show (if (claimsC b).any (fun c => !c.good && c.kind == 2) = true then 0 else (headOf b).first) = _
    rw [first_any]
    cases goodB b (headOf b).size [⟨1, 0, 0, 0, 0, true⟩] ⟨2, 0, 0, 0, (headOf b).first, false⟩ <;> rfl
  · rw [h2]
    show (if (claimsC b).any (fun c => !c.good && c.kind == 3) = true then 0 else (headOf b).refs) = _
    rw [refs_any]
    cases goodB b (headOf b).size (c1C b (headOf b)) ⟨3, 0, 0, 0, (headOf b).refs, false⟩ <;> rfl
  · intro c hc hk
    cases hg : c.good
    · rw [clr_w0 hh hc hg hk, if_neg (by simp)]; rfl
    · rw [if_pos rfl]
      obtain ⟨d, hd, h⟩ := claim_tab hc hk
      have ht := there_lt hd.there
      have hf := hd.frm
      have s0 := hd.slot0
      have s1 := hd.slot1
      rw [clr_w1 hh (by omega) (by omega) (fun e he hge hke hfe hse => by
        have := word_one hc he hk hke (by omega) (by omega)
        rw [hg, hge] at this
        cases this), hf, clr1_tab hh hd.mem hd.good (by rcases h with h | h | h <;> omega) (by omega), hd.word]
  · intro d hd hg hk i hi h0
    have ht := there_lt (good_there hd hg (by omega))
    by_cases hex : ∃ c ∈ claimsC b, c.good = false ∧ (c.kind = 4 ∨ c.kind = 7 ∨ c.kind = 8) ∧ c.frm = d.target ∧ c.slot = i
    · obtain ⟨c, hc, hgc, hkc, hfc, hsc⟩ := hex
      have := clr_w0 hh hc hgc hkc
      rw [hfc, hsc, Int.toNat_natCast] at this
      rw [this]
      rfl
    · rw [clr_w1 hh (by omega) hi (fun c hc hgc hkc hfc hsc => hex ⟨c, hc, hgc, hkc, by omega, hsc⟩), clr1_tab hh hd hg hk hi, h0]
  · rw [h2]
    show (((keepW b).length / 2 : Nat) : Int) = _
    rw [hl]
    congr 1
    omega
  · intro hn
    have := clr_shots hh hn
    exact ⟨this.1, this.2.1⟩
/-- What is cleared has no loose claim but those of First and Refs where these are 0, and has as many that are good as ever. -/
theorem cleared_loose {b : List Int} (hh : hasHead b = true) {c : Cm} (hc : c ∈ looseL (clrC b)) : (c.kind = 2 ∨ c.kind = 3) ∧ c.target = 0 := by
  unfold looseL claimsL at hc
  rw [(clr_head hh).1, if_pos rfl, List.mem_filter] at hc
  have hg : c.good = false := by simpa using hc.2
  rcases neat_all (clr_neat (clr_is hh)) c hc.1 with h | h
  · rw [hg] at h; cases h
  · exact h
theorem cleared_count {b : List Int} (hh : hasHead b = true) : (gd (claimsL (clrC b))).length = (gd (claimsL b)).length ∨ ((shotsL (clrC b)).length = 0 ∧ (gd (claimsL (clrC b))).length + 1 = (gd (claimsL b)).length) := by
  have e1 : claimsL (clrC b) = claimsC (clrC b) := by unfold claimsL; rw [(clr_head hh).1]; rfl
  have e2 : claimsL b = claimsC b := by unfold claimsL; rw [hh]; rfl
  rw [e1, e2]
  rcases clr_count (clr_is hh) with h | ⟨h1, h2⟩
  · exact .inl h
  · refine .inr ⟨?_, h2⟩
    have hm : (headOf (clrC b)).many = 0 := by rw [(clr_is hh).kept, h1]; rfl
    unfold shotsL
    rw [headIn_yes (clr_head hh).1]
    simp only
    rw [hm]
    split <;> rfl

end Go.Proofs.YtfolbhjljpnjlabGreat
