/- Defects: words that are not as they must be (l11Wrongs), the model's side. -/
import Derived.Test.YtieknpkbmccimaaGreatDoorDfm
namespace Go.Proofs.YtieknpkbmccimaaGreatDoor
open Go.RowKit

structure Wr where
  frm : Int
  slot : Int
  must : Int
deriving DecidableEq
def wrV (x : Wr) : List Value := [.int .i64 x.frm, .int .i64 x.slot, .int .i64 x.must]
theorem wrV_length (x : Wr) : (wrV x).length = 3 := rfl
def wr0 : Wr := ⟨0, 0, 0⟩
def wrStep (xs : List Int) (l : List Cm) (counts : List Int) (t : Int) (o : List Wr) (s : Nat) : List Wr :=
  if mustC l counts t s ((cl xs t.toNat).getD s 0) ≠ (cl xs t.toNat).getD s 0 then o ++ [⟨t, s, mustC l counts t s ((cl xs t.toNat).getD s 0)⟩] else o
def wrRound (xs : List Int) (l : List Cm) (counts : List Int) (o : List Wr) (t : Int) : List Wr := (List.range 8).foldl (wrStep xs l counts t) o
/-- Of an image with a head: words that are not as they must be. -/
def wrongsC (xs : List Int) : List Wr := (tablesC (claimsC xs)).foldl (wrRound xs (claimsC xs) (countsC (claimsC xs))) []

theorem wrStep_length (xs : List Int) (l : List Cm) (counts : List Int) (t : Int) (o : List Wr) (s : Nat) : (wrStep xs l counts t o s).length ≤ o.length + 1 := by unfold wrStep; split <;> simp
theorem wrRound_length (xs : List Int) (l : List Cm) (counts : List Int) (o : List Wr) (t : Int) : (wrRound xs l counts o t).length ≤ o.length + 8 := by
  have := foldl_length (wrStep xs l counts t) 1 (wrStep_length xs l counts t) (List.range 8) o
  unfold wrRound; simp at this; omega
theorem tables_length (xs : List Int) : (tablesC (claimsC xs)).length ≤ 4000 := by
  have h0 := tbl_length (claimsC xs) 0 []
  have h1 := tbl_length (claimsC xs) 1 (tblRound (claimsC xs) [] 0)
  have h2 := tbl_length (claimsC xs) 2 (tblRound (claimsC xs) (tblRound (claimsC xs) [] 0) 1)
  have hl := claims_length xs
  have e : tablesC (claimsC xs) = tblRound (claimsC xs) (tblRound (claimsC xs) (tblRound (claimsC xs) [] 0) 1) 2 := rfl
  rw [e]
  unfold tblRound at *
  simp at h0
  omega

theorem infoWr : (Tryz.prog.info? 44).map (fun i => (i.zero, i.size, i.bytes)) = some (some (.agg #[.int .i64 0, .int .i64 0, .int .i64 0]), 3, 24) := by kernel_rfl

/-- It answers a new list of such words. -/
def RetWr (w : World) (l : List Wr) (e : Ending) (w' : World) : Prop :=
  ∃ g c, e = .returned (.slice (some ⟨g, 0, none⟩) l.length c) ∧ OwV 44 3 w' w.heap.size w'.heap.size g l.length c (l.flatMap wrV) ∧ Below w.heap.size w w'

/-- The words o, in a row that began at block g0. -/
def WrAt (w4 : World) (lo g0 : Nat) (o : List Wr) (v : Value) (wr : World) : Prop :=
  ∃ g' c', v = .slice (some ⟨g', 0, none⟩) o.length c' ∧ OwV 44 3 wr lo wr.heap.size g' o.length c' (o.flatMap wrV) ∧ w4.grownBy wr (some g0) ∧ (g' = g0 ∨ w4.heap.size ≤ g')
def WrOut (w4 : World) (lo g0 n : Nat) (xs : List Int) (l : List Cm) (counts tb : List Int) (v i : Value) (wr : World) : Prop := ∃ k : Nat, k ≤ n ∧ i = .int .i64 k ∧ WrAt w4 lo g0 ((tb.take k).foldl (wrRound xs l counts) []) v wr
def WrIn (w4 : World) (lo g0 : Nat) (xs : List Int) (l : List Cm) (counts : List Int) (t : Int) (o : List Wr) (v i : Value) (wr : World) : Prop := ∃ k : Nat, k ≤ 8 ∧ i = .int .i64 k ∧ WrAt w4 lo g0 ((List.range k).foldl (wrStep xs l counts t) o) v wr

theorem Rd.grownAt {w w' : World} {B n b off g : Nat} {xs : List Int} (h : Rd w B (some ⟨b, off, none⟩) n xs) (hg : w.grownBy w' (some g)) (hb : b < w.heap.size) (hne : b ≠ g) : Rd w' B (some ⟨b, off, none⟩) n xs :=
  ⟨h.1, fun hn => by
    obtain ⟨b', off', e, hb', hc⟩ := h.2 hn
    injection e with e
    injection e with e1 e2
    subst e1; subst e2
    exact ⟨b, off, rfl, hb', fun j hj => (World.cell?_of_block (w := w) (hg.block b hb (fun e => by injection e with e; exact hne e))).trans (hc j hj)⟩⟩

set_option maxRecDepth 100000 in
set_option maxHeartbeats 8000000 in
theorem specWrongs_any (A : Option Addr) (n cb : Nat) (xs : List Int) (w : World) (hr : Rd w w.heap.size A n xs) (hn : n ≤ 2097152) (hh : hasHead xs = true) :
    Calls Tryz.prog 19 #[.slice A n cb] w (RetWr w (wrongsC xs)) := by
  obtain ⟨i0, hi0, hz0, hz1, hz2⟩ := info_parts infoWr
  have HH := Lib.hid hh
  have hmany := manyN_le (hasHead_img hh)
  clear hh
  have b1 := (Below.refl w.heap.size w).alloc (Nat.le_refl _) (.cells #[] 44)
  have o1 := emptyV 44 3 w w.heap.size (w.heap.size + 1) w.heap.size (Nat.le_refl _) rfl (by omega)
  have hz : (w.alloc (.cells #[] 44)).heap.size = w.heap.size + 1 := by simp
  go_enter Tryz.func19, Tryz.ntmps19
  go_wp2_with fail
  refine (specClaims_any A n cb xs _ ((hr.below b1).more b1.size) hn HH.out).mono ?_
  rintro e w2 ⟨gl, c2, rfl, ol, b2⟩
  have hs2 := b2.size
  have hgl := ol.low
  have hgt := ol.lt
  have o2 := o1.below b2 (by omega)
  have b02 := below_more b1 b2 b1.size
  rw [hz] at hs2 hgl
  clear hz b1 b2 o1
  have RL2 := ol.rd
  clear ol
  go_wp2_with fail
  refine (specCounts_any A n cb xs w2 ((hr.below b02).more b02.size) hn HH.out).mono ?_
  rintro e w3 ⟨gc, nc, c3, rfl, _, oc, b3⟩
  obtain rfl : 64 = nc := by have := oc.len; rw [counts_length] at this; exact this
  have hs3 := b3.size
  have o3 := o2.below b3 (by omega)
  have b03 := below_more b02 b3 b02.size
  have RL3 := (RL2.below b3).more hs3
  have RC3 := oc.rd
  have hgc : w2.heap.size ≤ gc ∧ gc < w3.heap.size := by
    rcases oc.form with ⟨h, _⟩ | ⟨x, hx, h1, h2, _⟩
    · cases h
    · injection hx with hx; injection hx with hx; omega
  clear b3 oc o2 RL2 b02
  go_wp2_with fail
  have hll := claims_length xs
  refine (specTables_any gl c2 (claimsC xs) w3 RL3 (by omega)).mono ?_
  rintro e w4 ⟨gt, nt, c4, rfl, _, ot, b4⟩
  have HNT := Lib.hid ot.len
  have hs4 := b4.size
  have o4 := o3.below b4 (by omega)
  have b04 := below_more b03 b4 b03.size
  have RL4 := (RL3.below b4).more hs4
  have RC4 := (RC3.below b4).more hs4
  have hgt4 : w3.heap.size ≤ gt ∧ gt < w4.heap.size := by
    rcases ot.form with ⟨h, _⟩ | ⟨x, hx, h1, h2, _⟩
    · cases h
    · injection hx with hx; injection hx with hx; omega
  have HCT := Lib.hid (fun (j : Nat) (hj : j < nt) => ot.cell hj)
  have HTT := Lib.hid (fun t (ht : t ∈ tablesC (claimsC xs)) => tables_there ht)
  have HTL := Lib.hid (tables_length xs)
  have hnt : nt ≤ 4000 := by have := HNT.out; have := HTL.out; omega
  have HGT : Hid (∀ c ∈ claimsC xs, c.good = true → 0 ≤ c.target ∧ c.target < 64) := fun c hc hg => by have := good_target HH.out hc hg; omega
  have HW : Hid (wrongsC xs = (tablesC (claimsC xs)).foldl (wrRound xs (claimsC xs) (countsC (claimsC xs))) []) := rfl
  clear b4 ot o3 RL3 RC3 b03
  generalize claimsC xs = l at *
  generalize countsC l = counts at *
  generalize tablesC l = tb at *
  go_wp2_with fail
  go_loopw [3, 7] (fun v i wr => WrOut w4 w.heap.size w.heap.size nt xs l counts tb v i wr) (fun _ i _ => nt - (intOf i).toNat)
  case atStart => exact ⟨0, Nat.zero_le _, rfl, w.heap.size, 0, rfl, o4.more (Nat.le_refl _) (by omega), grown_refl _ _, .inl rfl⟩
  case round =>
    obtain ⟨k, hk, rfl, g', c', rfl, ho, hg, hat⟩ := hrel
    have AT := Lib.hid hat
    clear hat
    have sr := hg.size
    by_cases hlt : k < nt
    · have hkt : k < tb.length := by have := HNT.out; omega
      have HTk := Lib.hid (take_fold (wrRound xs l counts) tb [] k hkt)
      have hgd : tb.getD k 0 = tb[k] := by simp [List.getD_eq_getElem?_getD, hkt]
      have hth := HTT.out _ (List.getElem_mem hkt)
      have hct4 : w4.cell? ⟨gt, k, none⟩ = some (.int .i64 (tb.getD k 0)) := HCT.out k hlt
      rw [hgd] at hct4
      clear hgd
      generalize tb[k] = t at *
      obtain ⟨t1, t2⟩ := there_lt hth
      obtain ⟨τ, rfl⟩ := Int.eq_ofNat_of_zero_le (show 0 ≤ t by omega)
      clear hth
      have HL : Hid (((tb.take k).foldl (wrRound xs l counts) []).length ≤ 32000) := by
        have h1 := foldl_length (wrRound xs l counts) 8 (wrRound_length xs l counts) (tb.take k) []
        have h2 : (tb.take k).length ≤ k := List.length_take_le _ _
        simp at h1
        show _ ≤ _
        omega
      have hok := HL.out
      generalize (tb.take k).foldl (wrRound xs l counts) [] = ok at *
      have hct : wr.cell? ⟨gt, k, none⟩ = some (.int .i64 τ) := hg.cell hct4 (fun e => by injection e with e; have : gt = w.heap.size := e; omega)
      have hrr : Rd wr w.heap.size A n xs := (hr.below b04).grown hg (Nat.le_refl _) b04.size
      go_wp2_with fail
      refine (specCluster_any A n cb τ xs wr (hrr.more (by have := b04.size; omega)) hn (by omega)).mono ?_
      rintro e w5 ⟨G, ng, cg, rfl, oG, b5⟩
      obtain rfl : 8 = ng := by have := oG.len; simpa [cl, f8_length] using this
      rcases oG.form with ⟨_, h0, _⟩ | ⟨gk, rfl, g1, g2, g3, g4⟩
      · omega
      have hs5 := b5.size
      have F5 : w4.grownBy w5 (some w.heap.size) := ⟨b5.os.trans hg.os, b5.tape.trans hg.tape, b5.output.trans hg.output, Nat.le_trans hg.size b5.size, fun q hq hne => (b5.block q (by omega)).trans (hg.block q hq hne)⟩
      have hgl' := ho.lt
      have o5 : OwV 44 3 w5 w.heap.size w5.heap.size g' ok.length c' (ok.flatMap wrV) := ⟨(ho.keep (b5.block g' hgl')).own, by omega⟩
      have HCC := Lib.hid (fun (j : Nat) (hj : j < 8) => oG.cell hj)
      have hlow := ho.low
      clear oG b5 hrr hct ho
      go_wp2_with fail
      go_loopw [3, 9] (fun v i wr => WrIn w5 w.heap.size g' xs l counts τ ok v i wr) (fun _ i _ => 8 - (intOf i).toNat)
      case atStart => exact ⟨0, by omega, rfl, g', c', rfl, o5, grown_refl _ _, .inl rfl⟩
      case round =>
        obtain ⟨s, hs, rfl, g2', c2', rfl, ho2, hg2, hat2⟩ := hrel
        have AT2 := Lib.hid hat2
        clear hat2
        have sr2 := hg2.size
        have FT := grown_next F5 AT.out hg2
        by_cases hs8 : s < 8
        · have HR := Lib.hid (range_fold (wrStep xs l counts τ) ok s)
          have HLs : Hid (((List.range s).foldl (wrStep xs l counts τ) ok).length ≤ 33000) := by
            have h1 := foldl_length (wrStep xs l counts τ) 1 (wrStep_length xs l counts τ) (List.range s) ok
            simp at h1
            show _ ≤ _
            omega
          have hosl := HLs.out
          generalize (List.range s).foldl (wrStep xs l counts τ) ok = os at *
          have hcc : wr.cell? ⟨gk, s, none⟩ = some (.int .i64 ((cl xs τ).getD s 0)) := hg2.cell (HCC.out s hs8) (fun e => by injection e with e; have : gk = g' := e; omega)
          have hct : wr.cell? ⟨gt, k, none⟩ = some (.int .i64 τ) := FT.cell hct4 (fun e => by injection e with e; have : gt = w.heap.size := e; omega)
          have RLr := (RL4.grown FT (by show gl < _; omega) (by show gl ≠ _; omega)).more FT.size
          have RCr := (RC4.grownAt FT (by omega) (by omega)).more FT.size
          have HS : Hid (wrStep xs l counts τ os s = if mustC l counts τ s ((cl xs τ).getD s 0) ≠ (cl xs τ).getD s 0 then os ++ [⟨τ, s, mustC l counts τ s ((cl xs τ).getD s 0)⟩] else os) := by unfold wrStep; rw [Int.toNat_natCast]; exact rfl
          generalize (cl xs τ).getD s 0 = x at hcc HS
          go_wp2_with fail
          go_still_tail 11, (by kernel_rfl)
          change wpList _ _ _ _ _ wr.drew
          go_wp2_with fail
          refine (specMust_any gl c2 l (some ⟨gc, 0, none⟩) c3 counts τ s x wr.drew RLr.drew (by omega) RCr HGT.out).mono ?_
          rintro e w6 ⟨rfl, b6⟩
          have hs6 : wr.heap.size ≤ w6.heap.size := b6.size
          have hcc6 := (b6.cell (p := ⟨gk, s, none⟩) (by show gk < wr.heap.size; omega)).trans (show wr.drew.cell? _ = _ from hcc)
          have hct6 := (b6.cell (p := ⟨gt, k, none⟩) (by show gt < wr.heap.size; omega)).trans (show wr.drew.cell? _ = _ from hct)
          have hg2l := ho2.lt
          have o6 : OwV 44 3 w6 w.heap.size w6.heap.size g2' os.length c2' (os.flatMap wrV) := ⟨(ho2.drew.keep (b6.block g2' hg2l)).own, by omega⟩
          have G6 : w5.grownBy w6 (some g') := ⟨b6.os.trans hg2.os, b6.tape.trans hg2.tape, b6.output.trans hg2.output, Nat.le_trans hg2.size b6.size, fun q hq hne => (b6.block q (by show q < wr.heap.size; omega)).trans (hg2.block q hq hne)⟩
          clear b6 RLr RCr hcc hct ho2 hg2
          generalize mustC l counts τ s x = mu at *
          by_cases hmx : mu = x
          · subst hmx
            have hd : (mu != mu) = false := by simp
            have HE : Hid ((List.range (s + 1)).foldl (wrStep xs l counts τ) ok = os) := by rw [HR.out, HS.out]; simp [Hid]
            go_wp2_with fail
            go_roundw
            case rel => exact ⟨s + 1, by omega, by go_num, g2', c2', by rw [HE.out], by rw [HE.out]; exact o6, G6, AT2.out⟩
            case measure => simp [intOf]; omega
          · have hd : (mu != x) = true := by simpa using hmx
            have HE : Hid ((List.range (s + 1)).foldl (wrStep xs l counts τ) ok = os ++ [⟨τ, s, mu⟩]) := by rw [HR.out, HS.out, if_pos hmx]; exact rfl
            clear hmx
            go_wp2_with (at_builtin; refine wpList_append_lit rfl (.tmp 52) (.tmp 60) 41 rfl 44 3 24 _ i0 Tryz.underlying41 hi0 hz0 hz1 hz2 rfl (by omega) (by omega) w.heap.size w6.heap.size g2' os.length c2' _ rfl o6 #[.int .i64 τ, .int .i64 s, .int .i64 mu] 1 1 rfl rfl (by simp [Value.oneCell']) (by omega) (by omega) ?_; intro g7 c7 w7 ho7 hgr hat7 _)
            go_roundw
            case rel =>
              refine ⟨s + 1, by omega, by go_num, g7, c7, by rw [HE.out]; simp, ?_, grown_next G6 AT2.out hgr, by have := AT2.out; omega⟩
              rw [HE.out, List.flatMap_append, List.length_append]
              exact ho7
            case measure => simp [intOf]; omega
        · obtain rfl : s = 8 := by omega
          go_wp2_with fail
          go_roundw
          case rel =>
            have e : (tb.take (k + 1)).foldl (wrRound xs l counts) [] = (List.range 8).foldl (wrStep xs l counts τ) ok := by rw [HTk.out]; rfl
            exact ⟨k + 1, by omega, by go_num, g2', c2', by rw [e], by rw [e]; exact ho2, FT, by have := AT.out; have := AT2.out; omega⟩
          case measure => simp [intOf]; omega
    · obtain rfl : k = nt := by omega
      have HE : Hid ((tb.take k).foldl (wrRound xs l counts) [] = wrongsC xs) := by rw [HW.out, List.take_of_length_le (by have := HNT.out; omega)]; exact rfl
      go_wp2_with fail
      go_ret
      rw [← HE.out]
      exact ⟨g', c', rfl, ho, below_of_grown b04 hg (Nat.le_refl _)⟩

theorem wr_cells {w : World} {B g : Nat} {l : List Wr} (h : RdV 3 w B (some ⟨g, 0, none⟩) l.length (l.flatMap wrV)) {k : Nat} (hk : k < l.length) : ∀ j, j < 3 → w.cell? ⟨g, k * 3 + j, none⟩ = (wrV (l.getD k wr0))[j]? := by
  intro j hj
  obtain ⟨b, off, e, _, hc⟩ := h.2 (by omega)
  injection e with e
  injection e with e1 e2
  subst e1; subst e2
  have := hc (k * 3 + j) (by omega)
  rw [Nat.zero_add] at this
  rw [this, flat_get wrV 3 wrV_length l k j hk hj, List.getD_eq_getElem?_getD, List.getElem?_eq_getElem hk]; rfl
theorem wrongs_length (xs : List Int) : (wrongsC xs).length ≤ 32000 := by
  unfold wrongsC
  have h1 := foldl_length (wrRound xs (claimsC xs) (countsC (claimsC xs))) 8 (wrRound_length xs _ _) (tablesC (claimsC xs)) []
  have h2 := tables_length xs
  simp at h1
  omega
theorem looseL_length (xs : List Int) : (looseL xs).length ≤ 1296 := by
  have := List.length_filter_le (fun c : Cm => !c.good) (claimsL xs)
  have := claimsL_length xs
  unfold looseL
  omega

end Go.Proofs.YtieknpkbmccimaaGreatDoor
