/- The tables that are gone into, each with all of its words as they must be (rightWords, an iterator): the program's side. -/
import Derived.Test.YtibokhkohanoaaaGreatQ9
import Derived.Test.YtibokhkohanoaaaGreatXR
import Derived.Test.YtibokhkohanoaaaGreatY5
import Derived.Test.YtibokhkohanoaaaGreatY2
namespace Go.Proofs.YtibokhkohanoaaaGreat
open Go.RowKit Go.Shelf

attribute [local go_sem] Oper.semAt_some

set_option maxHeartbeats 1000000 in
theorem wordMustBe_any (word kind : Int) (counts : List Int) (gc cc : Nat) (w : World) (hc : ∀ j, j < 64 → w.cell? ⟨gc, j, none⟩ = some (.int .i64 (counts.getD j 0))) (ht : targetOf word ≠ 0 → 0 ≤ targetOf word ∧ targetOf word < 64) :
    Calls Tryz.prog 110 #[.int .i64 word, .int .i64 kind, .slice (some ⟨gc, 0, none⟩) 64 cc] w fun e w' => e = .returned (.int .i64 (wordMust word kind counts)) ∧ w = w' := by
  have HW : Hid (wordMust word kind counts = entryOf (targetOf word) (!(targetOf word == 0) && (!(kind == 3) && counts.getD (targetOf word).toNat 0 == 1))) := rfl
  generalize wordMust word kind counts = r at *
  by_cases h0 : targetOf word = 0
  · rw [h0] at HW
    have HE : Hid (r = entryOf 0 false) := by rw [HW.out]; exact rfl
    go_enter Tryz.func110, Tryz.ntmps110
    go_wp2_with fail
    refine (implTarget_any _ _).mono ?_
    rintro e w' ⟨rfl, rfl⟩
    rw [h0]
    go_wp2_with fail
    refine (implEntry_any _ _ _).mono ?_
    rintro e w' ⟨rfl, rfl⟩
    go_wp2_with fail
    go_ret
    exact ⟨by rw [HE.out]; rfl, rfl⟩
  · obtain ⟨t0, t1⟩ := ht h0
    clear ht
    generalize hte : targetOf word = t at *
    have HTE := Lib.hid hte
    clear hte
    obtain ⟨τ, rfl⟩ := Int.eq_ofNat_of_zero_le t0
    have hτ : τ < 64 := by omega
    have d0 : ((τ : Int) != 0) = true := by simpa using h0
    have d1 : ((τ : Int) == 0) = false := by simpa using h0
    have hcc := hc τ hτ
    clear hc h0
    rw [Int.toNat_natCast, d1] at HW
    generalize counts.getD τ 0 = y at *
    by_cases hk : kind = 3
    · subst hk
      have HE : Hid (r = entryOf τ false) := by rw [HW.out]; exact rfl
      go_enter Tryz.func110, Tryz.ntmps110
      go_wp2_with fail
      refine (implTarget_any _ _).mono ?_
      rintro e w' ⟨rfl, rfl⟩
      rw [HTE.out]
      go_wp2_with fail
      refine (implEntry_any _ _ _).mono ?_
      rintro e w' ⟨rfl, rfl⟩
      go_wp2_with fail
      go_ret
      exact ⟨by rw [HE.out]; rfl, rfl⟩
    · have dk : (kind != 3) = true := by simpa using hk
      have dk2 : (kind == 3) = false := by simpa using hk
      have HE : Hid (r = entryOf τ (y == 1)) := by rw [HW.out, dk2]; exact rfl
      go_enter Tryz.func110, Tryz.ntmps110
      go_wp2_with fail
      refine (implTarget_any _ _).mono ?_
      rintro e w' ⟨rfl, rfl⟩
      rw [HTE.out]
      go_wp2_with fail
      refine (implEntry_any _ _ _).mono ?_
      rintro e w' ⟨rfl, rfl⟩
      go_wp2_with fail
      go_ret
      exact ⟨by rw [HE.out]; rfl, rfl⟩

/-- What is handed over: the table's number, and where its words lie. -/
structure Hw where
  tbl : Int
  g : Nat
  c : Nat

def hwV (x : Hw) : Array Value := #[.int .i64 x.tbl, .slice (some ⟨x.g, 0, none⟩) 8 x.c]
/-- It is the k-th table, with its words as they must be. -/
def HwAt (xs : List Int) (B k : Nat) (x : Hw) (W : World) : Prop :=
  x.tbl = ((tgL (claimsC xs)).getD k cm0).target ∧ B ≤ x.g ∧ Ow W x.g (x.g + 1) (some ⟨x.g, 0, none⟩) 8 x.c (rtL xs (looseL xs) (countsC (claimsC xs)) ((tgL (claimsC xs)).getD k cm0))

theorem KpB.cell {S : World → Nat → Prop} {W W' : World} (h : KpB S W W') {p : Addr} {v : Value} (hs : S W p.block) (hc : W.cell? p = some v) : W'.cell? p = some v := by
  obtain ⟨o, ho, hcl⟩ := cells_of_cell hc
  exact (World.cell?_of_block (((h.2 _ (Array.getElem?_eq_some_iff.1 ho).1 hs).2 o ho hcl).trans ho.symm)).trans hc
theorem Rd.kpb {S : World → Nat → Prop} {W W' : World} {B n : Nat} {A : Option Addr} {xs : List Int} (h : Rd W B A n xs) (k : KpB S W W') (hs : ∀ b, b < B → S W b) : Rd W' B A n xs :=
  ⟨h.1, fun hn => by
    obtain ⟨b, off, e, hb, hc⟩ := h.2 hn
    exact ⟨b, off, e, hb, fun j hj => k.cell (p := ⟨b, off + j, none⟩) (hs b hb) (hc j hj)⟩⟩
theorem OwR.kpb {S : World → Nat → Prop} {t : TypeId} {sz lo hi n c : Nat} {W W' : World} {A : Option Addr} {cs : List Value} (h : OwR t sz W lo hi A n c cs) (k : KpB S W W') (hs : ∀ b, lo ≤ b → S W b) : OwR t sz W' lo hi A n c cs := by
  refine ⟨⟨h.own.1, ?_⟩, h.top⟩
  have hl := h.own.lt
  rcases h.own.2 with hn | ⟨g, cap, cur, hv, hb, hg, rest⟩
  · exact .inl hn
  · exact .inr ⟨g, cap, cur, hv, hb, (k.2 g (Array.getElem?_eq_some_iff.1 hg).1 (hs g hb)).2 _ hg rfl, rest⟩

theorem Ow.tight {w : World} {lo hi g n c : Nat} {xs : List Int} (h : Ow w lo hi (some ⟨g, 0, none⟩) n c xs) : Ow w g (g + 1) (some ⟨g, 0, none⟩) n c xs := by
  refine ⟨⟨h.own.1, ?_⟩, fun k hk => by simp [Value.ownBlock] at hk; omega⟩
  rcases h.own.2 with ⟨hv, _⟩ | ⟨g', cap, cur, hv, _, rest⟩
  · cases hv
  · have e : g = g' := by injection hv with e; injection e with e; injection e
    exact .inr ⟨g', cap, cur, hv, by omega, rest⟩

/-- The round's table. -/
def HwX (xs : List Int) (B0 : Nat) (tm : Hw → Array Value) (k : Nat) (x : Hw) (a : Act) (W : World) : Prop := HwAt xs B0 k x W ∧ a = { tmps := tm x, defers := [] }

theorem HwAt.kept {xs : List Int} {B0 k : Nat} {x : Hw} {W W' : World} {row : Option Nat} (h : HwAt xs B0 k x W) (hg : W.grownBy W' row) (hr : row ≠ some x.g) : HwAt xs B0 k x W' :=
  ⟨h.1, h.2.1, h.2.2.grown hg (fun g e => by
    have : g ≠ x.g := fun e2 => hr (by rw [e, e2])
    omega)⟩
theorem HwX.own {xs : List Int} {B0 B k : Nat} {tm : Hw → Array Value} {x : Hw} {a : Act} : OwnFrom B (fun (_ : Unit) W => HwX xs B0 tm k x a W) := fun _ X Y row hs hg hr => by
  refine ⟨hs.1.kept hg (fun e => ?_), hs.2⟩
  obtain ⟨_, o, ho, hc⟩ := hr _ e
  rcases hs.1.2.2.own.2 with ⟨hv, _⟩ | ⟨g', cap, cur, hv, _, hb, _⟩
  · cases hv
  · injection hv with e1
    injection e1 with e1
    injection e1 with e1
    rw [e1] at ho
    rw [hb] at ho
    cases ho
    cases hc

set_option maxRecDepth 100000 in
set_option maxHeartbeats 8000000 in
theorem right1_in (hC : ClaimsC) (hL : LooseC) (hCo : CountsC) (hT : TableC) {S : World → Nat → Prop} (hS : SpareS S) (nn l Bs lo : Nat) (hnn : 1 ≤ nn) (A : Option Addr) (n c : Nat) (xs : List Int) (W : World)
    (hbox : W.cell? ⟨Bs, 0, none⟩ = some (.slice A n c)) (hr : Rd W lo A n xs) (hlo : lo ≤ W.heap.size) (hn : n ≤ 2097152) (hnc : n ≤ c) (hh : hasHead xs = true)
    (hsp : ∀ W', Below W.heap.size W W' → ∀ b, (b < lo ∨ b = Bs ∨ W.heap.size ≤ b) → S W' b)
    (J : Nat → World → Prop) (hJ : AbidesFrom W.heap.size J) (h0 : J 0 W)
    (hY : ∀ k x W1, k < (tgL (claimsC xs)).length → J k W1 → HwAt xs W.heap.size k x W1 → YieldAt Fence.wide (nn - 1) Tryz.prog l (hwV x) W1 fun e W' => e = .returned (.bool true) ∧ J (k + 1) W' ∧ KpB S W1 W') :
    CallsIn Fence.wide nn Tryz.prog 107 #[.func (.yield l) #[] #[], .pointer (some ⟨Bs, 0, none⟩)] W fun e W' => (∃ v, e = .returned v) ∧ J (tgL (claimsC xs)).length W' := by
  have hz : ∀ k W1 W2, J k W1 → Below W1.heap.size W1 W2 → J k W2 := fun s W1 W2 h b => hJ s W1 W2 none h (below_grownBy b) (fun _ e => by cases e)
  have HZ := Lib.hid hz
  have HY := Lib.hid hY
  have HSP := Lib.hid hsp
  have HH := Lib.hid hh
  have hlt0 : Bs < W.heap.size := World.block_lt_of_cell? W _ hbox
  have bd := (Below.refl W.heap.size W).drew
  have hrd : Rd W.drew W.drew.heap.size A n xs := (hr.below (bd.mono hlo)).more hlo
  have hbd : W.drew.cell? ⟨Bs, 0, none⟩ = some (.slice A n c) := hbox
  clear hJ hY hz hsp hh
  refine callsIn_of_wp Tryz.func107 rfl trivial ?_ rfl
  simp only [Tryz.ntmps107, List.size_toArray, List.length_cons, List.length_nil, Nat.reduceAdd, Nat.reduceSub, Array.replicate_succ, Array.replicate_zero, List.push_toArray, List.append_toArray, List.nil_append, List.cons_append]
  gi_wp2_with fail
  refine wpIn_wide.2 ?_
  go_region_held3 (fun w' => w'.cell? ⟨Bs, 0, none⟩ = some (.slice A n c))
    (first | (exact HB2.out) | (exact HB3.out) | go_keep)
    (first
      | (go_at_call 101; refine (hCo A n c xs w2 ((hrd.below b2).more b2.size) hn hnc).mono ?_; rintro e w3 ⟨C, nc, c3, rfl, oc, b3⟩
         have HB3 : Hid (w3.cell? ⟨Bs, 0, none⟩ = some (.slice A n c)) := (b3.cell (p := ⟨Bs, 0, none⟩) (by have : W.heap.size ≤ w2.heap.size := b2.size; show Bs < w2.heap.size; omega)).trans HB2.out)
      | (go_at_call 77; refine (hL A n c xs _ hrd hn hnc).mono ?_; rintro e w2 ⟨G, cg, rfl, oG, b2⟩
         have HB2 : Hid (w2.cell? ⟨Bs, 0, none⟩ = some (.slice A n c)) := (b2.cell (p := ⟨Bs, 0, none⟩) hlt0).trans hbd))
  have hce : countsL xs = countsC (claimsC xs) := by unfold countsL; rw [HH.out]; rfl
  rw [hce] at oc
  obtain rfl : 64 = nc := by have := oc.len; rw [counts_length] at this; exact this
  rcases oc.form with ⟨_, h0, _⟩ | ⟨gc, rfl, k1, k2, k3, k4⟩
  · omega
  have B3 : Below W.heap.size W w3 := Below.trans bd (below_more b2 b3 b2.size)
  have hcl : claimsL xs = claimsC xs := by unfold claimsL; rw [HH.out]; rfl
  have hTG := tablesGone_any hC A n c xs w3 ((hrd.below (below_more b2 b3 b2.size)).more (below_more b2 b3 b2.size).size) hn hnc
  rw [hcl] at hTG
  have HTG := Lib.hid hTG
  clear hTG hcl hce
  gi_wp2_with (refine ⟨trivial, ?_⟩; gi_at_call 108; refine (callsIn_wide.2 HTG.out).mono ?_; rintro e w4 ⟨X, cx, rfl, oX, b4⟩)
  have B4 := below_more B3 b4 B3.size
  have s2 : W.heap.size ≤ w2.heap.size := b2.size
  have s3 := b3.size
  have s4 := b4.size
  have SP4 := Lib.hid (HSP.out w4 B4)
  have HGL := Lib.hid ((oG.below b3 (Nat.le_refl _)).below b4 s3)
  have HCC := Lib.hid (fun (j : Nat) (hj : j < 64) => (oc.below b4 (Nat.le_refl _)).cell hj)
  have HX := Lib.hid oX
  have HR := Lib.hid (hr.below (B4.mono hlo))
  have HBX := Lib.hid ((B4.cell (p := ⟨Bs, 0, none⟩) hlt0).trans hbox)
  have hJ4 := HZ.out _ _ _ h0 B4
  have hll := looseL_length xs
  have htl := tg_length xs
  have HTM := Lib.hid (fun (t : Cm) (h : t ∈ tgL (claimsC xs)) => tg_mem h)
  have HOW := Lib.hid (fun (t : Cm) (h : t ∈ tgL (claimsC xs)) (i : Nat) (hi : i < 8) => own_word HH.out (countsC (claimsC xs)) h i hi _ rfl)
  have HTH := Lib.hid (fun (t : Cm) (h : t ∈ tgL (claimsC xs)) => tables_there (xs := xs) (by rw [← tg_tables]; exact List.mem_map_of_mem h))
  have HAT : Hid (∀ (k : Nat) (x : Hw) (W1 : World), x.tbl = ((tgL (claimsC xs)).getD k cm0).target → W.heap.size ≤ x.g → Ow W1 x.g (x.g + 1) (some ⟨x.g, 0, none⟩) 8 x.c (rtL xs (looseL xs) (countsC (claimsC xs)) ((tgL (claimsC xs)).getD k cm0)) → HwAt xs W.heap.size k x W1) := fun _ _ _ h1 h2 h3 => ⟨h1, h2, h3⟩
  clear oG oc oX b2 b3 b4 B3 HTG h0 hr hrd hbd bd hbox k4
  generalize HwAt xs W.heap.size = hw at *
  generalize hTl : tgL (claimsC xs) = tl at *
  have HTl := Lib.hid hTl
  clear hTl
  generalize countsC (claimsC xs) = counts at *
  generalize looseL xs = loose at *
  gi_loopw [17] (fun i wr => ∃ k : Nat, k ≤ tl.length ∧ i = .int .i64 k ∧ J k wr ∧ KpB S w4 wr) (fun i _ => tl.length - (intOf i).toNat)
  case atStart => exact ⟨0, Nat.zero_le _, rfl, hJ4, KpB.refl _ _⟩
  case round =>
    obtain ⟨k, hk, rfl, hJs, hkp⟩ := hrel
    have sr : w4.heap.size ≤ wr.heap.size := hkp.1
    by_cases hlt : k < tl.length
    · obtain ⟨gt, rfl, hg1, hg2, hg3, hce⟩ := cmr_cells8 HX.out hlt
      have hst : S w4 gt := SP4.out gt (.inr (.inr (by omega)))
      have hce : ∀ j v, j < 6 → (cmV (tl.getD k cm0))[j]? = some v → wr.cell? ⟨gt, k * 6 + j, none⟩ = some v := fun j v hj hv => hkp.cell hst ((hce j hj).trans hv)
      have hkm : tl.getD k cm0 ∈ tl := by rw [show tl.getD k cm0 = tl[k] by simp [List.getD_eq_getElem?_getD, hlt]]; exact List.getElem_mem hlt
      have HO8 := Lib.hid (HOW.out _ hkm)
      have hth := HTH.out _ hkm
      have HA8 := Lib.hid (fun x W1 => HAT.out k x W1)
      have hbx := hkp.cell (SP4.out Bs (.inr (.inl rfl))) HBX.out
      have hrr := HR.out.kpb hkp (fun b hb => SP4.out b (.inl hb))
      have HGr := Lib.hid (HGL.out.kpb hkp (fun b hb => SP4.out b (.inr (.inr hb))))
      have HCr := Lib.hid (fun (j : Nat) (hj : j < 64) => hkp.cell (p := ⟨gc, j, none⟩) (SP4.out gc (.inr (.inr (by omega)))) (HCC.out j hj))
      clear hkm hst
      generalize tl.getD k cm0 = x at *
      obtain ⟨xk, xf, xs', xp, xt, xg⟩ := x
      simp only at hth HO8 HA8
      have e0 : wr.cell? ⟨gt, k * 6, none⟩ = some (.int .i64 xk) := hce 0 _ (by omega) rfl
      have e1 : wr.cell? ⟨gt, k * 6 + 1, none⟩ = some (.int .i64 xf) := hce 1 _ (by omega) rfl
      have e2 : wr.cell? ⟨gt, k * 6 + 2, none⟩ = some (.int .i64 xs') := hce 2 _ (by omega) rfl
      have e3 : wr.cell? ⟨gt, k * 6 + 3, none⟩ = some (.int .i64 xp) := hce 3 _ (by omega) rfl
      have e4 : wr.cell? ⟨gt, k * 6 + 4, none⟩ = some (.int .i64 xt) := hce 4 _ (by omega) rfl
      have e5 : wr.cell? ⟨gt, k * 6 + 5, none⟩ = some (.bool xg) := hce 5 _ (by omega) rfl
      clear hce
      have q1 := (Below.refl wr.heap.size wr).alloc (Nat.le_refl _) (.cells #[.int .i64 xk, .int .i64 xf, .int .i64 xs', .int .i64 xp, .int .i64 xt, .bool xg] 62)
      have n1 : (wr.alloc (.cells #[.int .i64 xk, .int .i64 xf, .int .i64 xs', .int .i64 xp, .int .i64 xt, .bool xg] 62)).heap[wr.heap.size]? = some (.cells #[.int .i64 xk, .int .i64 xf, .int .i64 xs', .int .i64 xp, .int .i64 xt, .bool xg] 62 (0, 0)) := World.alloc_heap_new wr _
      have z1 : (wr.alloc (.cells #[.int .i64 xk, .int .i64 xf, .int .i64 xs', .int .i64 xp, .int .i64 xt, .bool xg] 62)).heap.size = wr.heap.size + 1 := by simp
      have hTb := hT A n c xs xt _ ((hrr.below (q1.mono (by omega))).more (by omega)) hn hnc
      have HTb := Lib.hid hTb
      have HTL := Lib.hid (tableL_in HH.out hth)
      have lbs : Bs < wr.heap.size := by omega
      clear hTb hrr
      gi_wp2_with (refine ⟨trivial, ?_⟩; gi_at_call 104; refine (callsIn_wide.2 HTb.out).mono ?_; rintro e w5 ⟨Y, ny, cy, rfl, oY, b5⟩)
      rw [HTL.out] at oY
      obtain rfl : 8 = ny := by have := oY.len; rw [cl_length] at this; exact this
      rcases oY.form with ⟨_, h0, _⟩ | ⟨gy, rfl, y1, y2, y3, y4⟩
      · omega
      have s5 := b5.size
      have B5 := below_more q1 b5 (by omega)
      have N5 := Lib.hid ((b5.block wr.heap.size (by omega)).trans n1)
      have HG5 := Lib.hid ((HGr.out.below q1 (by omega)).below b5 (by omega))
      have HC5 := Lib.hid (fun (j : Nat) (hj : j < 64) => (B5.cell (p := ⟨gc, j, none⟩) (by show gc < _; omega)).trans (HCr.out j hj))
      have HJ5 : Hid (∀ W', w5.grownBy W' (some gy) → J k W') := fun W' h => HZ.out _ _ _ hJs (B5.grown h (by omega) (fun g e => by cases e; omega))
      have HK5 : Hid (∀ W', w5.grownBy W' (some gy) → KpB S w4 W') := fun W' h => hkp.trans (KpB.below hS (B5.grown h (by omega) (fun g e => by cases e; omega)))
      have oY8 := oY.tight
      have hT0 := rtTo_zero xs loose counts ⟨xk, xf, xs', xp, xt, xg⟩
      simp only at hT0
      rw [← hT0] at oY8
      have HTS := Lib.hid (fun j => rtTo_step xs loose counts ⟨xk, xf, xs', xp, xt, xg⟩ j)
      have HTK := Lib.hid (fun j h => rtTo_skip xs loose counts ⟨xk, xf, xs', xp, xt, xg⟩ j h)
      have HTE := Lib.hid (fun j h => rtTo_get xs loose counts ⟨xk, xf, xs', xp, xt, xg⟩ j j h (Nat.le_refl _))
      have HT8 := Lib.hid (rtTo_eight xs loose counts ⟨xk, xf, xs', xp, xt, xg⟩)
      have HRW : Hid (∀ j : Nat, standB loose xt j = false → rtW xs loose counts ⟨xk, xf, xs', xp, xt, xg⟩ j = wordMust ((cl xs xt.toNat).getD j 0) xk counts) := fun j h => by
        unfold rtW
        simp only [h]
        exact if_neg (by simp)
      simp only at HTK HTE
      clear oY hT0 n1 q1 b5 hkp hJs hbx
      clear e0 e1 e2 e3 e4 e5 HTb
      generalize rtTo xs loose counts ⟨xk, xf, xs', xp, xt, xg⟩ = R at *
      generalize rtL xs loose counts ⟨xk, xf, xs', xp, xt, xg⟩ = RL at *
      generalize rtW xs loose counts ⟨xk, xf, xs', xp, xt, xg⟩ = RW at *
      generalize hqe : wr.heap.size = q at *
      rw [show ((8 : Nat) : Int) = 8 from rfl]
      gi_loopw [27] (fun i wr => ∃ j : Nat, j ≤ 8 ∧ i = .int .i64 j ∧ Ow wr gy (gy + 1) (some ⟨gy, 0, none⟩) 8 cy (R j) ∧ w5.grownBy wr (some gy)) (fun i _ => 8 - (intOf i).toNat)
      case atStart => exact ⟨0, Nat.zero_le _, rfl, oY8, grown_refl _ _⟩
      case round =>
        obtain ⟨j, hj, rfl, hoj, hgj⟩ := hrel
        have sr2 := hgj.size
        have nb := (hgj.block q (by omega) (fun e => by injection e; omega)).trans N5.out
        by_cases hj8 : j < 8
        · have hcy := hoj.cell hj8
          rw [HTE.out j hj8] at hcy
          have f0 : wr.cell? ⟨q, 0, none⟩ = some (.int .i64 xk) := by simp [World.cell?, nb]
          have f4 : wr.cell? ⟨q, 4, none⟩ = some (.int .i64 xt) := by simp [World.cell?, nb]
          have HO9 := Lib.hid (HO8.out j hj8).2
          have HR9 := Lib.hid (HRW.out j)
          have hSt := standsIn_any G cg W.heap.size w2.heap.size loose xt j wr (by omega) (HG5.out.grown hgj (fun g e => by cases e; omega)) (by omega)
          have HSt := Lib.hid hSt
          clear hSt
          generalize (cl xs xt.toNat).getD j 0 = wd at *
          cases hst : standB loose xt j
          · obtain ⟨_, hbd⟩ := HO9.out hst
            have HBD := Lib.hid hbd
            have HR0 := Lib.hid (HR9.out hst)
            rw [hst] at HSt
            clear hbd
            gi_wp2_with (first
              | (refine ⟨trivial, ?_⟩; gi_at_call 110; refine (callsIn_wide.2 HM.out).mono ?_; rintro e w' ⟨rfl, rfl⟩)
              | (refine ⟨trivial, ?_⟩; gi_at_call 109; refine (callsIn_wide.2 HSt.out).mono ?_; rintro e w6 ⟨rfl, b6⟩
                 have s6 := b6.size
                 have G6 := grown_trans hgj (r := some gy) ⟨b6.os, b6.tape, b6.output, b6.size, fun k hk _ => b6.block k hk⟩
                 have o6 := hoj.below b6 (by omega)
                 have c6 := o6.cell hj8
                 have r6 := o6.free j
                 have f46 : w6.cell? ⟨q, 4, none⟩ = some (.int .i64 xt) := (b6.cell (p := ⟨q, 4, none⟩) (by show q < _; omega)).trans f4
                 have f06 : w6.cell? ⟨q, 0, none⟩ = some (.int .i64 xk) := (b6.cell (p := ⟨q, 0, none⟩) (by show q < _; omega)).trans f0
                 have hM := wordMustBe_any wd xk counts gc c3 w6 (fun i hi => (World.cell?_of_block (G6.block gc (by omega) (fun e => by injection e; omega))).trans (HC5.out i hi)) HBD.out
                 rw [← HR0.out] at hM
                 have HM := Lib.hid hM
                 have hS6 := o6.set j (RW j)
                 rw [HTS.out j] at hS6
                 have HST := Lib.hid hS6
                 clear hM hS6
                 generalize RW j = mu at *))
            go_roundw
            case rel =>
              obtain ⟨h1, h2⟩ := HST.out
              exact ⟨j + 1, by omega, by go_num, h1, grown_trans G6 h2⟩
            case measure => simp [intOf]; omega
          · rw [hst] at HSt
            gi_wp2_with (refine ⟨trivial, ?_⟩; gi_at_call 109; refine (callsIn_wide.2 HSt.out).mono ?_; rintro e w6 ⟨rfl, b6⟩)
            have G6 := grown_trans hgj (r := some gy) ⟨b6.os, b6.tape, b6.output, b6.size, fun k hk _ => b6.block k hk⟩
            have o6 := hoj.below b6 (by omega)
            go_roundw
            case rel => exact ⟨j + 1, by omega, by go_num, by rw [HTK.out j hst]; exact o6, G6⟩
            case measure => simp [intOf]; omega
        · obtain rfl : j = 8 := by omega
          have hJ8 := HJ5.out wr hgj
          have hK8 := HK5.out wr hgj
          have f4 : wr.cell? ⟨q, 4, none⟩ = some (.int .i64 xt) := by simp [World.cell?, nb]
          rw [HT8.out] at hoj
          obtain ⟨fn, tmps, assign, body, hy, hR⟩ := HY.out k ⟨xt, gy, cy⟩ wr hlt hJ8 (HA8.out ⟨xt, gy, cy⟩ wr rfl (by show W.heap.size ≤ gy; omega) hoj)
          unfold hwV at hy
          dsimp only at hy
          gi_wp2
          refine hR.mono ?_
          rintro e W3 ⟨rfl, hJ3, hk3⟩
          have hk3 := hK8.trans hk3
          gi_wp2
          go_roundw
          case rel => exact ⟨k + 1, by omega, by go_num, hJ3, hk3⟩
          case measure => simp [intOf]; omega
    · obtain rfl : k = tl.length := by omega
      gi_wp2
      go_end0
      exact ⟨⟨_, rfl⟩, by rw [HTl.out]; exact hJs⟩

/-- The tables' iterator. -/
theorem right_in (A : Option Addr) (n c : Nat) (nn : Nat) (w : World) :
    CallsIn Fence.wide nn Tryz.prog 88 #[.slice A n c] w fun e w' => e = .returned (.func (.func 107) #[] #[.pointer (some ⟨w.heap.size, 0, none⟩)]) ∧ w' = w.alloc (.cells #[.slice A n c] 22) := by
  refine callsIn_of_wp Tryz.func88 rfl trivial ?_ rfl
  simp only [Tryz.ntmps88, List.size_toArray, List.length_cons, List.length_nil, Nat.reduceAdd, Nat.reduceSub, Array.replicate_succ, Array.replicate_zero, List.push_toArray, List.append_toArray, List.nil_append, List.cons_append]
  gi_wp2
  go_ret
  exact ⟨rfl, rfl⟩

theorem right_stops (hC : ClaimsC) (hL : LooseC) (hCo : CountsC) (hT : TableC) {S : World → Nat → Prop} (hS : SpareS S) (nn Bs lo : Nat) (hnn : 1 ≤ nn) (A : Option Addr) (n c : Nat) (xs : List Int) (w : World) (hbs : Bs < w.heap.size)
    (hbox : w.cell? ⟨Bs, 0, none⟩ = some (.slice A n c)) (hr : Rd w lo A n xs) (hlo : lo ≤ w.heap.size) (hn : n ≤ 2097152) (hnc : n ≤ c) (hh : hasHead xs = true)
    (hsp : ∀ W', Below w.heap.size w W' → ∀ b, (b < lo ∨ b = Bs ∨ w.heap.size ≤ b) → S W' b) :
    SeqTold Fence.wide nn Tryz.prog 107 #[.pointer (some ⟨Bs, 0, none⟩)] hwV (HwAt xs w.heap.size) (tgL (claimsC xs)).length (KpB S) w := fun l J W hW hJ h0 hY =>
  right1_in hC hL hCo hT hS nn l Bs lo hnn A n c xs W ((hW.cell (p := ⟨Bs, 0, none⟩) hbs).trans hbox) (hr.below (hW.mono hlo)) (Nat.le_trans hlo hW.size) hn hnc hh
    (fun W' h b hb => hsp W' (below_more hW h hW.size) b (by have := hW.size; omega)) J hJ h0 (fun k x W1 hk hj ht => hY k x W1 hk hj ⟨ht.1, Nat.le_trans hW.size ht.2.1, ht.2.2⟩)

end Go.Proofs.YtibokhkohanoaaaGreat
