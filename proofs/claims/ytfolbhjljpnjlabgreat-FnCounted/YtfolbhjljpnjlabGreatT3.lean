/- Counting anew (chapter 14), the program's side: the counts are written. Counting anew (chapter 14), the program's side: the counts are written, claim by claim. Counting anew (chapter 14), the program's side: what gives up by a panic is caught at the face. -/
import Derived.Test.YtfolbhjljpnjlabGreatT2
import Derived.Test.YtfolbhjljpnjlabGreatWro
import Derived.Test.YtfolbhjljpnjlabGreatLawCtd
import Derived.Defers
import Derived.Recover
namespace Go.Proofs.YtfolbhjljpnjlabGreat
open Go.RowKit Go.Shelf
open Go.RowKit

attribute [local go_sem] Oper.semAt_some

/-- What is kept of a good claim. -/
abbrev Gw (m : Nat) := Gq (fun c => c.kind = 4 → 0 ≤ c.slot ∧ c.slot < 8 ∧ 1 ≤ c.target ∧ c.target < (m : Int))

theorem Rd.cells {W W' : World} {A : Option Addr} {n : Nat} {xs : List Int} (h : Rd W W.heap.size A n xs) (hs : W.heap.size ≤ W'.heap.size) (hk : ∀ (p : Addr) (v : Value), W.cell? p = some v → W'.cell? p = some v) : Rd W' W'.heap.size A n xs :=
  ⟨h.1, fun hn => by
    obtain ⟨b, off, e, hb, hc⟩ := h.2 hn
    exact ⟨b, off, e, by omega, fun j hj => hk _ _ (hc j hj)⟩⟩

theorem put_snoc {m : Nat} (ct ys : List Int) (pre : List (Gw m)) (x : Gw m) : ((pre ++ [x]).map Subtype.val).foldl (putW ct) ys = putW ct ((pre.map Subtype.val).foldl (putW ct) ys) x.1 := by
  rw [List.map_append, List.foldl_append]
  rfl

/-- What stands in b between two rounds. -/
structure CwS (w : World) (m : Nat) (l : List Cm) (os : List Int) (A : Option Addr) (n c : Nat) (W : World) : Prop where
  rd : Rd W W.heap.size A n os
  cap : n ≤ c
  img : imgB os = true
  many : manyN os = m
  own : (∃ x ∈ l, x.kind = 4) → Ow W w.heap.size W.heap.size A n c os
/-- Between two rounds. -/
def CwI (w : World) (m Bb Bc gc cc : Nat) (ct ys : List Int) (pre : List (Gw m)) (W : World) : Prop :=
  ∃ A n c, Boxed W Bb 24 (.slice A n c) ∧ CwS w m (pre.map Subtype.val) ((pre.map Subtype.val).foldl (putW ct) ys) A n c W ∧ Boxed W Bc 24 (.slice (some ⟨gc, 0, none⟩) 64 cc) ∧ Rd W W.heap.size (some ⟨gc, 0, none⟩) 64 ct ∧ Below w.heap.size w W
/-- The round's claim lies in a box of its own. -/
def CwX {m : Nat} (Bb Bc : Nat) (tm : Gw m → Nat → Array Value) (x : Gw m) (a : Act) (W : World) : Prop :=
  ∃ Bx, Bb < Bx ∧ Bc < Bx ∧ W.heap[Bx]? = some (.cells #[.int .i64 x.1.kind, .int .i64 x.1.frm, .int .i64 x.1.slot, .int .i64 x.1.place, .int .i64 x.1.target, .bool x.1.good] 51 (0, 0)) ∧ a = { tmps := tm x Bx, defers := [] }

theorem CwS.kept {w W W' : World} {m n c : Nat} {l : List Cm} {os : List Int} {A : Option Addr} (h : CwS w m l os A n c W) (hs : W.heap.size ≤ W'.heap.size) (hk : ∀ (p : Addr) (v : Value), W.cell? p = some v → W'.cell? p = some v) (hb : ∀ q, q < W.heap.size → (∃ cs t f, W.heap[q]? = some (.cells cs t f)) → W'.heap[q]? = W.heap[q]?) : CwS w m l os A n c W' :=
  ⟨h.rd.cells hs hk, h.cap, h.img, h.many, fun hx => by
    have ho := h.own hx
    refine ⟨?_, fun g hg => Nat.lt_of_lt_of_le (ho.top g hg) hs⟩
    rcases ho.own.2 with ⟨hv, hn⟩ | ⟨g, cap, cur, hv, h1, hg, h2⟩
    · exact ⟨ho.own.1, .inl ⟨hv, hn⟩⟩
    · exact ⟨ho.own.1, .inr ⟨g, cap, cur, hv, h1, (hb g (Array.getElem?_eq_some_iff.1 hg).1 ⟨_, _, _, hg⟩).trans hg, h2⟩⟩⟩

theorem CwI.own {w : World} {m Bb Bc gc cc B : Nat} {ct ys : List Int} (h1 : w.heap.size ≤ B) (h2 : Bc < B) (h3 : Bb < B) : OwnFrom B (CwI w m Bb Bc gc cc ct ys) := fun s X Y row hs hg hr => by
  obtain ⟨A, n, c, b, o, d, r, l⟩ := hs
  have hne : ∀ g, row = some g → ∃ o, X.heap[g]? = some o ∧ o.isCells = false := fun g e => (hr g e).2
  refine ⟨A, n, c, b.kept hg (fun e => by have := (hr _ e.symm).1; omega), o.kept hg.size (fun p v hc => cell_kept hc hg hne) (fun q hq hx => hg.block q hq (fun e => ?_)), d.kept hg (fun e => by have := (hr _ e.symm).1; omega), r.cells hg.size (fun p v hc => cell_kept hc hg hne), l.grown hg l.size (fun k e => by have := (hr _ e).1; omega)⟩
  obtain ⟨cs, t, f, hx⟩ := hx
  obtain ⟨o', ho', hc'⟩ := hne _ e.symm
  rw [hx] at ho'
  cases ho'
  cases hc'
theorem CwX.own {m Bb Bc B : Nat} {tm : Gw m → Nat → Array Value} {x : Gw m} {a : Act} : OwnFrom B (fun (_ : Unit) W => CwX Bb Bc tm x a W) := fun _ X Y row hs hg hr => by
  obtain ⟨Bx, h1, h2, h3, h4⟩ := hs
  refine ⟨Bx, h1, h2, ?_, h4⟩
  refine (hg.block Bx (Array.getElem?_eq_some_iff.1 h3).1 (fun e => ?_)).trans h3
  obtain ⟨_, o, ho, hc⟩ := hr _ e.symm
  rw [h3] at ho
  cases ho
  cases hc

attribute [local go_sem] Oper.semAt_some

theorem with_cut {os ct : List Int} {t s : Nat} (hi : imgB os = true) (ht : t < manyN os) (hs : s < 8) (hct : ct.length = 64) (hw : ∀ x ∈ ct, wordB x = true) :
    withL os (t : Int) ((ct.drop (s * 8)).take 8) = setCl (whole os) t ((ct.drop (s * 8)).take 8) ∧ imgB (setCl (whole os) t ((ct.drop (s * 8)).take 8)) = true := by
  have hl : ((ct.drop (s * 8)).take 8).length = 8 := by rw [List.length_take, List.length_drop, hct]; omega
  have hm := manyN_le hi
  have hww : ∀ x ∈ (ct.drop (s * 8)).take 8, wordB x = true := fun x hx => hw x (List.mem_of_mem_drop (List.mem_of_mem_take hx))
  have h8 : eightB ((ct.drop (s * 8)).take 8) = true := by
    unfold eightB
    rw [hl, Bool.and_eq_true]
    refine ⟨rfl, ?_⟩
    unfold wordsB
    rw [List.all_eq_true]
    exact hww
  refine ⟨?_, setCl_img (img_whole hi) hww ?_⟩
  · unfold withL
    rw [if_pos, Int.toNat_natCast]
    unfold withB
    rw [hi, h8, inB_true.2 (by omega)]
    simp
    omega
  · rw [setCl_length (by rw [whole_length]; omega) (by rw [whole_length]; omega) hl, whole_length, if_neg (by omega)]
    omega

theorem cut_rd {w : World} {g : Nat} {ct : List Int} (h : Rd w w.heap.size (some ⟨g, 0, none⟩) 64 ct) {s : Nat} (hs : s < 8) : Rd w w.heap.size (some ⟨g, s * 8, none⟩) 8 ((ct.drop (s * 8)).take 8) := by
  obtain ⟨b, off, he, hb, hcells⟩ := h.2 (by omega)
  cases he
  refine ⟨by rw [List.length_take, List.length_drop, h.1]; omega, fun _ => ⟨g, s * 8, rfl, hb, fun j hj => ?_⟩⟩
  have := hcells (s * 8 + j) (by omega)
  rw [Nat.zero_add] at this
  rw [this, List.getD_eq_getElem?_getD, List.getD_eq_getElem?_getD, List.getElem?_take, if_pos hj, List.getElem?_drop]

theorem counts_word {b : List Int} (x : Int) (hx : x ∈ countsC (claimsC b)) : wordB x = true := by
  rw [List.mem_iff_getElem?] at hx
  obtain ⟨i, hi⟩ := hx
  have := counts_bound (claimsC b) (claims_length b) i
  rw [List.getD_eq_getElem?_getD, hi] at this
  exact inB_true.2 (by simp only [Option.getD_some] at this; omega)

set_option maxRecDepth 100000 in
set_option maxHeartbeats 8000000 in
theorem withCounts_any (hC : ClaimsC) (hCo : CountsC) (A : Option Addr) (n c : Nat) (ys : List Int) (w : World) (hr : Rd w w.heap.size A n ys) (hnc : n ≤ c) (T : Tidy ys) (hl : lacksL ys < 0) :
    Calls Tryz.prog 18 #[.slice A n c] w (Ret w (writeC ys)) := by
  have hn : n ≤ 2097152 := by have := hr.len; have := hasHead_len T.head; omega
  refine (callsIn_wide (n := 5)).1 ?_
  refine callsIn_of_wp_marks Tryz.func18 rfl trivial ?_ rfl
  simp only [Tryz.ntmps18, List.size_toArray, List.length_cons, List.length_nil, Nat.reduceAdd, Nat.reduceSub, Array.replicate_succ, Array.replicate_zero, List.push_toArray, List.append_toArray, List.nil_append, List.cons_append]
  have HCL : Hid (claimsL ys = claimsC ys) := by show _ = _; unfold claimsL; rw [T.head]; rfl
  have HCE : Hid (countsL ys = countsC (claimsC ys)) := by show _ = _; unfold countsL; rw [if_pos T.head]
  have HPW := Lib.hid (put_write T hl)
  have HEX : Hid (∃ x ∈ (claimsC ys).filter (fun c => c.good), x.kind = 4) := put_has T hl
  have HT : Hid (∀ c ∈ claimsL ys, c.good = true → (c.kind = 4 → 0 ≤ c.slot ∧ c.slot < 8 ∧ 1 ≤ c.target ∧ c.target < (manyN ys : Int))) := by
    intro c hc hg hk
    rw [HCL.out] at hc
    have h1 := claims_ok ys c hc
    have h2 := there_lt (good_there hc hg (by omega))
    have h3 := h1.slot0
    have h4 := h1.slot1
    exact ⟨h3, by omega, h2.1, by omega⟩
  have HCW := Lib.hid (fun x hx => counts_word (b := ys) x hx)
  have HIM := Lib.hid (hasHead_img T.head)
  have HCL64 := Lib.hid (counts_length (claimsC ys))
  clear T hl
  have b1 := (Below.refl w.heap.size w).alloc (Nat.le_refl _) (.cells #[.slice A n c] 24)
  have x1 : Boxed (w.alloc (.cells #[.slice A n c] 24)) w.heap.size 24 (.slice A n c) := Boxed.new _ _ _
  have HCc := Lib.hid (hCo A n c ys (w.alloc (.cells #[.slice A n c] 24)) ((hr.below b1).more b1.size) hn hnc)
  have c1 := x1.cell
  have z1 : (w.alloc (.cells #[.slice A n c] 24)).heap.size = w.heap.size + 1 := by simp
  have Z1 := Lib.hid z1
  clear z1
  gi_wp2_with (first
    | (refine ⟨trivial, ?_⟩; gi_at_call 10; refine (callsIn_wide.2 HCc.out).mono ?_; rintro e w2 ⟨G, ng, cg, rfl, oG, b2⟩; have c2 : w2.cell? ⟨w.heap.size, 0, none⟩ = some (.slice A n c) := (b2.cell (p := ⟨w.heap.size, 0, none⟩) (by show w.heap.size < _; have := Z1.out; omega)).trans c1
       have HX2 : Hid (Boxed w2 w.heap.size 24 (.slice A n c)) := x1.kept (below_grownBy b2) (by simp)
       rw [HCE.out] at oG
       obtain rfl : 64 = ng := by have := oG.len; rw [HCL64.out] at this; exact this
       rcases oG.form with ⟨_, hh, _⟩ | ⟨gc, rfl, k1, k2, k3, k4⟩
       · omega
       have l2 : w.heap.size < w2.heap.size := by have := b2.size; have := Z1.out; omega)
    | (refine ⟨trivial, ?_⟩; gi_at_call 31; refine (good_in A n c _ _).mono ?_; rintro e w' ⟨rfl, rfl⟩))
  have B2 := below_more b1 b2 b1.size
  have hcx := HCL64.out
  have HCT : Hid (Rd w2 w2.heap.size (some ⟨gc, 0, none⟩) 64 (countsC (claimsC ys))) := oG.rd
  clear oG b2 hcx HCE HCc c1
  generalize hct : countsC (claimsC ys) = ct at *
  have x2 : Boxed w2 w.heap.size 24 (.slice A n c) := HX2.out
  have b4 := B2.alloc B2.size (.cells #[.slice (some ⟨gc, 0, none⟩) 64 cg] 24)
  have b5 := b4.alloc b4.size (.cells #[.slice A n c] 24)
  have x5 := (x2.alloc (.cells #[.slice (some ⟨gc, 0, none⟩) 64 cg] 24)).alloc (.cells #[.slice A n c] 24)
  have u4 : Boxed (w2.alloc (.cells #[.slice (some ⟨gc, 0, none⟩) 64 cg] 24)) w2.heap.size 24 (.slice (some ⟨gc, 0, none⟩) 64 cg) := Boxed.new _ _ _
  have u5 := u4.alloc (.cells #[.slice A n c] 24)
  have y5 := Boxed.new (w2.alloc (.cells #[.slice (some ⟨gc, 0, none⟩) 64 cg] 24)) 24 (.slice A n c)
  have b25 : Below w2.heap.size w2 ((w2.alloc (.cells #[.slice (some ⟨gc, 0, none⟩) 64 cg] 24)).alloc (.cells #[.slice A n c] 24)) := ((Below.refl _ w2).alloc (Nat.le_refl _) _).alloc (by simp) _
  have r5 := (HCT.out.below b25).more b25.size
  have z5 : ((w2.alloc (.cells #[.slice (some ⟨gc, 0, none⟩) 64 cg] 24)).alloc (.cells #[.slice A n c] 24)).heap.size = w2.heap.size + 2 := by simp
  rw [World.size_alloc] at y5
  generalize (w2.alloc (.cells #[.slice (some ⟨gc, 0, none⟩) 64 cg] 24)).alloc (.cells #[.slice A n c] 24) = w5 at *
  have hry := (hr.below b5).more b5.size
  have S0 : CwS w (manyN ys) (([] : List (Gw (manyN ys))).map Subtype.val) ((([] : List (Gw (manyN ys))).map Subtype.val).foldl (putW ct) ys) A n c w5 := ⟨hry, hnc, HIM.out, rfl, fun ⟨x, hx, _⟩ => by cases hx⟩
  clear b1 x1 u4 b4 x2 b25 HX2 HCT
  refine wpIn_rangeFunc_ownH rfl (by omega) (gf := 62) (lb := #[.pointer (some ⟨w2.heap.size + 1, 0, none⟩)]) rfl trivial (enters_of Tryz.func62 (by kernel_rfl) rfl)
    (good_stops hC 4 (w2.heap.size + 1) w.heap.size (by omega) A n c ys w5 (by omega) y5.cell hry hn hnc (by omega) HT.out) KpC.trans (fun W l o o' _ h ho _ => KpC.put o' h ho) (Below.refl _ _) (fun _ => rfl)
    (CwI w (manyN ys) w.heap.size w2.heap.size gc cg ct ys) (fun _ _ _ => False) (CwI.own (by omega) (by omega) (by omega)) (fun _ _ _ _ _ hs _ _ => hs) ⟨A, n, c, x5, S0, u5, r5, b5⟩
    (CwX w.heap.size w2.heap.size (fun x Bx => #[.slice A n c, .pointer (some ⟨w.heap.size, 0, none⟩), .slice none 0 0, .pointer (some ⟨w2.heap.size, 0, none⟩), .pointer (some ⟨Bx, 0, none⟩), .slice A n c, .slice (some ⟨gc, 0, none⟩) 64 cg, .slice A n c, .func (.func 62) #[] #[.pointer (some ⟨w2.heap.size + 1, 0, none⟩)],
      .agg #[.int .i64 x.1.kind, .int .i64 x.1.frm, .int .i64 x.1.slot, .int .i64 x.1.place, .int .i64 x.1.target, .bool x.1.good], undef, undef, undef, undef, undef, undef, undef, undef, undef, undef, undef, undef])) (fun _ _ => CwX.own) ?assign ?body ?done ?stop
  case assign =>
    rintro l pre x W K ⟨A', n', c', hb, hs, hd, hcr, hw⟩ hK
    gi_wp2
    exact hK _ _ ((KeepsOthers.alloc _ _).from _) ((KpC.refl _ _).alloc _) ⟨A', n', c', hb.alloc _, hs.kept (by simp) (fun p v h => cell_kept h (World.grownBy_alloc W _ none) (fun _ e => by cases e)) (fun q hq _ => (World.grownBy_alloc W _ none).block q hq (by simp)), hd.alloc _, (hcr.below ((Below.refl _ W).alloc (Nat.le_refl _) _)).more (by simp), hw.alloc hw.size _⟩ ⟨W.heap.size, hb.lt, hd.lt, World.alloc_heap_new W _, rfl⟩
  case body =>
    rintro l pre x a' W hl _ ⟨A', n', c', hb, hs, hd, hcr, hw⟩ ⟨Bx, h1, h2, h3, rfl⟩ hlt
    have HS := Lib.hid (put_snoc ct ys pre x)
    have hml : (pre ++ [x]).map Subtype.val = pre.map Subtype.val ++ [x.1] := by simp
    have HML := Lib.hid hml
    clear hml
    obtain ⟨⟨xk, xf, xs', xp, xt, xg⟩, t4⟩ := x
    simp only at t4 h3 HS HML
    have e0 : W.cell? ⟨Bx, 0, none⟩ = some (.int .i64 xk) := by simp [World.cell?, h3]
    have e2 : W.cell? ⟨Bx, 2, none⟩ = some (.int .i64 xs') := by simp [World.cell?, h3]
    have e4 : W.cell? ⟨Bx, 4, none⟩ = some (.int .i64 xt) := by simp [World.cell?, h3]
    have cb := hb.cell
    have fb := hb.frozen
    have cd := hd.cell
    have lx := (Array.getElem?_eq_some_iff.1 h3).1
    have lb := hb.lt
    have ld := hd.lt
    have HSt := Lib.hid hs
    have HB := Lib.hid hb
    have HD := Lib.hid hd
    have HCR := Lib.hid hcr
    clear h3 hs hb hd hcr
    by_cases hk : xk = 4
    · subst hk
      obtain ⟨s0, s1, t1, t2⟩ := t4 rfl
      obtain ⟨σ, rfl⟩ := Int.eq_ofNat_of_zero_le s0
      obtain ⟨τ, rfl⟩ := Int.eq_ofNat_of_zero_le (show 0 ≤ xt by omega)
      have hσ : σ < 8 := by omega
      have H := HSt.out
      obtain ⟨hwi, him⟩ := with_cut (s := σ) (t := τ) H.img (by rw [H.many]; omega) hσ HCL64.out HCW.out
      have HWI := Lib.hid hwi
      have HIM2 := Lib.hid him
      have HPT : Hid (putW ct (List.foldl (putW ct) ys (pre.map Subtype.val)) ⟨4, xf, (σ : Int), xp, (τ : Int), xg⟩ = setCl (whole (List.foldl (putW ct) ys (pre.map Subtype.val))) τ ((ct.drop (σ * 8)).take 8)) := by
        show _ = _
        unfold putW
        rw [if_pos rfl]
        simp only [Int.toNat_natCast]
      have HMN : Hid (manyN (putW ct (List.foldl (putW ct) ys (pre.map Subtype.val)) ⟨4, xf, (σ : Int), xp, (τ : Int), xg⟩) = manyN ys) := by
        have := putW_many (ct := ct) (o := List.foldl (putW ct) ys (pre.map Subtype.val)) (c := ⟨4, xf, (σ : Int), xp, (τ : Int), xg⟩) HCL64.out (by simp only [Int.toNat_natCast]; omega) (fun _ => by rw [H.many]; simp only [Int.toNat_natCast]; omega)
        exact this.trans H.many
      have hln := H.rd.len
      have hlm : n' ≤ 512 := by have := (imgB_iff.1 H.img).2; omega
      have HE8 := Lib.hid (fun wq => eightOf_any gc σ cg (σ : Int) rfl hσ k4 wq)
      have HWC := Lib.hid (implWcl_any A' n' c' _ (τ : Int) (some ⟨gc, σ * 8, none⟩) 8 8 _ W.drew H.rd (cut_rd HCR.out hσ) (by omega) (by omega))
      clear hwi him H
      have hd4 : ((4 : Int) == 4) = true := rfl
      gi_wp2_with fail
      refine wpIn_region_round (S := fun w' => w'.cell? ⟨Bx, 2, none⟩ = some (.int .i64 (σ : Int)) ∧ w'.cell? ⟨Bx, 4, none⟩ = some (.int .i64 (τ : Int)) ∧ w'.cell? ⟨w2.heap.size, 0, none⟩ = some (.slice (some ⟨gc, 0, none⟩) 64 cg)) (by kernel_rfl) (by kernel_rfl) (by rintro ⟨_, _, h⟩; exact h) ⟨e2, e4, cd⟩ (fun hHeld => ?_)
      refine wpAnyH_take_to (i := 1) (d := some 14) (v := ?_) rfl rfl (by kernel_rfl) (by kernel_rfl) (by kernel_rfl) (fun _ _ _ h => h) (Or.inl ⟨by rfl, ?_⟩) (by assumption) ?_
      rotate_left 1
      · intro w hSw
        (try dsimp only at hSw)
        go_simp <;> with_reducible rfl
      simp only [Act.put, List.setIfInBounds_toArray, List.set_cons_zero, List.set_cons_succ]
      refine wpAnyH_take_to (i := 2) (d := some 15) (v := ?_) rfl rfl (by kernel_rfl) (by kernel_rfl) (by kernel_rfl) (fun _ _ _ h => h) (Or.inl ⟨by rfl, ?_⟩) (by assumption) ?_
      rotate_left 1
      · intro w hSw
        (try dsimp only at hSw)
        go_simp <;> with_reducible rfl
      simp only [Act.put, List.setIfInBounds_toArray, List.set_cons_zero, List.set_cons_succ]
      refine wpAnyH_take_to (i := 3) (d := some 16) (v := ?_) rfl rfl (by kernel_rfl) (by kernel_rfl) (by kernel_rfl) (fun _ _ _ h => h) (Or.inl ⟨by rfl, ?_⟩) (by assumption) ?_
      rotate_left 1
      · intro w hSw
        (try dsimp only at hSw)
        go_simp <;> with_reducible rfl
      simp only [Act.put, List.setIfInBounds_toArray, List.set_cons_zero, List.set_cons_succ]
      refine wpAnyH_take_to (i := 4) (d := some 17) (v := ?_) rfl rfl (by kernel_rfl) (by kernel_rfl) (by kernel_rfl) (fun _ _ _ h => h) (Or.inl ⟨by rfl, ?_⟩) (by assumption) ?_
      rotate_left 1
      · intro w hSw
        (try dsimp only at hSw)
        go_simp <;> with_reducible rfl
      simp only [Act.put, List.setIfInBounds_toArray, List.set_cons_zero, List.set_cons_succ]
      refine wpAnyH_take_to (i := 5) (d := some 18) (v := ?_) rfl rfl (by kernel_rfl) (by kernel_rfl) (by kernel_rfl) (fun _ _ _ h => h) (Or.inl ⟨by rfl, ?_⟩) (by assumption) ?_
      rotate_left 1
      · intro w hSw
        (try dsimp only at hSw)
        go_simp <;> with_reducible rfl
      simp only [Act.put, List.setIfInBounds_toArray, List.set_cons_zero, List.set_cons_succ]
      refine wpAnyH_ready (rs := [0, 6]) (by kernel_rfl) (by simp) ?_
      refine AllReadyH.cons rfl (fun K hK => ?ordA) (AllReadyH.cons rfl (fun K hK => ?ordB) AllReadyH.nil)
      case' ordA =>
        rw [if_pos (by rfl)]
        go_simp
        refine hK.out _ _ ⟨e2, e4, cd⟩ (fun hHeld1 => ?_)
        refine wpAnyH_ready (rs := [6]) (by kernel_rfl) (by simp) ?_
        refine AllReadyH.cons rfl (fun K1 hK1 => ?_) AllReadyH.nil
        rw [if_pos (by rfl)]
        go_simp
        refine (HE8.out _).mono ?_
        rintro e w' ⟨rfl, rfl⟩
        refine hK1.out _ _ ⟨e2, e4, cd⟩ (fun hHeld2 => ?_)
      case' ordB =>
        rw [if_pos (by rfl)]
        go_simp
        refine (HE8.out _).mono ?_
        rintro e w' ⟨rfl, rfl⟩
        refine hK.out _ _ ⟨e2, e4, cd⟩ (fun hHeld1 => ?_)
        refine wpAnyH_ready (rs := [0]) (by kernel_rfl) (by simp) ?_
        refine AllReadyH.cons rfl (fun K1 hK1 => ?_) AllReadyH.nil
        rw [if_pos (by rfl)]
        go_simp
        refine hK1.out _ _ ⟨e2, e4, cd⟩ (fun hHeld2 => ?_)
      all_goals
        refine wpAnyH_ready (rs := [7]) (by kernel_rfl) (by simp) ?_
        refine AllReadyH.cons rfl (fun K3 hK3 => ?_) AllReadyH.nil
        rw [if_pos (by rfl)]
        go_simp
        refine HWC.out.mono ?_
        rintro e w3 ⟨Y, ny, cy, rfl, oY, b3⟩
        rw [HWI.out, ← HPT.out] at oY
        have b3' : Below W.heap.size W w3 := Below.trans (Below.refl _ W).drew b3
        have hS3 : w3.cell? ⟨Bx, 2, none⟩ = some (.int .i64 (σ : Int)) ∧ w3.cell? ⟨Bx, 4, none⟩ = some (.int .i64 (τ : Int)) ∧ w3.cell? ⟨w2.heap.size, 0, none⟩ = some (.slice (some ⟨gc, 0, none⟩) 64 cg) :=
          ⟨(b3'.cell (p := ⟨Bx, 2, none⟩) lx).trans e2, (b3'.cell (p := ⟨Bx, 4, none⟩) lx).trans e4, (b3'.cell (p := ⟨w2.heap.size, 0, none⟩) ld).trans cd⟩
        have HB3 := Lib.hid (HB.out.kept (below_grownBy b3') (by simp))
        have cb3 := HB3.out.cell
        have fb3 := HB3.out.frozen
        refine hK3.out _ _ hS3 (fun hHeld3 => ?_)
        refine wpAnyH_ready (rs := [8]) (by kernel_rfl) (by simp) ?_
        refine AllReadyH.cons rfl (fun K4 hK4 => ?_) AllReadyH.nil
        rw [if_pos (by rfl)]
        go_simp
        refine hK4.out _ _ ⟨?_, ?_, ?_⟩ (fun _ => ?_)
        case refine_1 => exact (World.cell?_setCell_other _ _ _ _ (by intro e; injection e with e; omega)).trans hS3.1
        case refine_2 => exact (World.cell?_setCell_other _ _ _ _ (by intro e; injection e with e; omega)).trans hS3.2.1
        case refine_3 => exact (World.cell?_setCell_other _ _ _ _ (by intro e; injection e with e; omega)).trans hS3.2.2
        refine wpAnyH_done (by kernel_rfl) ?_ _
        have g4 : w3.grownBy (w3.setCell ⟨w.heap.size, 0, none⟩ (.slice Y ny cy)) (some w.heap.size) := grownBy_setCell' _ _ _
        have hw3 := below_more hw b3' hw.size
        have s3 := b3'.size
        have hd2 : W.drew.heap.size = W.heap.size := rfl
        have oY2 : Ow (w3.setCell ⟨w.heap.size, 0, none⟩ (.slice Y ny cy)) W.heap.size w3.heap.size Y ny cy (putW ct (List.foldl (putW ct) ys (pre.map Subtype.val)) ⟨4, xf, (σ : Int), xp, (τ : Int), xg⟩) := oY.keep fun q h1 h2 _ => Below.heap_setCell _ _ _ _ (by show q ≠ w.heap.size; omega)
        have sz4 : (w3.setCell ⟨w.heap.size, 0, none⟩ (.slice Y ny cy)).heap.size = w3.heap.size := by simp [World.setCell]
        have hcy : ny ≤ cy := by
          rcases oY2.form with ⟨_, h0, h1⟩ | ⟨_, _, _, _, _, h1⟩
          · omega
          · exact h1
        refine ⟨(KeepsFrom.of_grownBy (below_grownBy b3') (fun _ e => by cases e)).trans (KeepsFrom.of_grownBy g4 (fun j e => by cases e; omega)), (KpC.below b3').trans (KpC.grown g4), Y, ny, cy, HB3.out.set _, ?_, (HD.out.kept (below_grownBy b3') (by simp)).kept g4 (fun e => by injection e with e; omega), ?_, hw3.setCell (Nat.le_refl _) _⟩
        · rw [HS.out, HML.out]
          refine ⟨by rw [sz4]; exact oY2.rd, hcy, by rw [HPT.out]; exact HIM2.out, HMN.out, fun _ => by rw [sz4]; exact oY2.more hw.size (Nat.le_refl _)⟩
        · have hgc : gc ≠ w.heap.size := by have := Z1.out; omega
          have hr3 := (HCR.out.below b3').more b3'.size
          obtain ⟨b', off', he', hb', hcc⟩ := hr3.2 (by omega)
          cases he'
          exact ⟨hr3.1, fun _ => ⟨gc, 0, rfl, by rw [sz4]; exact hb', fun j hj => (World.cell?_setCell_other _ _ _ _ (by intro e; injection e with e; omega)).trans (hcc j hj)⟩⟩
    · have hd4 : (xk == 4) = false := by simpa using hk
      gi_wp2
      refine ⟨KeepsFrom.refl _ _, KpC.refl _ _, A', n', c', HB.out, ?_, HD.out, HCR.out, hw⟩
      have H := HSt.out
      rw [HS.out, HML.out, putW_skip hk]
      exact ⟨H.rd, H.cap, H.img, H.many, fun ⟨y, hy, hyk⟩ => by
        rcases List.mem_append.1 hy with hy | hy
        · exact H.own ⟨y, hy, hyk⟩
        · rw [List.mem_singleton] at hy
          subst hy
          exact absurd hyk hk⟩
  case done =>
    rintro D zs W hD hS ⟨A', n', c', hb, hs, hd, hcr, hw⟩ hK
    have cb := hb.cell
    gi_wp2
    refine ⟨by simp, .inl ⟨_, _, rfl, run_takeDeferred hK, ?_⟩⟩
    refine ⟨_, results_tmp rfl _ _ _, ?_⟩
    rw [hS, HCL.out, HPW.out] at hs
    have g7 := grownBy_putObj' W D (.deferred none)
    have hs2 := hs.kept g7.size (fun p v h => cell_kept h g7 (fun q e => by cases e; exact ⟨_, hK, rfl⟩)) (fun q hq hx => g7.block q hq (fun e => by
      cases e
      obtain ⟨cs, t, f, hx⟩ := hx
      rw [hK] at hx
      cases hx))
    exact ⟨A', n', c', rfl, hs2.own HEX.out, hw.grown g7 hw.size (fun k e => by cases e; omega)⟩
  case stop =>
    rintro D c pre W _ _ h _
    exact h.elim

/-- The deferred closure, entered from a frame that panics. -/
theorem caught_any (p : Addr) (x : Value) (u : TypeId) (pv : Value) (older : List PanicEntry) (w : World) (hc : w.cell? p = some x) (hz : w.frozen? p = false) :
    CallsD Tryz.prog 17 #[.pointer (some p)] (.panicking ({ v := .iface u pv, recovered := false } :: older)) w fun e u' w' =>
      e = .returned (.tuple #[]) ∧ u' = .panicking ({ v := .iface u pv, recovered := true } :: older) ∧ w' = w.setCell p (.slice none 0 0) := by
  refine callsD_of_wpS Tryz.func17 rfl fun c₀ cs hu => ?_
  apply wpS_seq
  apply wpS_region
  simp [wpOpsS, go_sem, recoverD, hu, Tryz.ntmps17, Exit.thenS]
  refine wpS_cond (t := true) (by simp [Act.eval, Array.replicate]) ?_
  simp only [if_true]
  apply wpS_region
  simp [wpOpsS, go_sem, hc, hz, bodyPostS, results, Tryz.results17]

/-- The deferred closure, entered from a frame that returns. -/
theorem idle_any (p : Addr) (w : World) :
    CallsD Tryz.prog 17 #[.pointer (some p)] .returning w fun e u' w' => e = .returned (.tuple #[]) ∧ u' = .returning ∧ w' = w := by
  refine callsD_of_wpS Tryz.func17 rfl fun c₀ cs hu => ?_
  apply wpS_seq
  apply wpS_region
  simp [wpOpsS, go_sem, recoverD, hu, Tryz.ntmps17, Exit.thenS]
  refine wpS_cond (t := false) (by simp [Act.eval, Array.replicate]) ?_
  simp only [Bool.false_eq_true, if_false]
  refine wpS_of_wp (wp_skip ?_)
  cases c₀
  simp_all [bodyPostS, results, Tryz.results17]

theorem base_tidy {xs ys : List Int} (h : readyB xs = true) (hb : basePC xs = some ys) : Tidy ys ∧ (headOf ys).refs ≠ 0 := by
  obtain ⟨T, _⟩ := ready_tidy h
  unfold basePC at hb
  split at hb
  · rename_i h0
    split at hb
    · rename_i hm
      cases hb
      obtain ⟨O, e, _⟩ := onto_refs T h0 hm
      have := whole_pos T.head
      exact ⟨O.tidy, by rw [e]; omega⟩
    · cases hb
  · rename_i h0
    cases hb
    exact ⟨T, h0⟩

/-- The named result's own block, as it was made. -/
def NilAt (bx : Nat) (W : World) : Prop := bx < W.heap.size ∧ W.heap[bx]? = some (.cells #[.slice none 0 0] 24 (0, 0))
theorem NilAt.below {bx : Nat} {W W' : World} (h : NilAt bx W) (b : Below W.heap.size W W') : W'.cell? ⟨bx, 0, none⟩ = some (.slice none 0 0) ∧ W'.frozen? ⟨bx, 0, none⟩ = false := by
  have h2 := (b.block bx h.1).trans h.2
  exact ⟨by rw [cell_of_row W' bx 0 _ _ _ h2]; rfl, frozen_of_row W' bx 0 _ _ h2⟩

set_option maxRecDepth 100000 in
set_option maxHeartbeats 4000000 in
theorem implCounted_one (hC : ClaimsC) (hLo : LooseC) (hCo : CountsC) (hT : TableC) (A : Option Addr) (n c : Nat) (xs : List Int) (w : World) (hr : Rd w w.heap.size A n xs) (hn : n ≤ 2097152) (hnc : n ≤ c) :
    Calls Tryz.prog 6 #[.slice A n c] w (Ret w (countedL xs)) := by
  have hmf : ∀ (fn : Fn) (first cap : Array Value) (w : World), (Instr.makeFunc fn first cap).run Tryz.prog w = .ok (.func fn first cap) w := fun _ _ _ _ => rfl
  have b1 := (Below.refl w.heap.size w).alloc (Nat.le_refl _) (.cells #[.slice none 0 0] 24)
  have hr1 := (hr.below b1).more b1.size
  have HLo := Lib.hid (countable_any hLo A n c xs (w.alloc (.cells #[.slice none 0 0] 24)) hr1 hn hnc)
  have HX : Hid (NilAt w.heap.size (w.alloc (.cells #[.slice none 0 0] 24))) := ⟨by simp, heap_alloc_new w _⟩
  have HRM := Lib.hid (fun h => counted_prog (xs := xs) h)
  have HBT := Lib.hid (fun h ys hb => base_tidy (xs := xs) (ys := ys) h hb)
  have hnl := hr.len
  clear hr
  go_enter_defers Tryz.func6, Tryz.ntmps6
  go_wp2_with fail
  refine HLo.out.mono ?_
  rintro e w2 ⟨b2, (⟨hrd, rfl⟩ | ⟨hrd, U, V, rfl⟩)⟩
  · have HE := Lib.hid (HRM.out hrd)
    have HB := Lib.hid (HBT.out hrd)
    have HH := Lib.hid (ready_head hrd)
    clear hrd
    have hr2 := (hr1.below b2).more b2.size
    go_wp2_with fail
    refine (withRefs_any A n c xs w2 hr2 hn hnc HH.out).mono ?_
    rintro e w3 hG
    cases hb : basePC xs with
    | none =>
      rw [hb] at hG
      obtain ⟨⟨U, V, rfl⟩, b3⟩ := hG
      have b23 := below_more b2 b3 b2.size
      have HN : Hid (countedL xs = []) := by show _ = _; rw [HE.out, hb]; rfl
      clear hb
      have hx := HX.out.below b23
      have cx := hx.1
      have fx := hx.2
      go_wp2_with fail
      refine leaves_cons (f := 17) (args := #[.pointer (some ⟨w.heap.size, 0, none⟩)]) (by simp) (by simp [go_sem]) ?_
      refine (caught_any ⟨w.heap.size, 0, none⟩ (.slice none 0 0) U V [] w3 cx fx).mono ?_
      rintro e u' w'' ⟨rfl, rfl, rfl⟩
      have cy := World.cell?_setCell_same w3 ⟨w.heap.size, 0, none⟩ (.slice none 0 0) cx
      simp [Leaves, settle, results, Tryz.results6, go_sem, cy]
      rw [HN.out]
      exact Ret.nil _ _ ((below_more b1 b23 b1.size).setCell (Nat.le_refl _) _)
    | some ys =>
      rw [hb] at hG
      obtain ⟨X, nx, cx, rfl, rX, hcx, b3⟩ := hG
      have b23 := below_more b2 b3 b2.size
      obtain ⟨T, h0⟩ := HB.out ys hb
      have HE2 : Hid (countedL xs = countEnd (blocksL ys)) := by show _ = _; rw [HE.out, hb]; rfl
      have HOB := Lib.hid (fun zs (hz : blocksL ys = some zs) => onto_blocks 64 ys zs T h0 hz)
      clear hb b3
      go_wp2_with fail
      refine (withBlocks_any hCo hT X nx cx ys w3 rX hcx T h0).mono ?_
      clear T h0
      rintro e w4 hG
      cases hb : blocksL ys with
      | none =>
        rw [hb] at hG
        obtain ⟨⟨U, V, rfl⟩, b4⟩ := hG
        have b24 := below_more b23 b4 b23.size
        have HN : Hid (countedL xs = []) := by show _ = _; rw [HE2.out, hb]; rfl
        clear hb
        have hx := HX.out.below b24
        have cx := hx.1
        have fx := hx.2
        go_wp2_with fail
        refine leaves_cons (f := 17) (args := #[.pointer (some ⟨w.heap.size, 0, none⟩)]) (by simp) (by simp [go_sem]) ?_
        refine (caught_any ⟨w.heap.size, 0, none⟩ (.slice none 0 0) U V [] w4 cx fx).mono ?_
        rintro e u' w'' ⟨rfl, rfl, rfl⟩
        have cy := World.cell?_setCell_same w4 ⟨w.heap.size, 0, none⟩ (.slice none 0 0) cx
        simp [Leaves, settle, results, Tryz.results6, go_sem, cy]
        rw [HN.out]
        exact Ret.nil _ _ ((below_more b1 b24 b1.size).setCell (Nat.le_refl _) _)
      | some zs =>
        rw [hb] at hG
        obtain ⟨Y, ny, cy, rfl, rY, hcy, b4⟩ := hG
        have b24 := below_more b23 b4 b23.size
        obtain ⟨OZ, _, hl⟩ := HOB.out zs hb
        have HN : Hid (countedL xs = writeC zs) := by show _ = _; rw [HE2.out, hb]; rfl
        clear hb b4
        go_wp2_with fail
        refine (withCounts_any hC hCo Y ny cy zs w4 rY hcy OZ.tidy hl).mono ?_
        clear OZ hl
        rintro e w5 ⟨Z, nz, cz, rfl, oZ, b5⟩
        have b25 := below_more b24 b5 b24.size
        have hx := HX.out.below b25
        have cx := hx.1
        have fx := hx.2
        go_wp2_with fail
        refine leaves_cons (f := 17) (args := #[.pointer (some ⟨w.heap.size, 0, none⟩)]) (by simp) (by simp [go_sem]) ?_
        refine (idle_any ⟨w.heap.size, 0, none⟩ _).mono ?_
        rintro e u' w'' ⟨rfl, rfl, rfl⟩
        have cy := World.cell?_setCell_same w5 ⟨w.heap.size, 0, none⟩ (.slice Z nz cz) cx
        simp [Leaves, settle, results, Tryz.results6, go_sem, cy]
        rw [HN.out]
        have B5 := below_more b1 b25 b1.size
        have sz : (w5.setCell ⟨w.heap.size, 0, none⟩ (.slice Z nz cz)).heap.size = w5.heap.size := by simp [World.setCell]
        have s1 : w.heap.size + 1 ≤ w4.heap.size := by have := b24.size; simp at this; omega
        exact ⟨Z, nz, cz, rfl, (by rw [sz]; exact ((oZ.more s1 (Nat.le_refl _)).keep fun q h1 h2 _ => Below.heap_setCell _ _ _ _ (by show q ≠ w.heap.size; omega)).more (by omega) (Nat.le_refl _)), B5.setCell (Nat.le_refl _) _⟩
  · have HN : Hid (countedL xs = []) := by show _ = _; unfold countedL; rw [if_neg (by rw [hrd]; simp)]
    clear hrd
    have hx := HX.out.below b2
    have cx := hx.1
    have fx := hx.2
    go_wp2_with fail
    refine leaves_cons (f := 17) (args := #[.pointer (some ⟨w.heap.size, 0, none⟩)]) (by simp) (by simp [go_sem]) ?_
    refine (caught_any ⟨w.heap.size, 0, none⟩ (.slice none 0 0) U V [] w2 cx fx).mono ?_
    rintro e u' w'' ⟨rfl, rfl, rfl⟩
    have cy := World.cell?_setCell_same w2 ⟨w.heap.size, 0, none⟩ (.slice none 0 0) cx
    simp [Leaves, settle, results, Tryz.results6, go_sem, cy]
    rw [HN.out]
    exact Ret.nil _ _ ((below_more b1 b2 b1.size).setCell (Nat.le_refl _) _)

end Go.Proofs.YtfolbhjljpnjlabGreat
