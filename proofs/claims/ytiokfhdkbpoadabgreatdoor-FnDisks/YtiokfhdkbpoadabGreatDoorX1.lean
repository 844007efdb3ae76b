/- Claims (chapter 6): the program's side: what is in the way, whether one would be good. Claims (chapter 6): the program's side: one more is added. Claims (chapter 6): the program's side: those of the shots. Claims (chapter 6): the program's side: those inside tables. Claims (chapter 6): the program's side: ClaimsIn. -/
import Derived.Test.YtiokfhdkbpoadabGreatDoorY5
import Derived.Test.YtiokfhdkbpoadabGreatDoorQ7
import Derived.BigRegion
import Derived.Deep.RegionLaw
namespace Go.Proofs.YtiokfhdkbpoadabGreatDoor
open Go.RowKit

/-- Is x, of the same target and good, in the way of c? -/
def wayB (x c : Cm) : Bool :=
  if c.kind = 7 then ((x.frm == c.frm || x.slot != c.slot) || x.kind != 7) else (if c.kind = 8 then x.kind != 8 else true)
theorem bars_way (x c : Cm) : barsB x c = (x.good && (x.target == c.target && wayB x c)) := by
  unfold barsB wayB
  cases x.good
  · simp
  by_cases ht : x.target = c.target
  · rw [if_pos ⟨rfl, ht⟩]
    have e : (x.target == c.target) = true := by simpa using ht
    rw [e, Bool.true_and, Bool.true_and]
    by_cases h7 : c.kind = 7
    · by_cases k7 : x.kind = 7
      · simp [h7, k7]
      · simp [h7, k7]
    · by_cases h8 : c.kind = 8
      · by_cases k8 : x.kind = 8
        · simp [h8, k8]
        · simp [h8, k8]
      · simp [h7, h8]
  · rw [if_neg (fun h => ht h.2)]
    have e : (x.target == c.target) = false := by simpa using ht
    rw [e]
    rfl

set_option maxHeartbeats 2000000 in
theorem way_any (x c : Cm) (w : World) : Calls Tryz.prog 166 #[cmA x, cmA c] w (RetB w (wayB x c)) := by
  obtain ⟨k, f, s, p, t, g⟩ := x
  obtain ⟨k', f', s', p', t', g'⟩ := c
  have hb := Lib.hid (((Below.refl w.heap.size w).alloc (Nat.le_refl _) (.cells #[.int .i64 k, .int .i64 f, .int .i64 s, .int .i64 p, .int .i64 t, .bool g] 115)).alloc (by simp) (.cells #[.int .i64 k', .int .i64 f', .int .i64 s', .int .i64 p', .int .i64 t', .bool g'] 115))
  unfold cmA
  by_cases hk : k' = 7
  · subst hk
    by_cases hf : f = f'
    · subst hf
      have q2 : (f == f) = true := by simp
      go_enter Tryz.func166, Tryz.ntmps166
      go_wp2
      go_ret
      exact RetB.mk (by simp [wayB]) hb.out
    · have q2 : (f == f') = false := by simpa using hf
      by_cases hs : s = s'
      · subst hs
        have q3 : (s != s) = false := by simp
        go_enter Tryz.func166, Tryz.ntmps166
        go_wp2
        go_ret
        exact RetB.mk (by simp [wayB, hf]) hb.out
      · have q3 : (s != s') = true := by simpa using hs
        go_enter Tryz.func166, Tryz.ntmps166
        go_wp2
        go_ret
        exact RetB.mk (by simp [wayB, hs]) hb.out
  · have q4 : (k' == 7) = false := by simpa using hk
    by_cases hk8 : k' = 8
    · subst hk8
      go_enter Tryz.func166, Tryz.ntmps166
      go_wp2
      go_ret
      exact RetB.mk (by simp [wayB]) hb.out
    · have q5 : (k' == 8) = false := by simpa using hk8
      go_enter Tryz.func166, Tryz.ntmps166
      go_wp2
      go_ret
      exact RetB.mk (by simp [wayB, hk, hk8]) hb.out

/-- Block p is a list of claims: the image, its size, and where the claims are. -/
def LBox (w : World) (p : Nat) (A : Option Addr) (n cb : Nat) (size : Int) (g len cap : Nat) : Prop :=
  w.heap[p]? = some (.cells #[.slice A n cb, .int .i64 size, .slice (some ⟨g, 0, none⟩) len cap] 144 (0, 0))
section
variable {w w' : World} {p : Nat} {A : Option Addr} {n cb : Nat} {size : Int} {g len cap : Nat}
theorem LBox.cell (h : LBox w p A n cb size g len cap) (j : Nat) : w.cell? ⟨p, j, none⟩ = (#[.slice A n cb, .int .i64 size, .slice (some ⟨g, 0, none⟩) len cap] : Array Value)[j]? := cell_of_row w p j _ _ _ h
theorem LBox.free (h : LBox w p A n cb size g len cap) (j : Nat) : w.frozen? ⟨p, j, none⟩ = false := by
  unfold LBox at h
  simp [World.frozen?, h]
theorem LBox.lt (h : LBox w p A n cb size g len cap) : p < w.heap.size := (Array.getElem?_eq_some_iff.1 h).1
theorem LBox.keep (h : LBox w p A n cb size g len cap) (hk : w'.heap[p]? = w.heap[p]?) : LBox w' p A n cb size g len cap := hk.trans h
theorem LBox.put (h : LBox w p A n cb size g len cap) (g' len' cap' : Nat) : LBox (w.setCell ⟨p, 2, none⟩ (.slice (some ⟨g', 0, none⟩) len' cap')) p A n cb size g' len' cap' := by
  unfold LBox at *
  simp only [World.setCell, Array.getElem?_modify]
  simp [h]
end

theorem isThere_is (A : Option Addr) (n c : Nat) (xs : List Int) (t : Int) (v : Bool) (hv : thereB xs t = v) (w : World) (h : Rd w w.heap.size A n xs) (hn : n ≤ 2097152) (hi : imgB xs = true) :
    Calls Tryz.prog 86 #[.slice A n c, .int .i64 t] w (RetB w v) := by
  subst hv
  exact isThere_any A n c xs t w h hn hi

theorem noBar_hit {l : List Cm} {c : Cm} {k : Nat} (hk : k < l.length) (h : barsB (l.getD k cm0) c = true) : noBar l c l.length = false := by
  rw [noBar_all _ _ _ (Nat.le_refl _)]
  have : (l.any fun x => barsB x c) = true := by
    rw [List.any_eq_true]
    refine ⟨l[k], List.getElem_mem hk, ?_⟩
    rw [List.getD_eq_getElem?_getD, List.getElem?_eq_getElem hk] at h
    exact h
  rw [this]
  rfl

set_option maxRecDepth 100000 in
set_option maxHeartbeats 4000000 in
theorem would_any (A : Option Addr) (n cb : Nat) (xs : List Int) (size : Int) (p g cap lo hi : Nat) (l : List Cm) (c : Cm) (w : World) (hr : Rd w w.heap.size A n xs) (hn : n ≤ 2097152) (him : imgB xs = true) (hl : l.length ≤ 100000)
    (hb : LBox w p A n cb size g l.length cap) (ho : OwV 115 6 w lo hi g l.length cap (l.flatMap cmV)) :
    Calls Tryz.prog 164 #[.pointer (some ⟨p, 0, none⟩), cmA c] w (RetB w (goodB xs size l c)) := by
  obtain ⟨ck, cf, cs, cp, ct, cg⟩ := c
  have hgl := ho.lt
  have hpl := hb.lt
  unfold cmA
  have B0 := (Below.refl w.heap.size w).alloc (Nat.le_refl _) (.cells #[.int .i64 ck, .int .i64 cf, .int .i64 cs, .int .i64 cp, .int .i64 ct, .bool cg] 115)
  have hb0 := hb.keep (w' := w.alloc (.cells #[.int .i64 ck, .int .i64 cf, .int .i64 cs, .int .i64 cp, .int .i64 ct, .bool cg] 115)) (Below.heap_alloc _ _ _ hpl)
  have ho0 := ho.keep (w' := w.alloc (.cells #[.int .i64 ck, .int .i64 cf, .int .i64 cs, .int .i64 cp, .int .i64 ct, .bool cg] 115)) (Below.heap_alloc _ _ _ hgl)
  have hc0 : BoxC (w.alloc (.cells #[.int .i64 ck, .int .i64 cf, .int .i64 cs, .int .i64 cp, .int .i64 ct, .bool cg] 115)) w.heap.size ⟨ck, cf, cs, cp, ct, cg⟩ := heap_alloc_new w _
  have hz0 : w.heap.size + 1 = (w.alloc (.cells #[.int .i64 ck, .int .i64 cf, .int .i64 cs, .int .i64 cp, .int .i64 ct, .bool cg] 115)).heap.size := by simp
  have hr0 := (hr.below B0).more B0.size
  have HG := Lib.hid (show goodB xs size l ⟨ck, cf, cs, cp, ct, cg⟩ = ((thereB xs ct && decide (cp < size)) && noBar l ⟨ck, cf, cs, cp, ct, cg⟩ l.length) by rw [noBar_all _ _ _ (Nat.le_refl _)]; rfl)
  go_enter Tryz.func164, Tryz.ntmps164
  go_wp2_with fail
  clear ho hb hr
  generalize (w.alloc (.cells #[.int .i64 ck, .int .i64 cf, .int .i64 cs, .int .i64 cp, .int .i64 ct, .bool cg] 115)) = w0 at *
  have p0 : w0.cell? ⟨p, 0, none⟩ = some (.slice A n cb) := hb0.cell 0
  have p1 : w0.cell? ⟨p, 1, none⟩ = some (.int .i64 size) := hb0.cell 1
  have c3 : w0.cell? ⟨w.heap.size, 3, none⟩ = some (.int .i64 cp) := hc0.cell 3
  have c4 : w0.cell? ⟨w.heap.size, 4, none⟩ = some (.int .i64 ct) := hc0.cell 4
  have hq : w.heap.size < w0.heap.size := by omega
  have hp0 : p < w0.heap.size := by omega
  cases ht : thereB xs ct
  · first
      | go_region_with ((go_at_call 86; refine (isThere_is A n cb xs ct _ ht w0.drew hr0 hn him).mono ?_; rintro e w1 ⟨rfl, b1⟩))
      | fail
    all_goals
      go_wp2_with fail
      go_ret
      exact RetB.mk (by rw [HG.out, ht]; rfl) (below_more B0.drew b1 B0.drew.size)
  by_cases hcp : cp < size
  case' neg =>
    have HP := Lib.hid (decide_eq_false hcp)
    have hd : decide (size ≤ cp) = true := by simpa using hcp
  case' pos =>
    have HP := Lib.hid (decide_eq_true hcp)
    have hd : decide (size ≤ cp) = false := by simpa using hcp
  all_goals
    go_region_held3 (fun w' => w'.cell? ⟨p, 0, none⟩ = some (.slice A n cb) ∧ w'.cell? ⟨p, 1, none⟩ = some (.int .i64 size) ∧ w'.cell? ⟨w.heap.size, 3, none⟩ = some (.int .i64 cp) ∧ w'.cell? ⟨w.heap.size, 4, none⟩ = some (.int .i64 ct))
      (first
        | go_keep
        | (go_split_ands
           refine ⟨?_, ?_, ?_, ?_⟩
           · exact (b1.cell (p := ⟨p, 0, none⟩) hp0).trans (by assumption)
           · exact (b1.cell (p := ⟨p, 1, none⟩) hp0).trans (by assumption)
           · exact (b1.cell (p := ⟨w.heap.size, 3, none⟩) hq).trans (by assumption)
           · exact (b1.cell (p := ⟨w.heap.size, 4, none⟩) hq).trans (by assumption)))
      ((go_at_call 86; refine (isThere_is A n cb xs ct _ ht w0.drew hr0 hn him).mono ?_; rintro e w1 ⟨rfl, b1⟩))
    have B1 := below_more B0.drew b1 B0.drew.size
  case neg =>
    go_wp2_with fail
    go_ret
    exact RetB.mk (by rw [HG.out, ht, HP.out]; rfl) B1
  case pos =>
    have HG2 := Lib.hid (show goodB xs size l ⟨ck, cf, cs, cp, ct, cg⟩ = noBar l ⟨ck, cf, cs, cp, ct, cg⟩ l.length by rw [HG.out, ht, HP.out]; rfl)
    have s1 : w0.heap.size ≤ w1.heap.size := b1.size
    have p2 : w1.cell? ⟨p, 2, none⟩ = some (.slice (some ⟨g, 0, none⟩) l.length cap) := (hb0.keep (b1.block p hp0)).cell 2
    have hc1 := hc0.keep (b1.block w.heap.size hq)
    have ho1 := ho0.keep (b1.block g (by show g < w0.heap.size; omega))
    clear HG p0 p1 c3 c4 hd ht b1 hb0 hc0 ho0 hr0 B0
    go_wp2_with fail
    go_loopw [29] (fun i wr => ∃ k : Nat, k ≤ l.length ∧ i = .int .i64 k ∧ noBar l ⟨ck, cf, cs, cp, ct, cg⟩ k = true ∧ Below w1.heap.size w1 wr) (fun i _ => l.length - (intOf i).toNat)
    case atStart => exact ⟨0, Nat.zero_le _, rfl, noBar_zero _ _, Below.refl _ _⟩
    case round =>
      obtain ⟨k, hk, rfl, hno, hbr⟩ := hrel
      have HNo := Lib.hid hno
      clear hno
      have sr := hbr.size
      have BR := Lib.hid (below_more B1 hbr B1.size)
      by_cases hlt : k < l.length
      · have HS := Lib.hid (noBar_step l ⟨ck, cf, cs, cp, ct, cg⟩ k hlt)
        have HB := Lib.hid (bars_way (l.getD k cm0) ⟨ck, cf, cs, cp, ct, cg⟩)
        have HT := Lib.hid (fun h => noBar_hit (c := ⟨ck, cf, cs, cp, ct, cg⟩) hlt h)
        have hce : ∀ j, j < 6 → wr.cell? ⟨g, k * 6 + j, none⟩ = (cmV (l.getD k cm0))[j]? := fun j hj => by
          rw [(ho1.keep (hbr.block g (by omega))).cell (by omega), cm_cell hlt hj]
        have hbc := (hc1.keep (hbr.block _ (by omega))).cell
        have hqr : w.heap.size < wr.heap.size := by omega
        generalize l.getD k cm0 = x at *
        obtain ⟨xk, xf, xs', xp, xt, xg⟩ := x
        have e0 : wr.cell? ⟨g, k * 6, none⟩ = some (.int .i64 xk) := hce 0 (by omega)
        have e1 : wr.cell? ⟨g, k * 6 + 1, none⟩ = some (.int .i64 xf) := hce 1 (by omega)
        have e2 : wr.cell? ⟨g, k * 6 + 2, none⟩ = some (.int .i64 xs') := hce 2 (by omega)
        have e3 : wr.cell? ⟨g, k * 6 + 3, none⟩ = some (.int .i64 xp) := hce 3 (by omega)
        have e4 : wr.cell? ⟨g, k * 6 + 4, none⟩ = some (.int .i64 xt) := hce 4 (by omega)
        have e5 : wr.cell? ⟨g, k * 6 + 5, none⟩ = some (.bool xg) := hce 5 (by omega)
        have b0 : (wr.alloc (.cells #[.int .i64 xk, .int .i64 xf, .int .i64 xs', .int .i64 xp, .int .i64 xt, .bool xg] 115)).cell? ⟨w.heap.size, 0, none⟩ = some (.int .i64 ck) := (World.cell?_alloc_lt _ _ _ hqr).trans (hbc 0)
        have b1 : (wr.alloc (.cells #[.int .i64 xk, .int .i64 xf, .int .i64 xs', .int .i64 xp, .int .i64 xt, .bool xg] 115)).cell? ⟨w.heap.size, 1, none⟩ = some (.int .i64 cf) := (World.cell?_alloc_lt _ _ _ hqr).trans (hbc 1)
        have b2 : (wr.alloc (.cells #[.int .i64 xk, .int .i64 xf, .int .i64 xs', .int .i64 xp, .int .i64 xt, .bool xg] 115)).cell? ⟨w.heap.size, 2, none⟩ = some (.int .i64 cs) := (World.cell?_alloc_lt _ _ _ hqr).trans (hbc 2)
        have b3 : (wr.alloc (.cells #[.int .i64 xk, .int .i64 xf, .int .i64 xs', .int .i64 xp, .int .i64 xt, .bool xg] 115)).cell? ⟨w.heap.size, 3, none⟩ = some (.int .i64 cp) := (World.cell?_alloc_lt _ _ _ hqr).trans (hbc 3)
        have b4 : (wr.alloc (.cells #[.int .i64 xk, .int .i64 xf, .int .i64 xs', .int .i64 xp, .int .i64 xt, .bool xg] 115)).cell? ⟨w.heap.size, 4, none⟩ = some (.int .i64 ct) := (World.cell?_alloc_lt _ _ _ hqr).trans (hbc 4)
        have b5 : (wr.alloc (.cells #[.int .i64 xk, .int .i64 xf, .int .i64 xs', .int .i64 xp, .int .i64 xt, .bool xg] 115)).cell? ⟨w.heap.size, 5, none⟩ = some (.bool cg) := (World.cell?_alloc_lt _ _ _ hqr).trans (hbc 5)
        clear hce hbc
        have HA := Lib.hid (hbr.alloc sr (.cells #[.int .i64 xk, .int .i64 xf, .int .i64 xs', .int .i64 xp, .int .i64 xt, .bool xg] 115))
        cases xg
        · have HE : Hid (noBar l ⟨ck, cf, cs, cp, ct, cg⟩ (k + 1) = true) := by rw [HS.out, HB.out, HNo.out]; rfl
          clear HB HS HT
          go_wp2_with fail
          go_roundw
          case rel => exact ⟨k + 1, by omega, by go_num, HE.out, HA.out⟩
          case measure => simp [intOf]; omega
        · by_cases ht : xt = ct
          · have hdt : (xt == ct) = true := by simpa using ht
            have HW : Hid (barsB ⟨xk, xf, xs', xp, xt, true⟩ ⟨ck, cf, cs, cp, ct, cg⟩ = wayB ⟨xk, xf, xs', xp, xt, true⟩ ⟨ck, cf, cs, cp, ct, cg⟩) := by rw [HB.out]; simp [hdt, Hid]
            clear HB ht
            go_wp2_with fail
            refine (way_any ⟨xk, xf, xs', xp, xt, true⟩ ⟨ck, cf, cs, cp, ct, cg⟩ _).mono ?_
            rintro e w2 ⟨rfl, bl2⟩
            have HA2 := Lib.hid (below_more HA.out bl2 HA.out.size)
            cases hq : wayB ⟨xk, xf, xs', xp, xt, true⟩ ⟨ck, cf, cs, cp, ct, cg⟩
            · have HE : Hid (noBar l ⟨ck, cf, cs, cp, ct, cg⟩ (k + 1) = true) := by rw [HS.out, HW.out, HNo.out, hq]; rfl
              clear HW HS HT hq
              go_wp2_with fail
              go_roundw
              case rel => exact ⟨k + 1, by omega, by go_num, HE.out, HA2.out⟩
              case measure => simp [intOf]; omega
            · have HE : Hid (noBar l ⟨ck, cf, cs, cp, ct, cg⟩ l.length = false) := HT.out (by rw [HW.out, hq])
              clear HW HS HT hq
              go_wp2_with fail
              go_ret
              exact RetB.mk (by rw [HG2.out, HE.out]) (below_more B1 HA2.out B1.size)
          · have hdt : (xt == ct) = false := by simpa using ht
            have HE : Hid (noBar l ⟨ck, cf, cs, cp, ct, cg⟩ (k + 1) = true) := by rw [HS.out, HB.out, HNo.out, Bool.true_and]; show (!(true && ((xt == ct) && _))) = true; rw [hdt]; rfl
            clear HB HS HT
            go_wp2_with fail
            go_roundw
            case rel => exact ⟨k + 1, by omega, by go_num, HE.out, HA.out⟩
            case measure => simp [intOf]; omega
      · obtain rfl : k = l.length := by omega
        go_wp2_with fail
        go_ret
        exact RetB.mk (by rw [HG2.out, HNo.out]) BR.out

/-- Nothing that was there has turned but blocks p and g. -/
structure Grow2 (w w' : World) (p g : Nat) : Prop where
  os : w'.os = w.os
  tape : w'.tape = w.tape
  output : w'.output = w.output
  size : w.heap.size ≤ w'.heap.size
  block : ∀ k, k < w.heap.size → k ≠ p → k ≠ g → w'.heap[k]? = w.heap[k]?
theorem Grow2.refl (w : World) (p g : Nat) : Grow2 w w p g := ⟨rfl, rfl, rfl, Nat.le_refl _, fun _ _ _ _ => rfl⟩
theorem Grow2.below {w w1 w2 : World} {p g : Nat} (h : Grow2 w w1 p g) (b : Below w1.heap.size w1 w2) : Grow2 w w2 p g :=
  ⟨b.os.trans h.os, b.tape.trans h.tape, b.output.trans h.output, Nat.le_trans h.size b.size, fun k h1 h2 h3 => (b.block k (Nat.lt_of_lt_of_le h1 h.size)).trans (h.block k h1 h2 h3)⟩
theorem Grow2.after {w w1 w2 : World} {p g : Nat} (b : Below w.heap.size w w1) (h : Grow2 w1 w2 p g) : Grow2 w w2 p g :=
  ⟨h.os.trans b.os, h.tape.trans b.tape, h.output.trans b.output, Nat.le_trans b.size h.size, fun k h1 h2 h3 => (h.block k (Nat.lt_of_lt_of_le h1 b.size) h2 h3).trans (b.block k h1)⟩
theorem Grow2.next {w w1 w2 : World} {p g g1 : Nat} (h : Grow2 w w1 p g) (hg : g1 = g ∨ w.heap.size ≤ g1) (h2 : Grow2 w1 w2 p g1) : Grow2 w w2 p g :=
  ⟨h2.os.trans h.os, h2.tape.trans h.tape, h2.output.trans h.output, Nat.le_trans h.size h2.size, fun k hk hp hne => (h2.block k (Nat.lt_of_lt_of_le hk h.size) hp (fun e => by
    rcases hg with hg | hg
    · exact hne (by rw [e, hg])
    · omega)).trans (h.block k hk hp hne)⟩
theorem Grow2.put {w w1 : World} {p g : Nat} (h : Grow2 w w1 p g) (j : Nat) (v : Value) : Grow2 w (w1.setCell ⟨p, j, none⟩ v) p g :=
  ⟨h.os, h.tape, h.output, by simpa [World.setCell] using h.size, fun k h1 h2 h3 => (Below.heap_setCell _ _ _ _ h2).trans (h.block k h1 h2 h3)⟩
theorem Grow2.drew {w w1 : World} {p g : Nat} (h : Grow2 w w1 p g) : Grow2 w w1.drew p g := ⟨h.os, h.tape, h.output, h.size, h.block⟩
theorem Grow2.rd {w w' : World} {p g lo n : Nat} {A : Option Addr} {xs : List Int} (h : Grow2 w w' p g) (hr : Rd w lo A n xs) (hp : lo ≤ p) (hg : lo ≤ g) (hl : lo ≤ w.heap.size) : Rd w' lo A n xs :=
  hr.keep fun q hq => World.cell?_of_block (w := w) (h.block q.block (by omega) (by omega) (by omega))
theorem Grow2.toBelow {w0 w w' : World} {p g : Nat} (b : Below w0.heap.size w0 w) (h : Grow2 w w' p g) (hp : w0.heap.size ≤ p) (hg : w0.heap.size ≤ g) : Below w0.heap.size w0 w' :=
  ⟨h.os.trans b.os, h.tape.trans b.tape, h.output.trans b.output, Nat.le_trans b.size h.size, fun k hk => (h.block k (Nat.lt_of_lt_of_le hk b.size) (by omega) (by omega)).trans (b.block k hk)⟩

/-- The list at p is l now; its old row still reads as old; nothing else has turned. -/
def RetL (w : World) (lo p : Nat) (A : Option Addr) (n cb : Nat) (size : Int) (g : Nat) (old l : List Cm) (w' : World) : Prop :=
  ∃ g' cap', LBox w' p A n cb size g' l.length cap' ∧ OwV 115 6 w' lo w'.heap.size g' l.length cap' (l.flatMap cmV) ∧ (g' = g ∨ w.heap.size ≤ g') ∧ Grow2 w w' p g ∧ RdV 6 w' w'.heap.size (some ⟨g, 0, none⟩) old.length (old.flatMap cmV)

theorem RdV.grow2 {w w' : World} {p g q n : Nat} {cs : List Value} {B : Nat} (h : RdV 6 w B (some ⟨q, 0, none⟩) n cs) (hg : Grow2 w w' p g) (hq : q < w.heap.size) (hp : q ≠ p) (hne : q ≠ g) : RdV 6 w' B (some ⟨q, 0, none⟩) n cs :=
  ⟨h.1, fun hn => by
    obtain ⟨b', off, e, hb', hc⟩ := h.2 hn
    injection e with e
    injection e with e1 e2
    subst e1; subst e2
    exact ⟨q, 0, rfl, hb', fun j hj => (World.cell?_of_block (w := w) (hg.block q hq hp hne)).trans (hc j hj)⟩⟩

/-- One step behind others. -/
theorem RetL.next {w w1 w2 : World} {lo p : Nat} {A : Option Addr} {n cb : Nat} {size : Int} {g g1 : Nat} {l l1 l2 : List Cm} (hG : Grow2 w w1 p g) (hg1 : g1 = g ∨ w.heap.size ≤ g1) (hold : RdV 6 w1 w1.heap.size (some ⟨g, 0, none⟩) l.length (l.flatMap cmV)) (hp : l <+: l1) (hgl : g < w1.heap.size) (hgp : g ≠ p)
    (h : RetL w1 lo p A n cb size g1 l1 l2 w2) : RetL w lo p A n cb size g l l2 w2 := by
  obtain ⟨g2, c2, b2, o2, at2, G2, old2⟩ := h
  refine ⟨g2, c2, b2, o2, ?_, hG.next hg1 G2, ?_⟩
  · have := hG.size
    omega
  · by_cases he : g1 = g
    · subst he
      obtain ⟨t, rfl⟩ := hp
      rw [List.flatMap_append] at old2
      exact old2.front (flat_length cmV 6 cmV_length l) (by omega)
    · exact (hold.grow2 G2 hgl hgp (fun e => he e.symm)).more G2.size

set_option maxRecDepth 100000 in
set_option maxHeartbeats 4000000 in
theorem add_any (A : Option Addr) (n cb : Nat) (xs : List Int) (size : Int) (p g cap lo : Nat) (l : List Cm) (c : Cm) (w : World) (hr : Rd w w.heap.size A n xs) (hn : n ≤ 2097152) (him : imgB xs = true) (hl : l.length ≤ 100000)
    (hb : LBox w p A n cb size g l.length cap) (ho : OwV 115 6 w lo w.heap.size g l.length cap (l.flatMap cmV)) (hpl : p < lo) (hlo : lo ≤ w.heap.size) :
    Calls Tryz.prog 158 #[.pointer (some ⟨p, 0, none⟩), cmA c] w (fun e w' => e = .returned (.bool (goodB xs size l c)) ∧ RetL w lo p A n cb size g l (addC xs size l c) w') := by
  obtain ⟨i0, hi0, hz0, hz1, hz2⟩ := info_parts infoCm
  obtain ⟨ck, cf, cs, cp, ct, cg⟩ := c
  have hgl := ho.lt
  have hgo := ho.low
  have B0 := (Below.refl w.heap.size w).alloc (Nat.le_refl _) (.cells #[.int .i64 ck, .int .i64 cf, .int .i64 cs, .int .i64 cp, .int .i64 ct, .bool cg] 115)
  have hb0 := hb.keep (w' := w.alloc (.cells #[.int .i64 ck, .int .i64 cf, .int .i64 cs, .int .i64 cp, .int .i64 ct, .bool cg] 115)) (Below.heap_alloc _ _ _ (by omega))
  have ho0 := ho.keep (w' := w.alloc (.cells #[.int .i64 ck, .int .i64 cf, .int .i64 cs, .int .i64 cp, .int .i64 ct, .bool cg] 115)) (Below.heap_alloc _ _ _ hgl)
  have hc0 : BoxC (w.alloc (.cells #[.int .i64 ck, .int .i64 cf, .int .i64 cs, .int .i64 cp, .int .i64 ct, .bool cg] 115)) w.heap.size ⟨ck, cf, cs, cp, ct, cg⟩ := heap_alloc_new w _
  have hz0' : w.heap.size + 1 = (w.alloc (.cells #[.int .i64 ck, .int .i64 cf, .int .i64 cs, .int .i64 cp, .int .i64 ct, .bool cg] 115)).heap.size := by simp
  have hr0 := (hr.below B0).more B0.size
  have HE : Hid (addC xs size l ⟨ck, cf, cs, cp, ct, cg⟩ = l ++ [⟨ck, cf, cs, cp, ct, goodB xs size l ⟨ck, cf, cs, cp, ct, cg⟩⟩]) := rfl
  unfold cmA
  go_enter Tryz.func158, Tryz.ntmps158
  go_wp2_with fail
  refine (would_any A n cb xs size p g cap lo _ l ⟨ck, cf, cs, cp, ct, cg⟩ (w.alloc (.cells #[.int .i64 ck, .int .i64 cf, .int .i64 cs, .int .i64 cp, .int .i64 ct, .bool cg] 115)) hr0 hn him hl hb0 ho0).mono ?_
  rintro e w1 ⟨rfl, b1⟩
  generalize hv : goodB xs size l ⟨ck, cf, cs, cp, ct, cg⟩ = v at *
  have HV := Lib.hid hv
  clear hv
  clear ho hb hr
  generalize (w.alloc (.cells #[.int .i64 ck, .int .i64 cf, .int .i64 cs, .int .i64 cp, .int .i64 ct, .bool cg] 115)) = w0 at *
  have hq : w.heap.size < w0.heap.size := by omega
  have s1 := b1.size
  have hf5 : w1.frozen? ⟨w.heap.size, 5, none⟩ = false := (hc0.keep (b1.block _ hq)).free 5
  have hc5 : w1.cell? ⟨w.heap.size, 5, none⟩ = some (.bool cg) := (hc0.keep (b1.block _ hq)).cell 5
  have hb1 := (hb0.keep (b1.block p (by omega))).keep (w' := w1.setCell ⟨w.heap.size, 5, none⟩ (.bool v)) (Below.heap_setCell _ _ _ _ (by show p ≠ w.heap.size; omega))
  have ho1 := (ho0.keep (b1.block g (by omega))).keep (w' := w1.setCell ⟨w.heap.size, 5, none⟩ (.bool v)) (Below.heap_setCell _ _ _ _ (by show g ≠ w.heap.size; omega))
  have hc1 := (hc0.keep (b1.block _ hq)).good v
  have B1 := (below_more B0 b1 B0.size).setCell (p := ⟨w.heap.size, 5, none⟩) (Nat.le_refl _) (.bool v)
  have hq1 : w.heap.size < (w1.setCell ⟨w.heap.size, 5, none⟩ (.bool v)).heap.size := by simp [World.setCell]; omega
  clear hb0 ho0 hc0 hr0 B0
  go_wp2_with fail
  clear hf5 hc5 b1 s1
  generalize w1.setCell ⟨w.heap.size, 5, none⟩ (.bool v) = w2 at *
  have c0 : w2.cell? ⟨w.heap.size, 0, none⟩ = some (.int .i64 ck) := hc1.cell 0
  have c1 : w2.cell? ⟨w.heap.size, 1, none⟩ = some (.int .i64 cf) := hc1.cell 1
  have c2 : w2.cell? ⟨w.heap.size, 2, none⟩ = some (.int .i64 cs) := hc1.cell 2
  have c3 : w2.cell? ⟨w.heap.size, 3, none⟩ = some (.int .i64 cp) := hc1.cell 3
  have c4 : w2.cell? ⟨w.heap.size, 4, none⟩ = some (.int .i64 ct) := hc1.cell 4
  have c5 : w2.cell? ⟨w.heap.size, 5, none⟩ = some (.bool v) := hc1.cell 5
  have hp2 : p < w2.heap.size := by omega
  have p2 : w2.cell? ⟨p, 2, none⟩ = some (.slice (some ⟨g, 0, none⟩) l.length cap) := hb1.cell 2
  go_region_law ((refine step_append_lit (by rfl) _ _ _ (by rfl) 115 6 48 _ i0 Tryz.underlying112 hi0 hz0 hz1 hz2 rfl (by omega) (by omega) lo _ g l.length cap _ (by rfl) ho1 #[.int .i64 ck, .int .i64 cf, .int .i64 cs, .int .i64 cp, .int .i64 ct, .bool v] 1 1 (by rfl) (by rfl) (by simp [Value.oneCell']) (by omega) (by omega) ?_; intro g2 cd w5 ho5 hgrow hat hold; have hb5 := hb1.keep (w' := w5) ((hgrow.block p (by simp; omega) (fun e => by injection e with e; omega)).trans (Below.heap_alloc _ _ _ hp2)); have f25 := hb5.free 2; have p25 : w5.cell? ⟨p, 2, none⟩ = some (.slice (some ⟨g, 0, none⟩) l.length cap) := hb5.cell 2))
  all_goals
    have hgo2 := ho5.low
    have hc6 : (w5.setCell ⟨p, 2, none⟩ (.slice (some ⟨g2, 0, none⟩) (l.length + 1) cd)).cell? ⟨w.heap.size, 5, none⟩ = some (.bool v) := by
      refine (World.cell?_of_block (w := w5) (Below.heap_setCell _ _ _ _ (by show w.heap.size ≠ p; omega))).trans ?_
      exact (hgrow.cell_far (w := (w2.alloc (.cells #[.int .i64 ck, .int .i64 cf, .int .i64 cs, .int .i64 cp, .int .i64 ct, .bool v] 115)).drew) ⟨w.heap.size, 5, none⟩ (by simp; omega) (fun e => by injection e with e; have : w.heap.size = g := e; omega)).trans ((World.cell?_alloc_lt _ _ _ hq1).trans c5)
    have HG : Hid (Grow2 w w5 p g) := Grow2.after B1 ⟨hgrow.os, hgrow.tape, hgrow.output, Nat.le_trans (by simp) hgrow.size, fun k h1 _ h3 => (hgrow.block k (by simp; omega) (fun e => by injection e with e; omega)).trans (Below.heap_alloc _ _ _ h1)⟩
    go_wp2_with fail
    go_ret
    refine ⟨by rw [HV.out]; rfl, ?_⟩
    rw [HE.out]
    have hk2 : ∀ q, q ≠ p → (w5.setCell ⟨p, 2, none⟩ (.slice (some ⟨g2, 0, none⟩) (l.length + 1) cd)).heap[q]? = w5.heap[q]? := fun q hq => Below.heap_setCell _ _ _ _ hq
    refine ⟨g2, cd, ?_, ?_, by omega, HG.out.put _ _, ?_⟩
    · simpa using hb5.put g2 (l.length + 1) cd
    · have := ho5.keep (hk2 g2 (by omega))
      simpa [cmV, World.setCell] using this
    · have hs5 := HG.out.size
      exact (hold.grow2 ((Grow2.refl w5 p p).put 2 (.slice (some ⟨g2, 0, none⟩) (l.length + 1) cd)) (by omega) (by omega) (by omega)).more (by simp [World.setCell])

theorem RetL.refl {w : World} {lo p : Nat} {A : Option Addr} {n cb : Nat} {size : Int} {g cap : Nat} {l : List Cm} (hb : LBox w p A n cb size g l.length cap) (ho : OwV 115 6 w lo w.heap.size g l.length cap (l.flatMap cmV)) : RetL w lo p A n cb size g l l w :=
  ⟨g, cap, hb, ho, .inl rfl, Grow2.refl _ _ _, ho.rd⟩
theorem RetL.after {w w1 w2 : World} {lo p : Nat} {A : Option Addr} {n cb : Nat} {size : Int} {g : Nat} {old l : List Cm} (b : Below w.heap.size w w1) (h : RetL w1 lo p A n cb size g old l w2) : RetL w lo p A n cb size g old l w2 := by
  obtain ⟨g2, c2, b2, o2, at2, G2, old2⟩ := h
  have := b.size
  exact ⟨g2, c2, b2, o2, by omega, Grow2.after b G2, old2⟩
theorem RetL.below {w w1 w2 : World} {lo p : Nat} {A : Option Addr} {n cb : Nat} {size : Int} {g : Nat} {old l : List Cm} (h : RetL w lo p A n cb size g old l w1) (b : Below w1.heap.size w1 w2) : RetL w lo p A n cb size g old l w2 := by
  obtain ⟨g2, c2, b2, o2, at2, G2, old2⟩ := h
  exact ⟨g2, c2, b2.keep (b.block p b2.lt), ⟨(o2.keep (b.block g2 o2.lt)).own, Nat.lt_of_lt_of_le o2.lt b.size⟩, at2, G2.below b, (old2.below b).more b.size⟩

/-- What addShots makes of a list. -/
def shotsP (xs : List Int) (h : Hd) (l : List Cm) : List Cm :=
  if goodB xs h.size l ⟨5, 0, 0, 0, h.shots, false⟩ = true then (List.range (shotsL xs).length).foldl (shotStep xs h) (addC xs h.size l ⟨5, 0, 0, 0, h.shots, false⟩) else addC xs h.size l ⟨5, 0, 0, 0, h.shots, false⟩

set_option maxRecDepth 100000 in
set_option maxHeartbeats 4000000 in
theorem addShots_any (A : Option Addr) (n cb B : Nat) (xs : List Int) (h : Hd) (p g cap lo : Nat) (l : List Cm) (w : World) (hr : Rd w B A n xs) (hn : n ≤ 2097152) (hnc : n ≤ cb) (him : imgB xs = true) (hl : l.length ≤ 10000)
    (hb : LBox w p A n cb h.size g l.length cap) (ho : OwV 115 6 w lo w.heap.size g l.length cap (l.flatMap cmV)) (hB : B ≤ p) (hpl : p < lo) (hlo : lo ≤ w.heap.size) :
    Calls Tryz.prog 160 #[.pointer (some ⟨p, 0, none⟩), .int .i64 h.shots] w (fun e w' => e = .returned (.tuple #[]) ∧ RetL w lo p A n cb h.size g l (shotsP xs h l) w') := by
  obtain ⟨s, f, r, u, m⟩ := h
  have hgl := ho.lt
  have hgo := ho.low
  have HC : Hid (shotsP xs ⟨s, f, r, u, m⟩ l = if goodB xs s l ⟨5, 0, 0, 0, u, false⟩ = true then (List.range (shotsL xs).length).foldl (shotStep xs ⟨s, f, r, u, m⟩) (addC xs s l ⟨5, 0, 0, 0, u, false⟩) else addC xs s l ⟨5, 0, 0, 0, u, false⟩) := rfl
  simp only at hb ⊢
  go_enter Tryz.func160, Tryz.ntmps160
  go_wp2_with fail
  refine (add_any A n cb xs s p g cap lo l ⟨5, 0, 0, 0, u, false⟩ w (hr.more (by omega)) hn him (by omega) hb ho hpl hlo).mono ?_
  rintro e w1 ⟨rfl, hL⟩
  have HLe := Lib.hid (addC_length xs s l ⟨5, 0, 0, 0, u, false⟩)
  have HPr : Hid (l <+: addC xs s l ⟨5, 0, 0, 0, u, false⟩) := List.prefix_append _ _
  generalize hl0 : addC xs s l ⟨5, 0, 0, 0, u, false⟩ = l0 at *
  have HL0 := Lib.hid hl0
  clear hl0
  cases hq : goodB xs s l ⟨5, 0, 0, 0, u, false⟩
  · have HE : Hid (shotsP xs ⟨s, f, r, u, m⟩ l = l0) := by rw [HC.out, hq]; simp [Hid]
    clear HC hq
    go_wp2_with fail
    try simp only [Exit.inBlock, Exit.then]
    refine bodyPost_ret (results_none rfl _ _ _) rfl ?_
    rw [HE.out]
    exact ⟨rfl, hL⟩
  · have HE : Hid (shotsP xs ⟨s, f, r, u, m⟩ l = (List.range (shotsL xs).length).foldl (shotStep xs ⟨s, f, r, u, m⟩) l0) := by rw [HC.out, hq]; simp [Hid]
    clear HC hq
    obtain ⟨g1, c1, hb1, ho1, at1, G1, old1⟩ := hL
    have hr1 := G1.rd hr hB (by omega) (by omega)
    have p0 : w1.cell? ⟨p, 0, none⟩ = some (.slice A n cb) := hb1.cell 0
    have s1 := G1.size
    go_wp2_with fail
    refine (implShots_any A n cb xs w1 (hr1.more (by omega)) hn hnc).mono ?_
    rintro e w2 ⟨S, cs, rfl, oS, b2⟩
    have s2 := b2.size
    have hb2 := hb1.keep (b2.block p hb1.lt)
    have ho2 : OwV 115 6 w2 lo w2.heap.size g1 l0.length c1 (l0.flatMap cmV) := ⟨(ho1.keep (b2.block g1 ho1.lt)).own, Nat.lt_of_lt_of_le ho1.lt b2.size⟩
    have HG12 : Hid (Grow2 w w2 p g) := G1.below b2
    have HO2 : Hid (RdV 6 w2 w2.heap.size (some ⟨g, 0, none⟩) l.length (l.flatMap cmV)) := (old1.below b2).more b2.size
    have HAT := Lib.hid at1
    have h4 := shotsL_length xs
    have hg1l := ho1.lt
    have hg1o := ho1.low
    have HSC := Lib.hid (fun (k : Nat) (hk : k < (shotsL xs).length) => show ∃ gs, S = some ⟨gs, 0, none⟩ ∧ w1.heap.size ≤ gs ∧ gs < w2.heap.size ∧ w2.cell? ⟨gs, k * 2, none⟩ = some (.int .i64 ((shotsL xs).getD k (0, 0)).1) ∧ w2.cell? ⟨gs, k * 2 + 1, none⟩ = some (.int .i64 ((shotsL xs).getD k (0, 0)).2) from by
      rcases oS.form with ⟨_, h0, _⟩ | ⟨gs, rfl, g1, g2, g3, g4⟩
      · omega
      · refine ⟨gs, rfl, g1, g2, ?_, ?_⟩
        · have := oS.cell (j := k * 2 + 0) (by omega)
          rw [sh_cell hk (by omega)] at this
          exact this
        · rw [oS.cell (by omega), sh_cell hk (by omega)]; rfl)
    have HRF : Hid (RetL w2 lo p A n cb s g1 l0 l0 w2) := RetL.refl hb2 ho2
    have hr2 := hr1.below (b2.mono (by omega))
    clear hb1 ho1 at1 G1 old1 oS b2 hb2 ho2 p0 hr hr1
    go_wp2_with fail
    go_loopw [17] (fun i wr => ∃ k : Nat, k ≤ (shotsL xs).length ∧ i = .int .i64 k ∧ RetL w2 lo p A n cb s g1 l0 ((List.range k).foldl (shotStep xs ⟨s, f, r, u, m⟩) l0) wr) (fun i _ => (shotsL xs).length - (intOf i).toNat)
    case atStart => exact ⟨0, Nat.zero_le _, rfl, HRF.out⟩
    case round =>
      obtain ⟨k, hk, rfl, hR⟩ := hrel
      by_cases hlt : k < (shotsL xs).length
      · obtain ⟨gs, rfl, k1, k2, k3, k4⟩ := HSC.out k hlt
        obtain ⟨g', c', hb', ho', at', G', old'⟩ := hR
        have hcs0 : wr.cell? ⟨gs, k * 2, none⟩ = some (.int .i64 ((shotsL xs).getD k (0, 0)).1) := (World.cell?_of_block (w := w2) (G'.block gs k2 (by omega) (by omega))).trans k3
        have hcs : wr.cell? ⟨gs, k * 2 + 1, none⟩ = some (.int .i64 ((shotsL xs).getD k (0, 0)).2) := (World.cell?_of_block (w := w2) (G'.block gs k2 (by omega) (by omega))).trans k4
        have HT := Lib.hid (shotFold_succ xs ⟨s, f, r, u, m⟩ l0 k)
        have HLk := Lib.hid (shotFold_length xs ⟨s, f, r, u, m⟩ l0 k)
        have HPk := Lib.hid (shotFold_prefix xs ⟨s, f, r, u, m⟩ l0 k)
        have hlk : ((List.range k).foldl (shotStep xs ⟨s, f, r, u, m⟩) l0).length ≤ 100000 := by have := HLk.out; have := HLe.out; omega
        generalize (List.range k).foldl (shotStep xs ⟨s, f, r, u, m⟩) l0 = lk at *
        have HS : Hid (shotStep xs ⟨s, f, r, u, m⟩ lk k = addC xs s lk ⟨6, u, k, 0, ((shotsL xs).getD k (0, 0)).2, false⟩) := rfl
        generalize ((shotsL xs).getD k (0, 0)).2 = x at *
        generalize ((shotsL xs).getD k (0, 0)).1 = y at *
        have hr3 := G'.rd hr2 hB (by omega) (by omega)
        have sr := G'.size
        have AL := (Below.refl wr.heap.size wr).alloc (Nat.le_refl _) (.cells #[.int .i64 y, .int .i64 x] 67)
        have hsa : (wr.alloc (.cells #[.int .i64 y, .int .i64 x] 67)).heap.size = wr.heap.size + 1 := by simp
        have hb3 := hb'.keep (AL.block p hb'.lt)
        have ho3 : OwV 115 6 (wr.alloc (.cells #[.int .i64 y, .int .i64 x] 67)) lo (wr.alloc (.cells #[.int .i64 y, .int .i64 x] 67)).heap.size g' lk.length c' (lk.flatMap cmV) := ⟨(ho'.keep (AL.block g' ho'.lt)).own, Nat.lt_of_lt_of_le ho'.lt AL.size⟩
        go_wp2_with fail
        refine (add_any A n cb xs s p g' c' lo lk ⟨6, u, k, 0, x, false⟩ (wr.alloc (.cells #[.int .i64 y, .int .i64 x] 67)) ((hr3.below (AL.mono (by omega))).more (by omega)) hn him hlk hb3 ho3 hpl (by omega)).mono ?_
        rintro e w3 ⟨rfl, hL3⟩
        have HL3 : Hid (RetL w2 lo p A n cb s g1 l0 (addC xs s lk ⟨6, u, k, 0, x, false⟩) w3) := RetL.next G' at' old' HPk.out (by omega) (by omega) (hL3.after AL)
        clear hL3
        go_wp2_with fail
        go_roundw
        case rel => exact ⟨k + 1, by omega, by go_num, by rw [HT.out, HS.out]; exact HL3.out⟩
        case measure => simp [intOf]; omega
      · obtain rfl : k = (shotsL xs).length := by omega
        go_wp2_with fail
        go_end0
        rw [HE.out]
        exact ⟨rfl, RetL.next HG12.out HAT.out HO2.out HPr.out (by omega) (by omega) hR⟩

def kindIn (k : Int) : Int := if k = 3 then 4 else if k = 2 ∨ k = 6 then 7 else if k = 7 then 8 else 0
def placeIn (k place s : Int) : Int := if kindIn k = 7 then s * 8 else if kindIn k = 8 then place + s else 0

theorem kindInside_any (k : Int) (w : World) : Calls Tryz.prog 147 #[.int .i64 k] w fun e w' => e = .returned (.int .i64 (kindIn k)) ∧ w = w' := by
  by_cases h3 : k = 3
  · subst h3
    go_enter Tryz.func147, Tryz.ntmps147
    go_wp2
    go_ret
    exact ⟨rfl, rfl⟩
  · have q3 : (k == 3) = false := by simpa using h3
    by_cases h2 : k = 2
    · subst h2
      go_enter Tryz.func147, Tryz.ntmps147
      go_wp2
      go_ret
      exact ⟨rfl, rfl⟩
    · have q2 : (k == 2) = false := by simpa using h2
      by_cases h6 : k = 6
      · subst h6
        go_enter Tryz.func147, Tryz.ntmps147
        go_wp2
        go_ret
        exact ⟨rfl, rfl⟩
      · have q6 : (k == 6) = false := by simpa using h6
        by_cases h7 : k = 7
        · subst h7
          go_enter Tryz.func147, Tryz.ntmps147
          go_wp2
          go_ret
          exact ⟨rfl, rfl⟩
        · have q7 : (k == 7) = false := by simpa using h7
          have HK : Hid (kindIn k = 0) := by simp [kindIn, h3, h2, h6, h7, Hid]
          go_enter Tryz.func147, Tryz.ntmps147
          go_wp2
          go_ret
          rw [HK.out]
          exact ⟨rfl, rfl⟩

set_option maxHeartbeats 1000000 in
theorem placeInside_any (k f s p t : Int) (g : Bool) (q : Int) (w : World) (hq0 : 0 ≤ q) (hq1 : q ≤ 8) (hp0 : 0 ≤ p) (hp1 : p ≤ 63) :
    Calls Tryz.prog 165 #[.agg #[.int .i64 k, .int .i64 f, .int .i64 s, .int .i64 p, .int .i64 t, .bool g], .int .i64 q] w (RetI w (placeIn k p q)) := by
  have hb := Lib.hid ((Below.refl w.heap.size w).alloc (Nat.le_refl _) (.cells #[.int .i64 k, .int .i64 f, .int .i64 s, .int .i64 p, .int .i64 t, .bool g] 115))
  have HP : Hid (placeIn k p q = if kindIn k = 7 then q * 8 else if kindIn k = 8 then p + q else 0) := rfl
  go_enter Tryz.func165, Tryz.ntmps165
  go_wp2_with fail
  refine (kindInside_any k _).mono ?_
  rintro e w' ⟨rfl, rfl⟩
  generalize kindIn k = z at *
  by_cases h7 : z = 7
  · subst h7
    go_wp2_with fail
    go_ret
    exact RetI.mk (by rw [HP.out]; rfl) hb.out
  · have q7 : (z == 7) = false := by simpa using h7
    by_cases h8 : z = 8
    · subst h8
      go_wp2_with fail
      go_ret
      exact RetI.mk (by rw [HP.out]; rfl) hb.out
    · have q8 : (z == 8) = false := by simpa using h8
      go_wp2_with fail
      go_ret
      exact RetI.mk (by rw [HP.out, if_neg h7, if_neg h8]) hb.out

/-- Where the places of a table's slots begin, and how far apart they are. -/
def baseIn (kind place : Int) : Int := if kind = 8 then place else 0
def stepIn (kind : Int) : Int := if kind = 7 then 8 else if kind = 8 then 1 else 0
def insStep (xs : List Int) (size kind : Int) (l : List Cm) (c : Cm) : List Cm :=
  if c.good = true ∧ kindIn c.kind = kind then tabC xs size l kind c.target.toNat (baseIn kind c.place) (stepIn kind) else l
def insC (xs : List Int) (size kind : Int) (l : List Cm) : List Cm := l.foldl (insStep xs size kind) l

theorem place_base (k kind place q : Int) (h : kindIn k = kind) (hk : kind = 4 ∨ kind = 7 ∨ kind = 8) : placeIn k place q = baseIn kind place + stepIn kind * q := by
  unfold placeIn baseIn stepIn
  rw [h]
  rcases hk with rfl | rfl | rfl
  · simp
  · simp; omega
  · simp
theorem insStep_prefix {xs : List Int} {size kind : Int} (l : List Cm) (c : Cm) : l <+: insStep xs size kind l c := by
  unfold insStep; split
  · exact tabFold_prefix _ _ _ _ _ _ _ _
  · exact List.prefix_refl _
theorem insStep_length {xs : List Int} {size kind : Int} (l : List Cm) (c : Cm) : (insStep xs size kind l c).length ≤ l.length + 8 := by
  unfold insStep; split
  · exact tabC_length _ _ _ _ _ _ _
  · omega

/-- The words of one table. -/
def RetInside (w : World) (lo p : Nat) (A : Option Addr) (n cb : Nat) (size : Int) (g : Nat) (old l : List Cm) (e : Ending) (w' : World) : Prop :=
  e = .returned (.tuple #[]) ∧ RetL w lo p A n cb size g old l w'

set_option maxRecDepth 100000 in
set_option maxHeartbeats 8000000 in
theorem addInside_any (A : Option Addr) (n cb B : Nat) (xs : List Int) (size kind : Int) (p g cap lo : Nat) (l : List Cm) (w : World) (hr : Rd w B A n xs) (hn : n ≤ 2097152) (hnc : n ≤ cb) (hh : hasHead xs = true) (hl : l.length ≤ 1000)
    (hb : LBox w p A n cb size g l.length cap) (ho : OwV 115 6 w lo w.heap.size g l.length cap (l.flatMap cmV)) (hB : B ≤ p) (hpl : p < lo) (hlo : lo ≤ w.heap.size) (hok : ∀ c ∈ l, Ok6 xs c) (hkind : kind = 4 ∨ kind = 7 ∨ kind = 8) :
    Calls Tryz.prog 159 #[.pointer (some ⟨p, 0, none⟩), .int .i64 kind] w (RetInside w lo p A n cb size g l (insC xs size kind l)) := by
  have hgl := ho.lt
  have hgo := ho.low
  have HI := Lib.hid (hasHead_img hh)
  have HH := Lib.hid hh
  have HOk := Lib.hid hok
  have HKd := Lib.hid hkind
  have HRF : Hid (RetL w lo p A n cb size g l l w) := RetL.refl hb ho
  have HC : Hid (insC xs size kind l = l.foldl (insStep xs size kind) l) := rfl
  have p2 : w.cell? ⟨p, 2, none⟩ = some (.slice (some ⟨g, 0, none⟩) l.length cap) := hb.cell 2
  clear hh hok hkind hb ho
  go_enter Tryz.func159, Tryz.ntmps159
  go_wp2_with fail
  clear p2
  go_loopw [15] (fun i wr => ∃ k : Nat, k ≤ l.length ∧ i = .int .i64 k ∧ RetL w lo p A n cb size g l ((l.take k).foldl (insStep xs size kind) l) wr) (fun i _ => l.length - (intOf i).toNat)
  case atStart => exact ⟨0, Nat.zero_le _, rfl, HRF.out⟩
  case round =>
    obtain ⟨k, hk, rfl, hR⟩ := hrel
    by_cases hlt : k < l.length
    · obtain ⟨g', c', hb', ho', at', G', old'⟩ := hR
      have HT := Lib.hid (take_fold (insStep xs size kind) l l k hlt)
      have HLk := Lib.hid (foldl_length (insStep xs size kind) 8 insStep_length (l.take k) l)
      have HPk := Lib.hid (foldl_prefix (insStep xs size kind) insStep_prefix (l.take k) l)
      have hlk : ((l.take k).foldl (insStep xs size kind) l).length ≤ 90000 := by
        have h1 := HLk.out
        have h2 : (l.take k).length ≤ k := List.length_take_le _ _
        omega
      have hgd : l.getD k cm0 = l[k] := by simp [List.getD_eq_getElem?_getD, hlt]
      have hokk := HOk.out _ (List.getElem_mem hlt)
      have hce := cm_cells old' hlt
      rw [hgd] at hce
      clear hgd HLk
      generalize l[k] = x at *
      generalize (l.take k).foldl (insStep xs size kind) l = lk at *
      obtain ⟨xk, xf, xs', xp, xt, xg⟩ := x
      have e0 : wr.cell? ⟨g, k * 6, none⟩ = some (.int .i64 xk) := hce 0 (by omega)
      have e1 : wr.cell? ⟨g, k * 6 + 1, none⟩ = some (.int .i64 xf) := hce 1 (by omega)
      have e2 : wr.cell? ⟨g, k * 6 + 2, none⟩ = some (.int .i64 xs') := hce 2 (by omega)
      have e3 : wr.cell? ⟨g, k * 6 + 3, none⟩ = some (.int .i64 xp) := hce 3 (by omega)
      have e4 : wr.cell? ⟨g, k * 6 + 4, none⟩ = some (.int .i64 xt) := hce 4 (by omega)
      have e5 : wr.cell? ⟨g, k * 6 + 5, none⟩ = some (.bool xg) := hce 5 (by omega)
      clear hce
      have sr := G'.size
      have AL := (Below.refl wr.heap.size wr).alloc (Nat.le_refl _) (.cells #[.int .i64 xk, .int .i64 xf, .int .i64 xs', .int .i64 xp, .int .i64 xt, .bool xg] 115)
      have HAL : Hid (RetL w lo p A n cb size g l lk (wr.alloc (.cells #[.int .i64 xk, .int .i64 xf, .int .i64 xs', .int .i64 xp, .int .i64 xt, .bool xg] 115))) := RetL.below ⟨g', c', hb', ho', at', G', old'⟩ AL
      cases xg
      · have HE : Hid ((l.take (k + 1)).foldl (insStep xs size kind) l = lk) := by rw [HT.out]; simp [insStep, Hid]
        clear HT hokk
        go_wp2_with fail
        go_roundw
        case rel => exact ⟨k + 1, by omega, by go_num, by rw [HE.out]; exact HAL.out⟩
        case measure => simp [intOf]; omega
      · by_cases hkk : kindIn xk = kind
        · have hth : thereB xs xt = true := by
            rcases hokk.lead rfl with h1 | h1
            · have h2 : xk = 1 := h1.1
              rw [h2] at hkk
              have h3 : (0 : Int) = kind := hkk
              have := HKd.out
              omega
            · exact h1
          have hp0 : 0 ≤ xp := hokk.place0
          have hp1 : xp ≤ 63 := hokk.place1
          have hdk : (kindIn xk != kind) = false := by simpa using hkk
          have HPB := Lib.hid (fun q => place_base xk kind xp q hkk HKd.out)
          have hba : 0 ≤ baseIn kind xp ∧ baseIn kind xp ≤ 63 := by unfold baseIn; split <;> omega
          have hst : 0 ≤ stepIn kind ∧ stepIn kind ≤ 8 := by
            unfold stepIn
            split
            · omega
            · split <;> omega
          have HE : Hid ((l.take (k + 1)).foldl (insStep xs size kind) l = tabC xs size lk kind xt.toNat (baseIn kind xp) (stepIn kind)) := by rw [HT.out]; simp [insStep, Hid, hkk]
          generalize baseIn kind xp = base at *
          generalize stepIn kind = step at *
          obtain ⟨t1, t2⟩ := there_lt hth
          have hmany := manyN_le HI.out
          have HTB := Lib.hid (tableL_in HH.out hth)
          obtain ⟨τ, rfl⟩ := Int.eq_ofNat_of_zero_le (show 0 ≤ xt by omega)
          rw [Int.toNat_natCast] at HTB HE
          clear HT hokk hth t1 hkk
          have hra := (G'.rd hr hB (by omega) (by omega)).below (AL.mono (by omega))
          have hbo : BoxC (wr.alloc (.cells #[.int .i64 xk, .int .i64 xf, .int .i64 xs', .int .i64 xp, .int .i64 τ, .bool true] 115)) wr.heap.size ⟨xk, xf, xs', xp, τ, true⟩ := heap_alloc_new wr _
          have hba' := hb'.keep (AL.block p hb'.lt)
          have hoa : OwV 115 6 (wr.alloc (.cells #[.int .i64 xk, .int .i64 xf, .int .i64 xs', .int .i64 xp, .int .i64 τ, .bool true] 115)) lo (wr.alloc (.cells #[.int .i64 xk, .int .i64 xf, .int .i64 xs', .int .i64 xp, .int .i64 τ, .bool true] 115)).heap.size g' lk.length c' (lk.flatMap cmV) := ⟨(ho'.keep (AL.block g' ho'.lt)).own, Nat.lt_of_lt_of_le ho'.lt AL.size⟩
          have hza : wr.heap.size + 1 = (wr.alloc (.cells #[.int .i64 xk, .int .i64 xf, .int .i64 xs', .int .i64 xp, .int .i64 τ, .bool true] 115)).heap.size := by simp
          have hgl' := ho'.lt
          have hgo' := ho'.low
          go_wp2_with fail
          refine (kindInside_any xk _).mono ?_
          rintro e w' ⟨rfl, rfl⟩
          go_wp2_with fail
          generalize (wr.alloc (.cells #[.int .i64 xk, .int .i64 xf, .int .i64 xs', .int .i64 xp, .int .i64 τ, .bool true] 115)) = wa at *
          have pa0 : wa.cell? ⟨p, 0, none⟩ = some (.slice A n cb) := hba'.cell 0
          have qa4 : wa.cell? ⟨wr.heap.size, 4, none⟩ = some (.int .i64 τ) := hbo.cell 4
          have hpa : p < wa.heap.size := by omega
          have hqa : wr.heap.size < wa.heap.size := by omega
          have hrd : Rd wa.drew wa.drew.heap.size A n xs := hra.more (by show B ≤ wa.heap.size; omega)
          clear hdk
          go_region_held3 (fun w' => w'.cell? ⟨p, 0, none⟩ = some (.slice A n cb) ∧ w'.cell? ⟨wr.heap.size, 4, none⟩ = some (.int .i64 τ))
            (first
              | go_keep
              | (go_split_ands
                 refine ⟨?_, ?_⟩
                 · exact (b2.cell (p := ⟨p, 0, none⟩) hpa).trans (by assumption)
                 · exact (b2.cell (p := ⟨wr.heap.size, 4, none⟩) hqa).trans (by assumption)))
            ((go_at_call 38; refine (implTable_any A n cb xs τ wa.drew hrd hn hnc).mono ?_; rintro e w2 ⟨G, ng, cg, rfl, oG, b2⟩))
          replace b2 : Below wa.heap.size wa w2 := ⟨b2.os, b2.tape, b2.output, b2.size, b2.block⟩
          rw [HTB.out] at oG
          obtain rfl : 8 = ng := by have := oG.len; simpa [cl, f8_length] using this
          rcases oG.form with ⟨_, h0, _⟩ | ⟨gc, rfl, g1, g2, g3, g4⟩
          · omega
          have s2 : wa.heap.size ≤ w2.heap.size := b2.size
          have g1' : wa.heap.size ≤ gc := g1
          have HGC := Lib.hid (show ∀ j, j < 8 → w2.cell? ⟨gc, j, none⟩ = some (.int .i64 ((cl xs τ).getD j 0)) from fun j hj => oG.cell hj)
          have hb2 := hba'.keep (b2.block p hpa)
          have ho2 : OwV 115 6 w2 lo w2.heap.size g' lk.length c' (lk.flatMap cmV) := ⟨(hoa.keep (b2.block g' (by omega))).own, by omega⟩
          have hbo2 := hbo.keep (b2.block wr.heap.size hqa)
          have hr2 : Rd w2 B A n xs := hra.below (b2.mono (by omega))
          have HG2 : Hid (Grow2 w w2 p g) := (G'.below AL).below b2
          have HO2 : Hid (RdV 6 w2 w2.heap.size (some ⟨g, 0, none⟩) l.length (l.flatMap cmV)) := ((((old'.below AL).more AL.size).below b2).more b2.size)
          have HRF2 : Hid (RetL w2 lo p A n cb size g' lk lk w2) := RetL.refl hb2 ho2
          have HAT := Lib.hid at'
          clear hb2 ho2 hba' hoa hbo hra hrd pa0 qa4 oG b2 HAL AL old' G' hb' ho' at' e0 e1 e2 e3 e4 e5 HTB
          generalize wr.heap.size = qq at *
          go_wp2_with fail
          rw [show ((8 : Nat) : Int) = 8 from rfl]
          go_loopw [37] (fun i wr => ∃ j : Nat, j ≤ 8 ∧ i = .int .i64 j ∧ RetL w2 lo p A n cb size g' lk ((List.range j).foldl (tabStep xs size kind τ base step) lk) wr) (fun i _ => 8 - (intOf i).toNat)
          case atStart => exact ⟨0, by omega, rfl, HRF2.out⟩
          case round =>
            obtain ⟨j, hj, rfl, hR2⟩ := hrel
            by_cases hlj : j < 8
            · obtain ⟨g2', c2, hb2, ho2, at2, G2, old2⟩ := hR2
              have hcx : wr.cell? ⟨gc, j, none⟩ = some (.int .i64 ((cl xs τ).getD j 0)) := (World.cell?_of_block (w := w2) (G2.block gc (by omega) (by omega) (by omega))).trans (HGC.out j hlj)
              have hbq := (hbo2.keep (G2.block qq (by omega) (by omega) (by omega))).cell
              have q0 : wr.cell? ⟨qq, 0, none⟩ = some (.int .i64 xk) := hbq 0
              have q1 : wr.cell? ⟨qq, 1, none⟩ = some (.int .i64 xf) := hbq 1
              have q2 : wr.cell? ⟨qq, 2, none⟩ = some (.int .i64 xs') := hbq 2
              have q3 : wr.cell? ⟨qq, 3, none⟩ = some (.int .i64 xp) := hbq 3
              have q4 : wr.cell? ⟨qq, 4, none⟩ = some (.int .i64 τ) := hbq 4
              have q5 : wr.cell? ⟨qq, 5, none⟩ = some (.bool true) := hbq 5
              clear hbq
              have HT := Lib.hid (tabFold_succ xs size kind τ base step lk j)
              have HLe := Lib.hid (tabFold_length xs size kind τ base step lk j)
              have HPj := Lib.hid (tabFold_prefix xs size kind τ base step lk j)
              have hll : ((List.range j).foldl (tabStep xs size kind τ base step) lk).length ≤ 100000 := by have := HLe.out; omega
              have HRk : Hid (RetL w2 lo p A n cb size g' lk ((List.range j).foldl (tabStep xs size kind τ base step) lk) wr) := ⟨g2', c2, hb2, ho2, at2, G2, old2⟩
              generalize (List.range j).foldl (tabStep xs size kind τ base step) lk = lj at *
              have HS : Hid (tabStep xs size kind τ base step lj j = if targetOf ((cl xs τ).getD j 0) ≠ 0 then addC xs size lj ⟨kind, τ, j, base + step * j, targetOf ((cl xs τ).getD j 0), false⟩ else lj) := rfl
              generalize (cl xs τ).getD j 0 = x at hcx HS
              have HPj2 := Lib.hid (HPB.out (j : Int))
              go_wp2_with fail
              refine (implTarget_any _ _).mono ?_
              rintro e w' ⟨rfl, rfl⟩
              generalize targetOf x = t at *
              by_cases h0 : t = 0
              · subst h0
                have hd : ((0 : Int) != 0) = false := by simp
                have HEj : Hid ((List.range (j + 1)).foldl (tabStep xs size kind τ base step) lk = lj) := by rw [HT.out, HS.out]; simp [Hid]
                clear HT HS
                go_wp2_with fail
                go_roundw
                case rel => exact ⟨j + 1, by omega, by go_num, by rw [HEj.out]; exact HRk.out⟩
                case measure => simp [intOf]; omega
              · have hd : (t != 0) = true := by simpa using h0
                have HEj : Hid ((List.range (j + 1)).foldl (tabStep xs size kind τ base step) lk = addC xs size lj ⟨kind, τ, j, base + step * j, t, false⟩) := by rw [HT.out, HS.out]; simp [Hid, h0]
                clear HT HS
                go_wp2_with fail
                refine (placeInside_any xk xf xs' xp τ true j wr (by omega) (by omega) hp0 hp1).mono ?_
                rintro e w3 ⟨rfl, b3⟩
                rw [HPj2.out]
                have s3 := b3.size
                have sr2 := G2.size
                have q4' : w3.cell? ⟨qq, 4, none⟩ = some (.int .i64 τ) := (b3.cell (p := ⟨qq, 4, none⟩) (by show qq < _; omega)).trans q4
                have hb3 := hb2.keep (b3.block p hb2.lt)
                have ho3 : OwV 115 6 w3 lo w3.heap.size g2' lj.length c2 (lj.flatMap cmV) := ⟨(ho2.keep (b3.block g2' ho2.lt)).own, Nat.lt_of_lt_of_le ho2.lt b3.size⟩
                have hr3 := (G2.rd hr2 hB (by omega) (by omega)).below (b3.mono (by omega))
                clear q0 q1 q2 q3 q4 q5 hcx
                obtain ⟨pl, hpl'⟩ : ∃ pl, pl = base + step * (j : Int) := ⟨_, rfl⟩
                rw [← hpl'] at HEj ⊢
                clear hpl' HPj2
                go_wp2_with fail
                refine (add_any A n cb xs size p g2' c2 lo lj ⟨kind, τ, j, pl, t, false⟩ w3 (hr3.more (by omega)) hn HI.out hll hb3 ho3 hpl (by omega)).mono ?_
                rintro e w4 ⟨rfl, hL4⟩
                have HL4 : Hid (RetL w2 lo p A n cb size g' lk (addC xs size lj ⟨kind, τ, j, pl, t, false⟩) w4) := RetL.next G2 at2 old2 HPj.out (by omega) (by omega) (hL4.after b3)
                clear hL4
                go_wp2_with fail
                go_roundw
                case rel => exact ⟨j + 1, by omega, by go_num, by rw [HEj.out]; exact HL4.out⟩
                case measure => simp [intOf]; omega
            · obtain rfl : j = 8 := by omega
              have hR3 : RetL w lo p A n cb size g l (tabC xs size lk kind τ base step) wr := RetL.next HG2.out HAT.out HO2.out HPk.out (by omega) (by omega) hR2
              have HR3 := Lib.hid hR3
              clear hR3 hR2
              go_wp2_with fail
              go_roundw
              case rel => exact ⟨k + 1, by omega, by go_num, by rw [HE.out]; exact HR3.out⟩
              case measure => simp [intOf]; omega
        · have HE : Hid ((l.take (k + 1)).foldl (insStep xs size kind) l = lk) := by rw [HT.out]; simp [insStep, Hid, hkk]
          have hdk : (kindIn xk != kind) = true := by simpa using hkk
          clear HT hokk
          go_wp2_with fail
          refine (kindInside_any xk _).mono ?_
          rintro e w' ⟨rfl, rfl⟩
          go_wp2_with fail
          go_roundw
          case rel => exact ⟨k + 1, by omega, by go_num, by rw [HE.out]; exact HAL.out⟩
          case measure => simp [intOf]; omega
    · obtain rfl : k = l.length := by omega
      go_wp2_with fail
      go_end0
      rw [HC.out]
      rw [List.take_length] at hR
      exact ⟨rfl, hR⟩

theorem ins_c3 (xs : List Int) (h : Hd) : insC xs h.size 4 (c2C xs h) = c3C xs h := by
  have e1 : ∀ l : List Cm, insStep xs h.size 4 l ⟨1, 0, 0, 0, 0, true⟩ = l := fun l => by simp [insStep, kindIn]
  have e2 : ∀ (l : List Cm) (b : Bool), insStep xs h.size 4 l ⟨2, 0, 0, 0, h.first, b⟩ = l := fun l b => by simp [insStep, kindIn]
  have e3 : ∀ (l : List Cm) (b : Bool), insStep xs h.size 4 l ⟨3, 0, 0, 0, h.refs, b⟩ = if b = true then tabC xs h.size l 4 h.refs.toNat 0 0 else l := fun l b => by
    cases b <;> simp [insStep, kindIn, baseIn, stepIn]
  show List.foldl (insStep xs h.size 4) (c2C xs h) [⟨1, 0, 0, 0, 0, true⟩, ⟨2, 0, 0, 0, h.first, _⟩, ⟨3, 0, 0, 0, h.refs, goodB xs h.size (c1C xs h) ⟨3, 0, 0, 0, h.refs, false⟩⟩] = _
  rw [List.foldl_cons, List.foldl_cons, List.foldl_cons, List.foldl_nil, e1, e2, e3]
  rfl
theorem kindIn7 (k : Int) : kindIn k = 7 ↔ (k = 2 ∨ k = 6) := by
  unfold kindIn
  split
  · omega
  · split
    · omega
    · split <;> omega
theorem kindIn8 (k : Int) : kindIn k = 8 ↔ k = 7 := by
  unfold kindIn
  split
  · omega
  · split
    · omega
    · split <;> omega
theorem ins_firsts (xs : List Int) (h : Hd) : ∀ (ys acc : List Cm), ys.foldl (insStep xs h.size 7) acc = (firstsC ys).foldl (secStep xs h) acc
  | [], _ => rfl
  | c :: ys, acc => by
    rw [List.foldl_cons, ins_firsts xs h ys]
    by_cases hc : c.good = true ∧ (c.kind = 2 ∨ c.kind = 6)
    · have e : firstsC (c :: ys) = c.target :: firstsC ys := by
        unfold firstsC
        rw [List.filter_cons_of_pos (by simp [hc.1, hc.2])]
        rfl
      rw [e, List.foldl_cons]
      have e2 : insStep xs h.size 7 acc c = secStep xs h acc c.target := by
        unfold insStep secStep
        rw [if_pos ⟨hc.1, (kindIn7 _).2 hc.2⟩]
        rfl
      rw [e2]
    · have e : firstsC (c :: ys) = firstsC ys := by
        unfold firstsC
        rw [List.filter_cons_of_neg (by simpa using hc)]
      have e2 : insStep xs h.size 7 acc c = acc := by
        unfold insStep
        rw [if_neg (fun hh => hc ⟨hh.1, (kindIn7 _).1 hh.2⟩)]
      rw [e, e2]
theorem ins_c5 (xs : List Int) (h : Hd) : insC xs h.size 7 (c4C xs h) = c5C xs h := ins_firsts xs h _ _
theorem ins_c6 (xs : List Int) (h : Hd) : insC xs h.size 8 (c5C xs h) = c6C xs h := by
  have e : insStep xs h.size 8 = datStep xs h := by
    funext l c
    unfold insStep datStep
    by_cases hc : c.kind = 7 ∧ c.good = true
    · rw [if_pos hc, if_pos ⟨hc.2, (kindIn8 _).2 hc.1⟩]
      rfl
    · rw [if_neg hc, if_neg (fun hh => hc ⟨(kindIn8 _).1 hh.2, hh.1⟩)]
  unfold insC c6C
  rw [e]
theorem c4_shots (xs : List Int) (h : Hd) : c4C xs h = if h.many = 0 then c3C xs h else shotsP xs h (c3C xs h) := rfl

set_option maxRecDepth 100000 in
set_option maxHeartbeats 8000000 in
theorem implClaims_any : ClaimsC := by
  intro A n c xs w hr hn hnc
  go_enter Tryz.func143, Tryz.ntmps143
  go_wp2_with fail
  refine (implHeadIn_any _ _ _ xs _ hr hn).mono ?_
  rintro e w1 ⟨rfl, b1⟩
  generalize hrr : headIn xs = r
  obtain ⟨⟨s, f, r, u, m⟩, is⟩ := r
  have HR := Lib.hid hrr
  clear hrr
  unfold hdV
  have b2 := b1.alloc b1.size (.cells #[.int .i64 s, .int .i64 f, .int .i64 r, .int .i64 u, .int .i64 m] 33)
  cases is
  · have HN : Hid (claimsL xs = []) := by unfold claimsL; rw [(headIn_false HR.out).1]; exact rfl
    go_wp2_with fail
    go_ret
    rw [HN.out]
    exact ⟨none, 0, rfl, OwR.nil _ _ _ _ _, b2⟩
  · have HN : Hid (claimsL xs = c6C xs (headOf xs)) := by unfold claimsL; rw [(headIn_true HR.out).1]; exact rfl
    obtain ⟨hh, hd⟩ := headIn_true HR.out
    have HH := Lib.hid hh
    have HI := Lib.hid (hasHead_img hh)
    rw [hd] at HN
    clear HR hd hh
    go_wp2_with fail
    have b3 := (b2.alloc b2.size (.cells #[.slice A n c, .int .i64 s, .slice (some ⟨w1.heap.size + 1 + 1, 0, none⟩) 1 1] 144))
    have b4 := b3.alloc b3.size (.cells #[.int .i64 1, .int .i64 0, .int .i64 0, .int .i64 0, .int .i64 0, .bool true] 115)
    have hz1 : (w1.alloc (.cells #[.int .i64 s, .int .i64 f, .int .i64 r, .int .i64 u, .int .i64 m] 33)).heap.size = w1.heap.size + 1 := by simp
    have hz2 : ((w1.alloc (.cells #[.int .i64 s, .int .i64 f, .int .i64 r, .int .i64 u, .int .i64 m] 33)).alloc (.cells #[.slice A n c, .int .i64 s, .slice (some ⟨w1.heap.size + 1 + 1, 0, none⟩) 1 1] 144)).heap.size = w1.heap.size + 1 + 1 := by simp
    have hz3 : (((w1.alloc (.cells #[.int .i64 s, .int .i64 f, .int .i64 r, .int .i64 u, .int .i64 m] 33)).alloc (.cells #[.slice A n c, .int .i64 s, .slice (some ⟨w1.heap.size + 1 + 1, 0, none⟩) 1 1] 144)).alloc (.cells #[.int .i64 1, .int .i64 0, .int .i64 0, .int .i64 0, .int .i64 0, .bool true] 115)).heap.size = w1.heap.size + 1 + 1 + 1 := by simp
    have hb3 : LBox (((w1.alloc (.cells #[.int .i64 s, .int .i64 f, .int .i64 r, .int .i64 u, .int .i64 m] 33)).alloc (.cells #[.slice A n c, .int .i64 s, .slice (some ⟨w1.heap.size + 1 + 1, 0, none⟩) 1 1] 144)).alloc (.cells #[.int .i64 1, .int .i64 0, .int .i64 0, .int .i64 0, .int .i64 0, .bool true] 115)) (w1.heap.size + 1) A n c s (w1.heap.size + 1 + 1) ([⟨1, 0, 0, 0, 0, true⟩] : List Cm).length 1 := by
      refine (Below.heap_alloc _ _ _ (by omega)).trans ?_
      have := heap_alloc_new (w1.alloc (.cells #[.int .i64 s, .int .i64 f, .int .i64 r, .int .i64 u, .int .i64 m] 33)) (.cells #[.slice A n c, .int .i64 s, .slice (some ⟨w1.heap.size + 1 + 1, 0, none⟩) 1 1] 144)
      rw [hz1] at this
      exact this
    have o3 := madeV 115 6 ((w1.alloc (.cells #[.int .i64 s, .int .i64 f, .int .i64 r, .int .i64 u, .int .i64 m] 33)).alloc (.cells #[.slice A n c, .int .i64 s, .slice (some ⟨w1.heap.size + 1 + 1, 0, none⟩) 1 1] 144)) #[.int .i64 1, .int .i64 0, .int .i64 0, .int .i64 0, .int .i64 0, .bool true] 1 (w1.heap.size + 1 + 1) (w1.heap.size + 1 + 1 + 1) (w1.heap.size + 1 + 1) (by omega) hz2 (by omega) (by omega) (by rfl)
    have ho3 : OwV 115 6 (((w1.alloc (.cells #[.int .i64 s, .int .i64 f, .int .i64 r, .int .i64 u, .int .i64 m] 33)).alloc (.cells #[.slice A n c, .int .i64 s, .slice (some ⟨w1.heap.size + 1 + 1, 0, none⟩) 1 1] 144)).alloc (.cells #[.int .i64 1, .int .i64 0, .int .i64 0, .int .i64 0, .int .i64 0, .bool true] 115)) (w1.heap.size + 1 + 1) (((w1.alloc (.cells #[.int .i64 s, .int .i64 f, .int .i64 r, .int .i64 u, .int .i64 m] 33)).alloc (.cells #[.slice A n c, .int .i64 s, .slice (some ⟨w1.heap.size + 1 + 1, 0, none⟩) 1 1] 144)).alloc (.cells #[.int .i64 1, .int .i64 0, .int .i64 0, .int .i64 0, .int .i64 0, .bool true] 115)).heap.size (w1.heap.size + 1 + 1) ([⟨1, 0, 0, 0, 0, true⟩] : List Cm).length 1 (([⟨1, 0, 0, 0, 0, true⟩] : List Cm).flatMap cmV) := by
      rw [hz3]
      simpa [cmV] using o3
    have hbx : ∀ j : Nat, (((w1.alloc (.cells #[.int .i64 s, .int .i64 f, .int .i64 r, .int .i64 u, .int .i64 m] 33)).alloc (.cells #[.slice A n c, .int .i64 s, .slice (some ⟨w1.heap.size + 1 + 1, 0, none⟩) 1 1] 144)).alloc (.cells #[.int .i64 1, .int .i64 0, .int .i64 0, .int .i64 0, .int .i64 0, .bool true] 115)).cell? ⟨w1.heap.size, j, none⟩ = (#[.int .i64 s, .int .i64 f, .int .i64 r, .int .i64 u, .int .i64 m] : Array Value)[j]? := fun j => by
      rw [World.cell?_alloc_lt _ _ _ (by show w1.heap.size < _; omega), World.cell?_alloc_lt _ _ _ (by show w1.heap.size < _; omega), World.cell?_alloc_new]
    have hr3 := hr.below b4
    have HB4 := Lib.hid b4
    have hb1 := b1.size
    clear o3 b2 b3 b4 b1 hr hz1 hz2
    generalize (((w1.alloc (.cells #[.int .i64 s, .int .i64 f, .int .i64 r, .int .i64 u, .int .i64 m] 33)).alloc (.cells #[.slice A n c, .int .i64 s, .slice (some ⟨w1.heap.size + 1 + 1, 0, none⟩) 1 1] 144)).alloc (.cells #[.int .i64 1, .int .i64 0, .int .i64 0, .int .i64 0, .int .i64 0, .bool true] 115)) = w3 at *
    have HZ := Lib.hid hz3
    have hz3' : w1.heap.size + 1 + 1 + 1 ≤ w3.heap.size := by omega
    clear hz3
    have HBX := Lib.hid hbx
    clear hbx
    have HRF : Hid (RetL w3 (w1.heap.size + 1 + 1) (w1.heap.size + 1) A n c s (w1.heap.size + 1 + 1) [⟨1, 0, 0, 0, 0, true⟩] [⟨1, 0, 0, 0, 0, true⟩] w3) := RetL.refl hb3 ho3
    -- what stands in the frame stays
    have keepB : Hid (∀ (l : List Cm) (wk : World), RetL w3 (w1.heap.size + 1 + 1) (w1.heap.size + 1) A n c s (w1.heap.size + 1 + 1) [⟨1, 0, 0, 0, 0, true⟩] l wk → ∀ j : Nat, wk.cell? ⟨w1.heap.size, j, none⟩ = (#[.int .i64 s, .int .i64 f, .int .i64 r, .int .i64 u, .int .i64 m] : Array Value)[j]?) := fun l wk hk j => by
      obtain ⟨_, _, _, _, _, G, _⟩ := hk
      exact (World.cell?_of_block (w := w3) (G.block w1.heap.size (by omega) (by omega) (by omega))).trans (HBX.out j)
    have keepR : Hid (∀ (l : List Cm) (wk : World), RetL w3 (w1.heap.size + 1 + 1) (w1.heap.size + 1) A n c s (w1.heap.size + 1 + 1) [⟨1, 0, 0, 0, 0, true⟩] l wk → Rd wk w.heap.size A n xs) := fun l wk hk => by
      obtain ⟨_, _, _, _, _, G, _⟩ := hk
      exact G.rd hr3 (by omega) (by omega) (by omega)
    have stepL : Hid (∀ (l l' : List Cm) (wk wk' : World) (g : Nat), Grow2 w3 wk (w1.heap.size + 1) (w1.heap.size + 1 + 1) → (g = w1.heap.size + 1 + 1 ∨ w3.heap.size ≤ g) → RdV 6 wk wk.heap.size (some ⟨w1.heap.size + 1 + 1, 0, none⟩) ([⟨1, 0, 0, 0, 0, true⟩] : List Cm).length (([⟨1, 0, 0, 0, 0, true⟩] : List Cm).flatMap cmV) → [⟨1, 0, 0, 0, 0, true⟩] <+: l → RetL wk (w1.heap.size + 1 + 1) (w1.heap.size + 1) A n c s g l l' wk' → RetL w3 (w1.heap.size + 1 + 1) (w1.heap.size + 1) A n c s (w1.heap.size + 1 + 1) [⟨1, 0, 0, 0, 0, true⟩] l' wk') := fun l l' wk wk' g h1 h2 h3 h4 h5 => RetL.next h1 h2 h3 h4 (by have := h1.size; omega) (by omega) h5
    clear hr3
    refine (add_any A n c xs s (w1.heap.size + 1) (w1.heap.size + 1 + 1) 1 (w1.heap.size + 1 + 1) [⟨1, 0, 0, 0, 0, true⟩] ⟨2, 0, 0, 0, f, false⟩ w3 ((keepR.out _ _ HRF.out).more (by omega)) hn HI.out (by simp) hb3 ho3 (by omega) (by omega)).mono ?_
    rintro e w4 ⟨rfl, hL4⟩
    clear hb3 ho3
    have HL4 : Hid (RetL w3 (w1.heap.size + 1 + 1) (w1.heap.size + 1) A n c s (w1.heap.size + 1 + 1) [⟨1, 0, 0, 0, 0, true⟩] (c1C xs ⟨s, f, r, u, m⟩) w4) := hL4
    clear hL4
    have hP1 : Hid ([⟨1, 0, 0, 0, 0, true⟩] <+: c1C xs ⟨s, f, r, u, m⟩) := List.prefix_append _ _
    have hl1 : (c1C xs ⟨s, f, r, u, m⟩).length = 2 := by simp [c1C, addC]
    have q2 : w4.cell? ⟨w1.heap.size, 2, none⟩ = some (.int .i64 r) := keepB.out _ _ HL4.out 2
    go_wp2_with fail
    obtain ⟨g4, c4, hb4, ho4, at4, G4, old4⟩ := HL4.out
    have s4 := G4.size
    refine (add_any A n c xs s (w1.heap.size + 1) g4 c4 (w1.heap.size + 1 + 1) (c1C xs ⟨s, f, r, u, m⟩) ⟨3, 0, 0, 0, r, false⟩ w4 ((keepR.out _ _ HL4.out).more (by omega)) hn HI.out (by omega) hb4 ho4 (by omega) (by omega)).mono ?_
    rintro e w5 ⟨rfl, hL5⟩
    have HL5 : Hid (RetL w3 (w1.heap.size + 1 + 1) (w1.heap.size + 1) A n c s (w1.heap.size + 1 + 1) [⟨1, 0, 0, 0, 0, true⟩] (c2C xs ⟨s, f, r, u, m⟩) w5) := stepL.out _ _ _ _ _ G4 at4 old4 hP1.out hL5
    have hP2 : Hid ([⟨1, 0, 0, 0, 0, true⟩] <+: c2C xs ⟨s, f, r, u, m⟩) := hP1.out.trans (List.prefix_append _ _)
    have hl2 : (c2C xs ⟨s, f, r, u, m⟩).length = 3 := by simp [c2C, c1C, addC]
    clear hL5 HL4 hb4 ho4 at4 G4 old4 hP1 hl1 q2 s4
    go_wp2_with fail
    obtain ⟨g5, c5, hb5, ho5, at5, G5, old5⟩ := HL5.out
    have s5 := G5.size
    refine (addInside_any A n c w.heap.size xs s 4 (w1.heap.size + 1) g5 c5 (w1.heap.size + 1 + 1) (c2C xs ⟨s, f, r, u, m⟩) w5 (keepR.out _ _ HL5.out) hn hnc HH.out (by omega) hb5 ho5 (by omega) (by omega) (by omega) ok_c2 (by omega)).mono ?_
    rintro e w6 ⟨rfl, hL6⟩
    have HL6 : Hid (RetL w3 (w1.heap.size + 1 + 1) (w1.heap.size + 1) A n c s (w1.heap.size + 1 + 1) [⟨1, 0, 0, 0, 0, true⟩] (c3C xs ⟨s, f, r, u, m⟩) w6) := by
      rw [← ins_c3]
      exact stepL.out _ _ _ _ _ G5 at5 old5 hP2.out hL6
    have hP3 : Hid ([⟨1, 0, 0, 0, 0, true⟩] <+: c3C xs ⟨s, f, r, u, m⟩) := by
      rw [← ins_c3]
      exact hP2.out.trans (foldl_prefix _ insStep_prefix _ _)
    have hl3 := c3_length (xs := xs) (h := ⟨s, f, r, u, m⟩)
    clear hL6 HL5 hb5 ho5 at5 G5 old5 hP2 hl2 s5
    have q4 : w6.cell? ⟨w1.heap.size, 4, none⟩ = some (.int .i64 m) := keepB.out _ _ HL6.out 4
    have q3 : w6.cell? ⟨w1.heap.size, 3, none⟩ = some (.int .i64 u) := keepB.out _ _ HL6.out 3
    by_cases hm : m = 0
    case' pos =>
      have hdm : (m != 0) = false := by simpa using hm
      have HL7 : Hid (RetL w3 (w1.heap.size + 1 + 1) (w1.heap.size + 1) A n c s (w1.heap.size + 1 + 1) [⟨1, 0, 0, 0, 0, true⟩] (c4C xs ⟨s, f, r, u, m⟩) w6) := by
        rw [c4_shots, if_pos hm]
        exact HL6.out
      have hP4 : Hid ([⟨1, 0, 0, 0, 0, true⟩] <+: c4C xs ⟨s, f, r, u, m⟩) := by
        rw [c4_shots, if_pos hm]
        exact hP3.out
      clear hm
      go_wp2_with fail
      obtain ⟨w7, rfl⟩ : ∃ x, x = w6 := ⟨_, rfl⟩
    case' neg =>
      have hdm : (m != 0) = true := by simpa using hm
      have HM := Lib.hid hm
      clear hm
      go_wp2_with fail
      obtain ⟨g6, c6, hb6, ho6, at6, G6, old6⟩ := HL6.out
      have s6 := G6.size
      refine (addShots_any A n c w.heap.size xs ⟨s, f, r, u, m⟩ (w1.heap.size + 1) g6 c6 (w1.heap.size + 1 + 1) (c3C xs ⟨s, f, r, u, m⟩) w6 (keepR.out _ _ HL6.out) hn hnc HI.out (by omega) hb6 ho6 (by omega) (by omega) (by omega)).mono ?_
      rintro e w7 ⟨rfl, hL7⟩
      have HL7 : Hid (RetL w3 (w1.heap.size + 1 + 1) (w1.heap.size + 1) A n c s (w1.heap.size + 1 + 1) [⟨1, 0, 0, 0, 0, true⟩] (c4C xs ⟨s, f, r, u, m⟩) w7) := by
        rw [c4_shots, if_neg HM.out]
        exact stepL.out _ _ _ _ _ G6 at6 old6 hP3.out hL7
      have hP4 : Hid ([⟨1, 0, 0, 0, 0, true⟩] <+: c4C xs ⟨s, f, r, u, m⟩) := by
        rw [c4_shots, if_neg HM.out]
        unfold shotsP
        split
        · exact (hP3.out.trans (List.prefix_append _ _)).trans (shotFold_prefix _ _ _ _)
        · exact hP3.out.trans (List.prefix_append _ _)
      clear hL7 hb6 ho6 at6 G6 old6 s6 HM
      go_wp2_with fail
    all_goals
      clear HL6 hP3 hl3 q3 q4 hdm
      have hl4 := c4_length (xs := xs) (h := ⟨s, f, r, u, m⟩)
      obtain ⟨g7, c7, hb7, ho7, at7, G7, old7⟩ := HL7.out
      have s7 := G7.size
      refine (addInside_any A n c w.heap.size xs s 7 (w1.heap.size + 1) g7 c7 (w1.heap.size + 1 + 1) (c4C xs ⟨s, f, r, u, m⟩) w7 (keepR.out _ _ HL7.out) hn hnc HH.out (by omega) hb7 ho7 (by omega) (by omega) (by omega) ok_c4 (by omega)).mono ?_
      rintro e w8 ⟨rfl, hL8⟩
      have HL8 : Hid (RetL w3 (w1.heap.size + 1 + 1) (w1.heap.size + 1) A n c s (w1.heap.size + 1 + 1) [⟨1, 0, 0, 0, 0, true⟩] (c5C xs ⟨s, f, r, u, m⟩) w8) := by
        rw [← ins_c5]
        exact stepL.out _ _ _ _ _ G7 at7 old7 hP4.out hL8
      have hP5 : Hid ([⟨1, 0, 0, 0, 0, true⟩] <+: c5C xs ⟨s, f, r, u, m⟩) := by
        rw [← ins_c5]
        exact hP4.out.trans (foldl_prefix _ insStep_prefix _ _)
      clear hL8 hb7 ho7 at7 G7 old7 s7 HL7 hP4 hl4
      have hl5 := c5_length (xs := xs) (h := ⟨s, f, r, u, m⟩)
      go_wp2_with fail
      obtain ⟨g8, c8, hb8, ho8, at8, G8, old8⟩ := HL8.out
      have s8 := G8.size
      refine (addInside_any A n c w.heap.size xs s 8 (w1.heap.size + 1) g8 c8 (w1.heap.size + 1 + 1) (c5C xs ⟨s, f, r, u, m⟩) w8 (keepR.out _ _ HL8.out) hn hnc HH.out (by omega) hb8 ho8 (by omega) (by omega) (by omega) ok_c5 (by omega)).mono ?_
      rintro e w9 ⟨rfl, hL9⟩
      have HL9 : Hid (RetL w3 (w1.heap.size + 1 + 1) (w1.heap.size + 1) A n c s (w1.heap.size + 1 + 1) [⟨1, 0, 0, 0, 0, true⟩] (c6C xs ⟨s, f, r, u, m⟩) w9) := by
        rw [← ins_c6]
        exact stepL.out _ _ _ _ _ G8 at8 old8 hP5.out hL9
      clear hL9 hb8 ho8 at8 G8 old8 s8 HL8 hP5 hl5
      obtain ⟨g9, c9, hb9, ho9, at9, G9, old9⟩ := HL9.out
      have p9 : w9.cell? ⟨w1.heap.size + 1, 2, none⟩ = some (.slice (some ⟨g9, 0, none⟩) (c6C xs ⟨s, f, r, u, m⟩).length c9) := hb9.cell 2
      have HG9 := Lib.hid G9
      have HO9 := Lib.hid ho9
      clear hb9 ho9 at9 G9 old9 HL9
      go_wp2_with fail
      go_ret
      rw [HN.out]
      exact ⟨some ⟨g9, 0, none⟩, c9, rfl, (HO9.out.toR).more (by omega) (Nat.le_refl _), Grow2.toBelow HB4.out HG9.out (by omega) (by omega)⟩

end Go.Proofs.YtiokfhdkbpoadabGreatDoor
