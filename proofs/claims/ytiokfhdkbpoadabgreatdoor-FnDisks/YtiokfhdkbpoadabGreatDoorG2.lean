/- Claims: plain functions on lists; no program is named here but for the words of other texts. Claims, the model's side: that the Go functions compute them. Claims, the model's side: one more (l6Add), those of a table (l6Table). Claims, the model's side: those of a table (l6Table), the first tables (l6Firsts), the shots (l6Shots). Claims, the model's side: those of the shots (l6Shots). What holds of all claims of an image with a head: plain mathematics. All claims, the model's side (l6Claims, ClaimsIn). -/
import Derived.Test.YtiokfhdkbpoadabGreatDoorG8
import Derived.StillTailTactics
namespace Go.Proofs.YtiokfhdkbpoadabGreatDoor
open Go.RowKit

structure Cm where
  kind : Int
  frm : Int
  slot : Int
  place : Int
  target : Int
  good : Bool
deriving DecidableEq

def cmV (c : Cm) : List Value := [.int .i64 c.kind, .int .i64 c.frm, .int .i64 c.slot, .int .i64 c.place, .int .i64 c.target, .bool c.good]
def cmA (c : Cm) : Value := .agg #[.int .i64 c.kind, .int .i64 c.frm, .int .i64 c.slot, .int .i64 c.place, .int .i64 c.target, .bool c.good]
theorem cmV_length (c : Cm) : (cmV c).length = 6 := rfl
def cm0 : Cm := ⟨0, 0, 0, 0, 0, false⟩

/-- Does a good claim x stand in the way of c, of the same target? -/
def barsB (x c : Cm) : Bool :=
  if x.good = true ∧ x.target = c.target then
    (if c.kind = 7 ∧ x.kind = 7 then (x.frm == c.frm || x.slot != c.slot) else (if c.kind = 8 ∧ x.kind = 8 then false else true))
  else false
def goodB (xs : List Int) (size : Int) (l : List Cm) (c : Cm) : Bool := (thereB xs c.target && decide (c.place < size)) && !(l.any fun x => barsB x c)
def addC (xs : List Int) (size : Int) (l : List Cm) (c : Cm) : List Cm := l ++ [{ c with good := goodB xs size l c }]
/-- What the words of a table claim. -/
def tabStep (xs : List Int) (size kind : Int) (frm : Nat) (place step : Int) (l : List Cm) (i : Nat) : List Cm :=
  if targetOf ((cl xs frm).getD i 0) ≠ 0 then addC xs size l ⟨kind, frm, i, place + step * i, targetOf ((cl xs frm).getD i 0), false⟩ else l
def tabC (xs : List Int) (size : Int) (l : List Cm) (kind : Int) (frm : Nat) (place step : Int) : List Cm := (List.range 8).foldl (tabStep xs size kind frm place step) l
def firstsC (l : List Cm) : List Int := (l.filter fun c => c.good && (c.kind == 2 || c.kind == 6)).map (·.target)
def shotStep (xs : List Int) (h : Hd) (l : List Cm) (i : Nat) : List Cm := addC xs h.size l ⟨6, h.shots, i, 0, ((shotsL xs).getD i (0, 0)).2, false⟩
def shotsC (xs : List Int) (h : Hd) (l : List Cm) : List Cm :=
  if h.many = 0 then l
  else (if goodB xs h.size l ⟨5, 0, 0, 0, h.shots, false⟩ = true then (List.range (shotsL xs).length).foldl (shotStep xs h) (addC xs h.size l ⟨5, 0, 0, 0, h.shots, false⟩) else addC xs h.size l ⟨5, 0, 0, 0, h.shots, false⟩)
def c1C (xs : List Int) (h : Hd) : List Cm := addC xs h.size [⟨1, 0, 0, 0, 0, true⟩] ⟨2, 0, 0, 0, h.first, false⟩
def c2C (xs : List Int) (h : Hd) : List Cm := addC xs h.size (c1C xs h) ⟨3, 0, 0, 0, h.refs, false⟩
def c3C (xs : List Int) (h : Hd) : List Cm := if goodB xs h.size (c1C xs h) ⟨3, 0, 0, 0, h.refs, false⟩ = true then tabC xs h.size (c2C xs h) 4 h.refs.toNat 0 0 else c2C xs h
def c4C (xs : List Int) (h : Hd) : List Cm := shotsC xs h (c3C xs h)
def secStep (xs : List Int) (h : Hd) (l : List Cm) (f : Int) : List Cm := tabC xs h.size l 7 f.toNat 0 8
def c5C (xs : List Int) (h : Hd) : List Cm := (firstsC (c4C xs h)).foldl (secStep xs h) (c4C xs h)
def datStep (xs : List Int) (h : Hd) (l : List Cm) (c : Cm) : List Cm := if c.kind = 7 ∧ c.good = true then tabC xs h.size l 8 c.target.toNat c.place 1 else l
def c6C (xs : List Int) (h : Hd) : List Cm := (c5C xs h).foldl (datStep xs h) (c5C xs h)
/-- All claims of an image with a head. -/
def claimsC (xs : List Int) : List Cm := c6C xs (headOf xs)

theorem cm_cell {l : List Cm} {k j : Nat} (hk : k < l.length) (hj : j < 6) : (l.flatMap cmV)[k * 6 + j]? = (cmV (l.getD k cm0))[j]? := by
  rw [flat_get cmV 6 cmV_length l k j hk hj, List.getD_eq_getElem?_getD, List.getElem?_eq_getElem hk]; rfl
theorem addC_length (xs : List Int) (size : Int) (l : List Cm) (c : Cm) : (addC xs size l c).length = l.length + 1 := by simp [addC]
theorem tabStep_length (xs : List Int) (size kind : Int) (frm : Nat) (place step : Int) (l : List Cm) (i : Nat) : (tabStep xs size kind frm place step l i).length ≤ l.length + 1 := by
  unfold tabStep; split
  · rw [addC_length]; omega
  · omega
theorem tabFold_length (xs : List Int) (size kind : Int) (frm : Nat) (place step : Int) (l : List Cm) (k : Nat) : ((List.range k).foldl (tabStep xs size kind frm place step) l).length ≤ l.length + k := by
  induction k with
  | zero => simp
  | succ k ih =>
    rw [List.range_succ, List.foldl_append]
    have := tabStep_length xs size kind frm place step ((List.range k).foldl (tabStep xs size kind frm place step) l) k
    simp only [List.foldl_cons, List.foldl_nil]
    omega
theorem tabC_length (xs : List Int) (size : Int) (l : List Cm) (kind : Int) (frm : Nat) (place step : Int) : (tabC xs size l kind frm place step).length ≤ l.length + 8 := tabFold_length _ _ _ _ _ _ _ _

theorem infoCm : (Tryz.prog.info? 115).map (fun i => (i.zero, i.size, i.bytes)) = some (some (.agg #[.int .i64 0, .int .i64 0, .int .i64 0, .int .i64 0, .int .i64 0, .bool false]), 6, 48) := by kernel_rfl

/-- It answers yes or no; nothing that was there has turned. -/
def RetB (w : World) (x : Bool) (e : Ending) (w' : World) : Prop := e = .returned (.bool x) ∧ Below w.heap.size w w'
theorem RetB.mk {w w' : World} {x y : Bool} (h : y = x) (hb : Below w.heap.size w w') : RetB w x (.returned (.bool y)) w' := by subst h; exact ⟨rfl, hb⟩

set_option maxHeartbeats 2000000 in
theorem specBars_any (x c : Cm) (w : World) : Calls Tryz.prog 163 #[cmA x, cmA c] w (RetB w (barsB x c)) := by
  obtain ⟨k, f, s, p, t, g⟩ := x
  obtain ⟨k', f', s', p', t', g'⟩ := c
  have hb := Lib.hid (((Below.refl w.heap.size w).alloc (Nat.le_refl _) (.cells #[.int .i64 k, .int .i64 f, .int .i64 s, .int .i64 p, .int .i64 t, .bool g] 115)).alloc (by simp) (.cells #[.int .i64 k', .int .i64 f', .int .i64 s', .int .i64 p', .int .i64 t', .bool g'] 115))
  unfold cmA
  cases g
  · go_enter Tryz.func163, Tryz.ntmps163
    go_wp2
    go_ret
    exact RetB.mk (by simp [barsB]) hb.out
  by_cases ht : t = t'
  · subst ht
    have q1 : (t != t) = false := by simp
    by_cases hk : k' = 7
    · subst hk
      by_cases hk2 : k = 7
      · subst hk2
        by_cases hf : f = f'
        · subst hf
          have q2 : (f == f) = true := by simp
          go_enter Tryz.func163, Tryz.ntmps163
          go_wp2
          go_ret
          exact RetB.mk (by simp [barsB]) hb.out
        · have q2 : (f == f') = false := by simpa using hf
          go_enter Tryz.func163, Tryz.ntmps163
          go_wp2
          go_ret
          exact RetB.mk (by simp [barsB, hf]) hb.out
      · have q3 : (k == 7) = false := by simpa using hk2
        go_enter Tryz.func163, Tryz.ntmps163
        go_wp2
        go_ret
        exact RetB.mk (by simp [barsB, hk2]) hb.out
    · have q4 : (k' == 7) = false := by simpa using hk
      by_cases hk8 : k' = 8
      · subst hk8
        by_cases hk2 : k = 8
        · subst hk2
          go_enter Tryz.func163, Tryz.ntmps163
          go_wp2
          go_ret
          exact RetB.mk (by simp [barsB]) hb.out
        · have q3 : (k == 8) = false := by simpa using hk2
          go_enter Tryz.func163, Tryz.ntmps163
          go_wp2
          go_ret
          exact RetB.mk (by simp [barsB, hk2]) hb.out
      · have q5 : (k' == 8) = false := by simpa using hk8
        go_enter Tryz.func163, Tryz.ntmps163
        go_wp2
        go_ret
        exact RetB.mk (by simp [barsB, hk, hk8]) hb.out
  · have q1 : (t != t') = true := by simpa using ht
    go_enter Tryz.func163, Tryz.ntmps163
    go_wp2
    go_ret
    exact RetB.mk (by simp [barsB, ht]) hb.out

/-- Block b holds the claim c. -/
def BoxC (w : World) (b : Nat) (c : Cm) : Prop := w.heap[b]? = some (.cells (cmV c).toArray 115 (0, 0))
theorem BoxC.cell {w : World} {b : Nat} {c : Cm} (h : BoxC w b c) (j : Nat) : w.cell? ⟨b, j, none⟩ = (cmV c)[j]? := by
  have := cell_of_row w b j _ _ _ h
  simpa using this
theorem BoxC.free {w : World} {b : Nat} {c : Cm} (h : BoxC w b c) (j : Nat) : w.frozen? ⟨b, j, none⟩ = false := by
  unfold BoxC at h
  simp [World.frozen?, h]
theorem BoxC.keep {w w' : World} {b : Nat} {c : Cm} (h : BoxC w b c) (hk : w'.heap[b]? = w.heap[b]?) : BoxC w' b c := hk.trans h
theorem BoxC.good {w : World} {b : Nat} {c : Cm} (h : BoxC w b c) (x : Bool) : BoxC (w.setCell ⟨b, 5, none⟩ (.bool x)) b { c with good := x } := by
  unfold BoxC at *
  simp only [World.setCell, Array.getElem?_modify]
  simp [h, cmV]

/-- The list is one longer, in its old row or in a new one; and a flag. -/
def RetAdd (w : World) (lo g : Nat) (old l : List Cm) (ok : Bool) (e : Ending) (w' : World) : Prop :=
  ∃ g' c', e = .returned (.tuple #[.slice (some ⟨g', 0, none⟩) l.length c', .bool ok]) ∧ OwV 115 6 w' lo w'.heap.size g' l.length c' (l.flatMap cmV) ∧ w.grownBy w' (some g) ∧ (g' = g ∨ w.heap.size ≤ g') ∧ RdV 6 w' w'.heap.size (some ⟨g, 0, none⟩) old.length (old.flatMap cmV)

/-- Does one of the first k bar c? -/
def noBar (l : List Cm) (c : Cm) (k : Nat) : Bool := !((l.take k).any fun x => barsB x c)
theorem noBar_zero (l : List Cm) (c : Cm) : noBar l c 0 = true := by simp [noBar]
theorem noBar_step (l : List Cm) (c : Cm) (k : Nat) (hk : k < l.length) : noBar l c (k + 1) = (noBar l c k && !(barsB (l.getD k cm0) c)) := by
  unfold noBar
  rw [List.take_succ_eq_append_getElem hk, List.any_append, List.getD_eq_getElem?_getD, List.getElem?_eq_getElem hk]
  simp
theorem noBar_all (l : List Cm) (c : Cm) (k : Nat) (hk : l.length ≤ k) : noBar l c k = !(l.any fun x => barsB x c) := by
  unfold noBar; rw [List.take_of_length_le hk]
/-- The same claim, whether good or not, is barred by the same. -/
theorem bars_good (x c : Cm) (b : Bool) : barsB x { c with good := b } = barsB x c := rfl

theorem grown_below {w w1 w2 : World} {g : Nat} (h : Below w.heap.size w w1) (hg : w1.grownBy w2 (some g)) : w.grownBy w2 (some g) := by
  exact ⟨hg.os.trans h.os, hg.tape.trans h.tape, hg.output.trans h.output, Nat.le_trans h.size hg.size, fun k hk hne => (hg.block k (Nat.lt_of_lt_of_le hk h.size) hne).trans (h.block k hk)⟩

set_option maxRecDepth 100000 in
set_option maxHeartbeats 4000000 in
theorem specAdd_any (A : Option Addr) (n cb : Nat) (xs : List Int) (size : Int) (g cap lo hi : Nat) (l : List Cm) (c : Cm) (w : World) (hx : xs.length = n) (hn : n ≤ 2097152) (hl : l.length ≤ 100000)
    (ho : OwV 115 6 w lo hi g l.length cap (l.flatMap cmV)) (hlo : lo ≤ w.heap.size) :
    Calls Tryz.prog 152 #[.slice A n cb, .int .i64 size, .slice (some ⟨g, 0, none⟩) l.length cap, cmA c] w (RetAdd w lo g l (addC xs size l c) (goodB xs size l c)) := by
  obtain ⟨i0, hi0, hz0, hz1, hz2⟩ := info_parts infoCm
  have HX := Lib.hid hx
  clear hx
  have hgl := ho.lt
  obtain ⟨ck, cf, cs, cp, ct, cg⟩ := c
  have HG : ∀ base : Bool, base = (thereB xs ct && decide (cp < size)) → Hid (goodB xs size l ⟨ck, cf, cs, cp, ct, cg⟩ = (base && noBar l ⟨ck, cf, cs, cp, ct, cg⟩ l.length)) := fun base h => by
    rw [h, noBar_all _ _ _ (Nat.le_refl _)]; exact rfl
  unfold cmA
  cases ht : thereB xs ct
  case' false =>
    have hbase := HG false (by rw [ht]; rfl)
    obtain ⟨base, hbs⟩ : ∃ base : Bool, base = false := ⟨_, rfl⟩
  case' true =>
    have hbase := HG (decide (cp < size)) (by rw [ht]; rfl)
    obtain ⟨base, hbs⟩ : ∃ base : Bool, base = decide (cp < size) := ⟨_, rfl⟩
  all_goals
    clear HG
    go_enter Tryz.func152, Tryz.ntmps152
    go_wp2_with fail
    refine (specThere_any _ _ _ xs _ _ HX.out hn).mono ?_
    rintro e w' ⟨rfl, rfl⟩
    go_wp2_with fail
    clear ht
    generalize hcc : (⟨ck, cf, cs, cp, ct, cg⟩ : Cm) = cc at *
    have HCC := Lib.hid hcc
    clear hcc
    have hbars : Hid (∀ x v, barsB x ⟨ck, cf, cs, cp, ct, v⟩ = barsB x cc) := fun x v => by rw [← HCC.out]; rfl
    rw [← hbs] at hbase
    go_loopw [10] (fun i wr => ∃ k : Nat, k ≤ l.length ∧ i = .int .i64 k ∧ BoxC wr w.heap.size ⟨ck, cf, cs, cp, ct, base && noBar l cc k⟩ ∧ Below w.heap.size w wr ∧ w.heap.size < wr.heap.size) (fun i _ => l.length - (intOf i).toNat)
    case atStart =>
      refine ⟨0, Nat.zero_le _, rfl, ?_, (Below.refl _ _).alloc (Nat.le_refl _) _, by simp⟩
      rw [noBar_zero, Bool.and_true, hbs]
      exact heap_alloc_new w _
    case round =>
      obtain ⟨k, hk, rfl, hbx, hb, hz⟩ := hrel
      by_cases hlt : k < l.length
      · have HS := Lib.hid (noBar_step l cc k hlt)
        have hce : ∀ j, j < 6 → wr.cell? ⟨g, k * 6 + j, none⟩ = (cmV (l.getD k cm0))[j]? := fun j hj => by
          rw [(ho.keep (hb.block g hgl)).cell (by omega), cm_cell hlt hj]
        have hbc := hbx.cell
        have hf5 := hbx.free 5
        have HB := Lib.hid hbx
        clear hbx
        generalize l.getD k cm0 = x at *
        generalize hv : (base && noBar l cc k) = v at *
        have HV := Lib.hid hv
        clear hv
        obtain ⟨xk, xf, xs', xp, xt, xg⟩ := x
        have e0 : wr.cell? ⟨g, k * 6, none⟩ = some (.int .i64 xk) := hce 0 (by omega)
        have e1 : wr.cell? ⟨g, k * 6 + 1, none⟩ = some (.int .i64 xf) := hce 1 (by omega)
        have e2 : wr.cell? ⟨g, k * 6 + 2, none⟩ = some (.int .i64 xs') := hce 2 (by omega)
        have e3 : wr.cell? ⟨g, k * 6 + 3, none⟩ = some (.int .i64 xp) := hce 3 (by omega)
        have e4 : wr.cell? ⟨g, k * 6 + 4, none⟩ = some (.int .i64 xt) := hce 4 (by omega)
        have e5 : wr.cell? ⟨g, k * 6 + 5, none⟩ = some (.bool xg) := hce 5 (by omega)
        have b0 : wr.cell? ⟨w.heap.size, 0, none⟩ = some (.int .i64 ck) := hbc 0
        have b1 : wr.cell? ⟨w.heap.size, 1, none⟩ = some (.int .i64 cf) := hbc 1
        have b2 : wr.cell? ⟨w.heap.size, 2, none⟩ = some (.int .i64 cs) := hbc 2
        have b3 : wr.cell? ⟨w.heap.size, 3, none⟩ = some (.int .i64 cp) := hbc 3
        have b4 : wr.cell? ⟨w.heap.size, 4, none⟩ = some (.int .i64 ct) := hbc 4
        have b5 : wr.cell? ⟨w.heap.size, 5, none⟩ = some (.bool v) := hbc 5
        clear hce hbc
        go_wp2_with fail
        go_still_tail 5, (by kernel_rfl)
        change wpList _ _ _ _ _ wr.drew
        go_wp2_with fail
        refine (specBars_any ⟨xk, xf, xs', xp, xt, xg⟩ ⟨ck, cf, cs, cp, ct, v⟩ wr.drew).mono ?_
        rintro e w2 ⟨rfl, bl2⟩
        have hb2 : Below w.heap.size w w2 := hb.drew.trans (bl2.mono (by show w.heap.size ≤ wr.heap.size; omega))
        have hz2 : w.heap.size < w2.heap.size := Nat.lt_of_lt_of_le hz bl2.size
        have HB2 : Hid (BoxC w2 w.heap.size ⟨ck, cf, cs, cp, ct, v⟩) := HB.out.keep (bl2.block _ hz)
        have hf5' : w2.frozen? ⟨w.heap.size, 5, none⟩ = false := HB2.out.free 5
        have hc5' : w2.cell? ⟨w.heap.size, 5, none⟩ = some (.bool v) := HB2.out.cell 5
        clear bl2 e0 e1 e2 e3 e4 e5 b0 b1 b2 b3 b4 b5 hf5
        have HQ := Lib.hid (hbars.out ⟨xk, xf, xs', xp, xt, xg⟩ v)
        cases hq : barsB ⟨xk, xf, xs', xp, xt, xg⟩ ⟨ck, cf, cs, cp, ct, v⟩
        · have HQ2 : Hid ((base && noBar l cc (k + 1)) = v) := by
            rw [HS.out, ← HQ.out, hq, Bool.not_false, Bool.and_true]; exact HV.out
          clear hq HQ HS
          go_wp2_with fail
          go_roundw
          case rel => exact ⟨k + 1, by omega, by go_num, by rw [HQ2.out]; exact HB2.out, hb2, hz2⟩
          case measure => simp [intOf]; omega
        · have HQ2 : Hid ((base && noBar l cc (k + 1)) = false) := by
            rw [HS.out, ← HQ.out, hq, Bool.not_true, Bool.and_false, Bool.and_false]; exact rfl
          clear hq HQ HS
          go_wp2_with fail
          go_roundw
          case rel => exact ⟨k + 1, by omega, by go_num, by rw [HQ2.out]; exact HB2.out.good false, hb2.setCell (Nat.le_refl _) _, by simpa [World.setCell] using hz2⟩
          case measure => simp [intOf]; omega
      · obtain rfl : k = l.length := by omega
        have hbc := hbx.cell
        have hv : (base && noBar l cc l.length) = goodB xs size l cc := hbase.out.symm
        rw [hv] at hbc
        obtain ⟨v, hvv⟩ : ∃ v, v = goodB xs size l cc := ⟨_, rfl⟩
        have HV := Lib.hid hvv
        rw [← hvv] at hbc ⊢
        clear hvv
        have b0 : wr.cell? ⟨w.heap.size, 0, none⟩ = some (.int .i64 ck) := hbc 0
        have b1 : wr.cell? ⟨w.heap.size, 1, none⟩ = some (.int .i64 cf) := hbc 1
        have b2 : wr.cell? ⟨w.heap.size, 2, none⟩ = some (.int .i64 cs) := hbc 2
        have b3 : wr.cell? ⟨w.heap.size, 3, none⟩ = some (.int .i64 cp) := hbc 3
        have b4 : wr.cell? ⟨w.heap.size, 4, none⟩ = some (.int .i64 ct) := hbc 4
        have b5 : wr.cell? ⟨w.heap.size, 5, none⟩ = some (.bool v) := hbc 5
        have ho1 := ho.keep (hb.block g hgl)
        have hgne : some w.heap.size ≠ some g := fun e => by injection e with e; omega
        clear hbc hbx hv
        have HE : Hid (addC xs size l cc = l ++ [⟨ck, cf, cs, cp, ct, v⟩]) := by rw [← HCC.out] at *; rw [addC, ← HV.out]; exact rfl
        go_wp2_with fail
        go_region_held3 (fun w' => w'.cell? ⟨w.heap.size, 0, none⟩ = some (.int .i64 ck) ∧ w'.cell? ⟨w.heap.size, 1, none⟩ = some (.int .i64 cf) ∧ w'.cell? ⟨w.heap.size, 2, none⟩ = some (.int .i64 cs) ∧ w'.cell? ⟨w.heap.size, 3, none⟩ = some (.int .i64 cp) ∧ w'.cell? ⟨w.heap.size, 4, none⟩ = some (.int .i64 ct) ∧ w'.cell? ⟨w.heap.size, 5, none⟩ = some (.bool v))
          (first
            | go_keep
            | (go_split_ands
               refine ⟨?_, ?_, ?_, ?_, ?_, ?_⟩
               all_goals (rw [hgrow.cell_far _ (Nat.lt_trans hz (by simp)) hgne]; assumption)))
          ((refine step_append_lit (by rfl) _ _ _ (by rfl) 115 6 48 _ i0 Tryz.underlying112 hi0 hz0 hz1 hz2 rfl (by omega) (by omega) lo hi g l.length cap _ (by rfl) ho1 #[.int .i64 ck, .int .i64 cf, .int .i64 cs, .int .i64 cp, .int .i64 ct, .bool v] 1 1 (by rfl) (by rfl) (by simp [Value.oneCell']) (by omega) (by omega) ?_; intro g2 cd w5 ho5 hgrow hat hold))
        go_wp2_with fail
        go_ret2
        have hgr : wr.grownBy w5 (some g) := ⟨hgrow.os, hgrow.tape, hgrow.output, Nat.le_trans (by simp) hgrow.size, fun q hq hne => (hgrow.block q (by simp; omega) hne).trans (Below.heap_alloc _ _ _ hq)⟩
        rw [HE.out]
        refine ⟨g2, cd, ?_, ?_, grown_below hb hgr, ?_, hold⟩
        · simp [HV.out]
        · simpa [cmV] using ho5
        · omega

/-- The list is longer, in its old row or in a new one. -/
def RetGrow (w : World) (lo g : Nat) (old l : List Cm) (e : Ending) (w' : World) : Prop :=
  ∃ g' c', e = .returned (.slice (some ⟨g', 0, none⟩) l.length c') ∧ OwV 115 6 w' lo w'.heap.size g' l.length c' (l.flatMap cmV) ∧ w.grownBy w' (some g) ∧ (g' = g ∨ w.heap.size ≤ g') ∧ RdV 6 w' w'.heap.size (some ⟨g, 0, none⟩) old.length (old.flatMap cmV)

/-- The old list, behind one more step. -/
theorem old_next {w1 w2 : World} {g g1 : Nat} {l l1 : List Cm} (h : RdV 6 w1 w1.heap.size (some ⟨g, 0, none⟩) l.length (l.flatMap cmV)) (hp : l <+: l1) (hgl : g < w1.heap.size) (hg1 : w1.grownBy w2 (some g1)) (h1 : RdV 6 w2 w2.heap.size (some ⟨g1, 0, none⟩) l1.length (l1.flatMap cmV)) :
    RdV 6 w2 w2.heap.size (some ⟨g, 0, none⟩) l.length (l.flatMap cmV) := by
  by_cases he : g1 = g
  · subst he
    obtain ⟨t, rfl⟩ := hp
    rw [List.flatMap_append] at h1
    exact h1.front (flat_length cmV 6 cmV_length l) (by omega)
  · exact (h.grown hg1 hgl (fun e => he e.symm)).more hg1.size

theorem grown_next {w w1 w2 : World} {g g1 : Nat} (h : w.grownBy w1 (some g)) (hg : g1 = g ∨ w.heap.size ≤ g1) (h2 : w1.grownBy w2 (some g1)) : w.grownBy w2 (some g) :=
  ⟨h2.os.trans h.os, h2.tape.trans h.tape, h2.output.trans h.output, Nat.le_trans h.size h2.size, fun k hk hne => (h2.block k (Nat.lt_of_lt_of_le hk h.size) (fun e => by
    injection e with e
    rcases hg with hg | hg
    · exact hne (by rw [e, hg])
    · omega)).trans (h.block k hk hne)⟩

theorem tabStep_prefix (xs : List Int) (size kind : Int) (frm : Nat) (place step : Int) (l : List Cm) (i : Nat) : l <+: tabStep xs size kind frm place step l i := by
  unfold tabStep; split
  · exact List.prefix_append _ _
  · exact List.prefix_refl _
theorem tabFold_prefix (xs : List Int) (size kind : Int) (frm : Nat) (place step : Int) (l : List Cm) (k : Nat) : l <+: (List.range k).foldl (tabStep xs size kind frm place step) l := by
  induction k with
  | zero => exact List.prefix_refl _
  | succ k ih =>
    rw [List.range_succ, List.foldl_append]
    exact ih.trans (tabStep_prefix _ _ _ _ _ _ _ _)
theorem tabFold_succ (xs : List Int) (size kind : Int) (frm : Nat) (place step : Int) (l : List Cm) (k : Nat) : (List.range (k + 1)).foldl (tabStep xs size kind frm place step) l = tabStep xs size kind frm place step ((List.range k).foldl (tabStep xs size kind frm place step) l) k := by
  rw [List.range_succ, List.foldl_append]; rfl

set_option maxRecDepth 100000 in
set_option maxHeartbeats 4000000 in
theorem specTab_any (A : Option Addr) (n cb : Nat) (xs : List Int) (size : Int) (g cap lo hi : Nat) (l : List Cm) (kind : Int) (frm : Nat) (place step : Int) (w : World) (hr : Rd w w.heap.size A n xs) (hn : n ≤ 2097152) (hl : l.length ≤ 90000)
    (ho : OwV 115 6 w lo hi g l.length cap (l.flatMap cmV)) (hlo : lo ≤ w.heap.size) (hf : frm ≤ 2097152) (hp0 : 0 ≤ place) (hp1 : place ≤ 1000000) (hs0 : 0 ≤ step) (hs1 : step ≤ 8) :
    Calls Tryz.prog 153 #[.slice A n cb, .int .i64 size, .slice (some ⟨g, 0, none⟩) l.length cap, .int .i64 kind, .int .i64 frm, .int .i64 place, .int .i64 step] w (RetGrow w lo g l (tabC xs size l kind frm place step)) := by
  have hx := Lib.hid hr.len
  have hgl := ho.lt
  go_enter Tryz.func153, Tryz.ntmps153
  go_wp2_with fail
  refine (specCluster_any A n cb frm xs w hr hn hf).mono ?_
  rintro e w1 ⟨G, ng, cg, rfl, oG, b1⟩
  obtain rfl : 8 = ng := by have := oG.len; simpa [cl, f8_length] using this
  rcases oG.form with ⟨_, h0, _⟩ | ⟨gc, rfl, g1, g2, g3, g4⟩
  · omega
  have ho1 : OwV 115 6 w1 lo w1.heap.size g l.length cap (l.flatMap cmV) := ⟨(ho.keep (b1.block g hgl)).own, Nat.lt_of_lt_of_le hgl b1.size⟩
  have hcc : Hid (∀ j, j < 8 → w1.cell? ⟨gc, j, none⟩ = some (.int .i64 ((cl xs frm).getD j 0))) := fun j hj => oG.cell hj
  have hs := b1.size
  clear oG
  go_wp2_with fail
  go_loopw [2, 16] (fun v i wr => ∃ (k g' c' : Nat), k ≤ 8 ∧ i = .int .i64 k ∧ v = .slice (some ⟨g', 0, none⟩) ((List.range k).foldl (tabStep xs size kind frm place step) l).length c' ∧
    OwV 115 6 wr lo wr.heap.size g' ((List.range k).foldl (tabStep xs size kind frm place step) l).length c' (((List.range k).foldl (tabStep xs size kind frm place step) l).flatMap cmV) ∧ w1.grownBy wr (some g) ∧ (g' = g ∨ w1.heap.size ≤ g') ∧ RdV 6 wr wr.heap.size (some ⟨g, 0, none⟩) l.length (l.flatMap cmV)) (fun _ i _ => 8 - (intOf i).toNat)
  case atStart => exact ⟨0, g, cap, by omega, rfl, rfl, ho1, grown_refl _ _, .inl rfl, ho1.rd⟩
  case round =>
    obtain ⟨k, g', c', hk, rfl, rfl, hok, hgk, hg', hold⟩ := hrel
    have HG := Lib.hid hg'
    clear hg'
    by_cases hlt : k < 8
    · have hcx : wr.cell? ⟨gc, k, none⟩ = some (.int .i64 ((cl xs frm).getD k 0)) := hgk.cell (hcc.out k hlt) (fun e => by injection e with e; have : gc = g := e; omega)
      have HT := Lib.hid (tabFold_succ xs size kind frm place step l k)
      have HLe := Lib.hid (tabFold_length xs size kind frm place step l k)
      have HPr := Lib.hid (tabFold_prefix xs size kind frm place step l k)
      have hll : ((List.range k).foldl (tabStep xs size kind frm place step) l).length ≤ 100000 := by have := HLe.out; omega
      generalize (List.range k).foldl (tabStep xs size kind frm place step) l = lk at *
      have HS : Hid (tabStep xs size kind frm place step lk k = if targetOf ((cl xs frm).getD k 0) ≠ 0 then addC xs size lk ⟨kind, frm, k, place + step * k, targetOf ((cl xs frm).getD k 0), false⟩ else lk) := rfl
      generalize (cl xs frm).getD k 0 = x at hcx HS
      have hm0 : 0 ≤ step * (k : Int) := Int.mul_nonneg hs0 (by omega)
      have hm1 : step * (k : Int) ≤ 64 := by
        have : step * (k : Int) ≤ 8 * 8 := Int.mul_le_mul hs1 (by omega) (by omega) (by omega)
        omega
      go_wp2_with fail
      refine (specTarget_any _ _).mono ?_
      rintro e w' ⟨rfl, rfl⟩
      generalize targetOf x = t at *
      by_cases h0 : t = 0
      · subst h0
        have hd : ((0 : Int) != 0) = false := by simp
        go_wp2_with fail
        go_roundw
        case rel =>
          have e : (List.range (k + 1)).foldl (tabStep xs size kind frm place step) l = lk := by rw [HT.out, HS.out]; simp
          exact ⟨k + 1, g', c', by omega, by go_num, by rw [e], by rw [e]; exact hok, hgk, HG.out, hold⟩
        case measure => simp [intOf]; omega
      · have hd : (t != 0) = true := by simpa using h0
        go_wp2_with fail
        refine (specAdd_any A n cb xs size g' c' lo wr.heap.size lk ⟨kind, frm, k, place + step * k, t, false⟩ wr hx.out hn hll hok (by have := hgk.size; omega)).mono ?_
        rintro e w2 ⟨g2, c2, rfl, ho2, hg2, hat2, hold2⟩
        go_wp2_with fail
        go_roundw
        case rel =>
          have e : (List.range (k + 1)).foldl (tabStep xs size kind frm place step) l = addC xs size lk ⟨kind, frm, k, place + step * k, t, false⟩ := by rw [HT.out, HS.out, if_pos h0]
          exact ⟨k + 1, g2, c2, by omega, by go_num, by rw [e], by rw [e]; exact ho2, grown_next hgk HG.out hg2, by have := HG.out; have := hgk.size; omega, old_next hold HPr.out (by have := hgk.size; omega) hg2 hold2⟩
        case measure => simp [intOf]; omega
    · go_wp2_with fail
      go_ret
      obtain rfl : k = 8 := by omega
      exact ⟨g', c', rfl, hok, grown_below b1 hgk, by have := HG.out; omega, hold⟩

theorem Ow.toV {w : World} {lo hi g n c : Nat} {xs : List Int} (h : Ow w lo hi (some ⟨g, 0, none⟩) n c xs) : OwV 2 1 w lo hi g n c (iv xs) := ⟨h.own, h.top g rfl⟩
theorem OwV.toI {w : World} {lo hi g n c : Nat} {xs : List Int} (h : OwV 2 1 w lo hi g n c (iv xs)) : Ow w lo hi (some ⟨g, 0, none⟩) n c xs := ⟨h.own, fun g' hg => by simp [Value.ownBlock] at hg; have := h.top; omega⟩
theorem iv_one (xs : List Int) (x : Int) : iv xs ++ [.int .i64 x] = iv (xs ++ [x]) := by simp [iv]

def isFirst (c : Cm) : Bool := c.good && (c.kind == 2 || c.kind == 6)
theorem firsts_step (l : List Cm) (k : Nat) (hk : k < l.length) : firstsC (l.take (k + 1)) = if isFirst (l.getD k cm0) then firstsC (l.take k) ++ [(l.getD k cm0).target] else firstsC (l.take k) := by
  unfold firstsC
  rw [List.take_succ_eq_append_getElem hk, List.filter_append, List.map_append, List.getD_eq_getElem?_getD, List.getElem?_eq_getElem hk]
  simp only [Option.getD_some]
  by_cases h : isFirst l[k] = true
  · rw [if_pos h]; unfold isFirst at h; simp [h]
  · rw [if_neg h]; unfold isFirst at h; simp [h]
theorem firsts_length (l : List Cm) : (firstsC l).length ≤ l.length := by
  unfold firstsC; rw [List.length_map]; exact List.length_filter_le _ _

/-- What is known of element k of a list of claims. -/
theorem cm_cells {w : World} {B : Nat} {g : Nat} {l : List Cm} (h : RdV 6 w B (some ⟨g, 0, none⟩) l.length (l.flatMap cmV)) {k : Nat} (hk : k < l.length) : ∀ j, j < 6 → w.cell? ⟨g, k * 6 + j, none⟩ = (cmV (l.getD k cm0))[j]? := by
  intro j hj
  obtain ⟨b, off, e, _, hc⟩ := h.2 (by omega)
  injection e with e
  injection e with e1 e2
  subst e1; subst e2
  have := hc (k * 6 + j) (by omega)
  rw [Nat.zero_add] at this
  rw [this, cm_cell hk hj]

set_option maxRecDepth 100000 in
set_option maxHeartbeats 4000000 in
theorem specFirsts_any (g cap : Nat) (l : List Cm) (w : World) (h : RdV 6 w w.heap.size (some ⟨g, 0, none⟩) l.length (l.flatMap cmV)) (hl : l.length ≤ 100000) :
    Calls Tryz.prog 155 #[.slice (some ⟨g, 0, none⟩) l.length cap] w (RetS w (firstsC l)) := by
  obtain ⟨i0, hi0, hz0, hz1, hz2⟩ := info_parts info2
  go_enter Tryz.func155, Tryz.ntmps155
  go_wp2_with fail
  go_loopw [3, 4] (fun v i wr => ∃ (k g' c' : Nat), k ≤ l.length ∧ i = .int .i64 k ∧ v = .slice (some ⟨g', 0, none⟩) (firstsC (l.take k)).length c' ∧ OwV 2 1 wr w.heap.size wr.heap.size g' (firstsC (l.take k)).length c' (iv (firstsC (l.take k))) ∧ Below w.heap.size w wr) (fun _ i _ => l.length - (intOf i).toNat)
  case atStart => exact ⟨0, w.heap.size, 0, Nat.zero_le _, rfl, rfl, emptyV 2 1 w _ _ _ (Nat.le_refl _) rfl (by simp), (Below.refl _ _).alloc (Nat.le_refl _) _⟩
  case round =>
    obtain ⟨k, g', c', hk, rfl, rfl, ho, hb⟩ := hrel
    by_cases hlt : k < l.length
    · have hce := cm_cells (h.below hb) hlt
      have HS := Lib.hid (firsts_step l k hlt)
      have HL := Lib.hid (firsts_length (l.take k))
      have hfl : (firstsC (l.take k)).length ≤ 100000 := by have := HL.out; simp at this; omega
      generalize firstsC (l.take k) = fs at *
      generalize l.getD k cm0 = x at *
      obtain ⟨xk, xf, xs', xp, xt, xg⟩ := x
      have e0 : wr.cell? ⟨g, k * 6, none⟩ = some (.int .i64 xk) := hce 0 (by omega)
      have e4 : wr.cell? ⟨g, k * 6 + 4, none⟩ = some (.int .i64 xt) := hce 4 (by omega)
      have e5 : wr.cell? ⟨g, k * 6 + 5, none⟩ = some (.bool xg) := hce 5 (by omega)
      clear hce
      have hs := hb.size
      cases hq : isFirst ⟨xk, xf, xs', xp, xt, xg⟩
      · have HE : Hid (firstsC (l.take (k + 1)) = fs) := by rw [HS.out, hq]; exact rfl
        have HQ := Lib.hid hq
        clear hq HS
        cases xg
        · go_wp2_with fail
          go_roundw
          case rel => exact ⟨k + 1, g', c', by omega, by go_num, by rw [HE.out], by rw [HE.out]; exact ho, hb⟩
          case measure => simp [intOf]; omega
        · have q2 : (xk == 2) = false := by have := HQ.out; simp [isFirst] at this; simpa using this.1
          have q6 : (xk == 6) = false := by have := HQ.out; simp [isFirst] at this; simpa using this.2
          go_wp2_with fail
          go_roundw
          case rel => exact ⟨k + 1, g', c', by omega, by go_num, by rw [HE.out], by rw [HE.out]; exact ho, hb⟩
          case measure => simp [intOf]; omega
      · have HE : Hid (firstsC (l.take (k + 1)) = fs ++ [xt]) := by rw [HS.out, hq]; exact rfl
        have HQ := Lib.hid hq
        clear hq HS
        have hxg : xg = true := by have := HQ.out; simp [isFirst] at this; exact this.1
        subst hxg
        have hk26 : xk = 2 ∨ xk = 6 := by have := HQ.out; simp [isFirst] at this; exact this
        rcases hk26 with rfl | rfl
        all_goals
          go_wp2_with (at_builtin; refine wpList_append_lit rfl (.tmp 33) (.tmp 39) 24 rfl 2 1 8 _ i0 Tryz.underlying24 hi0 hz0 hz1 hz2 rfl (by omega) (by omega) w.heap.size wr.heap.size g' fs.length c' _ rfl ho #[.int .i64 xt] 1 1 rfl rfl (by simp [Value.oneCell']) (by omega) (by omega) ?_; intro g2 cd w5 ho5 hgr hat _)
          go_roundw
          case rel =>
            refine ⟨k + 1, g2, cd, by omega, by go_num, by rw [HE.out]; simp, ?_, hb.grown hgr hb.size (fun q e => by cases e; exact ho.low)⟩
            rw [HE.out, ← iv_one, List.length_append]
            exact ho5
          case measure => simp [intOf]; omega
    · go_wp2_with fail
      go_ret
      obtain rfl : k = l.length := by omega
      rw [List.take_length] at ho ⊢
      exact ⟨g', _, c', rfl, ho.cap, ho.toI, hb⟩

theorem Rd.grown {w w' : World} {B n g : Nat} {A : Option Addr} {xs : List Int} (h : Rd w B A n xs) (hg : w.grownBy w' (some g)) (hB : B ≤ g) (hw : B ≤ w.heap.size) : Rd w' B A n xs :=
  h.keep fun p hp => World.cell?_of_block (w := w) (hg.block p.block (by omega) (fun e => by injection e with e; omega))

theorem shotFold_length (xs : List Int) (h : Hd) (l : List Cm) (k : Nat) : ((List.range k).foldl (shotStep xs h) l).length = l.length + k := by
  induction k with
  | zero => simp
  | succ k ih =>
    rw [List.range_succ, List.foldl_append]
    simp only [List.foldl_cons, List.foldl_nil, shotStep, addC_length, ih]
    omega
theorem shotFold_prefix (xs : List Int) (h : Hd) (l : List Cm) (k : Nat) : l <+: (List.range k).foldl (shotStep xs h) l := by
  induction k with
  | zero => exact List.prefix_refl _
  | succ k ih =>
    rw [List.range_succ, List.foldl_append]
    exact ih.trans (List.prefix_append _ _)
theorem shotFold_succ (xs : List Int) (h : Hd) (l : List Cm) (k : Nat) : (List.range (k + 1)).foldl (shotStep xs h) l = shotStep xs h ((List.range k).foldl (shotStep xs h) l) k := by
  rw [List.range_succ, List.foldl_append]; rfl

set_option maxRecDepth 100000 in
set_option maxHeartbeats 4000000 in
theorem specShotsC_any (A : Option Addr) (n cb B : Nat) (xs : List Int) (h : Hd) (g cap lo hi : Nat) (l : List Cm) (w : World) (hr : Rd w B A n xs) (hn : n ≤ 2097152) (hl : l.length ≤ 80000)
    (ho : OwV 115 6 w lo hi g l.length cap (l.flatMap cmV)) (hlo : lo ≤ w.heap.size) (hB : B ≤ lo) :
    Calls Tryz.prog 154 #[.slice A n cb, hdV h, .slice (some ⟨g, 0, none⟩) l.length cap] w (RetGrow w lo g l (shotsC xs h l)) := by
  have hx := Lib.hid hr.len
  have hgl := ho.lt
  have hlg := ho.low
  obtain ⟨s, f, r, u, m⟩ := h
  unfold hdV
  have hal : w.grownBy (w.alloc (.cells #[.int .i64 s, .int .i64 f, .int .i64 r, .int .i64 u, .int .i64 m] 33)) (some g) := ⟨rfl, rfl, rfl, by simp, fun k hk _ => Below.heap_alloc _ _ _ hk⟩
  have ho0 := ho.keep (w' := w.alloc (.cells #[.int .i64 s, .int .i64 f, .int .i64 r, .int .i64 u, .int .i64 m] 33)) (Below.heap_alloc _ _ _ hgl)
  by_cases hm : m = 0
  · subst hm
    have hd : ((0 : Int) == 0) = true := by simp
    go_enter Tryz.func154, Tryz.ntmps154
    go_wp2_with fail
    go_ret
    exact ⟨g, cap, by simp [shotsC], ⟨by simpa [shotsC] using ho0.own, by simp; omega⟩, hal, .inl rfl, ⟨ho0.len, fun _ => ⟨g, 0, rfl, by simp; omega, fun j hj => by rw [Nat.zero_add]; exact ho0.cell hj⟩⟩⟩
  have hd : (m == 0) = false := by simpa using hm
  have HC : Hid (shotsC xs ⟨s, f, r, u, m⟩ l = if goodB xs s l ⟨5, 0, 0, 0, u, false⟩ = true then (List.range (shotsL xs).length).foldl (shotStep xs ⟨s, f, r, u, m⟩) (addC xs s l ⟨5, 0, 0, 0, u, false⟩) else addC xs s l ⟨5, 0, 0, 0, u, false⟩) := by
    unfold shotsC; rw [if_neg hm]; exact rfl
  have c0 : ∀ j : Nat, (w.alloc (.cells #[.int .i64 s, .int .i64 f, .int .i64 r, .int .i64 u, .int .i64 m] 33)).cell? ⟨w.heap.size, j, none⟩ = (#[.int .i64 s, .int .i64 f, .int .i64 r, .int .i64 u, .int .i64 m] : Array Value)[j]? := fun j => World.cell?_alloc_new _ _ _ _
  have C0 := Lib.hid c0
  clear c0
  go_enter Tryz.func154, Tryz.ntmps154
  go_wp2_with fail
  refine (specAdd_any A n cb xs s g cap lo hi l ⟨5, 0, 0, 0, u, false⟩ _ hx.out hn (by omega) ho0 (by simp; omega)).mono ?_
  rintro e w1 ⟨g1, c1, rfl, ho1, hg1, hat1, hold1⟩
  have hw01 : w.grownBy w1 (some g) := grown_trans hal hg1
  have hr1 : Rd w1 B A n xs := hr.grown hw01 (by omega) (by omega)
  have hsz0 : (w.alloc (.cells #[.int .i64 s, .int .i64 f, .int .i64 r, .int .i64 u, .int .i64 m] 33)).heap.size = w.heap.size + 1 := by simp
  have HZ := Lib.hid hsz0
  rw [hsz0] at hat1
  have hs1 : w.heap.size + 1 ≤ w1.heap.size := by have := hg1.size; omega
  have hbx : Hid (∀ j : Nat, w1.cell? ⟨w.heap.size, j, none⟩ = (#[.int .i64 s, .int .i64 f, .int .i64 r, .int .i64 u, .int .i64 m] : Array Value)[j]?) := fun j =>
    (World.cell?_of_block (hg1.block w.heap.size (by have := HZ.out; omega) (fun e => by injection e with e; omega))).trans (C0.out j)
  clear hsz0 C0 hg1 ho0 hal
  go_wp2_with fail
  refine (specShots_any A n cb xs w1 (hr1.more (by omega)) hn).mono ?_
  rintro e w2 ⟨gs, cs, rfl, hos, b2⟩
  have hs2 := b2.size
  have hgl1 := ho1.lt
  have hgsl := hos.low
  have hgst := hos.lt
  have ho2 : OwV 115 6 w2 lo w2.heap.size g1 (addC xs s l ⟨5, 0, 0, 0, u, false⟩).length c1 ((addC xs s l ⟨5, 0, 0, 0, u, false⟩).flatMap cmV) := ⟨(ho1.keep (b2.block g1 hgl1)).own, by omega⟩
  have HL := Lib.hid (addC_length xs s l ⟨5, 0, 0, 0, u, false⟩)
  have hll : (addC xs s l ⟨5, 0, 0, 0, u, false⟩).length ≤ 80001 := by have := HL.out; omega
  have hbx2 : Hid (∀ j : Nat, w2.cell? ⟨w.heap.size, j, none⟩ = (#[.int .i64 s, .int .i64 f, .int .i64 r, .int .i64 u, .int .i64 m] : Array Value)[j]?) := fun j => (b2.cell (p := ⟨w.heap.size, j, none⟩) (by show w.heap.size < _; omega)).trans (hbx.out j)
  have hlg1 := ho1.low
  have hold2 : RdV 6 w2 w2.heap.size (some ⟨g, 0, none⟩) l.length (l.flatMap cmV) := (hold1.below b2).more hs2
  have HPr : Hid (l <+: addC xs s l ⟨5, 0, 0, 0, u, false⟩) := List.prefix_append _ _
  have hw02 : w.grownBy w2 (some g) := ⟨b2.os.trans hw01.os, b2.tape.trans hw01.tape, b2.output.trans hw01.output, Nat.le_trans hw01.size b2.size, fun k hk hne => (b2.block k (Nat.lt_of_lt_of_le hk hw01.size)).trans (hw01.block k hk hne)⟩
  have h4 := shotsL_length xs
  have HSC := Lib.hid (fun (k : Nat) (hk : k < (shotsL xs).length) => show w2.cell? ⟨gs, k * 2 + 1, none⟩ = some (.int .i64 ((shotsL xs).getD k (0, 0)).2) by rw [hos.cell (by omega), sh_cell hk (by omega)]; rfl)
  clear hbx b2 hw01 ho1 hos HL
  have HX1 := Lib.hid hx.out
  generalize hl0 : addC xs s l ⟨5, 0, 0, 0, u, false⟩ = l0 at *
  have HL0 := Lib.hid hl0
  clear hl0
  cases hq : goodB xs s l ⟨5, 0, 0, 0, u, false⟩
  · have HE : Hid (shotsC xs ⟨s, f, r, u, m⟩ l = l0) := by rw [HC.out, hq]; simp [Hid]
    clear HC hq
    go_wp2_with fail
    go_loopw [2, 9] (fun v i wr => i = .int .i64 0 ∧ v = .slice (some ⟨g1, 0, none⟩) l0.length c1 ∧ wr = w2) (fun _ _ _ => 0)
    case atStart => exact ⟨rfl, rfl, rfl⟩
    case round =>
      obtain ⟨rfl, rfl, rfl⟩ := hrel
      by_cases h0 : (0 : Nat) < (shotsL xs).length
      · go_wp2_with fail
        go_ret
        exact ⟨g1, c1, by rw [HE.out]; rfl, by rw [HE.out]; exact ho2, hw02, by omega, hold2⟩
      · have h0' : (shotsL xs).length = 0 := by omega
        have hd0 : decide (0 < (shotsL xs).length) = false := by simp [h0']
        clear h0 h0'
        go_wp2_with fail
        go_ret
        exact ⟨g1, c1, by rw [HE.out]; rfl, by rw [HE.out]; exact ho2, hw02, by omega, hold2⟩
  · have HE : Hid (shotsC xs ⟨s, f, r, u, m⟩ l = (List.range (shotsL xs).length).foldl (shotStep xs ⟨s, f, r, u, m⟩) l0) := by rw [HC.out, hq]; simp [Hid]
    clear HC hq
    go_wp2_with fail
    go_loopw [2, 9] (fun v i wr => ∃ (k g' c' : Nat), k ≤ (shotsL xs).length ∧ i = .int .i64 k ∧ v = .slice (some ⟨g', 0, none⟩) ((List.range k).foldl (shotStep xs ⟨s, f, r, u, m⟩) l0).length c' ∧
      OwV 115 6 wr lo wr.heap.size g' ((List.range k).foldl (shotStep xs ⟨s, f, r, u, m⟩) l0).length c' (((List.range k).foldl (shotStep xs ⟨s, f, r, u, m⟩) l0).flatMap cmV) ∧ w2.grownBy wr (some g1) ∧ (g' = g1 ∨ w2.heap.size ≤ g') ∧ RdV 6 wr wr.heap.size (some ⟨g, 0, none⟩) l.length (l.flatMap cmV)) (fun _ i _ => (shotsL xs).length - (intOf i).toNat)
    case atStart => exact ⟨0, g1, c1, Nat.zero_le _, rfl, rfl, ho2, grown_refl _ _, .inl rfl, hold2⟩
    case round =>
      obtain ⟨k, g', c', hk, rfl, rfl, hok, hgk, hg', hold⟩ := hrel
      have HG := Lib.hid hg'
      clear hg'
      by_cases hlt : k < (shotsL xs).length
      · have hcs : wr.cell? ⟨gs, k * 2 + 1, none⟩ = some (.int .i64 ((shotsL xs).getD k (0, 0)).2) := hgk.cell (HSC.out k hlt) (fun e => by injection e with e; have : gs = g1 := e; omega)
        have hb0 : wr.cell? ⟨w.heap.size, 0, none⟩ = some (.int .i64 s) := hgk.cell (hbx2.out 0) (fun e => by injection e with e; have : w.heap.size = g1 := e; omega)
        have hb3 : wr.cell? ⟨w.heap.size, 3, none⟩ = some (.int .i64 u) := hgk.cell (hbx2.out 3) (fun e => by injection e with e; have : w.heap.size = g1 := e; omega)
        have HT := Lib.hid (shotFold_succ xs ⟨s, f, r, u, m⟩ l0 k)
        have HLe := Lib.hid (shotFold_length xs ⟨s, f, r, u, m⟩ l0 k)
        have HPk := Lib.hid (HPr.out.trans (shotFold_prefix xs ⟨s, f, r, u, m⟩ l0 k))
        have hlk : ((List.range k).foldl (shotStep xs ⟨s, f, r, u, m⟩) l0).length ≤ 100000 := by have := HLe.out; omega
        generalize (List.range k).foldl (shotStep xs ⟨s, f, r, u, m⟩) l0 = lk at *
        have HS : Hid (shotStep xs ⟨s, f, r, u, m⟩ lk k = addC xs s lk ⟨6, u, k, 0, ((shotsL xs).getD k (0, 0)).2, false⟩) := rfl
        generalize ((shotsL xs).getD k (0, 0)).2 = x at hcs HS
        go_wp2_with fail
        have hlow : lo ≤ wr.heap.size := by have := hgk.size; omega
        have n1 : w.heap.size < wr.heap.size := by have := hgk.size; omega
        have n2 : gs < wr.heap.size := by have := hgk.size; omega
        have n3 : some w.heap.size ≠ some g' := fun e => by injection e with e; have := HG.out; omega
        have n4 : some gs ≠ some g' := fun e => by injection e with e; have := HG.out; omega
        go_region_held3 (fun w' => w'.cell? ⟨gs, k * 2 + 1, none⟩ = some (.int .i64 x) ∧ w'.cell? ⟨w.heap.size, 0, none⟩ = some (.int .i64 s) ∧ w'.cell? ⟨w.heap.size, 3, none⟩ = some (.int .i64 u))
          (first
            | go_keep
            | (go_split_ands
               refine ⟨?_, ?_, ?_⟩
               · (rw [hg3.cell_far _ n2 n4]; assumption)
               · (rw [hg3.cell_far _ n1 n3]; assumption)
               · (rw [hg3.cell_far _ n1 n3]; assumption)))
          ((go_at_call 152; refine (specAdd_any A n cb xs s g' c' lo wr.heap.size lk ⟨6, u, k, 0, x, false⟩ wr.drew HX1.out hn hlk hok.drew hlow).mono ?_; rintro e w3 ⟨g3, c3, rfl, ho3, hg3, hat3, hold3⟩))
        go_wp2_with fail
        go_roundw
        case rel =>
          have e : (List.range (k + 1)).foldl (shotStep xs ⟨s, f, r, u, m⟩) l0 = addC xs s lk ⟨6, u, k, 0, x, false⟩ := by rw [HT.out, HS.out]
          have hgd : wr.grownBy w3 (some g') := ⟨hg3.os, hg3.tape, hg3.output, hg3.size, hg3.block⟩
          have hat3' : g3 = g' ∨ wr.heap.size ≤ g3 := hat3
          exact ⟨k + 1, g3, c3, by omega, by go_num, by rw [e], by rw [e]; exact ho3, grown_next hgk HG.out hgd, by have := HG.out; have := hgk.size; omega, old_next hold HPk.out (by have := hgk.size; omega) hgd hold3⟩
        case measure => simp [intOf]; omega
      · obtain rfl : k = (shotsL xs).length := by omega
        have hdl : decide ((shotsL xs).length < (shotsL xs).length) = false := by simp
        go_wp2_with fail
        go_ret
        exact ⟨g', c', by rw [HE.out]; rfl, by rw [HE.out]; exact hok, grown_next hw02 (by omega) hgk, by have := HG.out; omega, hold⟩

/-- What each claim keeps to. -/
structure Ok6 (xs : List Int) (c : Cm) : Prop where
  lead : c.good = true → (c.kind = 1 ∧ c.target = 0) ∨ thereB xs c.target = true
  place0 : 0 ≤ c.place
  place1 : c.place ≤ 63
  slot0 : 0 ≤ c.slot
  slot1 : c.slot ≤ 7
  kind0 : 1 ≤ c.kind
  kind1 : c.kind ≤ 8
  second : c.kind = 7 → c.place ≤ 56
  from_ : c.kind = 4 ∨ c.kind = 7 ∨ c.kind = 8 → thereB xs c.frm = true
  shot : c.kind = 6 → c.slot < (shotsL xs).length

theorem goodB_there {xs : List Int} {size : Int} {l : List Cm} {c : Cm} (h : goodB xs size l c = true) : thereB xs c.target = true := by
  simp [goodB] at h
  exact h.1.1
theorem addC_all {xs : List Int} {size : Int} {l : List Cm} {c : Cm} (P : Cm → Prop) (hl : ∀ x ∈ l, P x) (hc : P { c with good := goodB xs size l c }) : ∀ x ∈ addC xs size l c, P x := by
  intro x hx
  rw [addC, List.mem_append] at hx
  rcases hx with hx | hx
  · exact hl x hx
  · rw [List.mem_singleton] at hx; subst hx; exact hc
/-- A claim that has just been judged. -/
theorem ok_judged {xs : List Int} {size : Int} {l : List Cm} {c : Cm} (p0 : 0 ≤ c.place) (p1 : c.place ≤ 63) (s0 : 0 ≤ c.slot) (s1 : c.slot ≤ 7) (k0 : 1 ≤ c.kind) (k1 : c.kind ≤ 8) (h7 : c.kind = 7 → c.place ≤ 56)
    (hf : c.kind = 4 ∨ c.kind = 7 ∨ c.kind = 8 → thereB xs c.frm = true) (h6 : c.kind = 6 → c.slot < (shotsL xs).length) : Ok6 xs { c with good := goodB xs size l c } :=
  ⟨fun hg => .inr (goodB_there hg), p0, p1, s0, s1, k0, k1, h7, hf, h6⟩

theorem foldl_all {α β : Type} (P : β → Prop) (Q : α → Prop) (f : List β → α → List β) (hf : ∀ l a, (∀ x ∈ l, P x) → Q a → ∀ x ∈ f l a, P x) : ∀ (ys : List α) (l : List β), (∀ x ∈ l, P x) → (∀ a ∈ ys, Q a) → ∀ x ∈ ys.foldl f l, P x
  | [], _, hl, _ => hl
  | a :: ys, l, hl, hq => foldl_all P Q f hf ys (f l a) (hf l a hl (hq a (by simp))) (fun b hb => hq b (by simp [hb]))
theorem foldl_length {α β : Type} (f : List β → α → List β) (k : Nat) (hf : ∀ l a, (f l a).length ≤ l.length + k) : ∀ (ys : List α) (l : List β), (ys.foldl f l).length ≤ l.length + k * ys.length
  | [], l => by simp
  | a :: ys, l => by
    have h1 := foldl_length f k hf ys (f l a)
    have h2 := hf l a
    rw [List.foldl_cons, List.length_cons, Nat.mul_succ]
    omega
theorem foldl_prefix {α β : Type} (f : List β → α → List β) (hf : ∀ l a, l <+: f l a) : ∀ (ys : List α) (l : List β), l <+: ys.foldl f l
  | [], l => List.prefix_refl l
  | a :: ys, l => (hf l a).trans (foldl_prefix f hf ys (f l a))

theorem ok_tab {xs : List Int} {size : Int} {l : List Cm} {kind : Int} {frm : Nat} {place step : Int} (hl : ∀ x ∈ l, Ok6 xs x) (hf : thereB xs frm = true) (h0 : 0 ≤ place) (hs : 0 ≤ step) (h63 : place + step * 7 ≤ 63) (hk : kind = 4 ∨ kind = 7 ∨ kind = 8) (h7 : kind = 7 → place + step * 7 ≤ 56) :
    ∀ x ∈ tabC xs size l kind frm place step, Ok6 xs x := by
  unfold tabC
  refine foldl_all (Ok6 xs) (fun i => i < 8) _ ?_ (List.range 8) l hl (fun i hi => by simpa using hi)
  intro l i hl hi
  unfold tabStep
  split
  · have hm : step * (i : Int) ≤ step * 7 := Int.mul_le_mul_of_nonneg_left (by omega) hs
    have hm0 : 0 ≤ step * (i : Int) := Int.mul_nonneg hs (by omega)
    refine addC_all _ hl (ok_judged ?_ ?_ ?_ ?_ ?_ ?_ ?_ ?_ ?_) <;> simp only
    · omega
    · omega
    · omega
    · omega
    · omega
    · omega
    · intro h; have := h7 h; omega
    · intro _; exact hf
    · intro h; omega
  · exact hl

section
variable {xs : List Int} {h : Hd}
theorem ok_c0 : ∀ x ∈ ([⟨1, 0, 0, 0, 0, true⟩] : List Cm), Ok6 xs x := by
  intro x hx
  rw [List.mem_singleton] at hx
  subst hx
  exact ⟨fun _ => .inl ⟨rfl, rfl⟩, by simp, by simp, by simp, by simp, by simp, by simp, by simp, by simp, by simp⟩
theorem ok_c1 : ∀ x ∈ c1C xs h, Ok6 xs x := addC_all _ ok_c0 (ok_judged (by simp) (by simp) (by simp) (by simp) (by simp) (by simp) (by simp) (by simp) (by simp))
theorem ok_c2 : ∀ x ∈ c2C xs h, Ok6 xs x := addC_all _ ok_c1 (ok_judged (by simp) (by simp) (by simp) (by simp) (by simp) (by simp) (by simp) (by simp) (by simp))
theorem ok_c3 : ∀ x ∈ c3C xs h, Ok6 xs x := by
  unfold c3C
  split
  · rename_i hg
    have ht := goodB_there hg
    have := there_lt ht
    simp only at ht this
    exact ok_tab ok_c2 (by rw [Int.toNat_of_nonneg (by omega)]; exact ht) (by omega) (by omega) (by omega) (by omega) (by omega)
  · exact ok_c2
theorem ok_c4 : ∀ x ∈ c4C xs h, Ok6 xs x := by
  unfold c4C shotsC
  split
  · exact ok_c3
  · have h5 : ∀ x ∈ addC xs h.size (c3C xs h) ⟨5, 0, 0, 0, h.shots, false⟩, Ok6 xs x := addC_all _ ok_c3 (ok_judged (by simp) (by simp) (by simp) (by simp) (by simp) (by simp) (by simp) (by simp) (by simp))
    split
    · refine foldl_all (Ok6 xs) (fun i => i < (shotsL xs).length) _ ?_ _ _ h5 (fun i hi => by simpa using hi)
      intro l i hl hi
      have := shotsL_length xs
      refine addC_all _ hl (ok_judged ?_ ?_ ?_ ?_ ?_ ?_ ?_ ?_ ?_) <;> simp <;> omega
    · exact h5
/-- The first tables are there. -/
theorem firsts_there {l : List Cm} (hl : ∀ x ∈ l, Ok6 xs x) : ∀ f ∈ firstsC l, thereB xs f = true := by
  intro f hf
  unfold firstsC at hf
  rw [List.mem_map] at hf
  obtain ⟨c, hc, rfl⟩ := hf
  rw [List.mem_filter] at hc
  obtain ⟨hm, hg⟩ := hc
  simp at hg
  rcases (hl c hm).lead hg.1 with h1 | h1
  · omega
  · exact h1
theorem ok_c5 : ∀ x ∈ c5C xs h, Ok6 xs x := by
  unfold c5C
  refine foldl_all (Ok6 xs) (fun f => thereB xs f = true) _ ?_ _ _ ok_c4 (firsts_there ok_c4)
  intro l f hl hf
  have := there_lt hf
  exact ok_tab hl (by rw [Int.toNat_of_nonneg (by omega)]; exact hf) (by omega) (by omega) (by omega) (by omega) (by omega)
theorem ok_c6 : ∀ x ∈ c6C xs h, Ok6 xs x := by
  unfold c6C
  refine foldl_all (Ok6 xs) (Ok6 xs) _ ?_ _ _ ok_c5 ok_c5
  intro l c hl hc
  unfold datStep
  split
  · rename_i hk
    rcases hc.lead hk.2 with h1 | h1
    · omega
    · have := there_lt h1
      have h7 := hc.second hk.1
      have h0 := hc.place0
      exact ok_tab hl (by rw [Int.toNat_of_nonneg (by omega)]; exact h1) h0 (by omega) (by omega) (by omega) (by omega)
  · exact hl
theorem c3_length : (c3C xs h).length ≤ 11 := by
  unfold c3C
  have h2 : (c2C xs h).length = 3 := by simp [c2C, c1C, addC]
  split
  · have := tabC_length xs h.size (c2C xs h) 4 h.refs.toNat 0 0; omega
  · omega
theorem c4_length : (c4C xs h).length ≤ 16 := by
  unfold c4C shotsC
  have h3 := c3_length (xs := xs) (h := h)
  split
  · omega
  · have h5 := addC_length xs h.size (c3C xs h) ⟨5, 0, 0, 0, h.shots, false⟩
    split
    · have := foldl_length (shotStep xs h) 1 (fun l a => by rw [shotStep, addC_length]; omega) (List.range (shotsL xs).length) (addC xs h.size (c3C xs h) ⟨5, 0, 0, 0, h.shots, false⟩)
      have := shotsL_length xs
      simp at *
      omega
    · omega
theorem c5_length : (c5C xs h).length ≤ 144 := by
  unfold c5C
  have h4 := c4_length (xs := xs) (h := h)
  have := foldl_length (secStep xs h) 8 (fun l a => tabC_length _ _ _ _ _ _ _) (firstsC (c4C xs h)) (c4C xs h)
  have hf : (firstsC (c4C xs h)).length ≤ (c4C xs h).length := by unfold firstsC; rw [List.length_map]; exact List.length_filter_le _ _
  omega
theorem datStep_length (l : List Cm) (c : Cm) : (datStep xs h l c).length ≤ l.length + 8 := by
  unfold datStep; split
  · exact tabC_length _ _ _ _ _ _ _
  · omega
theorem c6_length : (c6C xs h).length ≤ 1296 := by
  unfold c6C
  have h5 := c5_length (xs := xs) (h := h)
  have := foldl_length (datStep xs h) 8 datStep_length (c5C xs h) (c5C xs h)
  omega
end
theorem claims_ok (xs : List Int) : ∀ x ∈ claimsC xs, Ok6 xs x := ok_c6
theorem claims_length (xs : List Int) : (claimsC xs).length ≤ 1296 := c6_length

/-- It answers a new list of claims. -/
def RetCm (w : World) (l : List Cm) (e : Ending) (w' : World) : Prop :=
  ∃ g c, e = .returned (.slice (some ⟨g, 0, none⟩) l.length c) ∧ OwV 115 6 w' w.heap.size w'.heap.size g l.length c (l.flatMap cmV) ∧ Below w.heap.size w w'

theorem below_of_grown {w w3 w4 : World} {g0 : Nat} (hb : Below w.heap.size w w3) (hg : w3.grownBy w4 (some g0)) (h0 : w.heap.size ≤ g0) : Below w.heap.size w w4 := hb.grown hg hb.size (fun k e => by cases e; exact h0)

theorem take_fold {α β : Type} (f : β → α → β) (l : List α) (z : β) (k : Nat) (hk : k < l.length) : (l.take (k + 1)).foldl f z = f ((l.take k).foldl f z) l[k] := by
  rw [List.take_succ_eq_append_getElem hk, List.foldl_append]; rfl

theorem datStep_prefix {xs : List Int} {h : Hd} (l : List Cm) (c : Cm) : l <+: datStep xs h l c := by
  unfold datStep; split
  · exact tabFold_prefix _ _ _ _ _ _ _ _
  · exact List.prefix_refl _

set_option maxRecDepth 100000 in
set_option maxHeartbeats 8000000 in
theorem specClaims_any (A : Option Addr) (n cb : Nat) (xs : List Int) (w : World) (hr : Rd w w.heap.size A n xs) (hn : n ≤ 2097152) (hh : hasHead xs = true) :
    Calls Tryz.prog 138 #[.slice A n cb] w (RetCm w (claimsC xs)) := by
  have hx := Lib.hid hr.len
  have HH := Lib.hid hh
  have HI := Lib.hid (headIn_yes hh)
  have hmany := manyN_le (hasHead_img hh)
  clear hh
  go_enter Tryz.func138, Tryz.ntmps138
  go_wp2_with fail
  refine (specHeadIn_any _ _ _ xs _ hr hn).mono ?_
  rintro e w1 ⟨rfl, b1⟩
  rw [HI.out]
  have HC : Hid (claimsC xs = c6C xs (headOf xs)) := rfl
  generalize headOf xs = h at *
  obtain ⟨s, f, r, u, m⟩ := h
  unfold hdV
  have b2 := b1.alloc b1.size (.cells #[.int .i64 s, .int .i64 f, .int .i64 r, .int .i64 u, .int .i64 m] 33)
  have b3 := b2.alloc b2.size (.cells #[.int .i64 1, .int .i64 0, .int .i64 0, .int .i64 0, .int .i64 0, .bool true] 115)
  have o3 := madeV 115 6 (w1.alloc (.cells #[.int .i64 s, .int .i64 f, .int .i64 r, .int .i64 u, .int .i64 m] 33)) #[.int .i64 1, .int .i64 0, .int .i64 0, .int .i64 0, .int .i64 0, .bool true] 1 (w1.heap.size + 1) (w1.heap.size + 2) (w1.heap.size + 1) (by simp) (by simp) (by omega) (by omega) (by rfl)
  have o3' : OwV 115 6 ((w1.alloc (.cells #[.int .i64 s, .int .i64 f, .int .i64 r, .int .i64 u, .int .i64 m] 33)).alloc (.cells #[.int .i64 1, .int .i64 0, .int .i64 0, .int .i64 0, .int .i64 0, .bool true] 115)) (w1.heap.size + 1) (w1.heap.size + 2) (w1.heap.size + 1) ([⟨1, 0, 0, 0, 0, true⟩] : List Cm).length 1 (([⟨1, 0, 0, 0, 0, true⟩] : List Cm).flatMap cmV) := by
    simpa [cmV] using o3
  have hbx : ∀ j : Nat, ((w1.alloc (.cells #[.int .i64 s, .int .i64 f, .int .i64 r, .int .i64 u, .int .i64 m] 33)).alloc (.cells #[.int .i64 1, .int .i64 0, .int .i64 0, .int .i64 0, .int .i64 0, .bool true] 115)).cell? ⟨w1.heap.size, j, none⟩ = (#[.int .i64 s, .int .i64 f, .int .i64 r, .int .i64 u, .int .i64 m] : Array Value)[j]? := fun j => by
    rw [World.cell?_alloc_lt _ _ _ (by simp), World.cell?_alloc_new]
  have hz3 : ((w1.alloc (.cells #[.int .i64 s, .int .i64 f, .int .i64 r, .int .i64 u, .int .i64 m] 33)).alloc (.cells #[.int .i64 1, .int .i64 0, .int .i64 0, .int .i64 0, .int .i64 0, .bool true] 115)).heap.size = w1.heap.size + 2 := by simp
  have hr3 := hr.below b3
  clear o3 b2
  have hb1 := b1.size
  go_wp2_with fail
  generalize ((w1.alloc (.cells #[.int .i64 s, .int .i64 f, .int .i64 r, .int .i64 u, .int .i64 m] 33)).alloc (.cells #[.int .i64 1, .int .i64 0, .int .i64 0, .int .i64 0, .int .i64 0, .bool true] 115)) = w3 at *
  have BX := Lib.hid hbx
  have HZ := Lib.hid hz3
  have hz3' : w1.heap.size + 2 ≤ w3.heap.size := by omega
  clear hbx hz3
  -- what stands in the frame stays
  have keepB : Hid (∀ wk : World, w3.grownBy wk (some (w1.heap.size + 1)) → ∀ j : Nat, wk.cell? ⟨w1.heap.size, j, none⟩ = (#[.int .i64 s, .int .i64 f, .int .i64 r, .int .i64 u, .int .i64 m] : Array Value)[j]?) := fun wk hk j =>
    (World.cell?_of_block (w := w3) (hk.block w1.heap.size (by omega) (fun e => by injection e with e; omega))).trans (BX.out j)
  have keepR : Hid (∀ wk : World, w3.grownBy wk (some (w1.heap.size + 1)) → Rd wk w.heap.size A n xs) := fun wk hk => hr3.grown hk (by omega) (by omega)
  refine (specAdd_any A n cb xs s (w1.heap.size + 1) 1 (w1.heap.size + 1) (w1.heap.size + 2) [⟨1, 0, 0, 0, 0, true⟩] ⟨2, 0, 0, 0, f, false⟩ w3 hx.out hn (by simp) o3' (by omega)).mono ?_
  rintro e w4 ⟨g1, c1, rfl, o4, F4, at4, _⟩
  have HL1 : Hid (addC xs s [⟨1, 0, 0, 0, 0, true⟩] ⟨2, 0, 0, 0, f, false⟩ = c1C xs ⟨s, f, r, u, m⟩) := rfl
  have hl1 : (addC xs s [⟨1, 0, 0, 0, 0, true⟩] ⟨2, 0, 0, 0, f, false⟩).length ≤ 2 := by rw [addC_length]; simp
  generalize addC xs s [⟨1, 0, 0, 0, 0, true⟩] ⟨2, 0, 0, 0, f, false⟩ = l1 at *
  have AT4 := Lib.hid at4
  clear at4 o3'
  have s4 := F4.size
  have q0 : w4.cell? ⟨w1.heap.size, 0, none⟩ = some (.int .i64 s) := keepB.out w4 F4 0
  have q2 : w4.cell? ⟨w1.heap.size, 2, none⟩ = some (.int .i64 r) := keepB.out w4 F4 2
  go_wp2_with fail
  refine (specAdd_any A n cb xs s g1 c1 (w1.heap.size + 1) w4.heap.size l1 ⟨3, 0, 0, 0, r, false⟩ w4 hx.out hn (by omega) o4 (by omega)).mono ?_
  rintro e w5 ⟨g2, c2, rfl, o5, G5, at5, _⟩
  have F5 := grown_next F4 AT4.out G5
  have AT5 : Hid (g2 = w1.heap.size + 1 ∨ w3.heap.size ≤ g2) := by show _ ∨ _; have := AT4.out; omega
  have hl2 : (addC xs s l1 ⟨3, 0, 0, 0, r, false⟩).length ≤ 3 := by rw [addC_length]; omega
  have HL2 : Hid (c3C xs ⟨s, f, r, u, m⟩ = if goodB xs s l1 ⟨3, 0, 0, 0, r, false⟩ = true then tabC xs s (addC xs s l1 ⟨3, 0, 0, 0, r, false⟩) 4 r.toNat 0 0 else addC xs s l1 ⟨3, 0, 0, 0, r, false⟩) := by
    rw [HL1.out]; exact rfl
  have HG2 := Lib.hid (goodB_there (xs := xs) (size := s) (l := l1) (c := ⟨3, 0, 0, 0, r, false⟩))
  generalize addC xs s l1 ⟨3, 0, 0, 0, r, false⟩ = l2 at *
  clear at5 q0 q2 G5 F4 o4 s4
  have s5 := F5.size
  cases hq : goodB xs s l1 ⟨3, 0, 0, 0, r, false⟩
  case' false =>
    have HL3 : Hid (l2 = c3C xs ⟨s, f, r, u, m⟩) := by rw [HL2.out, hq]; exact rfl
    obtain ⟨w6, rfl⟩ : ∃ x, x = w5 := ⟨_, rfl⟩
    obtain ⟨g3, rfl⟩ : ∃ x, x = g2 := ⟨_, rfl⟩
    obtain ⟨c3, rfl⟩ : ∃ x, x = c2 := ⟨_, rfl⟩
    obtain ⟨l3, rfl⟩ : ∃ x, x = l2 := ⟨_, rfl⟩
    have F6 := F5
    have AT6 := AT5
    have o6 := o5
    have hl3 : l3.length ≤ 11 := by omega
  case' true =>
    have ht := HG2.out hq
    simp only at ht
    obtain ⟨t1, t2⟩ := there_lt ht
    obtain ⟨ρ, rfl⟩ := Int.eq_ofNat_of_zero_le (show 0 ≤ r by omega)
    have q0 : w5.cell? ⟨w1.heap.size, 0, none⟩ = some (.int .i64 s) := keepB.out w5 F5 0
    have q2 : w5.cell? ⟨w1.heap.size, 2, none⟩ = some (.int .i64 ρ) := keepB.out w5 F5 2
    go_wp2_with fail
    refine (specTab_any A n cb xs s g2 c2 (w1.heap.size + 1) w5.heap.size l2 4 ρ 0 0 w5 ((keepR.out w5 F5).more (by omega)) hn (by omega) o5 (by omega) (by omega) (by omega) (by omega) (by omega) (by omega)).mono ?_
    rintro e w6 ⟨g3, c3, rfl, o6, G6, at6, _⟩
    have F6 := grown_next F5 AT5.out G6
    have AT6 : Hid (g3 = w1.heap.size + 1 ∨ w3.heap.size ≤ g3) := by show _ ∨ _; have := AT5.out; omega
    have hl3 : (tabC xs s l2 4 ρ 0 0).length ≤ 11 := by have := tabC_length xs s l2 4 ρ 0 0; omega
    have HL3 : Hid (tabC xs s l2 4 ρ 0 0 = c3C xs ⟨s, f, ρ, u, m⟩) := by rw [HL2.out, hq]; exact rfl
    generalize tabC xs s l2 4 ρ 0 0 = l3 at *
    generalize hρ : (ρ : Int) = r at *
    clear at6 G6 q0 q2 ht t1 t2 hρ
  all_goals
    clear HL2 HG2 hq o5 F5 AT5 s5 hl2 HL1 hl1 AT4
    have s6 := F6.size
    have q0 : w6.cell? ⟨w1.heap.size, 0, none⟩ = some (.int .i64 s) := keepB.out w6 F6 0
    have q1 : w6.cell? ⟨w1.heap.size, 1, none⟩ = some (.int .i64 f) := keepB.out w6 F6 1
    have q2 : w6.cell? ⟨w1.heap.size, 2, none⟩ = some (.int .i64 r) := keepB.out w6 F6 2
    have q3 : w6.cell? ⟨w1.heap.size, 3, none⟩ = some (.int .i64 u) := keepB.out w6 F6 3
    have q4 : w6.cell? ⟨w1.heap.size, 4, none⟩ = some (.int .i64 m) := keepB.out w6 F6 4
    go_wp2_with fail
    refine (specShotsC_any A n cb w.heap.size xs ⟨s, f, r, u, m⟩ g3 c3 (w1.heap.size + 1) w6.heap.size l3 w6 (keepR.out w6 F6) hn (by omega) o6 (by omega) (by omega)).mono ?_
    rintro e w7 ⟨g4, c4, rfl, o7, G7, at7, _⟩
    have F7 := grown_next F6 AT6.out G7
    have AT7 : Hid (g4 = w1.heap.size + 1 ∨ w3.heap.size ≤ g4) := by show _ ∨ _; have := AT6.out; omega
    have HL4 : Hid (shotsC xs ⟨s, f, r, u, m⟩ l3 = c4C xs ⟨s, f, r, u, m⟩) := by rw [HL3.out]; exact rfl
    have hl4 : (shotsC xs ⟨s, f, r, u, m⟩ l3).length ≤ 16 := by rw [HL4.out]; exact c4_length
    generalize shotsC xs ⟨s, f, r, u, m⟩ l3 = l4 at *
    clear at7 G7 q0 q1 q2 q3 q4 F6 AT6 o6 s6 HL3 hl3
    have s7 := F7.size
    have hg4l := o7.lt
    go_wp2_with fail
    refine (specFirsts_any g4 c4 l4 w7 o7.rd (by omega)).mono ?_
    rintro e w8 ⟨gf, nf, cf, rfl, hcf, o8, b8⟩
    have HNF := Lib.hid o8.len
    have s8 := b8.size
    have hgf : w7.heap.size ≤ gf ∧ gf < w8.heap.size := by
      rcases o8.form with ⟨h, _⟩ | ⟨x, hx, h1, h2, _⟩
      · cases h
      · injection hx with hx; injection hx with hx; omega
    have F8 : w3.grownBy w8 (some (w1.heap.size + 1)) := ⟨b8.os.trans F7.os, b8.tape.trans F7.tape, b8.output.trans F7.output, Nat.le_trans F7.size b8.size, fun k hk hne => (b8.block k (by omega)).trans (F7.block k hk hne)⟩
    have o8' : OwV 115 6 w8 (w1.heap.size + 1) w8.heap.size g4 l4.length c4 (l4.flatMap cmV) := ⟨(o7.keep (b8.block g4 hg4l)).own, by omega⟩
    have HCF := Lib.hid (fun (j : Nat) (hj : j < nf) => o8.cell hj)
    have HTF := Lib.hid (firsts_there (xs := xs) (l := l4) (by rw [HL4.out]; exact ok_c4))
    have hnf : nf ≤ 16 := by have := HNF.out; have := firsts_length l4; omega
    clear b8 o8 o7 F7 hcf s7
    go_wp2_with fail
    go_loopw [5, 8] (fun v i wr => ∃ (k g' c' : Nat), k ≤ nf ∧ i = .int .i64 k ∧ v = .slice (some ⟨g', 0, none⟩) (((firstsC l4).take k).foldl (secStep xs ⟨s, f, r, u, m⟩) l4).length c' ∧
      OwV 115 6 wr (w1.heap.size + 1) wr.heap.size g' (((firstsC l4).take k).foldl (secStep xs ⟨s, f, r, u, m⟩) l4).length c' ((((firstsC l4).take k).foldl (secStep xs ⟨s, f, r, u, m⟩) l4).flatMap cmV) ∧ w8.grownBy wr (some g4) ∧ (g' = g4 ∨ w8.heap.size ≤ g')) (fun _ i _ => nf - (intOf i).toNat)
    case atStart => exact ⟨0, g4, c4, Nat.zero_le _, rfl, rfl, o8', grown_refl _ _, .inl rfl⟩
    case round =>
      obtain ⟨k, g', c', hk, rfl, rfl, ho, hg, hat⟩ := hrel
      have AT := Lib.hid hat
      clear hat
      have FR := grown_next F8 AT7.out hg
      have ATR : Hid (g' = w1.heap.size + 1 ∨ w3.heap.size ≤ g') := by show _ ∨ _; have := AT7.out; have := AT.out; have := F8.size; omega
      have sr := hg.size
      have HLk := Lib.hid (foldl_length (secStep xs ⟨s, f, r, u, m⟩) 8 (fun l a => tabC_length _ _ _ _ _ _ _) ((firstsC l4).take k) l4)
      have hlk : (((firstsC l4).take k).foldl (secStep xs ⟨s, f, r, u, m⟩) l4).length ≤ 10000 := by have := HLk.out; have h1 : ((firstsC l4).take k).length ≤ k := List.length_take_le _ _; omega
      by_cases hlt : k < nf
      · have hkf : k < (firstsC l4).length := by have := HNF.out; omega
        have HT := Lib.hid (take_fold (secStep xs ⟨s, f, r, u, m⟩) (firstsC l4) l4 k hkf)
        have hgd : (firstsC l4).getD k 0 = (firstsC l4)[k] := by simp [List.getD_eq_getElem?_getD, hkf]
        have hth := HTF.out _ (List.getElem_mem hkf)
        have hcf : wr.cell? ⟨gf, k, none⟩ = some (.int .i64 ((firstsC l4).getD k 0)) := hg.cell (HCF.out k hlt) (fun e => by injection e with e; have : gf = g4 := e; omega)
        rw [hgd] at hcf
        clear hgd
        generalize (firstsC l4)[k] = fv at *
        generalize ((firstsC l4).take k).foldl (secStep xs ⟨s, f, r, u, m⟩) l4 = lk at *
        obtain ⟨t1, t2⟩ := there_lt hth
        obtain ⟨φ, rfl⟩ := Int.eq_ofNat_of_zero_le (show 0 ≤ fv by omega)
        clear hth
        have q0 : wr.cell? ⟨w1.heap.size, 0, none⟩ = some (.int .i64 s) := keepB.out wr FR 0
        go_wp2_with fail
        go_still_tail 8, (by kernel_rfl)
        change wpList _ _ _ _ _ wr.drew
        go_wp2_with fail
        refine (specTab_any A n cb xs s g' c' (w1.heap.size + 1) wr.heap.size lk 7 φ 0 8 wr.drew ((keepR.out wr FR).more (by have := F8.size; show w.heap.size ≤ wr.heap.size; omega)) hn (by omega) ho.drew (by have := F8.size; show w1.heap.size + 1 ≤ wr.heap.size; omega) (by omega) (by omega) (by omega) (by omega) (by omega)).mono ?_
        rintro e w9 ⟨g5, c5, rfl, o9, G9, at9, _⟩
        have G9' : wr.grownBy w9 (some g') := ⟨G9.os, G9.tape, G9.output, G9.size, G9.block⟩
        have at9' : g5 = g' ∨ wr.heap.size ≤ g5 := at9
        clear at9 G9
        go_wp2_with fail
        go_roundw
        case rel =>
          have e : ((firstsC l4).take (k + 1)).foldl (secStep xs ⟨s, f, r, u, m⟩) l4 = tabC xs s lk 7 φ 0 8 := by rw [HT.out]; simp [secStep]
          exact ⟨k + 1, g5, c5, by omega, by go_num, by rw [e], by rw [e]; exact o9, grown_next hg AT.out G9', by have := AT.out; omega⟩
        case measure => simp [intOf]; omega
      · obtain rfl : k = nf := by omega
        have HL5 : Hid (((firstsC l4).take k).foldl (secStep xs ⟨s, f, r, u, m⟩) l4 = c5C xs ⟨s, f, r, u, m⟩) := by
          rw [List.take_of_length_le (by have := HNF.out; omega), HL4.out]; exact rfl
        have hl5 : (((firstsC l4).take k).foldl (secStep xs ⟨s, f, r, u, m⟩) l4).length ≤ 144 := by rw [HL5.out]; exact c5_length
        generalize ((firstsC l4).take k).foldl (secStep xs ⟨s, f, r, u, m⟩) l4 = l5 at *
        obtain ⟨g5, rfl⟩ : ∃ x, x = g' := ⟨_, rfl⟩
        obtain ⟨c5, rfl⟩ : ∃ x, x = c' := ⟨_, rfl⟩
        obtain ⟨w9, rfl⟩ : ∃ x, x = wr := ⟨_, rfl⟩
        have HO5 := Lib.hid (show ∀ x ∈ l5, Ok6 xs x by rw [HL5.out]; exact ok_c5)
        have s9 := FR.size
        have hg5 := ho.lt
        clear hg AT HLk hlk HCF HTF
        go_wp2_with fail
        go_loopw [5, 10] (fun v i wr => ∃ (k g' c' : Nat), k ≤ l5.length ∧ i = .int .i64 k ∧ v = .slice (some ⟨g', 0, none⟩) ((l5.take k).foldl (datStep xs ⟨s, f, r, u, m⟩) l5).length c' ∧
          OwV 115 6 wr (w1.heap.size + 1) wr.heap.size g' ((l5.take k).foldl (datStep xs ⟨s, f, r, u, m⟩) l5).length c' (((l5.take k).foldl (datStep xs ⟨s, f, r, u, m⟩) l5).flatMap cmV) ∧ w9.grownBy wr (some g5) ∧ (g' = g5 ∨ w9.heap.size ≤ g') ∧
          RdV 6 wr wr.heap.size (some ⟨g5, 0, none⟩) l5.length (l5.flatMap cmV)) (fun _ i _ => l5.length - (intOf i).toNat)
        case atStart => exact ⟨0, g5, c5, Nat.zero_le _, rfl, rfl, ho, grown_refl _ _, .inl rfl, ho.rd⟩
        case round =>
          obtain ⟨k, g', c', hk, rfl, rfl, hok, hg, hat, hold⟩ := hrel
          have AT := Lib.hid hat
          clear hat
          have F2 := grown_next FR ATR.out hg
          have sr := hg.size
          have HLk := Lib.hid (foldl_length (datStep xs ⟨s, f, r, u, m⟩) 8 datStep_length (l5.take k) l5)
          have hlk : ((l5.take k).foldl (datStep xs ⟨s, f, r, u, m⟩) l5).length ≤ 10000 := by have := HLk.out; have h1 : (l5.take k).length ≤ k := List.length_take_le _ _; omega
          have HPk := Lib.hid (foldl_prefix (datStep xs ⟨s, f, r, u, m⟩) (fun l a => datStep_prefix l a) (l5.take k) l5)
          by_cases hlt : k < l5.length
          · have HT := Lib.hid (take_fold (datStep xs ⟨s, f, r, u, m⟩) l5 l5 k hlt)
            have hgd : l5.getD k cm0 = l5[k] := by simp [List.getD_eq_getElem?_getD, hlt]
            have hokk := HO5.out _ (List.getElem_mem hlt)
            have hce := cm_cells hold hlt
            rw [hgd] at hce
            clear hgd
            generalize l5[k] = x at *
            generalize (l5.take k).foldl (datStep xs ⟨s, f, r, u, m⟩) l5 = lk at *
            obtain ⟨xk, xf, xs', xp, xt, xg⟩ := x
            have e0 : wr.cell? ⟨g5, k * 6, none⟩ = some (.int .i64 xk) := hce 0 (by omega)
            have e3 : wr.cell? ⟨g5, k * 6 + 3, none⟩ = some (.int .i64 xp) := hce 3 (by omega)
            have e4 : wr.cell? ⟨g5, k * 6 + 4, none⟩ = some (.int .i64 xt) := hce 4 (by omega)
            have e5 : wr.cell? ⟨g5, k * 6 + 5, none⟩ = some (.bool xg) := hce 5 (by omega)
            clear hce
            have q0 : wr.cell? ⟨w1.heap.size, 0, none⟩ = some (.int .i64 s) := keepB.out wr F2 0
            by_cases hk7 : xk = 7
            · subst hk7
              cases xg
              · have HE : Hid ((l5.take (k + 1)).foldl (datStep xs ⟨s, f, r, u, m⟩) l5 = lk) := by rw [HT.out]; simp [datStep, Hid]
                clear HT hokk
                go_wp2_with fail
                go_roundw
                case rel => exact ⟨k + 1, g', c', by omega, by go_num, by rw [HE.out], by rw [HE.out]; exact hok, hg, AT.out, hold⟩
                case measure => simp [intOf]; omega
              · have HE : Hid ((l5.take (k + 1)).foldl (datStep xs ⟨s, f, r, u, m⟩) l5 = tabC xs s lk 8 xt.toNat xp 1) := by rw [HT.out]; simp [datStep, Hid]
                have hth : thereB xs xt = true := by
                  rcases hokk.lead rfl with h1 | h1
                  · have := h1.1; simp at this
                  · exact h1
                have hp0 : 0 ≤ xp := hokk.place0
                have hp1 : xp ≤ 63 := hokk.place1
                obtain ⟨t1, t2⟩ := there_lt hth
                obtain ⟨τ, rfl⟩ := Int.eq_ofNat_of_zero_le (show 0 ≤ xt by omega)
                clear HT hokk hth
                go_wp2_with fail
                go_still_tail 14, (by kernel_rfl)
                change wpList _ _ _ _ _ wr.drew
                go_wp2_with fail
                refine (specTab_any A n cb xs s g' c' (w1.heap.size + 1) wr.heap.size lk 8 τ xp 1 wr.drew ((keepR.out wr F2).more (by show w.heap.size ≤ wr.heap.size; omega)) hn (by omega) hok.drew (by show w1.heap.size + 1 ≤ wr.heap.size; omega) (by omega) hp0 (by omega) (by omega) (by omega)).mono ?_
                rintro e w10 ⟨g6, c6, rfl, o10, G10, at10, hold10⟩
                have G10' : wr.grownBy w10 (some g') := ⟨G10.os, G10.tape, G10.output, G10.size, G10.block⟩
                have at10' : g6 = g' ∨ wr.heap.size ≤ g6 := at10
                clear at10 G10
                go_wp2_with fail
                go_roundw
                case rel =>
                  have e := HE.out
                  rw [Int.toNat_natCast] at e
                  exact ⟨k + 1, g6, c6, by omega, by go_num, by rw [e], by rw [e]; exact o10, grown_next hg AT.out G10', by have := AT.out; omega, old_next hold HPk.out (by omega) G10' hold10⟩
                case measure => simp [intOf]; omega
            · have hd7 : (xk == 7) = false := by simpa using hk7
              have HE : Hid ((l5.take (k + 1)).foldl (datStep xs ⟨s, f, r, u, m⟩) l5 = lk) := by rw [HT.out]; simp [datStep, hk7, Hid]
              clear HT hokk
              go_wp2_with fail
              go_roundw
              case rel => exact ⟨k + 1, g', c', by omega, by go_num, by rw [HE.out], by rw [HE.out]; exact hok, hg, AT.out, hold⟩
              case measure => simp [intOf]; omega
          · obtain rfl : k = l5.length := by omega
            have HE : Hid ((l5.take l5.length).foldl (datStep xs ⟨s, f, r, u, m⟩) l5 = claimsC xs) := by
              rw [List.take_length, HC.out, HL5.out]; exact rfl
            go_wp2_with fail
            go_ret
            rw [← HE.out]
            exact ⟨g', c', rfl, hok.more (by omega) (Nat.le_refl _), below_of_grown b3 F2 (by omega)⟩

end Go.Proofs.YtiokfhdkbpoadabGreatDoor
