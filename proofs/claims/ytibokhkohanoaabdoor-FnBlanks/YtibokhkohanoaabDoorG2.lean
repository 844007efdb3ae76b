/- Claims: plain functions on lists; no program is named here but for the words of other texts. Claims, the model's side: that the Go functions compute them. Claims, the model's side: one more (l6Add), those of a table (l6Table). Claims, the model's side: those of a table (l6Table), the first tables (l6Firsts), the shots (l6Shots). Claims, the model's side: those of the shots (l6Shots). What holds of all claims of an image with a head: plain mathematics. All claims, the model's side (l6Claims, ClaimsIn). -/
import Derived.Test.YtibokhkohanoaabDoorG8
import Derived.StillTailTactics
namespace Go.Proofs.YtibokhkohanoaabDoor
open Go.RowKit

structure Cm where
  kind : Int
  frm : Int
  slot : Int
  place : Int
  target : Int
  good : Bool
deriving DecidableEq

def cmV (c : Cm) : List Value := [.int .i64 c.kind, .int .i64 c.frm, .int .i64 c.slot, .int .i64 c.place, .int .i64 c.target, .bool c.good]
def cmA (c : Cm) : Value := .agg #[.int .i64 c.kind, .int .i64 c.frm, .int .i64 c.slot, .int .i64 c.place, .int .i64 c.target, .bool c.good]
theorem cmV_length (c : Cm) : (cmV c).length = 6 := rfl
def cm0 : Cm := ⟨0, 0, 0, 0, 0, false⟩

/-- Does a good claim x stand in the way of c, of the same target? -/
def barsB (x c : Cm) : Bool :=
  if x.good = true ∧ x.target = c.target then
    (if c.kind = 7 ∧ x.kind = 7 then (x.frm == c.frm || x.slot != c.slot) else (if c.kind = 8 ∧ x.kind = 8 then false else true))
  else false
def goodB (xs : List Int) (size : Int) (l : List Cm) (c : Cm) : Bool := (thereB xs c.target && decide (c.place < size)) && !(l.any fun x => barsB x c)
def addC (xs : List Int) (size : Int) (l : List Cm) (c : Cm) : List Cm := l ++ [{ c with good := goodB xs size l c }]
/-- What the words of a table claim. -/
def tabStep (xs : List Int) (size kind : Int) (frm : Nat) (place step : Int) (l : List Cm) (i : Nat) : List Cm :=
  if targetOf ((cl xs frm).getD i 0) ≠ 0 then addC xs size l ⟨kind, frm, i, place + step * i, targetOf ((cl xs frm).getD i 0), false⟩ else l
def tabC (xs : List Int) (size : Int) (l : List Cm) (kind : Int) (frm : Nat) (place step : Int) : List Cm := (List.range 8).foldl (tabStep xs size kind frm place step) l
def firstsC (l : List Cm) : List Int := (l.filter fun c => c.good && (c.kind == 2 || c.kind == 6)).map (·.target)
def shotStep (xs : List Int) (h : Hd) (l : List Cm) (i : Nat) : List Cm := addC xs h.size l ⟨6, h.shots, i, 0, ((shotsL xs).getD i (0, 0)).2, false⟩
def shotsC (xs : List Int) (h : Hd) (l : List Cm) : List Cm :=
  if h.many = 0 then l
  else (if goodB xs h.size l ⟨5, 0, 0, 0, h.shots, false⟩ = true then (List.range (shotsL xs).length).foldl (shotStep xs h) (addC xs h.size l ⟨5, 0, 0, 0, h.shots, false⟩) else addC xs h.size l ⟨5, 0, 0, 0, h.shots, false⟩)
def c1C (xs : List Int) (h : Hd) : List Cm := addC xs h.size [⟨1, 0, 0, 0, 0, true⟩] ⟨2, 0, 0, 0, h.first, false⟩
def c2C (xs : List Int) (h : Hd) : List Cm := addC xs h.size (c1C xs h) ⟨3, 0, 0, 0, h.refs, false⟩
def c3C (xs : List Int) (h : Hd) : List Cm := if goodB xs h.size (c1C xs h) ⟨3, 0, 0, 0, h.refs, false⟩ = true then tabC xs h.size (c2C xs h) 4 h.refs.toNat 0 0 else c2C xs h
def c4C (xs : List Int) (h : Hd) : List Cm := shotsC xs h (c3C xs h)
def secStep (xs : List Int) (h : Hd) (l : List Cm) (f : Int) : List Cm := tabC xs h.size l 7 f.toNat 0 8
def c5C (xs : List Int) (h : Hd) : List Cm := (firstsC (c4C xs h)).foldl (secStep xs h) (c4C xs h)
def datStep (xs : List Int) (h : Hd) (l : List Cm) (c : Cm) : List Cm := if c.kind = 7 ∧ c.good = true then tabC xs h.size l 8 c.target.toNat c.place 1 else l
def c6C (xs : List Int) (h : Hd) : List Cm := (c5C xs h).foldl (datStep xs h) (c5C xs h)
/-- All claims of an image with a head. -/
def claimsC (xs : List Int) : List Cm := c6C xs (headOf xs)

theorem cm_cell {l : List Cm} {k j : Nat} (hk : k < l.length) (hj : j < 6) : (l.flatMap cmV)[k * 6 + j]? = (cmV (l.getD k cm0))[j]? := by
  rw [flat_get cmV 6 cmV_length l k j hk hj, List.getD_eq_getElem?_getD, List.getElem?_eq_getElem hk]; rfl
theorem addC_length (xs : List Int) (size : Int) (l : List Cm) (c : Cm) : (addC xs size l c).length = l.length + 1 := by simp [addC]
theorem tabStep_length (xs : List Int) (size kind : Int) (frm : Nat) (place step : Int) (l : List Cm) (i : Nat) : (tabStep xs size kind frm place step l i).length ≤ l.length + 1 := by
  unfold tabStep; split
  · rw [addC_length]; omega
  · omega
theorem tabFold_length (xs : List Int) (size kind : Int) (frm : Nat) (place step : Int) (l : List Cm) (k : Nat) : ((List.range k).foldl (tabStep xs size kind frm place step) l).length ≤ l.length + k := by
  induction k with
  | zero => simp
  | succ k ih =>
    rw [List.range_succ, List.foldl_append]
    have := tabStep_length xs size kind frm place step ((List.range k).foldl (tabStep xs size kind frm place step) l) k
    simp only [List.foldl_cons, List.foldl_nil]
    omega
theorem tabC_length (xs : List Int) (size : Int) (l : List Cm) (kind : Int) (frm : Nat) (place step : Int) : (tabC xs size l kind frm place step).length ≤ l.length + 8 := tabFold_length _ _ _ _ _ _ _ _

theorem infoCm : (Tryd.prog.info? 83).map (fun i => (i.zero, i.size, i.bytes)) = some (some (.agg #[.int .i64 0, .int .i64 0, .int .i64 0, .int .i64 0, .int .i64 0, .bool false]), 6, 48) := by kernel_rfl

/-- It answers yes or no; nothing that was there has turned. -/
def RetB (w : World) (x : Bool) (e : Ending) (w' : World) : Prop := e = .returned (.bool x) ∧ Below w.heap.size w w'
theorem RetB.mk {w w' : World} {x y : Bool} (h : y = x) (hb : Below w.heap.size w w') : RetB w x (.returned (.bool y)) w' := by subst h; exact ⟨rfl, hb⟩

/-- Block b holds the claim c. -/
def BoxC (w : World) (b : Nat) (c : Cm) : Prop := w.heap[b]? = some (.cells (cmV c).toArray 83 (0, 0))
theorem BoxC.cell {w : World} {b : Nat} {c : Cm} (h : BoxC w b c) (j : Nat) : w.cell? ⟨b, j, none⟩ = (cmV c)[j]? := by
  have := cell_of_row w b j _ _ _ h
  simpa using this
theorem BoxC.free {w : World} {b : Nat} {c : Cm} (h : BoxC w b c) (j : Nat) : w.frozen? ⟨b, j, none⟩ = false := by
  unfold BoxC at h
  simp [World.frozen?, h]
theorem BoxC.keep {w w' : World} {b : Nat} {c : Cm} (h : BoxC w b c) (hk : w'.heap[b]? = w.heap[b]?) : BoxC w' b c := hk.trans h
theorem BoxC.good {w : World} {b : Nat} {c : Cm} (h : BoxC w b c) (x : Bool) : BoxC (w.setCell ⟨b, 5, none⟩ (.bool x)) b { c with good := x } := by
  unfold BoxC at *
  simp only [World.setCell, Array.getElem?_modify]
  simp [h, cmV]

/-- The list is one longer, in its old row or in a new one; and a flag. -/
def RetAdd (w : World) (lo g : Nat) (old l : List Cm) (ok : Bool) (e : Ending) (w' : World) : Prop :=
  ∃ g' c', e = .returned (.tuple #[.slice (some ⟨g', 0, none⟩) l.length c', .bool ok]) ∧ OwV 83 6 w' lo w'.heap.size g' l.length c' (l.flatMap cmV) ∧ w.grownBy w' (some g) ∧ (g' = g ∨ w.heap.size ≤ g') ∧ RdV 6 w' w'.heap.size (some ⟨g, 0, none⟩) old.length (old.flatMap cmV)

/-- Does one of the first k bar c? -/
def noBar (l : List Cm) (c : Cm) (k : Nat) : Bool := !((l.take k).any fun x => barsB x c)
theorem noBar_zero (l : List Cm) (c : Cm) : noBar l c 0 = true := by simp [noBar]
theorem noBar_step (l : List Cm) (c : Cm) (k : Nat) (hk : k < l.length) : noBar l c (k + 1) = (noBar l c k && !(barsB (l.getD k cm0) c)) := by
  unfold noBar
  rw [List.take_succ_eq_append_getElem hk, List.any_append, List.getD_eq_getElem?_getD, List.getElem?_eq_getElem hk]
  simp
theorem noBar_all (l : List Cm) (c : Cm) (k : Nat) (hk : l.length ≤ k) : noBar l c k = !(l.any fun x => barsB x c) := by
  unfold noBar; rw [List.take_of_length_le hk]
/-- The same claim, whether good or not, is barred by the same. -/
theorem bars_good (x c : Cm) (b : Bool) : barsB x { c with good := b } = barsB x c := rfl

theorem grown_below {w w1 w2 : World} {g : Nat} (h : Below w.heap.size w w1) (hg : w1.grownBy w2 (some g)) : w.grownBy w2 (some g) := by
  exact ⟨hg.os.trans h.os, hg.tape.trans h.tape, hg.output.trans h.output, Nat.le_trans h.size hg.size, fun k hk hne => (hg.block k (Nat.lt_of_lt_of_le hk h.size) hne).trans (h.block k hk)⟩

/-- The list is longer, in its old row or in a new one. -/
def RetGrow (w : World) (lo g : Nat) (old l : List Cm) (e : Ending) (w' : World) : Prop :=
  ∃ g' c', e = .returned (.slice (some ⟨g', 0, none⟩) l.length c') ∧ OwV 83 6 w' lo w'.heap.size g' l.length c' (l.flatMap cmV) ∧ w.grownBy w' (some g) ∧ (g' = g ∨ w.heap.size ≤ g') ∧ RdV 6 w' w'.heap.size (some ⟨g, 0, none⟩) old.length (old.flatMap cmV)

/-- The old list, behind one more step. -/
theorem old_next {w1 w2 : World} {g g1 : Nat} {l l1 : List Cm} (h : RdV 6 w1 w1.heap.size (some ⟨g, 0, none⟩) l.length (l.flatMap cmV)) (hp : l <+: l1) (hgl : g < w1.heap.size) (hg1 : w1.grownBy w2 (some g1)) (h1 : RdV 6 w2 w2.heap.size (some ⟨g1, 0, none⟩) l1.length (l1.flatMap cmV)) :
    RdV 6 w2 w2.heap.size (some ⟨g, 0, none⟩) l.length (l.flatMap cmV) := by
  by_cases he : g1 = g
  · subst he
    obtain ⟨t, rfl⟩ := hp
    rw [List.flatMap_append] at h1
    exact h1.front (flat_length cmV 6 cmV_length l) (by omega)
  · exact (h.grown hg1 hgl (fun e => he e.symm)).more hg1.size

theorem grown_next {w w1 w2 : World} {g g1 : Nat} (h : w.grownBy w1 (some g)) (hg : g1 = g ∨ w.heap.size ≤ g1) (h2 : w1.grownBy w2 (some g1)) : w.grownBy w2 (some g) :=
  ⟨h2.os.trans h.os, h2.tape.trans h.tape, h2.output.trans h.output, Nat.le_trans h.size h2.size, fun k hk hne => (h2.block k (Nat.lt_of_lt_of_le hk h.size) (fun e => by
    injection e with e
    rcases hg with hg | hg
    · exact hne (by rw [e, hg])
    · omega)).trans (h.block k hk hne)⟩

theorem tabStep_prefix (xs : List Int) (size kind : Int) (frm : Nat) (place step : Int) (l : List Cm) (i : Nat) : l <+: tabStep xs size kind frm place step l i := by
  unfold tabStep; split
  · exact List.prefix_append _ _
  · exact List.prefix_refl _
theorem tabFold_prefix (xs : List Int) (size kind : Int) (frm : Nat) (place step : Int) (l : List Cm) (k : Nat) : l <+: (List.range k).foldl (tabStep xs size kind frm place step) l := by
  induction k with
  | zero => exact List.prefix_refl _
  | succ k ih =>
    rw [List.range_succ, List.foldl_append]
    exact ih.trans (tabStep_prefix _ _ _ _ _ _ _ _)
theorem tabFold_succ (xs : List Int) (size kind : Int) (frm : Nat) (place step : Int) (l : List Cm) (k : Nat) : (List.range (k + 1)).foldl (tabStep xs size kind frm place step) l = tabStep xs size kind frm place step ((List.range k).foldl (tabStep xs size kind frm place step) l) k := by
  rw [List.range_succ, List.foldl_append]; rfl

theorem Ow.toV {w : World} {lo hi g n c : Nat} {xs : List Int} (h : Ow w lo hi (some ⟨g, 0, none⟩) n c xs) : OwV 2 1 w lo hi g n c (iv xs) := ⟨h.own, h.top g rfl⟩
theorem OwV.toI {w : World} {lo hi g n c : Nat} {xs : List Int} (h : OwV 2 1 w lo hi g n c (iv xs)) : Ow w lo hi (some ⟨g, 0, none⟩) n c xs := ⟨h.own, fun g' hg => by simp [Value.ownBlock] at hg; have := h.top; omega⟩
theorem iv_one (xs : List Int) (x : Int) : iv xs ++ [.int .i64 x] = iv (xs ++ [x]) := by simp [iv]

def isFirst (c : Cm) : Bool := c.good && (c.kind == 2 || c.kind == 6)
theorem firsts_step (l : List Cm) (k : Nat) (hk : k < l.length) : firstsC (l.take (k + 1)) = if isFirst (l.getD k cm0) then firstsC (l.take k) ++ [(l.getD k cm0).target] else firstsC (l.take k) := by
  unfold firstsC
  rw [List.take_succ_eq_append_getElem hk, List.filter_append, List.map_append, List.getD_eq_getElem?_getD, List.getElem?_eq_getElem hk]
  simp only [Option.getD_some]
  by_cases h : isFirst l[k] = true
  · rw [if_pos h]; unfold isFirst at h; simp [h]
  · rw [if_neg h]; unfold isFirst at h; simp [h]
theorem firsts_length (l : List Cm) : (firstsC l).length ≤ l.length := by
  unfold firstsC; rw [List.length_map]; exact List.length_filter_le _ _

/-- What is known of element k of a list of claims. -/
theorem cm_cells {w : World} {B : Nat} {g : Nat} {l : List Cm} (h : RdV 6 w B (some ⟨g, 0, none⟩) l.length (l.flatMap cmV)) {k : Nat} (hk : k < l.length) : ∀ j, j < 6 → w.cell? ⟨g, k * 6 + j, none⟩ = (cmV (l.getD k cm0))[j]? := by
  intro j hj
  obtain ⟨b, off, e, _, hc⟩ := h.2 (by omega)
  injection e with e
  injection e with e1 e2
  subst e1; subst e2
  have := hc (k * 6 + j) (by omega)
  rw [Nat.zero_add] at this
  rw [this, cm_cell hk hj]

theorem Rd.grown {w w' : World} {B n g : Nat} {A : Option Addr} {xs : List Int} (h : Rd w B A n xs) (hg : w.grownBy w' (some g)) (hB : B ≤ g) (hw : B ≤ w.heap.size) : Rd w' B A n xs :=
  h.keep fun p hp => World.cell?_of_block (w := w) (hg.block p.block (by omega) (fun e => by injection e with e; omega))

theorem shotFold_length (xs : List Int) (h : Hd) (l : List Cm) (k : Nat) : ((List.range k).foldl (shotStep xs h) l).length = l.length + k := by
  induction k with
  | zero => simp
  | succ k ih =>
    rw [List.range_succ, List.foldl_append]
    simp only [List.foldl_cons, List.foldl_nil, shotStep, addC_length, ih]
    omega
theorem shotFold_prefix (xs : List Int) (h : Hd) (l : List Cm) (k : Nat) : l <+: (List.range k).foldl (shotStep xs h) l := by
  induction k with
  | zero => exact List.prefix_refl _
  | succ k ih =>
    rw [List.range_succ, List.foldl_append]
    exact ih.trans (List.prefix_append _ _)
theorem shotFold_succ (xs : List Int) (h : Hd) (l : List Cm) (k : Nat) : (List.range (k + 1)).foldl (shotStep xs h) l = shotStep xs h ((List.range k).foldl (shotStep xs h) l) k := by
  rw [List.range_succ, List.foldl_append]; rfl

/-- What each claim keeps to. -/
structure Ok6 (xs : List Int) (c : Cm) : Prop where
  lead : c.good = true → (c.kind = 1 ∧ c.target = 0) ∨ thereB xs c.target = true
  place0 : 0 ≤ c.place
  place1 : c.place ≤ 63
  slot0 : 0 ≤ c.slot
  slot1 : c.slot ≤ 7
  kind0 : 1 ≤ c.kind
  kind1 : c.kind ≤ 8
  second : c.kind = 7 → c.place ≤ 56
  from_ : c.kind = 4 ∨ c.kind = 7 ∨ c.kind = 8 → thereB xs c.frm = true
  shot : c.kind = 6 → c.slot < (shotsL xs).length

theorem goodB_there {xs : List Int} {size : Int} {l : List Cm} {c : Cm} (h : goodB xs size l c = true) : thereB xs c.target = true := by
  simp [goodB] at h
  exact h.1.1
theorem addC_all {xs : List Int} {size : Int} {l : List Cm} {c : Cm} (P : Cm → Prop) (hl : ∀ x ∈ l, P x) (hc : P { c with good := goodB xs size l c }) : ∀ x ∈ addC xs size l c, P x := by
  intro x hx
  rw [addC, List.mem_append] at hx
  rcases hx with hx | hx
  · exact hl x hx
  · rw [List.mem_singleton] at hx; subst hx; exact hc
/-- A claim that has just been judged. -/
theorem ok_judged {xs : List Int} {size : Int} {l : List Cm} {c : Cm} (p0 : 0 ≤ c.place) (p1 : c.place ≤ 63) (s0 : 0 ≤ c.slot) (s1 : c.slot ≤ 7) (k0 : 1 ≤ c.kind) (k1 : c.kind ≤ 8) (h7 : c.kind = 7 → c.place ≤ 56)
    (hf : c.kind = 4 ∨ c.kind = 7 ∨ c.kind = 8 → thereB xs c.frm = true) (h6 : c.kind = 6 → c.slot < (shotsL xs).length) : Ok6 xs { c with good := goodB xs size l c } :=
  ⟨fun hg => .inr (goodB_there hg), p0, p1, s0, s1, k0, k1, h7, hf, h6⟩

theorem foldl_all {α β : Type} (P : β → Prop) (Q : α → Prop) (f : List β → α → List β) (hf : ∀ l a, (∀ x ∈ l, P x) → Q a → ∀ x ∈ f l a, P x) : ∀ (ys : List α) (l : List β), (∀ x ∈ l, P x) → (∀ a ∈ ys, Q a) → ∀ x ∈ ys.foldl f l, P x
  | [], _, hl, _ => hl
  | a :: ys, l, hl, hq => foldl_all P Q f hf ys (f l a) (hf l a hl (hq a (by simp))) (fun b hb => hq b (by simp [hb]))
theorem foldl_length {α β : Type} (f : List β → α → List β) (k : Nat) (hf : ∀ l a, (f l a).length ≤ l.length + k) : ∀ (ys : List α) (l : List β), (ys.foldl f l).length ≤ l.length + k * ys.length
  | [], l => by simp
  | a :: ys, l => by
    have h1 := foldl_length f k hf ys (f l a)
    have h2 := hf l a
    rw [List.foldl_cons, List.length_cons, Nat.mul_succ]
    omega
theorem foldl_prefix {α β : Type} (f : List β → α → List β) (hf : ∀ l a, l <+: f l a) : ∀ (ys : List α) (l : List β), l <+: ys.foldl f l
  | [], l => List.prefix_refl l
  | a :: ys, l => (hf l a).trans (foldl_prefix f hf ys (f l a))

theorem ok_tab {xs : List Int} {size : Int} {l : List Cm} {kind : Int} {frm : Nat} {place step : Int} (hl : ∀ x ∈ l, Ok6 xs x) (hf : thereB xs frm = true) (h0 : 0 ≤ place) (hs : 0 ≤ step) (h63 : place + step * 7 ≤ 63) (hk : kind = 4 ∨ kind = 7 ∨ kind = 8) (h7 : kind = 7 → place + step * 7 ≤ 56) :
    ∀ x ∈ tabC xs size l kind frm place step, Ok6 xs x := by
  unfold tabC
  refine foldl_all (Ok6 xs) (fun i => i < 8) _ ?_ (List.range 8) l hl (fun i hi => by simpa using hi)
  intro l i hl hi
  unfold tabStep
  split
  · have hm : step * (i : Int) ≤ step * 7 := Int.mul_le_mul_of_nonneg_left (by omega) hs
    have hm0 : 0 ≤ step * (i : Int) := Int.mul_nonneg hs (by omega)
    refine addC_all _ hl (ok_judged ?_ ?_ ?_ ?_ ?_ ?_ ?_ ?_ ?_) <;> simp only
    · omega
    · omega
    · omega
    · omega
    · omega
    · omega
    · intro h; have := h7 h; omega
    · intro _; exact hf
    · intro h; omega
  · exact hl

section
variable {xs : List Int} {h : Hd}
theorem ok_c0 : ∀ x ∈ ([⟨1, 0, 0, 0, 0, true⟩] : List Cm), Ok6 xs x := by
  intro x hx
  rw [List.mem_singleton] at hx
  subst hx
  exact ⟨fun _ => .inl ⟨rfl, rfl⟩, by simp, by simp, by simp, by simp, by simp, by simp, by simp, by simp, by simp⟩
theorem ok_c1 : ∀ x ∈ c1C xs h, Ok6 xs x := addC_all _ ok_c0 (ok_judged (by simp) (by simp) (by simp) (by simp) (by simp) (by simp) (by simp) (by simp) (by simp))
theorem ok_c2 : ∀ x ∈ c2C xs h, Ok6 xs x := addC_all _ ok_c1 (ok_judged (by simp) (by simp) (by simp) (by simp) (by simp) (by simp) (by simp) (by simp) (by simp))
theorem ok_c3 : ∀ x ∈ c3C xs h, Ok6 xs x := by
  unfold c3C
  split
  · rename_i hg
    have ht := goodB_there hg
    have := there_lt ht
    simp only at ht this
    exact ok_tab ok_c2 (by rw [Int.toNat_of_nonneg (by omega)]; exact ht) (by omega) (by omega) (by omega) (by omega) (by omega)
  · exact ok_c2
theorem ok_c4 : ∀ x ∈ c4C xs h, Ok6 xs x := by
  unfold c4C shotsC
  split
  · exact ok_c3
  · have h5 : ∀ x ∈ addC xs h.size (c3C xs h) ⟨5, 0, 0, 0, h.shots, false⟩, Ok6 xs x := addC_all _ ok_c3 (ok_judged (by simp) (by simp) (by simp) (by simp) (by simp) (by simp) (by simp) (by simp) (by simp))
    split
    · refine foldl_all (Ok6 xs) (fun i => i < (shotsL xs).length) _ ?_ _ _ h5 (fun i hi => by simpa using hi)
      intro l i hl hi
      have := shotsL_length xs
      refine addC_all _ hl (ok_judged ?_ ?_ ?_ ?_ ?_ ?_ ?_ ?_ ?_) <;> simp <;> omega
    · exact h5
/-- The first tables are there. -/
theorem firsts_there {l : List Cm} (hl : ∀ x ∈ l, Ok6 xs x) : ∀ f ∈ firstsC l, thereB xs f = true := by
  intro f hf
  unfold firstsC at hf
  rw [List.mem_map] at hf
  obtain ⟨c, hc, rfl⟩ := hf
  rw [List.mem_filter] at hc
  obtain ⟨hm, hg⟩ := hc
  simp at hg
  rcases (hl c hm).lead hg.1 with h1 | h1
  · omega
  · exact h1
theorem ok_c5 : ∀ x ∈ c5C xs h, Ok6 xs x := by
  unfold c5C
  refine foldl_all (Ok6 xs) (fun f => thereB xs f = true) _ ?_ _ _ ok_c4 (firsts_there ok_c4)
  intro l f hl hf
  have := there_lt hf
  exact ok_tab hl (by rw [Int.toNat_of_nonneg (by omega)]; exact hf) (by omega) (by omega) (by omega) (by omega) (by omega)
theorem ok_c6 : ∀ x ∈ c6C xs h, Ok6 xs x := by
  unfold c6C
  refine foldl_all (Ok6 xs) (Ok6 xs) _ ?_ _ _ ok_c5 ok_c5
  intro l c hl hc
  unfold datStep
  split
  · rename_i hk
    rcases hc.lead hk.2 with h1 | h1
    · omega
    · have := there_lt h1
      have h7 := hc.second hk.1
      have h0 := hc.place0
      exact ok_tab hl (by rw [Int.toNat_of_nonneg (by omega)]; exact h1) h0 (by omega) (by omega) (by omega) (by omega)
  · exact hl
theorem c3_length : (c3C xs h).length ≤ 11 := by
  unfold c3C
  have h2 : (c2C xs h).length = 3 := by simp [c2C, c1C, addC]
  split
  · have := tabC_length xs h.size (c2C xs h) 4 h.refs.toNat 0 0; omega
  · omega
theorem c4_length : (c4C xs h).length ≤ 16 := by
  unfold c4C shotsC
  have h3 := c3_length (xs := xs) (h := h)
  split
  · omega
  · have h5 := addC_length xs h.size (c3C xs h) ⟨5, 0, 0, 0, h.shots, false⟩
    split
    · have := foldl_length (shotStep xs h) 1 (fun l a => by rw [shotStep, addC_length]; omega) (List.range (shotsL xs).length) (addC xs h.size (c3C xs h) ⟨5, 0, 0, 0, h.shots, false⟩)
      have := shotsL_length xs
      simp at *
      omega
    · omega
theorem c5_length : (c5C xs h).length ≤ 144 := by
  unfold c5C
  have h4 := c4_length (xs := xs) (h := h)
  have := foldl_length (secStep xs h) 8 (fun l a => tabC_length _ _ _ _ _ _ _) (firstsC (c4C xs h)) (c4C xs h)
  have hf : (firstsC (c4C xs h)).length ≤ (c4C xs h).length := by unfold firstsC; rw [List.length_map]; exact List.length_filter_le _ _
  omega
theorem datStep_length (l : List Cm) (c : Cm) : (datStep xs h l c).length ≤ l.length + 8 := by
  unfold datStep; split
  · exact tabC_length _ _ _ _ _ _ _
  · omega
theorem c6_length : (c6C xs h).length ≤ 1296 := by
  unfold c6C
  have h5 := c5_length (xs := xs) (h := h)
  have := foldl_length (datStep xs h) 8 datStep_length (c5C xs h) (c5C xs h)
  omega
end
theorem claims_ok (xs : List Int) : ∀ x ∈ claimsC xs, Ok6 xs x := ok_c6
theorem claims_length (xs : List Int) : (claimsC xs).length ≤ 1296 := c6_length

/-- It answers a new list of claims. -/
def RetCm (w : World) (l : List Cm) (e : Ending) (w' : World) : Prop :=
  ∃ g c, e = .returned (.slice (some ⟨g, 0, none⟩) l.length c) ∧ OwV 83 6 w' w.heap.size w'.heap.size g l.length c (l.flatMap cmV) ∧ Below w.heap.size w w'

theorem below_of_grown {w w3 w4 : World} {g0 : Nat} (hb : Below w.heap.size w w3) (hg : w3.grownBy w4 (some g0)) (h0 : w.heap.size ≤ g0) : Below w.heap.size w w4 := hb.grown hg hb.size (fun k e => by cases e; exact h0)

theorem take_fold {α β : Type} (f : β → α → β) (l : List α) (z : β) (k : Nat) (hk : k < l.length) : (l.take (k + 1)).foldl f z = f ((l.take k).foldl f z) l[k] := by
  rw [List.take_succ_eq_append_getElem hk, List.foldl_append]; rfl

theorem datStep_prefix {xs : List Int} {h : Hd} (l : List Cm) (c : Cm) : l <+: datStep xs h l c := by
  unfold datStep; split
  · exact tabFold_prefix _ _ _ _ _ _ _ _
  · exact List.prefix_refl _

end Go.Proofs.YtibokhkohanoaabDoor
