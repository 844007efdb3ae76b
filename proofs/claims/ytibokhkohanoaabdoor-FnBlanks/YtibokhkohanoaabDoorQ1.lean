/- Defects: the tables that are gone into (l11Has, l11Tables). Defects: the tables that are gone into (l11Tables), the model's side. Defects: the word of a slot as it must be (l11Must), the model's side. Defects: words that are not as they must be (l11Wrongs), the model's side. -/
import Derived.Test.YtibokhkohanoaabDoorG7
namespace Go.Proofs.YtibokhkohanoaabDoor
open Go.RowKit

def hasB (o : List Int) (x : Int) : Bool := o.contains x
theorem hasB_mem {o : List Int} {x : Int} : hasB o x = true ↔ x ∈ o := by unfold hasB; exact List.contains_iff_mem
theorem hasB_not {o : List Int} {x : Int} : hasB o x = false ↔ ¬ x ∈ o := by rw [← hasB_mem]; simp
theorem hasB_step (ys : List Int) (k : Nat) (h : k < ys.length) (x : Int) : hasB (ys.take (k + 1)) x = (hasB (ys.take k) x || (x == ys.getD k 0)) := by
  rw [Bool.eq_iff_iff, hasB_mem, Bool.or_eq_true, hasB_mem, List.take_succ_eq_append_getElem h, List.mem_append, List.getD_eq_getElem?_getD, List.getElem?_eq_getElem h, List.mem_singleton, beq_iff_eq]
  rfl
def inTab (k : Nat) (c : Cm) : Bool := (k == 0 && c.kind == 3) || ((k == 1 && (c.kind == 2 || c.kind == 6)) || (k == 2 && c.kind == 7))
def tblStep (k : Nat) (o : List Int) (c : Cm) : List Int := if (inTab k c && c.good) = true ∧ hasB o c.target = false then o ++ [c.target] else o
def tblRound (l : List Cm) (o : List Int) (k : Nat) : List Int := l.foldl (tblStep k) o
/-- The tables that are gone into, each but once. -/
def tablesC (l : List Cm) : List Int := (List.range 3).foldl (tblRound l) []

theorem tblStep_mem {k : Nat} {o : List Int} {c : Cm} {t : Int} (h : t ∈ tblStep k o c) : t ∈ o ∨ (t = c.target ∧ c.good = true ∧ (c.kind = 2 ∨ c.kind = 3 ∨ c.kind = 6 ∨ c.kind = 7)) := by
  unfold tblStep at h
  split at h
  · rename_i hc
    rw [List.mem_append] at h
    rcases h with h | h
    · exact .inl h
    · rw [List.mem_singleton] at h
      refine .inr ⟨h, ?_⟩
      have := hc.1
      simp [inTab] at this
      refine ⟨this.2, ?_⟩
      have := this.1
      omega
  · exact .inl h
theorem tbl_mem (l : List Cm) (k : Nat) : ∀ (o : List Int) (t : Int), t ∈ l.foldl (tblStep k) o → t ∈ o ∨ ∃ c ∈ l, t = c.target ∧ c.good = true ∧ (c.kind = 2 ∨ c.kind = 3 ∨ c.kind = 6 ∨ c.kind = 7) := by
  induction l with
  | nil => intro o t h; exact .inl h
  | cons c l ih =>
    intro o t h
    rw [List.foldl_cons] at h
    rcases ih _ _ h with h1 | ⟨x, hx, h2⟩
    · rcases tblStep_mem h1 with h3 | h3
      · exact .inl h3
      · exact .inr ⟨c, by simp, h3⟩
    · exact .inr ⟨x, by simp [hx], h2⟩
theorem tables_mem {l : List Cm} {t : Int} (h : t ∈ tablesC l) : ∃ c ∈ l, t = c.target ∧ c.good = true ∧ (c.kind = 2 ∨ c.kind = 3 ∨ c.kind = 6 ∨ c.kind = 7) := by
  have : tablesC l = tblRound l (tblRound l (tblRound l [] 0) 1) 2 := rfl
  rw [this] at h
  rcases tbl_mem l 2 _ t h with h | h
  · rcases tbl_mem l 1 _ t h with h | h
    · rcases tbl_mem l 0 _ t h with h | h
      · cases h
      · exact h
    · exact h
  · exact h
/-- Each is there. -/
theorem tables_there {xs : List Int} {t : Int} (h : t ∈ tablesC (claimsC xs)) : thereB xs t = true := by
  obtain ⟨c, hc, rfl, hg, hk⟩ := tables_mem h
  rcases (claims_ok xs c hc).lead hg with h1 | h1
  · omega
  · exact h1
theorem tbl_nodup (l : List Cm) (k : Nat) : ∀ o : List Int, o.Nodup → (l.foldl (tblStep k) o).Nodup := by
  induction l with
  | nil => intro o h; exact h
  | cons c l ih =>
    intro o h
    rw [List.foldl_cons]
    apply ih
    unfold tblStep
    split
    · rename_i hc
      rw [List.nodup_append]
      refine ⟨h, by simp, ?_⟩
      intro a ha b hb
      rw [List.mem_singleton] at hb
      subst hb
      rintro rfl
      exact hasB_not.1 hc.2 ha
    · exact h
theorem tables_nodup (l : List Cm) : (tablesC l).Nodup := tbl_nodup l 2 _ (tbl_nodup l 1 _ (tbl_nodup l 0 _ List.nodup_nil))
theorem tbl_length (l : List Cm) (k : Nat) : ∀ o : List Int, (l.foldl (tblStep k) o).length ≤ o.length + l.length := by
  induction l with
  | nil => intro o; simp
  | cons c l ih =>
    intro o
    rw [List.foldl_cons, List.length_cons]
    have := ih (tblStep k o c)
    have h2 : (tblStep k o c).length ≤ o.length + 1 := by unfold tblStep; split <;> simp
    omega

theorem range_fold {β : Type} (f : β → Nat → β) (z : β) (k : Nat) : (List.range (k + 1)).foldl f z = f ((List.range k).foldl f z) k := by
  rw [List.range_succ, List.foldl_append]; rfl

/-- The numbers o, in a row of the call's own. -/
def OutAt (w : World) (o : List Int) (v : Value) (wr : World) : Prop :=
  ∃ g' c', v = .slice (some ⟨g', 0, none⟩) o.length c' ∧ OwV 2 1 wr w.heap.size wr.heap.size g' o.length c' (iv o) ∧ Below w.heap.size w wr
def TblIn (w : World) (l : List Cm) (k : Nat) (o : List Int) (v i : Value) (wr : World) : Prop :=
  ∃ j : Nat, j ≤ l.length ∧ i = .int .i64 j ∧ ((l.take j).foldl (tblStep k) o).length ≤ o.length + j ∧ OutAt w ((l.take j).foldl (tblStep k) o) v wr
def TblOut (w : World) (l : List Cm) (v i : Value) (wr : World) : Prop :=
  ∃ k : Nat, k ≤ 3 ∧ i = .int .i64 k ∧ ((List.range k).foldl (tblRound l) []).length ≤ k * 10000 ∧ OutAt w ((List.range k).foldl (tblRound l) []) v wr

def mustP (frm slot : Int) (c : Cm) : Bool := (c.frm == frm && c.slot == slot) && (c.kind == 4 || (c.kind == 7 || c.kind == 8))
/-- What the claim of a slot makes of its word. -/
def mustOf (counts : List Int) (word : Int) : Option Cm → Int
  | none => word
  | some c => if c.good = true then entryOf c.target (c.kind != 4 && counts.getD c.target.toNat 0 == 1) else word
def mustC (l : List Cm) (counts : List Int) (frm slot word : Int) : Int := if targetOf word = 0 then 0 else mustOf counts word (l.find? (mustP frm slot))

theorem find_step {l : List Cm} {p : Cm → Bool} {k : Nat} (hk : k < l.length) (h : (l.take k).find? p = none) : (l.take (k + 1)).find? p = if p l[k] = true then some l[k] else none := by
  rw [List.take_succ_eq_append_getElem hk, List.find?_append, h]
  simp [List.find?_cons]
  split <;> simp_all
theorem find_at {l : List Cm} {p : Cm → Bool} {k : Nat} (hk : k < l.length) (h : (l.take k).find? p = none) (hp : p l[k] = true) : l.find? p = some l[k] := by
  have e : l.find? p = (l.take (k + 1) ++ l.drop (k + 1)).find? p := by rw [List.take_append_drop]
  rw [e, List.find?_append, find_step hk h, if_pos hp]
  rfl

def MustRel (w : World) (l : List Cm) (p : Cm → Bool) (i : Value) (wr : World) : Prop := ∃ k : Nat, k ≤ l.length ∧ i = .int .i64 k ∧ (l.take k).find? p = none ∧ Below w.heap.size w wr

structure Wr where
  frm : Int
  slot : Int
  must : Int
deriving DecidableEq
def wrV (x : Wr) : List Value := [.int .i64 x.frm, .int .i64 x.slot, .int .i64 x.must]
theorem wrV_length (x : Wr) : (wrV x).length = 3 := rfl
def wr0 : Wr := ⟨0, 0, 0⟩
def wrStep (xs : List Int) (l : List Cm) (counts : List Int) (t : Int) (o : List Wr) (s : Nat) : List Wr :=
  if mustC l counts t s ((cl xs t.toNat).getD s 0) ≠ (cl xs t.toNat).getD s 0 then o ++ [⟨t, s, mustC l counts t s ((cl xs t.toNat).getD s 0)⟩] else o
def wrRound (xs : List Int) (l : List Cm) (counts : List Int) (o : List Wr) (t : Int) : List Wr := (List.range 8).foldl (wrStep xs l counts t) o
/-- Of an image with a head: words that are not as they must be. -/
def wrongsC (xs : List Int) : List Wr := (tablesC (claimsC xs)).foldl (wrRound xs (claimsC xs) (countsC (claimsC xs))) []

theorem wrStep_length (xs : List Int) (l : List Cm) (counts : List Int) (t : Int) (o : List Wr) (s : Nat) : (wrStep xs l counts t o s).length ≤ o.length + 1 := by unfold wrStep; split <;> simp
theorem wrRound_length (xs : List Int) (l : List Cm) (counts : List Int) (o : List Wr) (t : Int) : (wrRound xs l counts o t).length ≤ o.length + 8 := by
  have := foldl_length (wrStep xs l counts t) 1 (wrStep_length xs l counts t) (List.range 8) o
  unfold wrRound; simp at this; omega
theorem tables_length (xs : List Int) : (tablesC (claimsC xs)).length ≤ 4000 := by
  have h0 := tbl_length (claimsC xs) 0 []
  have h1 := tbl_length (claimsC xs) 1 (tblRound (claimsC xs) [] 0)
  have h2 := tbl_length (claimsC xs) 2 (tblRound (claimsC xs) (tblRound (claimsC xs) [] 0) 1)
  have hl := claims_length xs
  have e : tablesC (claimsC xs) = tblRound (claimsC xs) (tblRound (claimsC xs) (tblRound (claimsC xs) [] 0) 1) 2 := rfl
  rw [e]
  unfold tblRound at *
  simp at h0
  omega

theorem Rd.grownAt {w w' : World} {B n b off g : Nat} {xs : List Int} (h : Rd w B (some ⟨b, off, none⟩) n xs) (hg : w.grownBy w' (some g)) (hb : b < w.heap.size) (hne : b ≠ g) : Rd w' B (some ⟨b, off, none⟩) n xs :=
  ⟨h.1, fun hn => by
    obtain ⟨b', off', e, hb', hc⟩ := h.2 hn
    injection e with e
    injection e with e1 e2
    subst e1; subst e2
    exact ⟨b, off, rfl, hb', fun j hj => (World.cell?_of_block (w := w) (hg.block b hb (fun e => by injection e with e; exact hne e))).trans (hc j hj)⟩⟩

theorem wr_cells {w : World} {B g : Nat} {l : List Wr} (h : RdV 3 w B (some ⟨g, 0, none⟩) l.length (l.flatMap wrV)) {k : Nat} (hk : k < l.length) : ∀ j, j < 3 → w.cell? ⟨g, k * 3 + j, none⟩ = (wrV (l.getD k wr0))[j]? := by
  intro j hj
  obtain ⟨b, off, e, _, hc⟩ := h.2 (by omega)
  injection e with e
  injection e with e1 e2
  subst e1; subst e2
  have := hc (k * 3 + j) (by omega)
  rw [Nat.zero_add] at this
  rw [this, flat_get wrV 3 wrV_length l k j hk hj, List.getD_eq_getElem?_getD, List.getElem?_eq_getElem hk]; rfl
theorem wrongs_length (xs : List Int) : (wrongsC xs).length ≤ 32000 := by
  unfold wrongsC
  have h1 := foldl_length (wrRound xs (claimsC xs) (countsC (claimsC xs))) 8 (wrRound_length xs _ _) (tablesC (claimsC xs)) []
  have h2 := tables_length xs
  simp at h1
  omega
theorem looseL_length (xs : List Int) : (looseL xs).length ≤ 1296 := by
  have := List.length_filter_le (fun c : Cm => !c.good) (claimsL xs)
  have := claimsL_length xs
  unfold looseL
  omega

end Go.Proofs.YtibokhkohanoaabDoor
