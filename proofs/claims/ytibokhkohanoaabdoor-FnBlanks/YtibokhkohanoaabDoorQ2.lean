/- Defects: counts that are wrong (l11Counts), the model's side. All defects (DefectsIn), Sound, the model's side. -/
import Derived.Test.YtibokhkohanoaabDoorQ1
import Derived.Deep.Cut
namespace Go.Proofs.YtibokhkohanoaabDoor
open Go.RowKit

structure Dc where
  kind : Int
  a : Int
  b : Int
deriving DecidableEq
def dcV (x : Dc) : List Value := [.int .i64 x.kind, .int .i64 x.a, .int .i64 x.b]
theorem dcV_length (x : Dc) : (dcV x).length = 3 := rfl
def dc0 : Dc := ⟨0, 0, 0⟩
def cdStep (st ct : List Int) (o : List Dc) (c : Nat) : List Dc :=
  if st.getD c 0 < ct.getD c 0 then o ++ [⟨5, c, st.getD c 0⟩] else (if ct.getD c 0 < st.getD c 0 then o ++ [⟨6, c, st.getD c 0⟩] else o)
def cntDefs (st ct : List Int) : List Dc := (List.range 64).foldl (cdStep st ct) []
theorem cdStep_length (st ct : List Int) (o : List Dc) (c : Nat) : (cdStep st ct o c).length ≤ o.length + 1 := by
  unfold cdStep; split
  · simp
  · split <;> simp
theorem storedC_length (xs bs : List Int) : (storedC xs bs).length = 64 := by simp [storedC]

theorem infoDc : (Tryd.prog.info? 75).map (fun i => (i.zero, i.size, i.bytes)) = some (some (.agg #[.int .i64 0, .int .i64 0, .int .i64 0]), 3, 24) := by kernel_rfl

/-- It answers a new list of defects. -/
def RetDc (w : World) (l : List Dc) (e : Ending) (w' : World) : Prop :=
  ∃ g c, e = .returned (.slice (some ⟨g, 0, none⟩) l.length c) ∧ OwV 75 3 w' w.heap.size w'.heap.size g l.length c (l.flatMap dcV) ∧ Below w.heap.size w w'
/-- The defects o, in a row that began at block g0. -/
def DcAt (w4 : World) (lo g0 : Nat) (o : List Dc) (v : Value) (wr : World) : Prop :=
  ∃ g' c', v = .slice (some ⟨g', 0, none⟩) o.length c' ∧ OwV 75 3 wr lo wr.heap.size g' o.length c' (o.flatMap dcV) ∧ w4.grownBy wr (some g0) ∧ (g' = g0 ∨ w4.heap.size ≤ g')
def CdRel (w4 : World) (lo g0 : Nat) (st ct : List Int) (v i : Value) (wr : World) : Prop := ∃ k : Nat, k ≤ 64 ∧ i = .int .i64 k ∧ DcAt w4 lo g0 ((List.range k).foldl (cdStep st ct) []) v wr

def looseD (c : Cm) : Dc := ⟨3, c.kind, c.target⟩
def ownD (x : Wr) : Dc := ⟨7, x.frm, x.slot⟩
def d1L (xs : List Int) : List Dc := if xs.length % 8 ≠ 0 then [⟨2, xs.length, 0⟩] else []
def d2L (xs : List Int) : List Dc := d1L xs ++ (looseL xs).map looseD
def d3L (xs : List Int) : List Dc := if (headOf xs).many = 0 ∧ (headOf xs).shots ≠ 0 then d2L xs ++ [⟨4, (headOf xs).shots, 0⟩] else d2L xs
def d4L (xs : List Int) : List Dc := d3L xs ++ cntDefs (storedL xs) (countsC (claimsC xs))
def d5L (xs : List Int) : List Dc := d4L xs ++ (wrongsC xs).map ownD
def defectsL (xs : List Int) : List Dc := if imgB xs = true then (if hasHead xs = true then d5L xs else [⟨1, 0, 0⟩]) else []
def soundB (xs : List Int) : Bool := imgB xs && decide ((defectsL xs).length = 0)

theorem cntDefs_length (st ct : List Int) : (cntDefs st ct).length ≤ 64 := by
  unfold cntDefs
  have h1 := foldl_length (cdStep st ct) 1 (cdStep_length st ct) (List.range 64) []
  simp at h1
  omega
theorem map_step {α : Type} (f : α → Dc) (l : List α) (k : Nat) (hk : k < l.length) (o : List Dc) : o ++ (l.take (k + 1)).map f = (o ++ (l.take k).map f) ++ [f l[k]] := by
  rw [List.take_succ_eq_append_getElem hk, List.map_append, List.append_assoc]; rfl
theorem dc_one (x : Dc) : ∀ u ∈ dcV x, u.oneCell' = true := by simp [dcV, Value.oneCell']
theorem dcs_one (l : List Dc) : ∀ u ∈ l.flatMap dcV, u.oneCell' = true := by
  intro u hu
  rw [List.mem_flatMap] at hu
  obtain ⟨x, _, hx⟩ := hu
  exact dc_one x u hx

theorem len_dc {t : TypeId} {w : World} {lo hi g n c : Nat} {l : List Dc} (h : OwV t 3 w lo hi g n c (l.flatMap dcV)) : n = l.length := by
  have := h.len
  rw [flat_length dcV 3 dcV_length] at this
  omega
def DfRel {α : Type} (w4 : World) (lo g0 : Nat) (f : α → Dc) (o : List Dc) (l : List α) (v i : Value) (wr : World) : Prop := ∃ k : Nat, k ≤ l.length ∧ i = .int .i64 k ∧ DcAt w4 lo g0 (o ++ (l.take k).map f) v wr

theorem DfRel.start {α : Type} {w5 : World} {lo hi G N C : Nat} {f : α → Dc} {o : List Dc} {l : List α} {v : Value} (ho : OwV 75 3 w5 lo hi G N C (o.flatMap dcV)) (hv : v = .slice (some ⟨G, 0, none⟩) N C) : DfRel w5 lo G f o l v (.int .i64 0) w5 := by
  have hN := len_dc ho
  subst hN
  refine ⟨0, Nat.zero_le _, rfl, G, C, ?_, ?_, grown_refl _ _, .inl rfl⟩
  · simpa using hv
  · rw [List.take_zero, List.map_nil, List.append_nil]
    exact ⟨ho.own, ho.lt⟩

end Go.Proofs.YtibokhkohanoaabDoor
