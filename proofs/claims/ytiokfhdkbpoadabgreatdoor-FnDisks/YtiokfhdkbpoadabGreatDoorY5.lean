/- Rows of one's own of any element, nil or not; and what the laws' helpers do with rows of shots. The law FnExactClusterAt, walked. The exact laws of chapter 4, walked, given what the program's own functions answer. What the laws' helpers do with rows of claims. The exact laws of chapter 6, walked, given what the program's own function answers. -/
import Derived.Test.YtiokfhdkbpoadabGreatDoorG8
import Derived.Test.YtiokfhdkbpoadabGreatDoorG0
import Derived.Deep.RegionHeld3
import Derived.Test.YtiokfhdkbpoadabGreatDoorG1
import Derived.Test.YtiokfhdkbpoadabGreatDoorG7
namespace Go.Proofs.YtiokfhdkbpoadabGreatDoor
open Go.RowKit

/-- A row of the call's own, of elements of type t, in a block from lo on and below hi, whose cells are cs; it may be nil where it is empty. -/
structure OwR (t : TypeId) (sz : Nat) (w : World) (lo hi : Nat) (A : Option Addr) (n c : Nat) (cs : List Value) : Prop where
  own : w.ownsRow lo t sz (.slice A n c) n cs
  top : ∀ g, Value.ownBlock (.slice A n c) = some g → g < hi

section
variable {t : TypeId} {sz : Nat} {w w' : World} {lo hi n c : Nat} {A : Option Addr} {cs : List Value}
theorem OwR.len (h : OwR t sz w lo hi A n c cs) : cs.length = n * sz := h.own.1
theorem OwR.form (h : OwR t sz w lo hi A n c cs) : (A = none ∧ n = 0 ∧ c = 0) ∨ ∃ g, A = some ⟨g, 0, none⟩ ∧ lo ≤ g ∧ g < hi ∧ g < w.heap.size ∧ n ≤ c := by
  have hl := h.own.lt
  rcases h.own.2 with ⟨hv, hn⟩ | ⟨g, cap, cur, hv, hb, hg, hnc, _⟩
  · injection hv with h1 h2 h3
    exact .inl ⟨h1, h2, h3⟩
  · injection hv with h1 h2 h3
    subst h1
    exact .inr ⟨g, rfl, hb, h.top g rfl, (hl g rfl).2, by omega⟩
theorem OwR.cell {g : Nat} (h : OwR t sz w lo hi (some ⟨g, 0, none⟩) n c cs) {j : Nat} (hj : j < n * sz) : w.cell? ⟨g, j, none⟩ = cs[j]? := h.own.cellAt j hj
theorem OwR.free {g : Nat} (h : OwR t sz w lo hi (some ⟨g, 0, none⟩) n c cs) (j : Nat) : w.frozen? ⟨g, j, none⟩ = false := h.own.frozenAt j
theorem OwR.rd (h : OwR t sz w lo hi A n c cs) : RdV sz w hi A n cs := by
  refine ⟨h.len, fun hn => ?_⟩
  have hw := h
  rcases h.form with ⟨_, h0, _⟩ | ⟨g, rfl, h1, h2, h3, h4⟩
  · omega
  · exact ⟨g, 0, rfl, h2, fun j hj => by rw [Nat.zero_add]; exact hw.cell hj⟩
theorem OwR.keep (h : OwR t sz w lo hi A n c cs) (hk : ∀ g, lo ≤ g → g < hi → g < w.heap.size → w'.heap[g]? = w.heap[g]?) : OwR t sz w' lo hi A n c cs := by
  refine ⟨⟨h.own.1, ?_⟩, h.top⟩
  have ht := h.top
  have hl := h.own.lt
  rcases h.own.2 with hn | ⟨g, cap, cur, hv, hb, hg, rest⟩
  · exact .inl hn
  · refine .inr ⟨g, cap, cur, hv, hb, ?_, rest⟩
    rw [hv] at ht hl
    rw [hk g hb (ht g rfl) (hl g rfl).2]
    exact hg
theorem OwR.below {B : Nat} (h : OwR t sz w lo hi A n c cs) (hb : Below B w w') (hB : hi ≤ B) : OwR t sz w' lo hi A n c cs := h.keep fun g _ h2 _ => hb.block g (by omega)
theorem OwR.grown {row : Option Nat} (h : OwR t sz w lo hi A n c cs) (hg : w.grownBy w' row) (hr : ∀ g, row = some g → g < lo ∨ hi ≤ g) : OwR t sz w' lo hi A n c cs :=
  h.keep fun g h1 h2 h3 => hg.block g h3 (fun e => by have := hr g e.symm; omega)
theorem OwR.drewN (h : OwR t sz w lo hi A n c cs) (k : Nat) : OwR t sz (w.drewN k) lo hi A n c cs := h.keep fun _ _ _ _ => rfl
theorem OwR.more {lo' hi' : Nat} (h : OwR t sz w lo hi A n c cs) (h1 : lo' ≤ lo) (h2 : hi ≤ hi') : OwR t sz w lo' hi' A n c cs := by
  refine ⟨⟨h.own.1, ?_⟩, fun g hg => by have := h.top g hg; omega⟩
  rcases h.own.2 with hn | ⟨g, cap, cur, hv, hb, rest⟩
  · exact .inl hn
  · exact .inr ⟨g, cap, cur, hv, by omega, rest⟩
theorem OwR.set {g : Nat} (h : OwR t sz w lo hi (some ⟨g, 0, none⟩) n c cs) (j : Nat) (u : Value) :
    OwR t sz (w.setCell ⟨g, j, none⟩ u) lo hi (some ⟨g, 0, none⟩) n c (cs.set j u) ∧ w.grownBy (w.setCell ⟨g, j, none⟩ u) (some g) := by
  obtain ⟨h1, h2⟩ := h.own.stored j u
  exact ⟨⟨h1, h.top⟩, h2⟩
theorem OwV.toR {g : Nat} (h : OwV t sz w lo hi g n c cs) : OwR t sz w lo hi (some ⟨g, 0, none⟩) n c cs := ⟨h.own, fun k hk => by simp [Value.ownBlock] at hk; subst hk; exact h.top⟩
theorem OwR.nil (t : TypeId) (sz : Nat) (w : World) (lo hi : Nat) : OwR t sz w lo hi none 0 0 [] := ⟨World.ownsRow_nil _ _ _ _, fun g hg => by cases hg⟩
theorem OwR.row (h : OwR t sz w lo hi A n c cs) : ∀ g, Value.ownBlock (.slice A n c) = some g → lo ≤ g ∧ g < hi ∧ g < w.heap.size :=
  fun g hg => ⟨(h.own.lt g hg).1, h.top g hg, (h.own.lt g hg).2⟩
end

/-- It answers a new row; nothing that was there has turned. -/
def RetR (t : TypeId) (sz : Nat) (w : World) (n : Nat) (cs : List Value) (e : Ending) (w' : World) : Prop :=
  ∃ (A : Option Addr) (c : Nat), e = .returned (.slice A n c) ∧ OwR t sz w' w.heap.size w'.heap.size A n c cs ∧ Below w.heap.size w w'
theorem RetR.after {t : TypeId} {sz n : Nat} {w w1 : World} {cs : List Value} {e : Ending} {w' : World} (h : RetR t sz w1 n cs e w') (hb : Below w.heap.size w w1) : RetR t sz w n cs e w' := by
  obtain ⟨A, c, he, ho, hb2⟩ := h
  exact ⟨A, c, he, ho.more hb.size (Nat.le_refl _), below_more hb hb2 hb.size⟩

theorem mark_cell (cs : List Value) (q : Int) (m : Nat) (hm : m < cs.length) : (iv (upTo q m) ++ cs.drop m).set m (.int .i64 (q + m)) = iv (upTo q (m + 1)) ++ cs.drop (m + 1) := by
  rw [List.set_append, if_neg (by rw [iv_length, upTo_length]; omega), iv_length, upTo_length, Nat.sub_self, upTo_snoc, List.drop_eq_getElem_cons hm, List.set_cons_zero, iv_append, List.append_assoc]
  rfl

/-- The answer of ShotsIn, of whoever it is. -/
def RetShs (w : World) (l : List (Int × Int)) : Ending → World → Prop := RetR 67 2 w l.length (l.flatMap shV)
theorem RetSh.toR {w : World} {l : List (Int × Int)} {e : Ending} {w' : World} (h : RetSh w l e w') : RetShs w l e w' := by
  obtain ⟨g, c, he, ho, hb⟩ := h
  exact ⟨_, c, he, ho.toR, hb⟩

set_option maxHeartbeats 1000000 in
theorem specShotsIn_any (A : Option Addr) (n c : Nat) (xs : List Int) (w : World) (h : Rd w w.heap.size A n xs) (hn : n ≤ 2097152) :
    Calls Tryz.prog 57 #[.slice A n c] w (RetShs w (shotsL xs)) := by
  go_enter Tryz.func57, Tryz.ntmps57
  go_wp2_with fail
  refine (specHeadIn_any _ _ _ xs _ h hn).mono ?_
  rintro e w1 ⟨rfl, b1⟩
  generalize hr : headIn xs = r
  obtain ⟨⟨s, f, r, u, m⟩, is⟩ := r
  have HR := Lib.hid hr
  clear hr
  unfold hdV
  have b2 := b1.alloc b1.size (.cells #[.int .i64 s, .int .i64 f, .int .i64 r, .int .i64 u, .int .i64 m] 33)
  cases is
  · have HN : Hid (shotsL xs = []) := shotsL_none HR.out (by rw [(headIn_false HR.out).2]; exact there_hd0 xs)
    have b3 := b2.alloc b2.size (.cells #[] 67)
    have o3 := emptyV 67 2 (w1.alloc (.cells #[.int .i64 s, .int .i64 f, .int .i64 r, .int .i64 u, .int .i64 m] 33)) w.heap.size (w1.heap.size + 2) (w1.heap.size + 1) b2.size (by simp) (by omega)
    go_wp2_with fail
    go_ret
    rw [HN.out]
    exact ⟨_, 0, rfl, o3.toR.more (Nat.le_refl _) (by simp), b3⟩
  · go_wp2_with fail
    refine (specShots_any A n c xs _ ((h.below b2).more b2.size) hn).mono ?_
    rintro e w3 ⟨g, cg, rfl, oG, b3⟩
    go_wp2_with fail
    go_ret
    exact RetR.after (RetSh.toR ⟨g, cg, rfl, oG, b3⟩) b2

theorem RdV.sh {w : World} {B n b off : Nat} {l : List (Int × Int)} (h : RdV 2 w B (some ⟨b, off, none⟩) n (l.flatMap shV)) {k : Nat} (hk : k < l.length) (hn : l.length = n) :
    w.cell? ⟨b, off + k * 2, none⟩ = some (.int .i64 (l.getD k (0, 0)).1) ∧ w.cell? ⟨b, off + k * 2 + 1, none⟩ = some (.int .i64 (l.getD k (0, 0)).2) ∧ b < B := by
  obtain ⟨b', off', e, hb, hc⟩ := h.2 (by omega)
  injection e with e
  injection e with e1 e2
  subst e1; subst e2
  refine ⟨?_, ?_, hb⟩
  · have := hc (k * 2) (by omega)
    have e := sh_cell hk (show 0 < 2 by omega)
    rw [Nat.add_zero] at e
    rw [this, e]
    rfl
  · have := hc (k * 2 + 1) (by omega)
    rw [sh_cell hk (by omega)] at this
    rw [show off + k * 2 + 1 = off + (k * 2 + 1) by omega, this]
    rfl

theorem row_of {A : Option Addr} {n c lo hi : Nat} {w : World} {xs : List Int} (h : Ow w lo hi A n c xs) : ∀ g, Value.ownBlock (.slice A n c) = some g → lo ≤ g ∧ g < hi ∧ g < w.heap.size :=
  fun g hg => ⟨(h.own.lt g hg).1, h.top g hg, (h.own.lt g hg).2⟩

/-- What is asked of the program's TableAt, ShotsIn, FirstOf. -/
def TableC : Prop := ∀ (A : Option Addr) (n c : Nat) (xs : List Int) (t : Int) (w : World), Rd w w.heap.size A n xs → n ≤ 2097152 → n ≤ c → Calls Tryz.prog 38 #[.slice A n c, .int .i64 t] w (Ret w (tableL xs t))

def ShotsC : Prop := ∀ (A : Option Addr) (n c : Nat) (xs : List Int) (w : World), Rd w w.heap.size A n xs → n ≤ 2097152 → n ≤ c → Calls Tryz.prog 60 #[.slice A n c] w (RetShs w (shotsL xs))

def FirstC : Prop := ∀ (A : Option Addr) (n c : Nat) (xs : List Int) (q : Int) (w : World), Rd w w.heap.size A n xs → n ≤ 2097152 → n ≤ c → Calls Tryz.prog 62 #[.slice A n c, .int .i64 q] w (RetI w (firstOf xs q))

theorem mark_any_cell (cs : List Value) (f : Nat → Value) (m : Nat) (hm : m < cs.length) : ((List.range m).map f ++ cs.drop m).set m (f m) = (List.range (m + 1)).map f ++ cs.drop (m + 1) := by
  rw [List.set_append, if_neg (by simp), List.length_map, List.length_range, Nat.sub_self, List.range_succ, List.map_append, List.drop_eq_getElem_cons hm, List.set_cons_zero, List.append_assoc]
  rfl
theorem range_map_get (f : Nat → Value) (n j : Nat) (h : j < n) : ((List.range n).map f)[j]? = some (f j) := by simp [h]

theorem RdV.cm {w : World} {B n b off : Nat} {l : List Cm} (h : RdV 6 w B (some ⟨b, off, none⟩) n (l.flatMap cmV)) {k : Nat} (hk : k < l.length) (hn : l.length = n) :
    w.cell? ⟨b, off + k * 6, none⟩ = some (.int .i64 (l.getD k cm0).kind) ∧ w.cell? ⟨b, off + k * 6 + 1, none⟩ = some (.int .i64 (l.getD k cm0).frm) ∧ w.cell? ⟨b, off + k * 6 + 2, none⟩ = some (.int .i64 (l.getD k cm0).slot) ∧ w.cell? ⟨b, off + k * 6 + 3, none⟩ = some (.int .i64 (l.getD k cm0).place) ∧ w.cell? ⟨b, off + k * 6 + 4, none⟩ = some (.int .i64 (l.getD k cm0).target) ∧ w.cell? ⟨b, off + k * 6 + 5, none⟩ = some (.bool (l.getD k cm0).good) ∧ b < B := by
  obtain ⟨b', off', e, hb, hc⟩ := h.2 (by omega)
  injection e with e
  injection e with e1 e2
  subst e1; subst e2
  refine ⟨?_, ?_, ?_, ?_, ?_, ?_, hb⟩
  · have := hc (k * 6) (by omega)
    have e := cm_cell hk (show 0 < 6 by omega)
    rw [Nat.add_zero] at e
    rw [this, e]
    rfl
  · have := hc (k * 6 + 1) (by omega)
    rw [show off + k * 6 + 1 = off + (k * 6 + 1) by omega, this, cm_cell hk (by omega)]
    rfl
  · have := hc (k * 6 + 2) (by omega)
    rw [show off + k * 6 + 2 = off + (k * 6 + 2) by omega, this, cm_cell hk (by omega)]
    rfl
  · have := hc (k * 6 + 3) (by omega)
    rw [show off + k * 6 + 3 = off + (k * 6 + 3) by omega, this, cm_cell hk (by omega)]
    rfl
  · have := hc (k * 6 + 4) (by omega)
    rw [show off + k * 6 + 4 = off + (k * 6 + 4) by omega, this, cm_cell hk (by omega)]
    rfl
  · have := hc (k * 6 + 5) (by omega)
    rw [show off + k * 6 + 5 = off + (k * 6 + 5) by omega, this, cm_cell hk (by omega)]
    rfl

/-- What the mark leaves at cell m. -/
def mkClaim (q : Int) (m : Nat) : Value := if m % 6 = 5 then .bool ((q + (m : Int)) % 3 == 0) else .int .i64 (q + (m : Int))

/-- The answer of ClaimsIn and LooseIn, of whoever it is. -/
def RetCms (w : World) (l : List Cm) : Ending → World → Prop := RetR 115 6 w l.length (l.flatMap cmV)

theorem RetCm.toR {w : World} {l : List Cm} {e : Ending} {w' : World} (h : RetCm w l e w') : RetCms w l e w' := by
  obtain ⟨g, c, he, ho, hb⟩ := h
  exact ⟨_, c, he, ho.toR, hb⟩

theorem specClaimsInR_any (A : Option Addr) (n c : Nat) (xs : List Int) (w : World) (h : Rd w w.heap.size A n xs) (hn : n ≤ 2097152) :
    Calls Tryz.prog 135 #[.slice A n c] w (RetCms w (claimsL xs)) := (specClaimsIn_any A n c xs w h hn).mono fun _ _ h => h.toR

def ClaimsC : Prop := ∀ (A : Option Addr) (n c : Nat) (xs : List Int) (w : World), Rd w w.heap.size A n xs → n ≤ 2097152 → n ≤ c → Calls Tryz.prog 143 #[.slice A n c] w (RetCms w (claimsL xs))

end Go.Proofs.YtiokfhdkbpoadabGreatDoor
