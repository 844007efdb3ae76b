/- Rows of any element: a slice whose cells are a list of values; one that the call itself made; append onto it. No program is named here. -/
import Derived.Test.YtibokhkohanoaaaApp
import Derived.Deep.AppendLies
import Derived.Deep.RegionHeld3
namespace Go.Proofs.Ytibokhkohanoaaa
open Go.RowKit

/-- The slice value '.slice A n c', of elements of sz cells, reads as the cells cs, and lies below block B. -/
def RdV (sz : Nat) (w : World) (B : Nat) (A : Option Addr) (n : Nat) (cs : List Value) : Prop :=
  cs.length = n * sz ∧ (0 < n → ∃ b off, A = some ⟨b, off, none⟩ ∧ b < B ∧ ∀ j, j < n * sz → w.cell? ⟨b, off + j, none⟩ = cs[j]?)

section
variable {sz : Nat} {w w' : World} {B B' n : Nat} {A : Option Addr} {cs : List Value}
theorem RdV.len (h : RdV sz w B A n cs) : cs.length = n * sz := h.1
theorem RdV.keep (h : RdV sz w B A n cs) (hk : ∀ p : Addr, p.block < B → w'.cell? p = w.cell? p) : RdV sz w' B A n cs :=
  ⟨h.1, fun hn => by
    obtain ⟨b, off, e, hb, hc⟩ := h.2 hn
    exact ⟨b, off, e, hb, fun j hj => (hk ⟨b, off + j, none⟩ hb).trans (hc j hj)⟩⟩
theorem RdV.more (h : RdV sz w B A n cs) (hB : B ≤ B') : RdV sz w B' A n cs :=
  ⟨h.1, fun hn => by
    obtain ⟨b, off, e, hb, hc⟩ := h.2 hn
    exact ⟨b, off, e, by omega, hc⟩⟩
theorem RdV.below (h : RdV sz w B A n cs) (hb : Below B w w') : RdV sz w' B A n cs := h.keep fun _ hp => hb.cell hp
theorem RdV.drewN (h : RdV sz w B A n cs) (k : Nat) : RdV sz (w.drewN k) B A n cs := h
theorem RdV.drew (h : RdV sz w B A n cs) : RdV sz w.drew B A n cs := h
theorem RdV.front {m : Nat} {cs1 cs2 : List Value} (h : RdV sz w B A n (cs1 ++ cs2)) (hm : cs1.length = m * sz) (hsz : 0 < sz) : RdV sz w B A m cs1 := by
  have hl := h.len
  rw [List.length_append] at hl
  have hmn : m * sz ≤ n * sz := by omega
  have hmn' : m ≤ n := Nat.le_of_mul_le_mul_right hmn hsz
  refine ⟨hm, fun h0 => ?_⟩
  obtain ⟨b, off, e, hb, hc⟩ := h.2 (by omega)
  refine ⟨b, off, e, hb, fun j hj => ?_⟩
  rw [hc j (by omega), List.getElem?_append_left (by omega)]
theorem RdV.grown {g : Nat} {b : Addr} (h : RdV sz w B (some b) n cs) (hg : w.grownBy w' (some g)) (hb : b.block < w.heap.size) (hne : b.block ≠ g) : RdV sz w' B (some b) n cs :=
  ⟨h.1, fun hn => by
    obtain ⟨b', off, e, hb', hc⟩ := h.2 hn
    injection e with e
    subst e
    exact ⟨b', off, rfl, hb', fun j hj => (World.cell?_of_block (w := w) (hg.block b' hb (fun e => by injection e with e; exact hne e))).trans (hc j hj)⟩⟩
end

/-- A row of the call's own, in a block from lo on and below hi, of elements of type t, whose cells are cs. It is not nil. -/
structure OwV (t : TypeId) (sz : Nat) (w : World) (lo hi g n c : Nat) (cs : List Value) : Prop where
  own : w.ownsRow lo t sz (.slice (some ⟨g, 0, none⟩) n c) n cs
  top : g < hi

section
variable {t : TypeId} {sz : Nat} {w w' : World} {lo hi g n c : Nat} {cs : List Value}
theorem OwV.len (h : OwV t sz w lo hi g n c cs) : cs.length = n * sz := h.own.1
theorem OwV.low (h : OwV t sz w lo hi g n c cs) : lo ≤ g := (h.own.lt g rfl).1
theorem OwV.lt (h : OwV t sz w lo hi g n c cs) : g < w.heap.size := (h.own.lt g rfl).2
theorem OwV.cap (h : OwV t sz w lo hi g n c cs) : n ≤ c := by
  rcases h.own.2 with ⟨hv, hn⟩ | ⟨g, cap, cur, hv, hb, hg, hnc, _⟩
  · cases hv
  · injection hv with h1 h2 h3
    omega
theorem OwV.cell (h : OwV t sz w lo hi g n c cs) {j : Nat} (hj : j < n * sz) : w.cell? ⟨g, j, none⟩ = cs[j]? := h.own.cellAt j hj
theorem OwV.free (h : OwV t sz w lo hi g n c cs) (j : Nat) : w.frozen? ⟨g, j, none⟩ = false := h.own.frozenAt j
theorem OwV.rd (h : OwV t sz w lo hi g n c cs) : RdV sz w hi (some ⟨g, 0, none⟩) n cs :=
  ⟨h.len, fun _ => ⟨g, 0, rfl, h.top, fun j hj => by rw [Nat.zero_add]; exact h.cell hj⟩⟩
theorem OwV.keep (h : OwV t sz w lo hi g n c cs) (hk : w'.heap[g]? = w.heap[g]?) : OwV t sz w' lo hi g n c cs := by
  refine ⟨⟨h.own.1, ?_⟩, h.top⟩
  rcases h.own.2 with hn | ⟨g', cap, cur, hv, hb, hg, rest⟩
  · exact .inl hn
  · injection hv with h1 h2 h3
    injection h1 with h1
    injection h1 with h1
    subst h1; subst h3
    exact .inr ⟨g, c, cur, rfl, hb, by rw [hk]; exact hg, rest⟩
theorem OwV.below {B : Nat} (h : OwV t sz w lo hi g n c cs) (hb : Below B w w') (hB : hi ≤ B) : OwV t sz w' lo hi g n c cs := h.keep (hb.block g (by have := h.top; omega))
theorem OwV.grown {row : Option Nat} (h : OwV t sz w lo hi g n c cs) (hg : w.grownBy w' row) (hr : ∀ k, row = some k → k ≠ g) : OwV t sz w' lo hi g n c cs :=
  h.keep (hg.block g h.lt (fun e => hr g e.symm rfl))
theorem OwV.drewN (h : OwV t sz w lo hi g n c cs) (k : Nat) : OwV t sz (w.drewN k) lo hi g n c cs := h.keep rfl
theorem OwV.drew (h : OwV t sz w lo hi g n c cs) : OwV t sz w.drew lo hi g n c cs := h.keep rfl
theorem OwV.more {lo' hi' : Nat} (h : OwV t sz w lo hi g n c cs) (h1 : lo' ≤ lo) (h2 : hi ≤ hi') : OwV t sz w lo' hi' g n c cs := by
  refine ⟨⟨h.own.1, ?_⟩, by have := h.top; omega⟩
  rcases h.own.2 with hn | ⟨g, cap, cur, hv, hb, rest⟩
  · exact .inl hn
  · exact .inr ⟨g, cap, cur, hv, by omega, rest⟩
theorem OwV.set (h : OwV t sz w lo hi g n c cs) (j : Nat) (u : Value) : OwV t sz (w.setCell ⟨g, j, none⟩ u) lo hi g n c (cs.set j u) ∧ w.grownBy (w.setCell ⟨g, j, none⟩ u) (some g) := by
  obtain ⟨h1, h2⟩ := h.own.stored j u
  exact ⟨⟨h1, h.top⟩, h2⟩
/-- The old row after something was put behind in a new place, or in its spare room. -/
theorem OwV.of {v : Value} (h : w.ownsRow lo t sz v n cs) (hv : v ≠ .slice none 0 0) : ∃ g c, v = .slice (some ⟨g, 0, none⟩) n c ∧ OwV t sz w lo w.heap.size g n c cs := by
  have hl := h.lt
  rcases h.2 with ⟨hv', hn⟩ | ⟨g, cap, cur, hv', _⟩
  · exact absurd hv' hv
  · subst hv'
    exact ⟨g, cap, rfl, h, (hl g rfl).2⟩
end

theorem emptyV (t : TypeId) (sz : Nat) (w : World) (lo hi g : Nat) (hlo : lo ≤ w.heap.size) (hg : w.heap.size = g) (hhi : g < hi) : OwV t sz (w.alloc (.cells #[] t)) lo hi g 0 0 [] := by
  subst hg
  have h : (w.alloc (.cells #[] t)).ownsRow lo t sz (.slice (some ⟨w.heap.size, 0, none⟩) 0 0) 0 [] := World.ownsRow_made w #[] 0 hlo (by simp [maxLen]) (by simp)
  exact ⟨h, hhi⟩
theorem madeV (t : TypeId) (sz : Nat) (w : World) (cs : Array Value) (n lo hi g : Nat) (hlo : lo ≤ w.heap.size) (hg : w.heap.size = g) (hhi : g < hi) (hn : n ≤ 1000) (hl : cs.size = n * sz) : OwV t sz (w.alloc (.cells cs t)) lo hi g n n cs.toList := by
  subst hg
  exact ⟨World.ownsRow_lit w cs n hlo (by simp only [maxLen]; omega) hl, hhi⟩

section
variable {P : Program}
/-- Where what is appended to comes to lie: where it was, or behind all. -/
theorem run_append_where (w : World) (t ty e : TypeId) (i : TypeInfo) (z : Value) (sz by_ : Nat) (ht : P.underlying t = some (.slice e)) (hi : P.info? e = some i) (hz : i.zero = some z)
    (hsize : i.size = sz) (hby : i.bytes = by_) (lo g n c : Nat) (cs : List Value) (hown : w.ownsRow lo e sz (.slice (some ⟨g, 0, none⟩) n c) n cs)
    (ad : Addr) (m c' : Nat) (news : List Value) (hl : news.length = m * sz) (hnews : ∀ j u, news[j]? = some u → w.cell? (ad.add j) = some u) (h1 : ∀ u ∈ news, u.oneCell' = true)
    (h63 : n + m ≤ maxLen) (hbytes : (n + m) * by_ ≤ 140737488355328) (v' : Value) (w' : World)
    (hr : (Builtin.append_ #[t, t] ty #[.slice (some ⟨g, 0, none⟩) n c, .slice (some ad) m c']).run P w = .ok v' w') : ∃ g' cd, v' = .slice (some ⟨g', 0, none⟩) (n + m) cd ∧ (g' = g ∨ (g' = w.heap.size ∧ w'.heap[g]? = w.heap[g]?)) := by
  subst hsize
  subst hby
  have hsmall : n + m ≤ 9223372036854775807 := by simp only [maxLen] at h63; omega
  rcases hown.2 with ⟨hv, _⟩ | ⟨g', cap, cur, hv, hbg, hg, hnc, hcm, hcs, htake⟩
  · cases hv
  · injection hv with e1 e2 e3
    injection e1 with e1
    injection e1 with e1
    subst e1; subst e3
    by_cases hroom : n + m ≤ c
    · have hfit : n * i.size + news.length ≤ cur.size := by rw [hl, hcs, ← Nat.add_mul]; exact Nat.mul_le_mul_right _ hroom
      have h2 := run_append_room (P := P) w t ty e i ht hi g n c cur hg ad m c' news hl hnews h1 hroom hfit
      rw [h2] at hr
      injection hr with h3 h4
      exact ⟨g, c, h3.symm, .inl rfl⟩
    · have holds : ∀ j u, cs[j]? = some u → w.cell? ((⟨g, 0, none⟩ : Addr).add j) = some u := hown.cells (g := g) rfl
      have h2 := run_append_grow (P := P) w t ty e i z ht hi hz ⟨g, 0, none⟩ n c cs hown.1 holds ad m c' news hl hnews (by omega) (by omega) (growslice_fits (by omega) hbytes)
      rw [h2] at hr
      injection hr with h3 h4
      refine ⟨w.heap.size, _, h3.symm, .inr ⟨rfl, ?_⟩⟩
      rw [← h4]
      exact Below.heap_alloc _ _ _ (hown.lt g rfl).2

/-- Behind an append the old row still reads as it did. -/
theorem OwV.old {e : TypeId} {sz lo hi g g' n m c cd : Nat} {cs news : List Value} {w w' : World} (h0 : OwV e sz w lo hi g n c cs) (h : OwV e sz w' lo w'.heap.size g' (n + m) cd (cs ++ news)) (hsz : 0 < sz) (hgr : w.grownBy w' (some g)) (hat : g' = g ∨ w'.heap[g]? = w.heap[g]?) :
    RdV sz w' w'.heap.size (some ⟨g, 0, none⟩) n cs := by
  rcases hat with rfl | hat
  · exact h.rd.front h0.len hsz
  · have := (h0.keep hat).rd
    refine ⟨this.1, fun hn => ?_⟩
    obtain ⟨b, off, e, _, hc⟩ := this.2 hn
    injection e with e
    injection e with e1 e2
    subst e1; subst e2
    exact ⟨g, 0, rfl, Nat.lt_of_lt_of_le h0.lt hgr.size, hc⟩

/-- append onto a row of one's own: the run. -/
theorem run_append_v (w : World) (t ty e : TypeId) (sz by_ : Nat) (z : Value) (i : TypeInfo) (ht : P.underlying t = some (.slice e)) (hi : P.info? e = some i) (hz : i.zero = some z) (hsize : i.size = sz) (hby : i.bytes = by_) (hzs : z.cells.size = sz) (hsz : 0 < sz) (hb8 : by_ ≤ 1000)
    (lo hi' g n c : Nat) (cs : List Value) (hown : OwV e sz w lo hi' g n c cs)
    (ad : Addr) (m c' : Nat) (news : List Value) (hl : news.length = m * sz) (hnews : ∀ j u, news[j]? = some u → w.cell? (ad.add j) = some u) (h1 : ∀ u ∈ news, u.oneCell' = true)
    (hnm : n + m ≤ 16777216) (hlo : lo ≤ w.heap.size) :
    ∃ g' cd w', (Builtin.append_ #[t, t] ty #[.slice (some ⟨g, 0, none⟩) n c, .slice (some ad) m c']).run P w = .ok (.slice (some ⟨g', 0, none⟩) (n + m) cd) w' ∧ OwV e sz w' lo w'.heap.size g' (n + m) cd (cs ++ news) ∧ w.grownBy w' (some g) ∧ (g' = g ∨ w.heap.size ≤ g') ∧ RdV sz w' w'.heap.size (some ⟨g, 0, none⟩) n cs := by
  have hbytes : (n + m) * by_ ≤ 140737488355328 := by
    have : (n + m) * by_ ≤ 16777216 * 1000 := Nat.mul_le_mul hnm hb8
    omega
  have h63 : n + m ≤ maxLen := by simp only [maxLen]; omega
  obtain ⟨v', w', hr, h2, h3, h4⟩ := run_append_own (P := P) w lo t ty e i z sz by_ ht hi hz hsize hby hzs hsz (.slice (some ⟨g, 0, none⟩) n c) n cs hown.own ad m c' news hl hnews h1 h63 hbytes hlo
  obtain ⟨g', cd, rfl, hw⟩ := run_append_where (P := P) w t ty e i z sz by_ ht hi hz hsize hby lo g n c cs hown.own ad m c' news hl hnews h1 h63 hbytes v' w' hr
  have h5 : OwV e sz w' lo w'.heap.size g' (n + m) cd (cs ++ news) := ⟨h2, (h2.lt g' rfl).2⟩
  exact ⟨g', cd, w', hr, h5, h3, hw.imp id (fun e => by omega), hown.old h5 hsz h3 (hw.imp id (fun e => e.2))⟩

/-- append of what lies somewhere onto a row of one's own. -/
theorem wpList_append_v {w : World} {ops : Array Oper} {rest : List Oper} {o : Oper} {a : Act} {Q : Exit → Act → World → Prop} (hgd : o.guard = none) (s x : Operand) (t : TypeId)
    (ho : o.op = .call { callee := .builtin .append, args := #[s, x], argTypes := #[t, t] })
    (e : TypeId) (sz by_ : Nat) (z : Value) (i : TypeInfo) (ht : P.underlying t = some (.slice e)) (hi : P.info? e = some i) (hz : i.zero = some z) (hsize : i.size = sz) (hby : i.bytes = by_) (hzs : z.cells.size = sz) (hsz : 0 < sz) (hb8 : by_ ≤ 1000)
    (lo hi' g n c : Nat) (cs : List Value) (hs : a.eval s = .slice (some ⟨g, 0, none⟩) n c) (hown : OwV e sz w lo hi' g n c cs)
    (ad : Addr) (m c' : Nat) (news : List Value) (hx : a.eval x = .slice (some ad) m c') (hl : news.length = m * sz) (hnews : ∀ j u, news[j]? = some u → w.cell? (ad.add j) = some u) (h1 : ∀ u ∈ news, u.oneCell' = true)
    (hnm : n + m ≤ 16777216) (hlo : lo ≤ w.heap.size)
    (h : ∀ (g' cd : Nat) (w' : World), OwV e sz w' lo w'.heap.size g' (n + m) cd (cs ++ news) → w.grownBy w' (some g) → (g' = g ∨ w.heap.size ≤ g') → RdV sz w' w'.heap.size (some ⟨g, 0, none⟩) n cs → wpList P ops Q rest (a.put o.dst (.slice (some ⟨g', 0, none⟩) (n + m) cd)) w') :
    wpList P ops Q (o :: rest) a w := by
  obtain ⟨g', cd, w', hr, h2, h3, h4, h5⟩ := run_append_v (P := P) w t o.type e sz by_ z i ht hi hz hsize hby hzs hsz hb8 lo hi' g n c cs hown ad m c' news hl hnews h1 hnm hlo
  refine wpList_plain hgd fun K hK => ?_
  unfold Oper.wp execOp
  simp only [ho, resolve, invoke, builtin, Sem.run_bind, Sem.run_pure, Result.andThen_ok, List.map_toArray, List.map_cons, List.map_nil, hs, hx, hr]
  exact hK _ _ (h g' cd w' h2 h3 h4 h5)

/-- The same of a new block that lies behind all: one element, or some. -/
theorem wpList_append_lit {w : World} {ops : Array Oper} {rest : List Oper} {o : Oper} {a : Act} {Q : Exit → Act → World → Prop} (hgd : o.guard = none) (s x : Operand) (t : TypeId)
    (ho : o.op = .call { callee := .builtin .append, args := #[s, x], argTypes := #[t, t] })
    (e : TypeId) (sz by_ : Nat) (z : Value) (i : TypeInfo) (ht : P.underlying t = some (.slice e)) (hi : P.info? e = some i) (hz : i.zero = some z) (hsize : i.size = sz) (hby : i.bytes = by_) (hzs : z.cells.size = sz) (hsz : 0 < sz) (hb8 : by_ ≤ 1000)
    (lo hi' g n c : Nat) (cs : List Value) (hs : a.eval s = .slice (some ⟨g, 0, none⟩) n c) (hown : OwV e sz w lo hi' g n c cs)
    (news : Array Value) (m c' : Nat) (hx : a.eval x = .slice (some ⟨w.heap.size, 0, none⟩) m c') (hl : news.size = m * sz) (h1 : ∀ u ∈ news.toList, u.oneCell' = true)
    (hnm : n + m ≤ 16777216) (hlo : lo ≤ w.heap.size)
    (h : ∀ (g' cd : Nat) (w' : World), OwV e sz w' lo w'.heap.size g' (n + m) cd (cs ++ news.toList) → w.grownBy w' (some g) → (g' = g ∨ w.heap.size ≤ g') → RdV sz w' w'.heap.size (some ⟨g, 0, none⟩) n cs → wpList P ops Q rest (a.put o.dst (.slice (some ⟨g', 0, none⟩) (n + m) cd)) w') :
    wpList P ops Q (o :: rest) a (w.alloc (.cells news e)) := by
  have hal : w.grownBy (w.alloc (.cells news e)) none := ⟨rfl, rfl, rfl, by simp, fun k hk _ => Below.heap_alloc _ _ _ hk⟩
  refine wpList_append_v hgd s x t ho e sz by_ z i ht hi hz hsize hby hzs hsz hb8 lo hi' g n c cs hs (hown.grown hal (fun _ h => by cases h)) ⟨w.heap.size, 0, none⟩ m c' news.toList hx (by simpa using hl) ?_ h1 hnm (by simp; omega) ?_
  · intro j u hj
    rw [Addr.add_lit, Nat.zero_add, World.cell?_alloc_new]
    simpa using hj
  · intro g' cd w' h2 h3 h4 h5
    refine h g' cd w' h2 ⟨h3.os, h3.tape, h3.output, Nat.le_trans (by simp) h3.size, fun k hk hne => (h3.block k (by simp; omega) hne).trans (Below.heap_alloc _ _ _ hk)⟩ (h4.imp id (fun h => ?_)) h5
    have : (w.alloc (.cells news e)).heap.size = w.heap.size + 1 := by simp
    omega
end

/-- The same at a step of a region that draws its order. -/
theorem step_append_lit {P : Program} {w : World} {ops : Array Oper} {o : Oper} {a : Act} {K : Act → World → Prop} {Q : Exit → Act → World → Prop} {E : Prop} (hgd : o.guard = none) (s x : Operand) (t : TypeId)
    (ho : o.op = .call { callee := .builtin .append, args := #[s, x], argTypes := #[t, t] })
    (e : TypeId) (sz by_ : Nat) (z : Value) (i : TypeInfo) (ht : P.underlying t = some (.slice e)) (hi : P.info? e = some i) (hz : i.zero = some z) (hsize : i.size = sz) (hby : i.bytes = by_) (hzs : z.cells.size = sz) (hsz : 0 < sz) (hb8 : by_ ≤ 1000)
    (lo hi' g n c : Nat) (cs : List Value) (hs : a.eval s = .slice (some ⟨g, 0, none⟩) n c) (hown : OwV e sz w lo hi' g n c cs)
    (news : Array Value) (m c' : Nat) (hx : a.eval x = .slice (some ⟨w.heap.size, 0, none⟩) m c') (hl : news.size = m * sz) (h1 : ∀ u ∈ news.toList, u.oneCell' = true)
    (hnm : n + m ≤ 16777216) (hlo : lo ≤ w.heap.size)
    (h : ∀ (g' cd : Nat) (w' : World), OwV e sz w' lo w'.heap.size g' (n + m) cd (cs ++ news.toList) → (w.alloc (.cells news e)).drew.grownBy w' (some g) → (g' = g ∨ w.heap.size ≤ g') → RdV sz w' w'.heap.size (some ⟨g, 0, none⟩) n cs → K (a.put o.dst (.slice (some ⟨g', 0, none⟩) (n + m) cd)) w') :
    if Region.wanted o (yielded ops a.tmps) = true then Oper.wp P o a (w.alloc (.cells news e)).drew K Q else E := by
  have hal : w.grownBy (w.alloc (.cells news e)).drew none := ⟨rfl, rfl, rfl, by simp, fun k hk _ => Below.heap_alloc _ _ _ hk⟩
  have hown' := hown.grown hal (fun _ h => by cases h)
  obtain ⟨g', cd, w', hr, h2, h3, h4, h5⟩ := run_append_v (P := P) (w.alloc (.cells news e)).drew t o.type e sz by_ z i ht hi hz hsize hby hzs hsz hb8 lo hi' g n c cs hown' ⟨w.heap.size, 0, none⟩ m c' news.toList (by simpa using hl) (by
    intro j u hj
    rw [Addr.add_lit, Nat.zero_add]
    show (w.alloc (.cells news e)).cell? _ = _
    rw [World.cell?_alloc_new]
    simpa using hj) h1 hnm (by simp; omega)
  have hw : Region.wanted o (yielded ops a.tmps) = true := by simp [Region.wanted, hgd]
  rw [if_pos hw]
  unfold Oper.wp execOp
  simp only [ho, resolve, invoke, builtin, Sem.run_bind, Sem.run_pure, Result.andThen_ok, List.map_toArray, List.map_cons, List.map_nil, hs, hx, hr]
  refine h g' cd w' h2 h3 (h4.imp id (fun h => ?_)) h5
  have : (w.alloc (.cells news e)).drew.heap.size = w.heap.size + 1 := by simp
  omega

theorem Ow.drew {w : World} {lo hi n c : Nat} {A : Option Addr} {xs : List Int} (h : Ow w lo hi A n c xs) : Ow w.drew lo hi A n c xs := h.drewN 1
theorem grown_drew {a w : World} {r : Option Nat} (h : a.grownBy w r) : a.grownBy w.drew r := ⟨h.os, h.tape, h.output, h.size, h.block⟩
theorem drew_grown {a w : World} {r : Option Nat} (h : a.drew.grownBy w r) : a.grownBy w r := ⟨h.os, h.tape, h.output, h.size, h.block⟩

/-- Of the blocks of w all but x are as they were. -/
def KeepBut (x : Nat) (w w' : World) : Prop := w.heap.size ≤ w'.heap.size ∧ ∀ b, b < w.heap.size → b ≠ x → w'.heap[b]? = w.heap[b]?
theorem KeepBut.refl (x : Nat) (w : World) : KeepBut x w w := ⟨Nat.le_refl _, fun _ _ _ => rfl⟩
theorem KeepBut.step {x g : Nat} {w w1 w2 : World} (h : KeepBut x w w1) (hg : w1.grownBy w2 (some g)) (hx : g = x ∨ w.heap.size ≤ g) : KeepBut x w w2 :=
  ⟨Nat.le_trans h.1 hg.size, fun b hb hne => (hg.block b (Nat.lt_of_lt_of_le hb h.1) (fun e => by cases e; omega)).trans (h.2 b hb hne)⟩
theorem KeepBut.below {x : Nat} {w w1 w2 : World} (h : KeepBut x w w1) (hb : Below w1.heap.size w1 w2) : KeepBut x w w2 :=
  ⟨Nat.le_trans h.1 hb.size, fun b hl hne => (hb.block b (Nat.lt_of_lt_of_le hl h.1)).trans (h.2 b hl hne)⟩
theorem KeepBut.drew {x : Nat} {w w1 : World} (h : KeepBut x w w1) : KeepBut x w w1.drew := h
theorem KeepBut.drewN {x : Nat} {w w1 : World} (h : KeepBut x w w1) (k : Nat) : KeepBut x w (w1.drewN k) := h
theorem KeepBut.cell {x : Nat} {w w' : World} (h : KeepBut x w w') {p : Addr} (hp : p.block < w.heap.size) (hx : p.block ≠ x) : w'.cell? p = w.cell? p := World.cell?_of_block (w := w) (h.2 _ hp hx)
theorem KeepBut.free {x : Nat} {w w' : World} (h : KeepBut x w w') {p : Addr} (hp : p.block < w.heap.size) (hx : p.block ≠ x) : w'.frozen? p = w.frozen? p := World.frozen?_of_block (w := w) (h.2 _ hp hx)

/-- Cells of elements laid end to end. -/
theorem flat_length {α : Type} (f : α → List Value) (sz : Nat) (hf : ∀ x, (f x).length = sz) (l : List α) : (l.flatMap f).length = l.length * sz := by
  induction l with
  | nil => simp
  | cons x l ih => simp [List.flatMap_cons, hf, ih, Nat.succ_mul]; omega
theorem flat_get {α : Type} (f : α → List Value) (sz : Nat) (hf : ∀ x, (f x).length = sz) (l : List α) (k j : Nat) (hk : k < l.length) (hj : j < sz) : (l.flatMap f)[k * sz + j]? = (f l[k])[j]? := by
  induction l generalizing k with
  | nil => simp at hk
  | cons x l ih =>
    rw [List.flatMap_cons, List.getElem?_append, hf]
    cases k with
    | zero => rw [if_pos (by omega)]; simp
    | succ k =>
      rw [if_neg (by rw [Nat.succ_mul]; omega)]
      have := ih k (by simpa using hk)
      rw [show (k + 1) * sz + j - sz = k * sz + j by rw [Nat.succ_mul]; omega, this]
      simp
end Go.Proofs.Ytibokhkohanoaaa
