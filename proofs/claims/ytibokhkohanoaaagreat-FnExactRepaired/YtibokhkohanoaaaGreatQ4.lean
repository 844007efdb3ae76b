/- A disk that is written (l17Second, Written), the model's side. A disk that is written (Written), the model's side. A blank disk (Blank), the model's side. Scans and repair, as plain functions; what is repaired is sound, and reads as it did or as zeros: plain mathematics. -/
import Derived.Test.YtibokhkohanoaaaGreatQ2
import Derived.Test.YtibokhkohanoaaaGreatG8
import Derived.Test.YtibokhkohanoaaaGreatQ3
namespace Go.Proofs.YtibokhkohanoaaaGreat
open Go.RowKit

def z8 : List Int := List.replicate 8 0
/-- The second table of a slot, that may be written into. -/
def secondL (xs : List Int) (slot : Nat) : Option (List Int × Nat) :=
  if targetOf (firstEntry xs 0 slot) ≠ 0 ∧ ownIn (firstEntry xs 0 slot) = true then some (xs, (targetOf (firstEntry xs 0 slot)).toNat)
  else (if manyN xs < 64 then some ((moreL xs (if targetOf (firstEntry xs 0 slot) ≠ 0 then cl xs (targetOf (firstEntry xs 0 slot)).toNat else z8)).set ((headOf xs).first.toNat * 8 + slot) (manyN xs), manyN xs) else none)

def RetSec (w : World) (r : Option (List Int × Nat)) (e : Ending) (w' : World) : Prop :=
  (∃ ys t A n c, r = some (ys, t) ∧ e = .returned (.tuple #[.slice A n c, .int .i64 (t : Nat), .bool true]) ∧ Rd w' w'.heap.size A n ys ∧ Below w.heap.size w w') ∨
  (∃ g, r = none ∧ e = .returned (.tuple #[.slice (some ⟨g, 0, none⟩) 0 0, .int .i64 0, .bool false]) ∧ Below w.heap.size w w')

theorem target_nonneg {e : Int} (hw : wordB e = true) : 0 ≤ targetOf e ∧ targetOf e ≤ 32767 := by
  rw [targetOf_yes hw] at *; have := word_bounds hw; omega
theorem firstEntry_word {xs : List Int} (h : soundB xs = true) (s : Nat) (hs : s < 8) : wordB (firstEntry xs 0 s) = true := by
  rw [firstEntry_sound h s hs, cl_word_get _ _ _ hs, wordB, inB_true]
  exact word_get (sound_img h) _

def writeNew (g : Nat) (ws : List Int) : Option (List Int × Nat) → List Int
  | none => []
  | some (ys, t) => if manyN ys < 64 then doneL ((moreL ys ws).set (t * 8 + g % 8) (manyN ys)) else []
def writeMid (xs : List Int) (g : Nat) (ws : List Int) : List Int :=
  if (ownIn (firstEntry xs 0 ((g / 8 : Nat) : Int)) && ownIn (entryAt xs 0 g)) = true then setCl xs (targetOf (entryAt xs 0 g)).toNat ws else writeNew g ws (secondL xs (g / 8))
def writtenL (xs : List Int) (g : Int) (ws : List Int) : List Int :=
  if soundB xs = true ∧ inB g 0 ((headOf xs).size - 1) = true ∧ eightB ws = true then writeMid xs g.toNat ws else []

theorem second_ok {xs : List Int} (h : soundB xs = true) {s : Nat} (hs : s < 8) {ys : List Int} {t : Nat} (e : secondL xs s = some (ys, t)) : t ≤ manyN ys ∧ ys.length ≤ 520 := by
  have hh := sound_head h
  have hl := hasHead_len hh
  have hm := manyN_le (hasHead_img hh)
  unfold secondL at e
  split at e
  · rename_i hc
    cases e
    have hfe := firstEntry_sound h s hs
    obtain ⟨c, hcm, hk, _, _, _, htc⟩ := second_claim (sound_first h).2 s hs (by rw [← hfe]; exact hc.1)
    rw [← hfe] at htc
    have hcg := sound_good h ((c6_prefix xs _).subset hcm)
    rcases (claims_ok xs c ((c6_prefix xs _).subset hcm)).lead hcg with h1 | h1
    · omega
    · rw [htc] at h1
      have := there_lt h1
      omega
  · split at e
    · rename_i hm64
      cases e
      have h8 : (if targetOf (firstEntry xs 0 s) ≠ 0 then cl xs (targetOf (firstEntry xs 0 s)).toNat else z8).length = 8 := by split; exact cl_length _ _; rfl
      rw [set_many, more_many _ _ h8, List.length_set, more_length _ _ h8]
      omega
    · cases e
theorem own_target {e : Int} (h : ownIn e = true) : wordB e = true ∧ 0 ≤ targetOf e := by
  unfold ownIn at h
  rw [Bool.and_eq_true] at h
  exact ⟨h.1, (target_nonneg h.1).1⟩
theorem rd_some {w : World} {B n : Nat} {A : Option Addr} {xs : List Int} (h : Rd w B A n xs) (hn : 0 < n) : ∃ b off, A = some ⟨b, off, none⟩ := by
  obtain ⟨b, off, e, _⟩ := h.2 hn
  exact ⟨b, off, e⟩

section
variable {P : Program}
/-- 'append(s, make(T, n)...)' that grows. -/
theorem run_append_mk (w : World) (t u ty e : TypeId) (i : TypeInfo) (z : Value) (ht : P.underlying t = some (.slice e)) (hu : P.underlying u = some (.int .i64)) (hi : P.info? e = some i) (hz : i.zero = some z)
    (b : Addr) (sLen sCap : Nat) (olds : List Value) (hlo : olds.length = sLen * i.size) (holds : ∀ j v, olds[j]? = some v → w.cell? (b.add j) = some v)
    (n : Nat) (hn0 : n * i.size ≠ 0) (hnb : (n : Int) * i.bytes ≤ 281474976710656) (hn9 : n ≤ 1000000)
    (hg : sCap < sLen + n) (h63 : ((sLen + n : Nat) : Int) ≤ 9223372036854775807) (hfit : Builtin.nextslicecap (sLen + n) sCap * i.bytes ≤ 281474976710656) :
    (Builtin.append_ #[t, u] ty #[.slice (some b) sLen sCap, .int .i64 n]).run P w =
      .ok (.slice (some ⟨w.heap.size, 0, none⟩) (sLen + n) (grownCap w (sLen + n) sCap e))
        (w.drew.alloc (.cells (olds.toArray ++ Builtin.zeroCells z.cells n ++ Builtin.zeroCells z.cells (grownCap w (sLen + n) sCap e - (sLen + n))) e)) := by
  have hn : ¬ (sLen + n ≤ sCap) := by omega
  have h63' : ¬ (9223372036854775807 < ((sLen : Int) + (n : Int))) := by omega
  have h48' : ¬ (281474976710656 < Builtin.nextslicecap (sLen + n) sCap * i.bytes) := by omega
  have hfo := run_firstCells_some (P := P) w.drew i.size sLen b sLen sCap olds hlo (by simpa using holds)
  have hw : IntKind.i64.wrap (n : Int) = n := IntWalk.i64_in _ (by omega)
  have hneg : ¬ ((n : Int) < 0) := by omega
  have hnb' : ¬ (281474976710656 < (n : Int) * i.bytes) := by omega
  simp [Builtin.append_, run_underlying ht, run_underlying hu, sizeOf, typeInfo, zeroValue, hi, hz, Builtin.lenOf, hn, h63', h48', Question.forced, hfo, newRow, grownCap, asInt, asIntOf, hw, hneg, hnb']
  intro h; exact absurd h hn0

theorem zeroCells_ints (n : Nat) : (Builtin.zeroCells (Value.int .i64 0).cells n).toList = iv (List.replicate n 0) := by
  apply List.ext_getElem?
  intro j
  by_cases hj : j < n
  · simp [Builtin.zeroCells, iv, Value.cells, hj, Nat.mod_one]
  · simp [Builtin.zeroCells, iv, Value.cells, hj]

theorem wpList_append_mk {w : World} {ops : Array Oper} {rest : List Oper} {o : Oper} {a : Act} {Q : Exit → Act → World → Prop} (hgd : o.guard = none) (s x : Operand) (t u : TypeId)
    (ho : o.op = .call { callee := .builtin .append, args := #[s, x], argTypes := #[t, u] })
    (i : TypeInfo) (ht : P.underlying t = some (.slice 2)) (hu : P.underlying u = some (.int .i64)) (hi : P.info? 2 = some i) (hz : i.zero = some (.int .i64 0)) (hsize : i.size = 1) (hby : i.bytes = 8)
    (lo hi' g n c : Nat) (xs : List Int) (hs : a.eval s = .slice (some ⟨g, 0, none⟩) n c) (hown : OwV 2 1 w lo hi' g n c (iv xs))
    (m : Nat) (hx : a.eval x = .int .i64 m) (hm : 0 < m) (hm2 : m ≤ 1000) (hn : n ≤ 1000) (hfull : c < n + m) (hlo : lo ≤ w.heap.size)
    (h : ∀ (g' cd : Nat) (w' : World), OwV 2 1 w' lo w'.heap.size g' (n + m) cd (iv (xs ++ List.replicate m 0)) → w.grownBy w' (some g) → wpList P ops Q rest (a.put o.dst (.slice (some ⟨g', 0, none⟩) (n + m) cd)) w') :
    wpList P ops Q (o :: rest) a w := by
  have hl := hown.len
  have hbytes : (n + m) * i.bytes ≤ 140737488355328 := by rw [hby]; omega
  have hr := run_append_mk (P := P) w t u o.type 2 i (.int .i64 0) ht hu hi hz ⟨g, 0, none⟩ n c (iv xs) (by rw [hsize]; exact hl) (hown.own.cells (g := g) rfl) m (by rw [hsize]; omega) (by rw [hby]; omega) (by omega) hfull (by omega) (growslice_fits (by omega) hbytes)
  have hge := grownCap_ge w (n + m) c 2
  have hcm : grownCap w (n + m) c 2 ≤ maxLen := grownCap_le_maxLen w (n + m) c 2 (by simp only [maxLen]; omega)
  generalize hcap : grownCap w (n + m) c 2 = cap at *
  have hsz : ((iv xs).toArray ++ Builtin.zeroCells (Value.int .i64 0).cells m ++ Builtin.zeroCells (Value.int .i64 0).cells (cap - (n + m))).size = cap * 1 := by
    simp only [Array.size_append, List.size_toArray, size_zeroCells, Value.cells, hl]
    simp
    omega
  have ho2 : (w.drew.alloc (.cells ((iv xs).toArray ++ Builtin.zeroCells (Value.int .i64 0).cells m ++ Builtin.zeroCells (Value.int .i64 0).cells (cap - (n + m))) 2)).ownsRow lo 2 1 (.slice (some ⟨w.heap.size, 0, none⟩) (n + m) cap) (n + m) (iv (xs ++ List.replicate m 0)) := by
    refine ⟨by simp [iv_length]; rw [iv_length] at hl; omega, .inr ⟨w.heap.size, cap, _, rfl, hlo, heap_alloc_new w.drew _, by omega, hcm, hsz, ?_⟩⟩
    simp only [Array.toList_append, zeroCells_ints]
    rw [← iv_append, List.take_append_of_le_length (by simp [iv_length]; rw [iv_length] at hl; omega), List.take_of_length_le (by simp [iv_length]; rw [iv_length] at hl; omega)]
  refine wpList_plain hgd fun K hK => ?_
  unfold Oper.wp execOp
  simp only [ho, resolve, invoke, builtin, Sem.run_bind, Sem.run_pure, Result.andThen_ok, List.map_toArray, List.map_cons, List.map_nil, hs, hx, hr]
  refine hK _ _ (h w.heap.size cap _ ⟨ho2, by simp⟩ ⟨rfl, rfl, rfl, by simp, fun k hk _ => Below.heap_alloc _ _ _ hk⟩)
end

theorem ow_v {w : World} {lo hi g n c : Nat} {xs : List Int} (h : Ow w lo hi (some ⟨g, 0, none⟩) n c xs) : OwV 2 1 w lo hi g n c (iv xs) := ⟨h.own, h.top g rfl⟩
theorem ow_i {w : World} {lo hi g n c : Nat} {xs : List Int} (h : OwV 2 1 w lo hi g n c (iv xs)) : Ow w lo hi (some ⟨g, 0, none⟩) n c xs := ⟨h.own, fun g' hg => by simp [Value.ownBlock] at hg; have := h.top; omega⟩

set_option maxHeartbeats 1000000 in
theorem specHdWords_full (h : Hd) (w : World) :
    Calls Tryz.prog 24 #[hdV h] w fun e w' => ∃ g, e = .returned (.slice (some ⟨g, 0, none⟩) 8 8) ∧ OwV 2 1 w' w.heap.size w'.heap.size g 8 8 (iv (hdW h)) ∧ Below w.heap.size w w' := by
  obtain ⟨s, f, r, t, m⟩ := h
  unfold hdV
  go_enter Tryz.func24, Tryz.ntmps24
  go_wp2
  go_ret
  refine ⟨w.heap.size + 1, rfl, ?_, ((Below.refl _ _).alloc (Nat.le_refl _) _).alloc (by simp) _⟩
  exact ow_v (made_ow _ _ (hdW ⟨s, f, r, t, m⟩) 8 _ _ _ rfl rfl (by omega) (by simp) (by simp) (by simp))

def blankL (size : Int) : List Int := if inB size 1 64 = true then ((hdW ⟨size, 1, 2, 0, 0⟩ ++ List.replicate 8 0) ++ [3, 0, 0, 0, 0, 0, 0, 0]) ++ [1, 1, 1, 1, 0, 0, 0, 0] else []

set_option maxRecDepth 100000 in
set_option maxHeartbeats 4000000 in
theorem specBlank_any (size : Int) (w : World) : Calls Tryz.prog 12 #[.int .i64 size] w (Ret w (blankL size)) := by
  obtain ⟨i0, hi0, hz0, hz1, hz2⟩ := info_parts info2
  cases hi : inB size 1 64
  · have HN : Hid (blankL size = []) := by unfold blankL; rw [hi]; exact rfl
    have HI := Lib.hid hi
    clear hi
    go_enter Tryz.func12, Tryz.ntmps12
    go_wp2_with fail
    refine (in_any _ _ _ _).mono ?_
    rintro e w' ⟨rfl, rfl⟩
    rw [HI.out]
    go_wp2_with fail
    go_ret
    rw [HN.out]
    exact Ret.emptyAt _ rfl (Below.refl _ _)
  · have HN : Hid (blankL size = ((hdW ⟨size, 1, 2, 0, 0⟩ ++ List.replicate 8 0) ++ [3, 0, 0, 0, 0, 0, 0, 0]) ++ [1, 1, 1, 1, 0, 0, 0, 0]) := by unfold blankL; rw [hi]; exact rfl
    have HI := Lib.hid hi
    clear hi
    go_enter Tryz.func12, Tryz.ntmps12
    go_wp2_with fail
    refine (in_any _ _ _ _).mono ?_
    rintro e w' ⟨rfl, rfl⟩
    rw [HI.out]
    go_wp2_with fail
    refine (specHdWords_full ⟨size, 1, 2, 0, 0⟩ w).mono ?_
    rintro e w1 ⟨g1, rfl, o1, b1⟩
    have hl1 := o1.low
    go_wp2_with (first
      | (at_builtin; refine wpList_append_mk rfl (.tmp 11) _ 22 3 rfl i0 Tryz.underlying22 Tryz.underlying3 hi0 hz0 hz1 hz2 w.heap.size w1.heap.size g1 8 8 _ rfl o1 8 rfl (by omega) (by omega) (by omega) (by omega) b1.size ?_; intro g2 c2 w2 o2 G2)
      | (at_builtin; refine wpList_append_lit rfl (.tmp 13) (.tmp 14) 22 rfl 2 1 8 _ i0 Tryz.underlying22 hi0 hz0 hz1 hz2 rfl (by omega) (by omega) w.heap.size w2.heap.size g2 16 c2 _ rfl o2 #[.int .i64 3, .int .i64 0, .int .i64 0, .int .i64 0, .int .i64 0, .int .i64 0, .int .i64 0, .int .i64 0] 8 8 rfl rfl (by simp [Value.oneCell']) (by omega) (Nat.le_trans b1.size G2.size) ?_; intro g3 c3 w3 o3 G3 at3 _)
      | (at_builtin; refine wpList_append_lit rfl (.tmp 16) (.tmp 17) 22 rfl 2 1 8 _ i0 Tryz.underlying22 hi0 hz0 hz1 hz2 rfl (by omega) (by omega) w.heap.size w3.heap.size g3 24 c3 _ rfl o3 #[.int .i64 1, .int .i64 1, .int .i64 1, .int .i64 1, .int .i64 0, .int .i64 0, .int .i64 0, .int .i64 0] 8 8 rfl rfl (by simp [Value.oneCell']) (by omega) (Nat.le_trans b1.size (Nat.le_trans G2.size G3.size)) ?_; intro g4 c4 w4 o4 G4 at4 _))
    go_ret
    rw [HN.out]
    have e : iv (hdW ⟨size, 1, 2, 0, 0⟩ ++ List.replicate 8 0) ++ #[.int .i64 3, .int .i64 0, .int .i64 0, .int .i64 0, .int .i64 0, .int .i64 0, .int .i64 0, .int .i64 0].toList ++ #[.int .i64 1, .int .i64 1, .int .i64 1, .int .i64 1, .int .i64 0, .int .i64 0, .int .i64 0, .int .i64 0].toList = iv (((hdW ⟨size, 1, 2, 0, 0⟩ ++ List.replicate 8 0) ++ [3, 0, 0, 0, 0, 0, 0, 0]) ++ [1, 1, 1, 1, 0, 0, 0, 0]) := by
      rw [iv_append, iv_append]; rfl
    rw [e] at o4
    have b2 := b1.grown G2 b1.size (fun q e => by cases e; exact hl1)
    have b3 := b2.grown G3 b2.size (fun q e => by cases e; exact o2.low)
    exact ⟨_, 32, c4, rfl, ow_i o4, b3.grown G4 b3.size (fun q e => by cases e; exact o3.low)⟩

theorem lost_mem (b : List Int) : ∀ (k : Nat) (x : Int), x ∈ (List.range k).foldl (lostStep b) [] → secLikeB b x = true ∧ 1 ≤ x ∧ x ≤ k
  | 0, x, h => by simp at h
  | k + 1, x, h => by
    rw [range_fold] at h
    have ih := lost_mem b k x
    unfold lostStep at h ih
    split at h
    · rename_i hc
      rw [List.mem_append, List.mem_singleton] at h
      rcases h with h | rfl
      · have := ih h; exact ⟨this.1, this.2.1, by omega⟩
      · exact ⟨hc.1, by omega, by omega⟩
    · have := ih h; exact ⟨this.1, this.2.1, by omega⟩
theorem lost_in {b : List Int} {x : Int} (h : x ∈ lostL b) : secLikeB b x = true := (lost_mem b _ x h).1
theorem sec_in {b : List Int} {x : Int} (h : secLikeB b x = true) : 1 ≤ x ∧ x < (rolesL b).length ∧ (rolesL b).getD x.toNat 0 = 0 := by
  unfold secLikeB at h
  rw [Bool.and_eq_true, Bool.and_eq_true] at h
  have := inB_true.1 h.1.1
  exact ⟨by omega, by omega, by simpa using h.1.2⟩
theorem lost_up (b : List Int) : ∀ (k : Nat), ((List.range k).foldl (lostStep b) []).Pairwise (· < ·)
  | 0 => by simp
  | k + 1 => by
    rw [range_fold]
    have ih := lost_up b k
    have hm := lost_mem b k
    unfold lostStep at ih hm ⊢
    split
    · rw [List.pairwise_append]
      refine ⟨ih, by simp, fun x hx y hy => ?_⟩
      rw [List.mem_singleton] at hy
      subst hy
      have := hm x hx
      omega
    · exact ih
theorem lostT_eight {b : List Int} (hh : hasHead b = true) : eightB (lostT b) = true := by
  have hm := manyN_le (hasHead_img hh)
  unfold eightB lostT wordsB
  rw [Bool.and_eq_true, decide_eq_true_eq, List.all_eq_true]
  refine ⟨by simp, fun x hx => ?_⟩
  rw [List.mem_map] at hx
  obtain ⟨i, _, rfl⟩ := hx
  split
  · rename_i hi
    have hmem : (lostL b).getD i 0 ∈ lostL b := by
      rw [List.getD_eq_getElem?_getD, List.getElem?_eq_getElem hi]
      exact List.getElem_mem hi
    have h1 := sec_in (lost_in hmem)
    have h2 := rolesL_length (xs := b)
    exact (target_entry (by omega) (by omega)).2
  · rfl
theorem refound_head {b : List Int} (hh : hasHead b = true) (hm : manyN b < 64) : hasHead (refoundL b) = true ∧ headOf (refoundL b) = { headOf b with first := manyN b } ∧ (refoundL b).length = manyN b * 8 + 8 := by
  have h8 := lostT_eight hh
  have hl := more_length b (lostT b) (eightB_len h8)
  have hall := headB_all (hasHead_ok hh)
  have hb : headB { headOf b with first := manyN b } = true := by
    simp only [headB, wordB, Bool.and_eq_true, inB_true]
    omega
  unfold refoundL
  rw [if_pos ⟨hh, hm⟩]
  obtain ⟨h1, h2, h3⟩ := hd_set (more_img (hasHead_img hh) h8 hm) (by rw [hl]; omega) (by rw [hl]; omega) hb
  exact ⟨h1, h2, h3.trans hl⟩

/-- Cleared, with a first table; nothing for want of room. -/
def first16 (b : List Int) : List Int := if (headOf (clrC b)).first ≠ 0 then clrC b else (if refoundL (clrC b) = [] then [] else clrC (refoundL (clrC b)))
/-- Repaired. -/
def repairedL (b : List Int) : List Int := if hasHead b = true then (if countedL (first16 b) = [] then blankL (headOf b).size else ownedC (countedL (first16 b))) else blankL 8

set_option maxRecDepth 100000 in
theorem blank_all : ((List.range 64).all fun n => soundB (blankL ((n : Int) + 1))) = true := by kernel_rfl
theorem blank_sound {n : Int} (h0 : 1 ≤ n) (h1 : n ≤ 64) : soundB (blankL n) = true := by
  have := blank_all
  rw [List.all_eq_true] at this
  have h2 := this (n - 1).toNat (List.mem_range.2 (by omega))
  rw [show (((n - 1).toNat : Nat) : Int) + 1 = n by omega] at h2
  exact h2
theorem blank_is {n : Int} (h0 : 1 ≤ n) (h1 : n ≤ 64) : blankL n = [20559, 3, n, 1, 2, 0, 0, 0, 0, 0, 0, 0, 0, 0, 0, 0, 3, 0, 0, 0, 0, 0, 0, 0, 1, 1, 1, 1, 0, 0, 0, 0] := by
  unfold blankL
  rw [if_pos (inB_true.2 ⟨h0, h1⟩)]
  rfl
theorem blank_head {n : Int} (h0 : 1 ≤ n) (h1 : n ≤ 64) : hasHead (blankL n) = true ∧ headOf (blankL n) = ⟨n, 1, 2, 0, 0⟩ := by
  refine ⟨sound_head (blank_sound h0 h1), ?_⟩
  rw [blank_is h0 h1]
  rfl
theorem blank_shots {n : Int} (h0 : 1 ≤ n) (h1 : n ≤ 64) : shotsL (blankL n) = [] := by
  unfold shotsL
  rw [headIn_yes (blank_head h0 h1).1, (blank_head h0 h1).2]
  simp only
  split <;> rfl
theorem blank_content {n : Int} (h0 : 1 ≤ n) (h1 : n ≤ 64) {g : Nat} (hg : (g : Int) < n) : contentL (blankL n) 0 g = List.replicate 8 0 := by
  obtain ⟨hh, hd⟩ := blank_head h0 h1
  have ht : thereB (blankL n) 1 = true := by
    have : manyN (blankL n) = 4 := by rw [blank_is h0 h1]; unfold manyN; simp
    exact inB_true.2 (by omega)
  rw [content_at hh (f := 1) (by rw [blank_shots h0 h1]; rfl) (by rw [firstOf_zero hh, hd]) ht (by rw [hd]; exact hg)]
  have hz : targetOf ((cl (blankL n) (1 : Int).toNat).getD (g / 8) 0) = 0 := by
    by_cases h8 : g / 8 < 8
    · rw [cl_word_get _ _ _ h8, blank_is h0 h1]
      have : g / 8 = 0 ∨ g / 8 = 1 ∨ g / 8 = 2 ∨ g / 8 = 3 ∨ g / 8 = 4 ∨ g / 8 = 5 ∨ g / 8 = 6 ∨ g / 8 = 7 := by omega
      rcases this with h | h | h | h | h | h | h | h <;> rw [h] <;> rfl
    · rw [getD_past _ _ (by rw [cl_length]; omega)]; rfl
  exact zero_second hz _
theorem counted_nil : countedL [] = [] := by
  unfold countedL
  have : readyB [] = false := by unfold readyB; rfl
  rw [this]
  rfl
/-- What is cleared, with a first table, may be counted. -/
theorem first16_is {b : List Int} (hh : hasHead b = true) : first16 b = [] ∨ (hasHead (first16 b) = true ∧ (headOf (first16 b)).size = (headOf b).size ∧ ((headOf (first16 b)).many = 0 → (headOf (first16 b)).shots = 0)) := by
  have key : ∀ y : List Int, hasHead y = true → (headOf (clrC y)).size = (headOf y).size ∧ ((headOf (clrC y)).many = 0 → (headOf (clrC y)).shots = 0) := by
    intro y hy
    rw [(clr_head hy).2.1]
    refine ⟨rfl, fun h => ?_⟩
    show (if ((keepW y).length / 2 : Nat) = 0 then 0 else (headOf y).shots) = 0
    have h2 : (((keepW y).length / 2 : Nat) : Int) = 0 := h
    rw [if_pos (by omega)]
  obtain ⟨k1, k2⟩ := key b hh
  unfold first16
  by_cases h0 : (headOf (clrC b)).first ≠ 0
  · rw [if_pos h0]
    exact .inr ⟨(clr_head hh).1, k1, k2⟩
  · rw [if_neg h0]
    by_cases hn : refoundL (clrC b) = []
    · rw [if_pos hn]; exact .inl rfl
    · rw [if_neg hn]
      have hm : manyN (clrC b) < 64 := by
        by_cases h : hasHead (clrC b) = true ∧ manyN (clrC b) < 64
        · exact h.2
        · exact absurd (by unfold refoundL; rw [if_neg h]) hn
      obtain ⟨r1, r2, _⟩ := refound_head (clr_head hh).1 hm
      obtain ⟨k3, k4⟩ := key _ r1
      exact .inr ⟨(clr_head r1).1, by rw [k3, r2]; exact k1, k4⟩
/-- What is repaired is sound, and of the same size. -/
theorem repaired_sound {b : List Int} : soundB (repairedL b) = true ∧ (hasHead b = true → (headOf (repairedL b)).size = (headOf b).size) := by
  unfold repairedL
  cases hh : hasHead b
  · rw [if_neg (by simp)]
    exact ⟨blank_sound (by omega) (by omega), fun h => by cases h⟩
  · rw [if_pos rfl]
    have hsz := (headB_all (hasHead_ok hh)).1
    by_cases hn : countedL (first16 b) = []
    · rw [if_pos hn]
      exact ⟨blank_sound hsz.1 hsz.2, fun _ => by rw [(blank_head hsz.1 hsz.2).2]⟩
    · rw [if_neg hn]
      rcases first16_is hh with h | ⟨_, h2, h3⟩
      · rw [h, counted_nil] at hn; exact absurd rfl hn
      · refine ⟨done_sound hn h3, fun _ => ?_⟩
        obtain ⟨_, K⟩ := counted_ok hn
        rw [(owned_head K.onto.beside.head).2, K.onto.beside.size, h2]
theorem first_ne {b : List Int} (hg : ∀ c ∈ claimsC b, c.good = true) : (headOf b).first ≠ 0 := by
  intro h0
  have hm := c4_sub b _ (first_claim b)
  have := good_there hm (hg _ hm) (by simp)
  simp only at this
  rw [h0, there_zero] at this
  cases this
/-- A sound image stays as it is. -/
theorem repaired_same {b : List Int} (h : soundB b = true) : repairedL b = b := by
  have S := sound_is h
  obtain ⟨e1, e2, e3⟩ := sound_same S
  have ef : first16 b = b := by unfold first16; rw [e1, if_pos (first_ne S.good)]
  have hne : b ≠ [] := fun e => by
    have := (hasHead_len S.head).1
    rw [e] at this
    simp at this
  unfold repairedL
  rw [if_pos S.head, ef, e2, if_neg hne, e3]

end Go.Proofs.YtibokhkohanoaaaGreat
