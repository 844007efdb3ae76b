/- A blank disk (Blank), the model's side. The table of shots is there (l17Shots), the model's side. A disk that is pictured (Pictured), the model's side. -/
import Derived.Test.YtibokhkohanoaabDoorG8
import Derived.Test.YtibokhkohanoaabDoorG4
namespace Go.Proofs.YtibokhkohanoaabDoor
open Go.RowKit

section
variable {P : Program}
/-- 'append(s, make(T, n)...)' that grows. -/
theorem run_append_mk (w : World) (t u ty e : TypeId) (i : TypeInfo) (z : Value) (ht : P.underlying t = some (.slice e)) (hu : P.underlying u = some (.int .i64)) (hi : P.info? e = some i) (hz : i.zero = some z)
    (b : Addr) (sLen sCap : Nat) (olds : List Value) (hlo : olds.length = sLen * i.size) (holds : ∀ j v, olds[j]? = some v → w.cell? (b.add j) = some v)
    (n : Nat) (hn0 : n * i.size ≠ 0) (hnb : (n : Int) * i.bytes ≤ 281474976710656) (hn9 : n ≤ 1000000)
    (hg : sCap < sLen + n) (h63 : ((sLen + n : Nat) : Int) ≤ 9223372036854775807) (hfit : Builtin.nextslicecap (sLen + n) sCap * i.bytes ≤ 281474976710656) :
    (Builtin.append_ #[t, u] ty #[.slice (some b) sLen sCap, .int .i64 n]).run P w =
      .ok (.slice (some ⟨w.heap.size, 0, none⟩) (sLen + n) (grownCap w (sLen + n) sCap e))
        (w.drew.alloc (.cells (olds.toArray ++ Builtin.zeroCells z.cells n ++ Builtin.zeroCells z.cells (grownCap w (sLen + n) sCap e - (sLen + n))) e)) := by
  have hn : ¬ (sLen + n ≤ sCap) := by omega
  have h63' : ¬ (9223372036854775807 < ((sLen : Int) + (n : Int))) := by omega
  have h48' : ¬ (281474976710656 < Builtin.nextslicecap (sLen + n) sCap * i.bytes) := by omega
  have hfo := run_firstCells_some (P := P) w.drew i.size sLen b sLen sCap olds hlo (by simpa using holds)
  have hw : IntKind.i64.wrap (n : Int) = n := IntWalk.i64_in _ (by omega)
  have hneg : ¬ ((n : Int) < 0) := by omega
  have hnb' : ¬ (281474976710656 < (n : Int) * i.bytes) := by omega
  simp [Builtin.append_, run_underlying ht, run_underlying hu, sizeOf, typeInfo, zeroValue, hi, hz, Builtin.lenOf, hn, h63', h48', Question.forced, hfo, newRow, grownCap, asInt, asIntOf, hw, hneg, hnb']
  intro h; exact absurd h hn0

theorem zeroCells_ints (n : Nat) : (Builtin.zeroCells (Value.int .i64 0).cells n).toList = iv (List.replicate n 0) := by
  apply List.ext_getElem?
  intro j
  by_cases hj : j < n
  · simp [Builtin.zeroCells, iv, Value.cells, hj, Nat.mod_one]
  · simp [Builtin.zeroCells, iv, Value.cells, hj]

theorem wpList_append_mk {w : World} {ops : Array Oper} {rest : List Oper} {o : Oper} {a : Act} {Q : Exit → Act → World → Prop} (hgd : o.guard = none) (s x : Operand) (t u : TypeId)
    (ho : o.op = .call { callee := .builtin .append, args := #[s, x], argTypes := #[t, u] })
    (i : TypeInfo) (ht : P.underlying t = some (.slice 2)) (hu : P.underlying u = some (.int .i64)) (hi : P.info? 2 = some i) (hz : i.zero = some (.int .i64 0)) (hsize : i.size = 1) (hby : i.bytes = 8)
    (lo hi' g n c : Nat) (xs : List Int) (hs : a.eval s = .slice (some ⟨g, 0, none⟩) n c) (hown : OwV 2 1 w lo hi' g n c (iv xs))
    (m : Nat) (hx : a.eval x = .int .i64 m) (hm : 0 < m) (hm2 : m ≤ 1000) (hn : n ≤ 1000) (hfull : c < n + m) (hlo : lo ≤ w.heap.size)
    (h : ∀ (g' cd : Nat) (w' : World), OwV 2 1 w' lo w'.heap.size g' (n + m) cd (iv (xs ++ List.replicate m 0)) → w.grownBy w' (some g) → wpList P ops Q rest (a.put o.dst (.slice (some ⟨g', 0, none⟩) (n + m) cd)) w') :
    wpList P ops Q (o :: rest) a w := by
  have hl := hown.len
  have hbytes : (n + m) * i.bytes ≤ 140737488355328 := by rw [hby]; omega
  have hr := run_append_mk (P := P) w t u o.type 2 i (.int .i64 0) ht hu hi hz ⟨g, 0, none⟩ n c (iv xs) (by rw [hsize]; exact hl) (hown.own.cells (g := g) rfl) m (by rw [hsize]; omega) (by rw [hby]; omega) (by omega) hfull (by omega) (growslice_fits (by omega) hbytes)
  have hge := grownCap_ge w (n + m) c 2
  have hcm : grownCap w (n + m) c 2 ≤ maxLen := grownCap_le_maxLen w (n + m) c 2 (by simp only [maxLen]; omega)
  generalize hcap : grownCap w (n + m) c 2 = cap at *
  have hsz : ((iv xs).toArray ++ Builtin.zeroCells (Value.int .i64 0).cells m ++ Builtin.zeroCells (Value.int .i64 0).cells (cap - (n + m))).size = cap * 1 := by
    simp only [Array.size_append, List.size_toArray, size_zeroCells, Value.cells, hl]
    simp
    omega
  have ho2 : (w.drew.alloc (.cells ((iv xs).toArray ++ Builtin.zeroCells (Value.int .i64 0).cells m ++ Builtin.zeroCells (Value.int .i64 0).cells (cap - (n + m))) 2)).ownsRow lo 2 1 (.slice (some ⟨w.heap.size, 0, none⟩) (n + m) cap) (n + m) (iv (xs ++ List.replicate m 0)) := by
    refine ⟨by simp [iv_length]; rw [iv_length] at hl; omega, .inr ⟨w.heap.size, cap, _, rfl, hlo, heap_alloc_new w.drew _, by omega, hcm, hsz, ?_⟩⟩
    simp only [Array.toList_append, zeroCells_ints]
    rw [← iv_append, List.take_append_of_le_length (by simp [iv_length]; rw [iv_length] at hl; omega), List.take_of_length_le (by simp [iv_length]; rw [iv_length] at hl; omega)]
  refine wpList_plain hgd fun K hK => ?_
  unfold Oper.wp execOp
  simp only [ho, resolve, invoke, builtin, Sem.run_bind, Sem.run_pure, Result.andThen_ok, List.map_toArray, List.map_cons, List.map_nil, hs, hx, hr]
  refine hK _ _ (h w.heap.size cap _ ⟨ho2, by simp⟩ ⟨rfl, rfl, rfl, by simp, fun k hk _ => Below.heap_alloc _ _ _ hk⟩)
end

theorem ow_v {w : World} {lo hi g n c : Nat} {xs : List Int} (h : Ow w lo hi (some ⟨g, 0, none⟩) n c xs) : OwV 2 1 w lo hi g n c (iv xs) := ⟨h.own, h.top g rfl⟩
theorem ow_i {w : World} {lo hi g n c : Nat} {xs : List Int} (h : OwV 2 1 w lo hi g n c (iv xs)) : Ow w lo hi (some ⟨g, 0, none⟩) n c xs := ⟨h.own, fun g' hg => by simp [Value.ownBlock] at hg; have := h.top; omega⟩

set_option maxHeartbeats 1000000 in
theorem specHdWords_full (h : Hd) (w : World) :
    Calls Tryd.prog 18 #[hdV h] w fun e w' => ∃ g, e = .returned (.slice (some ⟨g, 0, none⟩) 8 8) ∧ OwV 2 1 w' w.heap.size w'.heap.size g 8 8 (iv (hdW h)) ∧ Below w.heap.size w w' := by
  obtain ⟨s, f, r, t, m⟩ := h
  unfold hdV
  go_enter Tryd.func18, Tryd.ntmps18
  go_wp2
  go_ret
  refine ⟨w.heap.size + 1, rfl, ?_, ((Below.refl _ _).alloc (Nat.le_refl _) _).alloc (by simp) _⟩
  exact ow_v (made_ow _ _ (hdW ⟨s, f, r, t, m⟩) 8 _ _ _ rfl rfl (by omega) (by simp) (by simp) (by simp))

def blankL (size : Int) : List Int := if inB size 1 64 = true then ((hdW ⟨size, 1, 2, 0, 0⟩ ++ List.replicate 8 0) ++ [3, 0, 0, 0, 0, 0, 0, 0]) ++ [1, 1, 1, 1, 0, 0, 0, 0] else []

set_option maxRecDepth 100000 in
set_option maxHeartbeats 4000000 in
theorem specBlank_any (size : Int) (w : World) : Calls Tryd.prog 8 #[.int .i64 size] w (Ret w (blankL size)) := by
  obtain ⟨i0, hi0, hz0, hz1, hz2⟩ := info_parts info2
  cases hi : inB size 1 64
  · have HN : Hid (blankL size = []) := by unfold blankL; rw [hi]; exact rfl
    have HI := Lib.hid hi
    clear hi
    go_enter Tryd.func8, Tryd.ntmps8
    go_wp2_with fail
    refine (in_any _ _ _ _).mono ?_
    rintro e w' ⟨rfl, rfl⟩
    rw [HI.out]
    go_wp2_with fail
    go_ret
    rw [HN.out]
    exact Ret.emptyAt _ rfl (Below.refl _ _)
  · have HN : Hid (blankL size = ((hdW ⟨size, 1, 2, 0, 0⟩ ++ List.replicate 8 0) ++ [3, 0, 0, 0, 0, 0, 0, 0]) ++ [1, 1, 1, 1, 0, 0, 0, 0]) := by unfold blankL; rw [hi]; exact rfl
    have HI := Lib.hid hi
    clear hi
    go_enter Tryd.func8, Tryd.ntmps8
    go_wp2_with fail
    refine (in_any _ _ _ _).mono ?_
    rintro e w' ⟨rfl, rfl⟩
    rw [HI.out]
    go_wp2_with fail
    refine (specHdWords_full ⟨size, 1, 2, 0, 0⟩ w).mono ?_
    rintro e w1 ⟨g1, rfl, o1, b1⟩
    have hl1 := o1.low
    go_wp2_with (first
      | (at_builtin; refine wpList_append_mk rfl (.tmp 11) _ 25 3 rfl i0 Tryd.underlying25 Tryd.underlying3 hi0 hz0 hz1 hz2 w.heap.size w1.heap.size g1 8 8 _ rfl o1 8 rfl (by omega) (by omega) (by omega) (by omega) b1.size ?_; intro g2 c2 w2 o2 G2)
      | (at_builtin; refine wpList_append_lit rfl (.tmp 13) (.tmp 14) 25 rfl 2 1 8 _ i0 Tryd.underlying25 hi0 hz0 hz1 hz2 rfl (by omega) (by omega) w.heap.size w2.heap.size g2 16 c2 _ rfl o2 #[.int .i64 3, .int .i64 0, .int .i64 0, .int .i64 0, .int .i64 0, .int .i64 0, .int .i64 0, .int .i64 0] 8 8 rfl rfl (by simp [Value.oneCell']) (by omega) (Nat.le_trans b1.size G2.size) ?_; intro g3 c3 w3 o3 G3 at3 _)
      | (at_builtin; refine wpList_append_lit rfl (.tmp 16) (.tmp 17) 25 rfl 2 1 8 _ i0 Tryd.underlying25 hi0 hz0 hz1 hz2 rfl (by omega) (by omega) w.heap.size w3.heap.size g3 24 c3 _ rfl o3 #[.int .i64 1, .int .i64 1, .int .i64 1, .int .i64 1, .int .i64 0, .int .i64 0, .int .i64 0, .int .i64 0] 8 8 rfl rfl (by simp [Value.oneCell']) (by omega) (Nat.le_trans b1.size (Nat.le_trans G2.size G3.size)) ?_; intro g4 c4 w4 o4 G4 at4 _))
    go_ret
    rw [HN.out]
    have e : iv (hdW ⟨size, 1, 2, 0, 0⟩ ++ List.replicate 8 0) ++ #[.int .i64 3, .int .i64 0, .int .i64 0, .int .i64 0, .int .i64 0, .int .i64 0, .int .i64 0, .int .i64 0].toList ++ #[.int .i64 1, .int .i64 1, .int .i64 1, .int .i64 1, .int .i64 0, .int .i64 0, .int .i64 0, .int .i64 0].toList = iv (((hdW ⟨size, 1, 2, 0, 0⟩ ++ List.replicate 8 0) ++ [3, 0, 0, 0, 0, 0, 0, 0]) ++ [1, 1, 1, 1, 0, 0, 0, 0]) := by
      rw [iv_append, iv_append]; rfl
    rw [e] at o4
    have b2 := b1.grown G2 b1.size (fun q e => by cases e; exact hl1)
    have b3 := b2.grown G3 b2.size (fun q e => by cases e; exact o2.low)
    exact ⟨_, 32, c4, rfl, ow_i o4, b3.grown G4 b3.size (fun q e => by cases e; exact o3.low)⟩

def newShots (xs : List Int) : List Int := setCl (moreL xs (List.replicate 8 0)) 0 (hdW { headOf xs with shots := manyN xs })
def shotsAtL (xs : List Int) : Option (List Int) := if 0 < (headOf xs).many then some xs else (if manyN xs < 64 then some (newShots xs) else none)
theorem newShots_head {xs : List Int} (h : hasHead xs = true) (hm : manyN xs < 64) : hasHead (newShots xs) = true ∧ headOf (newShots xs) = { headOf xs with shots := manyN xs } ∧ (newShots xs).length = manyN xs * 8 + 8 := by
  have hl := more_length xs (List.replicate 8 0) (by simp)
  have hall := headB_all (hasHead_ok h)
  have hb : headB { headOf xs with shots := manyN xs } = true := by
    simp only [headB, wordB, Bool.and_eq_true, inB_true]
    omega
  obtain ⟨h1, h2, h3⟩ := hd_set (more_img (hasHead_img h) zeros8 hm) (by rw [hl]; omega) (by rw [hl]; omega) hb
  exact ⟨h1, h2, h3.trans hl⟩
/-- The claim of Shots. -/
theorem shots_claim {xs : List Int} (hm : (headOf xs).many ≠ 0) : ∃ b, (b = true → thereB xs (headOf xs).shots = true) ∧ (⟨5, 0, 0, 0, (headOf xs).shots, b⟩ : Cm) ∈ claimsC xs := by
  have h4 : (⟨5, 0, 0, 0, (headOf xs).shots, goodB xs (headOf xs).size (c3C xs (headOf xs)) ⟨5, 0, 0, 0, (headOf xs).shots, false⟩⟩ : Cm) ∈ c4C xs (headOf xs) := by
    unfold c4C shotsC
    rw [if_neg hm]
    have hm2 : (⟨5, 0, 0, 0, (headOf xs).shots, goodB xs (headOf xs).size (c3C xs (headOf xs)) ⟨5, 0, 0, 0, (headOf xs).shots, false⟩⟩ : Cm) ∈ addC xs (headOf xs).size (c3C xs (headOf xs)) ⟨5, 0, 0, 0, (headOf xs).shots, false⟩ := by unfold addC; simp
    split
    · exact (shotFold_prefix _ _ _ _).subset hm2
    · exact hm2
  exact ⟨_, fun h => goodB_there h, (c6_prefix xs _).subset ((c5_prefix xs _).subset h4)⟩
theorem sound_shots {xs : List Int} (h : soundB xs = true) (hm : (headOf xs).many ≠ 0) : thereB xs (headOf xs).shots = true := by
  obtain ⟨b, hb, hc⟩ := shots_claim hm
  exact hb (sound_good h hc)

def RetShot (w : World) (r : Option (List Int)) (e : Ending) (w' : World) : Prop :=
  (∃ ys A n c, r = some ys ∧ e = .returned (.tuple #[.slice A n c, .bool true]) ∧ Rd w' w'.heap.size A n ys ∧ Below w.heap.size w w') ∨
  (∃ g, r = none ∧ e = .returned (.tuple #[.slice (some ⟨g, 0, none⟩) 0 0, .bool false]) ∧ Below w.heap.size w w')

def pictEnd (name : Int) (zs : List Int) (at_ : Nat) : List Int :=
  doneL (setCl ((zs.set ((headOf zs).shots.toNat * 8 + 2 * (headOf zs).many.toNat) name).set ((headOf zs).shots.toNat * 8 + 2 * (headOf zs).many.toNat + 1) at_) 0 (hdW { headOf zs with many := (headOf zs).many + 1 }))
def pictMid (xs : List Int) (name : Int) : Option (List Int) → List Int
  | none => []
  | some ys => if manyN ys < 64 then pictEnd name (moreL ys (cl xs (headOf xs).first.toNat)) (manyN ys) else []
def picturedL (xs : List Int) (name : Int) : List Int :=
  if soundB xs = true ∧ (headOf xs).many < 4 ∧ wordB name = true then pictMid xs name (shotsAtL xs) else []

theorem eight_cl {xs : List Int} (h : imgB xs = true) (a : Nat) : eightB (cl xs a) = true := by
  unfold eightB
  rw [cl_length, Bool.and_eq_true]
  refine ⟨rfl, ?_⟩
  unfold wordsB
  rw [List.all_eq_true]
  intro x hx
  unfold cl f8 at hx
  rw [List.mem_map] at hx
  obtain ⟨j, _, rfl⟩ := hx
  exact inB_true.2 (word_get h _)
theorem shotsAt_ok {xs ys : List Int} (h : soundB xs = true) (e : shotsAtL xs = some ys) : hasHead ys = true ∧ thereB ys (headOf ys).shots = true ∧ (headOf ys).many = (headOf xs).many ∧ ys.length ≤ 520 := by
  have hh := sound_head h
  have hl := hasHead_len hh
  have hm := manyN_le (hasHead_img hh)
  have hall := headB_all (hasHead_ok hh)
  unfold shotsAtL at e
  split at e
  · cases e
    exact ⟨hh, sound_shots h (by omega), rfl, by omega⟩
  · split at e
    · rename_i hm64
      cases e
      obtain ⟨h1, h2, h3⟩ := newShots_head hh hm64
      have hm1 : manyN (newShots xs) = manyN xs + 1 := by show ((newShots xs).length + 7) / 8 = _; rw [h3]; omega
      have hp := whole_pos hh
      refine ⟨h1, ?_, by rw [h2], by rw [h3]; omega⟩
      rw [h2, thereB, inB_true, hm1]
      simp only
      omega
    · cases e

end Go.Proofs.YtibokhkohanoaabDoor
