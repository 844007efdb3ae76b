/- A blank disk (Blank), the model's side. The table of shots is there (l17Shots), the model's side. A disk that is pictured (Pictured), the model's side. -/
import Derived.Test.YtiokfhdkbpoadaaGreatDoorG8
import Derived.Test.YtiokfhdkbpoadaaGreatDoorG4
namespace Go.Proofs.YtiokfhdkbpoadaaGreatDoor
open Go.RowKit

section
variable {P : Program}
/-- 'append(s, make(T, n)...)' that grows. -/
theorem run_append_mk (w : World) (t u ty e : TypeId) (i : TypeInfo) (z : Value) (ht : P.underlying t = some (.slice e)) (hu : P.underlying u = some (.int .i64)) (hi : P.info? e = some i) (hz : i.zero = some z)
    (b : Addr) (sLen sCap : Nat) (olds : List Value) (hlo : olds.length = sLen * i.size) (holds : ∀ j v, olds[j]? = some v → w.cell? (b.add j) = some v)
    (n : Nat) (hn0 : n * i.size ≠ 0) (hnb : (n : Int) * i.bytes ≤ 281474976710656) (hn9 : n ≤ 1000000)
    (hg : sCap < sLen + n) (h63 : ((sLen + n : Nat) : Int) ≤ 9223372036854775807) (hfit : Builtin.nextslicecap (sLen + n) sCap * i.bytes ≤ 281474976710656) :
    (Builtin.append_ #[t, u] ty #[.slice (some b) sLen sCap, .int .i64 n]).run P w =
      .ok (.slice (some ⟨w.heap.size, 0, none⟩) (sLen + n) (grownCap w (sLen + n) sCap e))
        (w.drew.alloc (.cells (olds.toArray ++ Builtin.zeroCells z.cells n ++ Builtin.zeroCells z.cells (grownCap w (sLen + n) sCap e - (sLen + n))) e)) := by
  have hn : ¬ (sLen + n ≤ sCap) := by omega
  have h63' : ¬ (9223372036854775807 < ((sLen : Int) + (n : Int))) := by omega
  have h48' : ¬ (281474976710656 < Builtin.nextslicecap (sLen + n) sCap * i.bytes) := by omega
  have hfo := run_firstCells_some (P := P) w.drew i.size sLen b sLen sCap olds hlo (by simpa using holds)
  have hw : IntKind.i64.wrap (n : Int) = n := IntWalk.i64_in _ (by omega)
  have hneg : ¬ ((n : Int) < 0) := by omega
  have hnb' : ¬ (281474976710656 < (n : Int) * i.bytes) := by omega
  simp [Builtin.append_, run_underlying ht, run_underlying hu, sizeOf, typeInfo, zeroValue, hi, hz, Builtin.lenOf, hn, h63', h48', Question.forced, hfo, newRow, grownCap, asInt, asIntOf, hw, hneg, hnb']
  intro h; exact absurd h hn0

theorem zeroCells_ints (n : Nat) : (Builtin.zeroCells (Value.int .i64 0).cells n).toList = iv (List.replicate n 0) := by
  apply List.ext_getElem?
  intro j
  by_cases hj : j < n
  · simp [Builtin.zeroCells, iv, Value.cells, hj, Nat.mod_one]
  · simp [Builtin.zeroCells, iv, Value.cells, hj]

theorem wpList_append_mk {w : World} {ops : Array Oper} {rest : List Oper} {o : Oper} {a : Act} {Q : Exit → Act → World → Prop} (hgd : o.guard = none) (s x : Operand) (t u : TypeId)
    (ho : o.op = .call { callee := .builtin .append, args := #[s, x], argTypes := #[t, u] })
    (i : TypeInfo) (ht : P.underlying t = some (.slice 2)) (hu : P.underlying u = some (.int .i64)) (hi : P.info? 2 = some i) (hz : i.zero = some (.int .i64 0)) (hsize : i.size = 1) (hby : i.bytes = 8)
    (lo hi' g n c : Nat) (xs : List Int) (hs : a.eval s = .slice (some ⟨g, 0, none⟩) n c) (hown : OwV 2 1 w lo hi' g n c (iv xs))
    (m : Nat) (hx : a.eval x = .int .i64 m) (hm : 0 < m) (hm2 : m ≤ 1000) (hn : n ≤ 1000) (hfull : c < n + m) (hlo : lo ≤ w.heap.size)
    (h : ∀ (g' cd : Nat) (w' : World), OwV 2 1 w' lo w'.heap.size g' (n + m) cd (iv (xs ++ List.replicate m 0)) → w.grownBy w' (some g) → wpList P ops Q rest (a.put o.dst (.slice (some ⟨g', 0, none⟩) (n + m) cd)) w') :
    wpList P ops Q (o :: rest) a w := by
  have hl := hown.len
  have hbytes : (n + m) * i.bytes ≤ 140737488355328 := by rw [hby]; omega
  have hr := run_append_mk (P := P) w t u o.type 2 i (.int .i64 0) ht hu hi hz ⟨g, 0, none⟩ n c (iv xs) (by rw [hsize]; exact hl) (hown.own.cells (g := g) rfl) m (by rw [hsize]; omega) (by rw [hby]; omega) (by omega) hfull (by omega) (growslice_fits (by omega) hbytes)
  have hge := grownCap_ge w (n + m) c 2
  have hcm : grownCap w (n + m) c 2 ≤ maxLen := grownCap_le_maxLen w (n + m) c 2 (by simp only [maxLen]; omega)
  generalize hcap : grownCap w (n + m) c 2 = cap at *
  have hsz : ((iv xs).toArray ++ Builtin.zeroCells (Value.int .i64 0).cells m ++ Builtin.zeroCells (Value.int .i64 0).cells (cap - (n + m))).size = cap * 1 := by
    simp only [Array.size_append, List.size_toArray, size_zeroCells, Value.cells, hl]
    simp
    omega
  have ho2 : (w.drew.alloc (.cells ((iv xs).toArray ++ Builtin.zeroCells (Value.int .i64 0).cells m ++ Builtin.zeroCells (Value.int .i64 0).cells (cap - (n + m))) 2)).ownsRow lo 2 1 (.slice (some ⟨w.heap.size, 0, none⟩) (n + m) cap) (n + m) (iv (xs ++ List.replicate m 0)) := by
    refine ⟨by simp [iv_length]; rw [iv_length] at hl; omega, .inr ⟨w.heap.size, cap, _, rfl, hlo, heap_alloc_new w.drew _, by omega, hcm, hsz, ?_⟩⟩
    simp only [Array.toList_append, zeroCells_ints]
    rw [← iv_append, List.take_append_of_le_length (by simp [iv_length]; rw [iv_length] at hl; omega), List.take_of_length_le (by simp [iv_length]; rw [iv_length] at hl; omega)]
  refine wpList_plain hgd fun K hK => ?_
  unfold Oper.wp execOp
  simp only [ho, resolve, invoke, builtin, Sem.run_bind, Sem.run_pure, Result.andThen_ok, List.map_toArray, List.map_cons, List.map_nil, hs, hx, hr]
  refine hK _ _ (h w.heap.size cap _ ⟨ho2, by simp⟩ ⟨rfl, rfl, rfl, by simp, fun k hk _ => Below.heap_alloc _ _ _ hk⟩)
end

theorem ow_v {w : World} {lo hi g n c : Nat} {xs : List Int} (h : Ow w lo hi (some ⟨g, 0, none⟩) n c xs) : OwV 2 1 w lo hi g n c (iv xs) := ⟨h.own, h.top g rfl⟩
theorem ow_i {w : World} {lo hi g n c : Nat} {xs : List Int} (h : OwV 2 1 w lo hi g n c (iv xs)) : Ow w lo hi (some ⟨g, 0, none⟩) n c xs := ⟨h.own, fun g' hg => by simp [Value.ownBlock] at hg; have := h.top; omega⟩

set_option maxHeartbeats 1000000 in
theorem specHdWords_full (h : Hd) (w : World) :
    Calls Tryz.prog 41 #[hdV h] w fun e w' => ∃ g, e = .returned (.slice (some ⟨g, 0, none⟩) 8 8) ∧ OwV 2 1 w' w.heap.size w'.heap.size g 8 8 (iv (hdW h)) ∧ Below w.heap.size w w' := by
  obtain ⟨s, f, r, t, m⟩ := h
  unfold hdV
  go_enter Tryz.func41, Tryz.ntmps41
  go_wp2
  go_ret
  refine ⟨w.heap.size + 1, rfl, ?_, ((Below.refl _ _).alloc (Nat.le_refl _) _).alloc (by simp) _⟩
  exact ow_v (made_ow _ _ (hdW ⟨s, f, r, t, m⟩) 8 _ _ _ rfl rfl (by omega) (by simp) (by simp) (by simp))

def blankL (size : Int) : List Int := if inB size 1 64 = true then ((hdW ⟨size, 1, 2, 0, 0⟩ ++ List.replicate 8 0) ++ [3, 0, 0, 0, 0, 0, 0, 0]) ++ [1, 1, 1, 1, 0, 0, 0, 0] else []

def newShots (xs : List Int) : List Int := setCl (moreL xs (List.replicate 8 0)) 0 (hdW { headOf xs with shots := manyN xs })
def shotsAtL (xs : List Int) : Option (List Int) := if 0 < (headOf xs).many then some xs else (if manyN xs < 64 then some (newShots xs) else none)
theorem newShots_head {xs : List Int} (h : hasHead xs = true) (hm : manyN xs < 64) : hasHead (newShots xs) = true ∧ headOf (newShots xs) = { headOf xs with shots := manyN xs } ∧ (newShots xs).length = manyN xs * 8 + 8 := by
  have hl := more_length xs (List.replicate 8 0) (by simp)
  have hall := headB_all (hasHead_ok h)
  have hb : headB { headOf xs with shots := manyN xs } = true := by
    simp only [headB, wordB, Bool.and_eq_true, inB_true]
    omega
  obtain ⟨h1, h2, h3⟩ := hd_set (more_img (hasHead_img h) zeros8 hm) (by rw [hl]; omega) (by rw [hl]; omega) hb
  exact ⟨h1, h2, h3.trans hl⟩
/-- The claim of Shots. -/
theorem shots_claim {xs : List Int} (hm : (headOf xs).many ≠ 0) : ∃ b, (b = true → thereB xs (headOf xs).shots = true) ∧ (⟨5, 0, 0, 0, (headOf xs).shots, b⟩ : Cm) ∈ claimsC xs := by
  have h4 : (⟨5, 0, 0, 0, (headOf xs).shots, goodB xs (headOf xs).size (c3C xs (headOf xs)) ⟨5, 0, 0, 0, (headOf xs).shots, false⟩⟩ : Cm) ∈ c4C xs (headOf xs) := by
    unfold c4C shotsC
    rw [if_neg hm]
    have hm2 : (⟨5, 0, 0, 0, (headOf xs).shots, goodB xs (headOf xs).size (c3C xs (headOf xs)) ⟨5, 0, 0, 0, (headOf xs).shots, false⟩⟩ : Cm) ∈ addC xs (headOf xs).size (c3C xs (headOf xs)) ⟨5, 0, 0, 0, (headOf xs).shots, false⟩ := by unfold addC; simp
    split
    · exact (shotFold_prefix _ _ _ _).subset hm2
    · exact hm2
  exact ⟨_, fun h => goodB_there h, (c6_prefix xs _).subset ((c5_prefix xs _).subset h4)⟩
theorem sound_shots {xs : List Int} (h : soundB xs = true) (hm : (headOf xs).many ≠ 0) : thereB xs (headOf xs).shots = true := by
  obtain ⟨b, hb, hc⟩ := shots_claim hm
  exact hb (sound_good h hc)

def RetShot (w : World) (r : Option (List Int)) (e : Ending) (w' : World) : Prop :=
  (∃ ys A n c, r = some ys ∧ e = .returned (.tuple #[.slice A n c, .bool true]) ∧ Rd w' w'.heap.size A n ys ∧ Below w.heap.size w w') ∨
  (∃ g, r = none ∧ e = .returned (.tuple #[.slice (some ⟨g, 0, none⟩) 0 0, .bool false]) ∧ Below w.heap.size w w')

set_option maxRecDepth 100000 in
set_option maxHeartbeats 8000000 in
theorem specShotsAt_any (A : Option Addr) (n cb : Nat) (xs : List Int) (w : World) (hr : Rd w w.heap.size A n xs) (hh : hasHead xs = true) :
    Calls Tryz.prog 39 #[.slice A n cb] w (RetShot w (shotsAtL xs)) := by
  obtain ⟨i0, hi0, hz0, hz1, hz2⟩ := info_parts info2
  have hlen := hasHead_len hh
  have hn : n ≤ 512 := by have := hr.len; omega
  have hall := headB_all (hasHead_ok hh)
  have HI := Lib.hid (headIn_yes hh)
  have HS : Hid (shotsAtL xs = if 0 < (headOf xs).many then some xs else (if manyN xs < 64 then some (newShots xs) else none)) := rfl
  have HNS : Hid (newShots xs = setCl (moreL xs (List.replicate 8 0)) 0 (hdW { headOf xs with shots := manyN xs })) := rfl
  clear hh
  go_enter Tryz.func39, Tryz.ntmps39
  go_wp2_with fail
  refine (specHeadIn_any _ _ _ xs _ hr (by omega)).mono ?_
  rintro e w1 ⟨rfl, b1⟩
  rw [HI.out]
  generalize headOf xs = h at *
  obtain ⟨s, f, r, u, m⟩ := h
  simp only at hall
  unfold hdV
  have b2 := b1.alloc b1.size (.cells #[.int .i64 s, .int .i64 f, .int .i64 r, .int .i64 u, .int .i64 m] 31)
  have hz : (w1.alloc (.cells #[.int .i64 s, .int .i64 f, .int .i64 r, .int .i64 u, .int .i64 m] 31)).heap.size = w1.heap.size + 1 := by simp
  have HBX : Hid ((w1.alloc (.cells #[.int .i64 s, .int .i64 f, .int .i64 r, .int .i64 u, .int .i64 m] 31)).heap[w1.heap.size]? = some (.cells #[.int .i64 s, .int .i64 f, .int .i64 r, .int .i64 u, .int .i64 m] 31 (0, 0))) := heap_alloc_new w1 _
  have HZ := Lib.hid hz
  clear hz
  by_cases hm : 0 < m
  · have HE : Hid (shotsAtL xs = some xs) := by rw [HS.out, if_pos hm]; exact rfl
    go_wp2_with fail
    go_ret2
    exact .inl ⟨xs, A, n, cb, HE.out, rfl, (hr.below b2).more b2.size, b2⟩
  have HE0 : Hid (shotsAtL xs = if manyN xs < 64 then some (newShots xs) else none) := by rw [HS.out, if_neg hm]; exact rfl
  have hdm : decide (0 < m) = false := by simpa using hm
  have hb1 := b1.size
  clear hm HS HI
  go_wp2_with (at_make; refine wpList_make_full _ rfl _ _ 22 rfl (w1.heap.size + 1) 2 i0 (.int .i64 0) 1 Tryz.underlying22 hi0 hz0 hz1 .i64 .i64 _ _ 8 rfl rfl rfl rfl (by rw [hz2]; omega) (by simp only [maxLen]; omega) (by have := HZ.out; omega) ?_; intro w3 hown hg3; rw [made_iv, HZ.out] at hown; rw [HZ.out])
  have b3 : Below (w1.heap.size + 1) (w1.alloc (.cells #[.int .i64 s, .int .i64 f, .int .i64 r, .int .i64 u, .int .i64 m] 31)) w3 := below_grown hg3 (by have := HZ.out; omega) (fun _ h => by cases h)
  have b03 : Below w.heap.size w w3 := b2.trans (b3.mono (by omega))
  have s3 := b3.size
  rw [HZ.out] at s3
  have HB3 : Hid (w3.heap[w1.heap.size]? = some (.cells #[.int .i64 s, .int .i64 f, .int .i64 r, .int .i64 u, .int .i64 m] 31 (0, 0))) := (b3.block w1.heap.size (by omega)).trans HBX.out
  have oz : Ow w3 (w1.heap.size + 1) (w1.heap.size + 2) (some ⟨w1.heap.size + 1, 0, none⟩) 8 8 (List.replicate 8 0) := ⟨hown, fun g hg => by simp [Value.ownBlock] at hg; omega⟩
  have hltz := ow_lt oz
  clear hown hg3 b3 b2 HBX HZ
  refine (specMore_any A n cb xs (some ⟨w1.heap.size + 1, 0, none⟩) 8 (List.replicate 8 0) w3 ((hr.below b03).more b03.size) (oz.rd.more (by omega)) (by omega)).mono ?_
  rintro e w6 (⟨h64, g6, n6, c6, rfl, hc6, o6, b6⟩ | ⟨h64, g6, rfl, b6⟩)
  · have HE : Hid (shotsAtL xs = some (newShots xs)) := by rw [HE0.out, if_pos h64]; exact rfl
    have b06 := below_more b03 b6 b03.size
    have s6 := b6.size
    have HB6 : Hid (w6.heap[w1.heap.size]? = some (.cells #[.int .i64 s, .int .i64 f, .int .i64 r, .int .i64 u, .int .i64 m] 31 (0, 0))) := (b6.block w1.heap.size (by omega)).trans HB3.out
    have hn6 := o6.len
    rw [more_length _ _ (by simp)] at hn6
    have HN6 := Lib.hid hn6
    have k0 : w6.cell? ⟨w1.heap.size, 0, none⟩ = some (.int .i64 s) := by rw [cell_of_row w6 w1.heap.size 0 _ _ _ HB6.out]; rfl
    have k1 : w6.cell? ⟨w1.heap.size, 1, none⟩ = some (.int .i64 f) := by rw [cell_of_row w6 w1.heap.size 1 _ _ _ HB6.out]; rfl
    have k2 : w6.cell? ⟨w1.heap.size, 2, none⟩ = some (.int .i64 r) := by rw [cell_of_row w6 w1.heap.size 2 _ _ _ HB6.out]; rfl
    have k3 : w6.cell? ⟨w1.heap.size, 3, none⟩ = some (.int .i64 u) := by rw [cell_of_row w6 w1.heap.size 3 _ _ _ HB6.out]; rfl
    have k4 : w6.cell? ⟨w1.heap.size, 4, none⟩ = some (.int .i64 m) := by rw [cell_of_row w6 w1.heap.size 4 _ _ _ HB6.out]; rfl
    have kf : w6.frozen? ⟨w1.heap.size, 3, none⟩ = false := frozen_of_row w6 w1.heap.size 3 _ _ HB6.out
    have b07 : Below w.heap.size w (w6.setCell ⟨w1.heap.size, 3, none⟩ (.int .i64 (manyN xs))) := b06.setCell hb1 _
    have o7 : Ow (w6.setCell ⟨w1.heap.size, 3, none⟩ (.int .i64 (manyN xs))) w3.heap.size w6.heap.size (some ⟨g6, 0, none⟩) n6 c6 (moreL xs (List.replicate 8 0)) := o6.keep fun q h1 h2 _ => Below.heap_setCell _ _ _ _ (by show q ≠ w1.heap.size; omega)
    have s7 : w6.heap.size ≤ (w6.setCell ⟨w1.heap.size, 3, none⟩ (.int .i64 (manyN xs))).heap.size := by simp [World.setCell]
    clear hn6 HB6 o6 b6 oz HB3
    go_wp2_with fail
    generalize w6.setCell ⟨w1.heap.size, 3, none⟩ (.int .i64 (manyN xs)) = w7 at *
    refine (specHdWords_any ⟨s, f, r, manyN xs, m⟩ w7).mono ?_
    rintro e w8 ⟨g8, n8, c8, rfl, hc8, o8, b8⟩
    obtain rfl : 8 = n8 := o8.len
    have b08 := below_more b07 b8 b07.size
    have s8 := b8.size
    go_wp2_with fail
    refine (specWith_any g6 0 n6 c6 0 (moreL xs (List.replicate 8 0)) (hdW ⟨s, f, r, manyN xs, m⟩) (some ⟨g8, 0, none⟩) c8 w8 ((o7.below b8 s7).rd.more (by omega)) o8.rd hc6 (by have := HN6.out; omega) (by have := HN6.out; omega) (by omega)).mono ?_
    rintro e w9 ⟨A9, n9, c9, rfl, o9, b9⟩
    rw [← HNS.out] at o9
    go_wp2_with fail
    go_ret2
    exact .inl ⟨newShots xs, A9, n9, c9, HE.out, rfl, o9.rd, below_more b08 b9 b08.size⟩
  · have HE : Hid (shotsAtL xs = none) := by rw [HE0.out, if_neg (by omega)]; exact rfl
    have b06 := below_more b03 b6 b03.size
    go_wp2_with fail
    go_ret2
    exact .inr ⟨w6.heap.size, HE.out, rfl, b06.alloc b06.size _⟩

def pictEnd (name : Int) (zs : List Int) (at_ : Nat) : List Int :=
  doneL (setCl ((zs.set ((headOf zs).shots.toNat * 8 + 2 * (headOf zs).many.toNat) name).set ((headOf zs).shots.toNat * 8 + 2 * (headOf zs).many.toNat + 1) at_) 0 (hdW { headOf zs with many := (headOf zs).many + 1 }))
def pictMid (xs : List Int) (name : Int) : Option (List Int) → List Int
  | none => []
  | some ys => if manyN ys < 64 then pictEnd name (moreL ys (cl xs (headOf xs).first.toNat)) (manyN ys) else []
def picturedL (xs : List Int) (name : Int) : List Int :=
  if soundB xs = true ∧ (headOf xs).many < 4 ∧ wordB name = true then pictMid xs name (shotsAtL xs) else []

theorem eight_cl {xs : List Int} (h : imgB xs = true) (a : Nat) : eightB (cl xs a) = true := by
  unfold eightB
  rw [cl_length, Bool.and_eq_true]
  refine ⟨rfl, ?_⟩
  unfold wordsB
  rw [List.all_eq_true]
  intro x hx
  unfold cl f8 at hx
  rw [List.mem_map] at hx
  obtain ⟨j, _, rfl⟩ := hx
  exact inB_true.2 (word_get h _)
theorem shotsAt_ok {xs ys : List Int} (h : soundB xs = true) (e : shotsAtL xs = some ys) : hasHead ys = true ∧ thereB ys (headOf ys).shots = true ∧ (headOf ys).many = (headOf xs).many ∧ ys.length ≤ 520 := by
  have hh := sound_head h
  have hl := hasHead_len hh
  have hm := manyN_le (hasHead_img hh)
  have hall := headB_all (hasHead_ok hh)
  unfold shotsAtL at e
  split at e
  · cases e
    exact ⟨hh, sound_shots h (by omega), rfl, by omega⟩
  · split at e
    · rename_i hm64
      cases e
      obtain ⟨h1, h2, h3⟩ := newShots_head hh hm64
      have hm1 : manyN (newShots xs) = manyN xs + 1 := by show ((newShots xs).length + 7) / 8 = _; rw [h3]; omega
      have hp := whole_pos hh
      refine ⟨h1, ?_, by rw [h2], by rw [h3]; omega⟩
      rw [h2, thereB, inB_true, hm1]
      simp only
      omega
    · cases e

set_option maxRecDepth 100000 in
set_option maxHeartbeats 8000000 in
theorem specPictured_any (A : Option Addr) (n cb : Nat) (xs : List Int) (name : Int) (w : World) (hr : Rd w w.heap.size A n xs) (hn : n ≤ 2097152) :
    Calls Tryz.prog 11 #[.slice A n cb, .int .i64 name] w (Ret w (picturedL xs name)) := by
  have hno : ¬ (soundB xs = true ∧ (headOf xs).many < 4 ∧ wordB name = true) → picturedL xs name = [] := fun h => by unfold picturedL; rw [if_neg h]
  have HNO := Lib.hid hno
  clear hno
  go_enter Tryz.func11, Tryz.ntmps11
  go_wp2_with fail
  refine (specHeadIn_any _ _ _ xs _ hr hn).mono ?_
  rintro e w1 ⟨rfl, b1⟩
  generalize hh : headIn xs = r
  obtain ⟨⟨s, f, r, u, m⟩, is⟩ := r
  have HR := Lib.hid hh
  clear hh
  unfold hdV
  have b2 := b1.alloc b1.size (.cells #[.int .i64 s, .int .i64 f, .int .i64 r, .int .i64 u, .int .i64 m] 31)
  have hz : (w1.alloc (.cells #[.int .i64 s, .int .i64 f, .int .i64 r, .int .i64 u, .int .i64 m] 31)).heap.size = w1.heap.size + 1 := by simp
  have HBX : Hid ((w1.alloc (.cells #[.int .i64 s, .int .i64 f, .int .i64 r, .int .i64 u, .int .i64 m] 31)).heap[w1.heap.size]? = some (.cells #[.int .i64 s, .int .i64 f, .int .i64 r, .int .i64 u, .int .i64 m] 31 (0, 0))) := heap_alloc_new w1 _
  have HZ := Lib.hid hz
  clear hz
  go_wp2_with fail
  refine (specSound_any A n cb xs _ ((hr.below b2).more b2.size) hn).mono ?_
  rintro e w3 ⟨rfl, b3⟩
  have b03 := below_more b2 b3 b2.size
  have s3 := b3.size
  rw [HZ.out] at s3
  have HB3 : Hid (w3.heap[w1.heap.size]? = some (.cells #[.int .i64 s, .int .i64 f, .int .i64 r, .int .i64 u, .int .i64 m] 31 (0, 0))) := (b3.block w1.heap.size (by have := HZ.out; omega)).trans HBX.out
  have q4 : w3.cell? ⟨w1.heap.size, 4, none⟩ = some (.int .i64 m) := by rw [cell_of_row w3 w1.heap.size 4 _ _ _ HB3.out]; rfl
  have hb1 := b1.size
  clear b3 b2 HZ HBX
  cases hsd : soundB xs
  · have HN := Lib.hid (HNO.out (by rw [hsd]; simp))
    clear hsd
    go_wp2_with fail
    go_ret
    rw [HN.out]
    exact Ret.emptyAt _ rfl b03
  have hh := sound_head hsd
  have his : is = true ∧ headOf xs = ⟨s, f, r, u, m⟩ := by
    have e := HR.out
    rw [headIn_yes hh] at e
    cases e; exact ⟨rfl, rfl⟩
  obtain ⟨rfl, hho⟩ := his
  have hall := headB_all (hasHead_ok hh)
  have HHO := Lib.hid hho
  rw [hho] at hall
  simp only at hall
  have HSD := Lib.hid hsd
  have hft := there_lt (sound_first hsd).1
  rw [hho] at hft
  simp only at hft
  have hmany := manyN_le (hasHead_img hh)
  have hlen := hasHead_len hh
  have hn512 : n ≤ 512 := by have := hr.len; omega
  clear hsd hho HR
  by_cases hm4 : m < 4
  rotate_left
  · have hd4 : decide (4 ≤ m) = true := by simp; omega
    have HN := Lib.hid (HNO.out (by rw [HHO.out]; simp only; omega))
    clear hm4
    go_wp2_with fail
    go_ret
    rw [HN.out]
    exact Ret.emptyAt _ rfl b03
  have hd4 : decide (4 ≤ m) = false := by simp; omega
  cases hwn : wordB name
  · have HN := Lib.hid (HNO.out (by rw [hwn]; simp))
    have HWN := Lib.hid hwn
    clear hwn
    go_wp2_with fail
    refine (word_any _ _).mono ?_
    rintro e w' ⟨rfl, rfl⟩
    rw [HWN.out]
    go_wp2_with fail
    go_ret
    rw [HN.out]
    exact Ret.emptyAt _ rfl b03
  have HM : Hid (picturedL xs name = pictMid xs name (shotsAtL xs)) := by
    unfold picturedL; rw [if_pos ⟨HSD.out, by rw [HHO.out]; exact hm4, hwn⟩]; exact rfl
  have HWN := Lib.hid hwn
  clear hwn HNO
  go_wp2_with fail
  refine (word_any _ _).mono ?_
  rintro e w' ⟨rfl, rfl⟩
  rw [HWN.out]
  go_wp2_with fail
  refine (specShotsAt_any A n cb xs w3 ((hr.below b03).more b03.size) hh).mono ?_
  rintro e w4 (⟨ys, A4, n4, c4, hsh, rfl, r4, b4⟩ | ⟨g4, hsh, rfl, b4⟩)
  rotate_left
  · have HN : Hid (picturedL xs name = []) := by rw [HM.out, hsh]; exact rfl
    clear hsh
    go_wp2_with fail
    go_ret
    rw [HN.out]
    exact Ret.emptyAt _ rfl (below_more b03 b4 b03.size)
  obtain ⟨y1, y2, y3, y4⟩ := shotsAt_ok HSD.out hsh
  obtain ⟨φ, rfl⟩ := Int.eq_ofNat_of_zero_le (show 0 ≤ f by omega)
  have HM2 : Hid (picturedL xs name = if manyN ys < 64 then pictEnd name (moreL ys (cl xs φ)) (manyN ys) else []) := by
    rw [HM.out, hsh]; unfold pictMid; rw [HHO.out, Int.toNat_natCast]; exact rfl
  have HY1 := Lib.hid y1
  have HY2 := Lib.hid y2
  have HY3 := Lib.hid y3
  have hn4 : n4 ≤ 520 := by have := r4.len; omega
  have b04 := below_more b03 b4 b03.size
  have s4 := b4.size
  have HB4 : Hid (w4.heap[w1.heap.size]? = some (.cells #[.int .i64 s, .int .i64 φ, .int .i64 r, .int .i64 u, .int .i64 m] 31 (0, 0))) := (b4.block w1.heap.size (by omega)).trans HB3.out
  have p1 : w4.cell? ⟨w1.heap.size, 1, none⟩ = some (.int .i64 φ) := by rw [cell_of_row w4 w1.heap.size 1 _ _ _ HB4.out]; rfl
  have HE8 := Lib.hid (eight_cl (hasHead_img hh) φ)
  clear hsh y1 y2 y3 HM HB3 q4 b4
  go_wp2_with fail
  refine (specCluster_any A n cb φ xs w4 ((hr.below b04).more b04.size) hn (by omega)).mono ?_
  rintro e w5 ⟨G5, ng, cg, rfl, oG, b5⟩
  obtain rfl : 8 = ng := by have := oG.len; simpa [cl, f8_length] using this
  have b05 := below_more b04 b5 b04.size
  have s5 := b5.size
  have HB5 : Hid (w5.heap[w1.heap.size]? = some (.cells #[.int .i64 s, .int .i64 φ, .int .i64 r, .int .i64 u, .int .i64 m] 31 (0, 0))) := (b5.block w1.heap.size (by omega)).trans HB4.out
  go_wp2_with fail
  refine (specMore_any A4 n4 c4 ys G5 cg (cl xs φ) w5 ((r4.below b5).more b5.size) oG.rd (by omega)).mono ?_
  rintro e w6 (⟨h64, g6, n6, c6, rfl, hc6, o6, b6⟩ | ⟨h64, g6, rfl, b6⟩)
  rotate_left
  · have HN : Hid (picturedL xs name = []) := by rw [HM2.out, if_neg (by omega)]; exact rfl
    go_wp2_with fail
    go_ret
    rw [HN.out]
    exact Ret.emptyAt _ rfl (below_more b05 b6 b05.size)
  have HM3 : Hid (picturedL xs name = pictEnd name (moreL ys (cl xs φ)) (manyN ys)) := by rw [HM2.out, if_pos h64]; exact rfl
  obtain ⟨v1, v2⟩ := more_head HY1.out HE8.out h64
  have b06 := below_more b05 b6 b05.size
  have s6 := b6.size
  have hn6 := o6.len
  rw [more_length _ _ (cl_length xs φ)] at hn6
  have HN6 := Lib.hid hn6
  have hn6' : n6 ≤ 1000 := by have := HN6.out; omega
  have HIN := Lib.hid (headIn_yes v1)
  have HPE : Hid (pictEnd name (moreL ys (cl xs φ)) (manyN ys) = doneL (setCl (((moreL ys (cl xs φ)).set ((headOf ys).shots.toNat * 8 + 2 * (headOf ys).many.toNat) name).set ((headOf ys).shots.toNat * 8 + 2 * (headOf ys).many.toNat + 1) (manyN ys)) 0 (hdW { headOf ys with many := (headOf ys).many + 1 }))) := by unfold pictEnd; rw [v2]; exact rfl
  rw [v2] at HIN
  have HB6 : Hid (w6.heap[w1.heap.size]? = some (.cells #[.int .i64 s, .int .i64 φ, .int .i64 r, .int .i64 u, .int .i64 m] 31 (0, 0))) := (b6.block w1.heap.size (by omega)).trans HB5.out
  clear hn6 v2 HB5 HB4 HM2 oG b5 b6 r4 p1
  go_wp2_with fail
  refine (specHeadIn_any _ _ _ (moreL ys (cl xs φ)) w6 o6.rd (by omega)).mono ?_
  rintro e w7 ⟨rfl, b7⟩
  rw [HIN.out]
  have hy2 := there_lt HY2.out
  have hy3 := HY3.out
  rw [HHO.out] at hy3
  simp only at hy3
  have hall' := headB_all (hasHead_ok HY1.out)
  generalize headOf ys = hy at *
  obtain ⟨ys1, yf, yr, yu, ym⟩ := hy
  simp only at hy2 hy3 hall'
  subst hy3
  obtain ⟨υ, rfl⟩ := Int.eq_ofNat_of_zero_le (show 0 ≤ yu by omega)
  obtain ⟨μ, rfl⟩ := Int.eq_ofNat_of_zero_le (show 0 ≤ ym by omega)
  simp only [Int.toNat_natCast] at HPE
  have b07 := below_more b06 b7 b06.size
  have s7 := b7.size
  have hg6 : w5.heap.size ≤ g6 ∧ g6 < w6.heap.size := by
    rcases o6.form with ⟨h, _⟩ | ⟨x, hx, h1, h2, _⟩
    · cases h
    · injection hx with hx; injection hx with hx; omega
  have HB7 : Hid (w7.heap[w1.heap.size]? = some (.cells #[.int .i64 s, .int .i64 φ, .int .i64 r, .int .i64 u, .int .i64 μ] 31 (0, 0))) := (b7.block w1.heap.size (by omega)).trans HB6.out
  have o7 := o6.below b7 (Nat.le_refl _)
  have k0 : w7.cell? ⟨w1.heap.size, 0, none⟩ = some (.int .i64 s) := by rw [cell_of_row w7 w1.heap.size 0 _ _ _ HB7.out]; rfl
  have k1 : w7.cell? ⟨w1.heap.size, 1, none⟩ = some (.int .i64 φ) := by rw [cell_of_row w7 w1.heap.size 1 _ _ _ HB7.out]; rfl
  have k2 : w7.cell? ⟨w1.heap.size, 2, none⟩ = some (.int .i64 r) := by rw [cell_of_row w7 w1.heap.size 2 _ _ _ HB7.out]; rfl
  have k3 : w7.cell? ⟨w1.heap.size, 3, none⟩ = some (.int .i64 u) := by rw [cell_of_row w7 w1.heap.size 3 _ _ _ HB7.out]; rfl
  have k4 : w7.cell? ⟨w1.heap.size, 4, none⟩ = some (.int .i64 μ) := by rw [cell_of_row w7 w1.heap.size 4 _ _ _ HB7.out]; rfl
  have f0 : w7.frozen? ⟨w1.heap.size, 0, none⟩ = false := frozen_of_row w7 w1.heap.size 0 _ _ HB7.out
  have f1 : w7.frozen? ⟨w1.heap.size, 1, none⟩ = false := frozen_of_row w7 w1.heap.size 1 _ _ HB7.out
  have f2 : w7.frozen? ⟨w1.heap.size, 2, none⟩ = false := frozen_of_row w7 w1.heap.size 2 _ _ HB7.out
  have f3 : w7.frozen? ⟨w1.heap.size, 3, none⟩ = false := frozen_of_row w7 w1.heap.size 3 _ _ HB7.out
  have f4 : w7.frozen? ⟨w1.heap.size, 4, none⟩ = false := frozen_of_row w7 w1.heap.size 4 _ _ HB7.out
  have W8 : ∀ w8 : World, w8 = ((((w7.setCell ⟨w1.heap.size, 0, none⟩ (.int .i64 ys1)).setCell ⟨w1.heap.size, 1, none⟩ (.int .i64 yf)).setCell ⟨w1.heap.size, 2, none⟩ (.int .i64 yr)).setCell ⟨w1.heap.size, 3, none⟩ (.int .i64 υ)).setCell ⟨w1.heap.size, 4, none⟩ (.int .i64 μ) →
      Hid (w8.heap[w1.heap.size]? = some (.cells #[.int .i64 ys1, .int .i64 yf, .int .i64 yr, .int .i64 υ, .int .i64 μ] 31 (0, 0))) ∧ Ow w8 w5.heap.size w6.heap.size (some ⟨g6, 0, none⟩) n6 c6 (moreL ys (cl xs φ)) ∧ Below w.heap.size w w8 ∧ w7.heap.size ≤ w8.heap.size := fun w8 hw => by
    subst hw
    refine ⟨?_, o7.keep fun q h1 h2 _ => ?_, ((((b07.setCell hb1 _).setCell hb1 _).setCell hb1 _).setCell hb1 _).setCell hb1 _, by simp [World.setCell]⟩
    · have := HB7.out
      show _ = _
      simp [World.setCell, Array.getElem?_modify, this]
    · rw [Below.heap_setCell _ _ _ _ (by show q ≠ w1.heap.size; omega), Below.heap_setCell _ _ _ _ (by show q ≠ w1.heap.size; omega), Below.heap_setCell _ _ _ _ (by show q ≠ w1.heap.size; omega), Below.heap_setCell _ _ _ _ (by show q ≠ w1.heap.size; omega), Below.heap_setCell _ _ _ _ (by show q ≠ w1.heap.size; omega)]
  have HW8 := Lib.hid W8
  clear W8 HB7 HB6 o6 b7 b07 b06 o7
  unfold hdV
  go_upto_region 11 with (fail)
  generalize hw8 : ((((w7.setCell ⟨w1.heap.size, 0, none⟩ (.int .i64 ys1)).setCell ⟨w1.heap.size, 1, none⟩ (.int .i64 yf)).setCell ⟨w1.heap.size, 2, none⟩ (.int .i64 yr)).setCell ⟨w1.heap.size, 3, none⟩ (.int .i64 υ)).setCell ⟨w1.heap.size, 4, none⟩ (.int .i64 μ) = w8 at *
  obtain ⟨HB8, o8, b08, s8⟩ := HW8.out w8 rfl
  clear hw8 HW8 k0 k1 k2 k3 k4 f0 f1 f2 f3 f4
  have k3 : w8.cell? ⟨w1.heap.size, 3, none⟩ = some (.int .i64 υ) := by rw [cell_of_row w8 w1.heap.size 3 _ _ _ HB8.out]; rfl
  have k4 : w8.cell? ⟨w1.heap.size, 4, none⟩ = some (.int .i64 μ) := by rw [cell_of_row w8 w1.heap.size 4 _ _ _ HB8.out]; rfl
  have i1 : υ * 8 + 2 * μ + 1 < n6 := by have := HN6.out; omega
  have hu63 : υ ≤ 64 := by omega
  have c1 := o8.cell (j := υ * 8 + 2 * μ) (by omega)
  have d1 := o8.free (υ * 8 + 2 * μ)
  have HS1 := Lib.hid (o8.set (υ * 8 + 2 * μ) name)
  clear o8
  go_upto_region 12 with (fail)
  obtain ⟨o9, G9⟩ := HS1.out
  have HB9 : Hid ((w8.setCell ⟨g6, υ * 8 + 2 * μ, none⟩ (.int .i64 name)).heap[w1.heap.size]? = some (.cells #[.int .i64 ys1, .int .i64 yf, .int .i64 yr, .int .i64 υ, .int .i64 μ] 31 (0, 0))) := (Below.heap_setCell _ _ _ _ (by show w1.heap.size ≠ g6; omega)).trans HB8.out
  have b09 := b08.grown G9 b08.size (fun q e => by cases e; omega)
  have s9 := G9.size
  clear HS1 c1 d1 k3 k4 G9
  generalize w8.setCell ⟨g6, υ * 8 + 2 * μ, none⟩ (.int .i64 name) = w9 at *
  have k3 : w9.cell? ⟨w1.heap.size, 3, none⟩ = some (.int .i64 υ) := by rw [cell_of_row w9 w1.heap.size 3 _ _ _ HB9.out]; rfl
  have k4 : w9.cell? ⟨w1.heap.size, 4, none⟩ = some (.int .i64 μ) := by rw [cell_of_row w9 w1.heap.size 4 _ _ _ HB9.out]; rfl
  have c1 := o9.cell (j := υ * 8 + 2 * μ + 1) (by omega)
  have d1 := o9.free (υ * 8 + 2 * μ + 1)
  have HS1 := Lib.hid (o9.set (υ * 8 + 2 * μ + 1) (manyN ys))
  clear o9
  go_upto_region 13 with (fail)
  obtain ⟨oa, Ga⟩ := HS1.out
  have HBa : Hid ((w9.setCell ⟨g6, υ * 8 + 2 * μ + 1, none⟩ (.int .i64 (manyN ys))).heap[w1.heap.size]? = some (.cells #[.int .i64 ys1, .int .i64 yf, .int .i64 yr, .int .i64 υ, .int .i64 μ] 31 (0, 0))) := (Below.heap_setCell _ _ _ _ (by show w1.heap.size ≠ g6; omega)).trans HB9.out
  have b0a := b09.grown Ga b09.size (fun q e => by cases e; omega)
  have sa := Ga.size
  clear HS1 c1 d1 k3 k4 Ga
  generalize w9.setCell ⟨g6, υ * 8 + 2 * μ + 1, none⟩ (.int .i64 (manyN ys)) = wa at *
  have k0 : wa.cell? ⟨w1.heap.size, 0, none⟩ = some (.int .i64 ys1) := by rw [cell_of_row wa w1.heap.size 0 _ _ _ HBa.out]; rfl
  have k1 : wa.cell? ⟨w1.heap.size, 1, none⟩ = some (.int .i64 yf) := by rw [cell_of_row wa w1.heap.size 1 _ _ _ HBa.out]; rfl
  have k2 : wa.cell? ⟨w1.heap.size, 2, none⟩ = some (.int .i64 yr) := by rw [cell_of_row wa w1.heap.size 2 _ _ _ HBa.out]; rfl
  have k3 : wa.cell? ⟨w1.heap.size, 3, none⟩ = some (.int .i64 υ) := by rw [cell_of_row wa w1.heap.size 3 _ _ _ HBa.out]; rfl
  have k4 : wa.cell? ⟨w1.heap.size, 4, none⟩ = some (.int .i64 μ) := by rw [cell_of_row wa w1.heap.size 4 _ _ _ HBa.out]; rfl
  have f4 : wa.frozen? ⟨w1.heap.size, 4, none⟩ = false := frozen_of_row wa w1.heap.size 4 _ _ HBa.out
  have ob : Ow (wa.setCell ⟨w1.heap.size, 4, none⟩ (.int .i64 ((μ : Int) + 1))) w5.heap.size w6.heap.size (some ⟨g6, 0, none⟩) n6 c6 _ := oa.keep fun q h1 h2 _ => Below.heap_setCell _ _ _ _ (by show q ≠ w1.heap.size; omega)
  have b0b : Below w.heap.size w (wa.setCell ⟨w1.heap.size, 4, none⟩ (.int .i64 ((μ : Int) + 1))) := b0a.setCell hb1 _
  have sb : wa.heap.size ≤ (wa.setCell ⟨w1.heap.size, 4, none⟩ (.int .i64 ((μ : Int) + 1))).heap.size := by simp [World.setCell]
  go_wp2_with fail
  generalize wa.setCell ⟨w1.heap.size, 4, none⟩ (.int .i64 ((μ : Int) + 1)) = wb at *
  refine (specHdWords_any ⟨ys1, yf, yr, υ, (μ : Int) + 1⟩ wb).mono ?_
  rintro e wc ⟨gc, nc, cc, rfl, hcc, oc, bc⟩
  obtain rfl : 8 = nc := oc.len
  have b0c := below_more b0b bc b0b.size
  have sc := bc.size
  go_wp2_with fail
  refine (specWith_any g6 0 n6 c6 0 _ (hdW ⟨ys1, yf, yr, υ, (μ : Int) + 1⟩) (some ⟨gc, 0, none⟩) cc wc ((ob.below bc (by omega)).rd.more (by omega)) oc.rd hc6 (by omega) (by have := HN6.out; omega) (by omega)).mono ?_
  rintro e wd ⟨Ad, nd, cd, rfl, od, bd⟩
  have b0d := below_more b0c bd b0c.size
  have hnd : nd ≤ 2000 := by
    have := od.len
    rw [setCl_length (by simp [more_length _ _ (cl_length xs φ)]) (by omega) rfl] at this
    have h6 := HN6.out
    simp [more_length _ _ (cl_length xs φ)] at this
    omega
  go_wp2_with fail
  refine (specDone_any Ad nd cd _ wd od.rd (by omega)).mono ?_
  rintro e we ⟨Ae, ne, ce, rfl, oe, be⟩
  go_wp2_with fail
  go_ret
  rw [HM3.out, HPE.out]
  exact ⟨Ae, ne, ce, rfl, oe.more b0d.size (Nat.le_refl _), below_more b0d be b0d.size⟩

end Go.Proofs.YtiokfhdkbpoadaaGreatDoor
