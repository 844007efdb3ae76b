/- Scans (chapter 13): LostIn, Refound: the model's side. -/
import Derived.Test.YtimbfilbojejiaaScn
import Derived.Test.YtimbfilbojejiaaClh
namespace Go.Proofs.Ytimbfilbojejiaa
open Go.RowKit

theorem lost_short (b : List Int) : ∀ k : Nat, (((List.range k).foldl (lostStep b) []).length : Int) ≤ k
  | 0 => by simp
  | k + 1 => by
    have ih := lost_short b k
    rw [range_next]
    generalize (List.range k).foldl (lostStep b) [] = o at *
    unfold lostStep
    split
    · rw [List.length_append]; simp; omega
    · omega
theorem lost_eight {b : List Int} (h : 0 < (rolesL b).length) : ∀ k : Nat, ((List.range k).foldl (lostStep b) []).length ≤ 8
  | 0 => by simp
  | k + 1 => by
    have ih := lost_eight h k
    rw [range_next]
    generalize (List.range k).foldl (lostStep b) [] = o at *
    have hh := (roles_many h).1
    have hs := (headB_all (hasHead_ok hh)).1
    unfold lostStep
    split
    · rename_i hc
      rw [headIn_yes hh] at hc
      simp only at hc
      rw [List.length_append]
      simp
      omega
    · exact ih

set_option maxRecDepth 100000 in
set_option maxHeartbeats 4000000 in
theorem specLost_any (A : Option Addr) (n c : Nat) (xs : List Int) (w : World) (h : Rd w w.heap.size A n xs) (hn : n ≤ 2097152) :
    Calls Try.prog 10 #[.slice A n c] w (RetS w (lostL xs)) := by
  obtain ⟨i0, hi0, hz0, hz1, hz2⟩ := info_parts info2
  have b1 := (Below.refl w.heap.size w).alloc (Nat.le_refl _) (.cells #[] 2)
  have o1 := emptyV 2 1 w w.heap.size (w.heap.size + 1) w.heap.size (Nat.le_refl _) rfl (by omega)
  go_enter Try.func10, Try.ntmps10
  go_wp2_with fail
  refine (specHeadIn_any A n c xs _ ((h.below b1).more b1.size) hn).mono ?_
  rintro e w2 ⟨rfl, b2⟩
  have hs2 := b2.size
  have hsz : (w.alloc (.cells #[] 2)).heap.size = w.heap.size + 1 := by simp
  rw [hsz] at hs2
  have o2 := o1.below b2 (by omega)
  have b02 := below_more b1 b2 b1.size
  have HLL : Hid (lostL xs = (List.range ((rolesL xs).length - 1)).foldl (lostStep xs) []) := rfl
  have h64 := rolesL_length (xs := xs)
  have HST : Hid (∀ (o : List Int) (k : Nat), lostStep xs o k = if secLikeB xs ((k : Int) + 1) = true ∧ (o.length : Int) < ((headIn xs).1.size + 7) / 8 then o ++ [(k : Int) + 1] else o) := fun _ _ => rfl
  have HSZ : Hid (0 ≤ (headIn xs).1.size ∧ (headIn xs).1.size ≤ 64) := by
    cases hh : hasHead xs
    · rw [headIn_no hh]; simp [hd0, Hid]
    · rw [headIn_yes hh]; have := (headB_all (hasHead_ok hh)).1; exact ⟨by simp only; omega, by simp only; omega⟩
  generalize headIn xs = r at *
  obtain ⟨⟨s, f, r, u, m⟩, is⟩ := r
  have hsz2 := HSZ.out
  simp only at hsz2
  unfold hdV
  have y3 : HBox (w2.alloc (.cells #[.int .i64 s, .int .i64 f, .int .i64 r, .int .i64 u, .int .i64 m] 34)) w2.heap.size ⟨s, f, r, u, m⟩ := HBox.new w2 ⟨s, f, r, u, m⟩
  have al3 := (Below.refl w2.heap.size w2).alloc (Nat.le_refl _) (.cells #[.int .i64 s, .int .i64 f, .int .i64 r, .int .i64 u, .int .i64 m] 34)
  have o3 := o2.below al3 (by omega)
  have b03 := below_more b02 al3 b02.size
  have hz3 : (w2.alloc (.cells #[.int .i64 s, .int .i64 f, .int .i64 r, .int .i64 u, .int .i64 m] 34)).heap.size = w2.heap.size + 1 := by simp
  clear hsz b1 b2 o1 o2 al3 b02 HSZ
  go_wp2_with fail
  generalize (w2.alloc (.cells #[.int .i64 s, .int .i64 f, .int .i64 r, .int .i64 u, .int .i64 m] 34)) = w3 at *
  go_loopw [3, 6] (fun v i wr => ∃ (k g' c' : Nat), (k ≤ (rolesL xs).length - 1) ∧ i = .int .i64 ((k : Int) + 1) ∧ v = .slice (some ⟨g', 0, none⟩) ((List.range k).foldl (lostStep xs) []).length c' ∧
    OwV 2 1 wr w.heap.size wr.heap.size g' ((List.range k).foldl (lostStep xs) []).length c' (iv ((List.range k).foldl (lostStep xs) [])) ∧ HBox wr w2.heap.size ⟨s, f, r, u, m⟩ ∧ Below w.heap.size w wr ∧ g' ≠ w2.heap.size) (fun _ i _ => (rolesL xs).length + 1 - (intOf i).toNat)
  case atStart => exact ⟨0, w.heap.size, 0, Nat.zero_le _, rfl, rfl, o3.more (Nat.le_refl _) (by omega), y3, b03, by omega⟩
  case round =>
    obtain ⟨k, g', c', hk, rfl, rfl, hok, hy, hB, hne⟩ := hrel
    have hlo := lost_short xs k
    have HSk := Lib.hid (range_next (lostStep xs) [] k)
    rw [HST.out] at HSk
    have sr := hB.size
    have hyl := hy.lt
    generalize hfs : (List.range k).foldl (lostStep xs) [] = fs at *
    have HFS := Lib.hid hfs
    clear hfs
    generalize hRL : (rolesL xs).length = RL at *
    go_wp2_with fail
    refine (specRolesIn_any A n c xs wr ((h.below hB).more hB.size) hn).mono ?_
    rintro e w4 ⟨G, ng, cg, rfl, oG, b4⟩
    obtain rfl : RL = ng := by have := oG.len; rw [hRL] at this; exact this
    have s4 := b4.size
    have B4 := below_more hB b4 hB.size
    have ok4 := hok.below b4 (Nat.le_refl _)
    have hy4 := hy.keep (b4.block _ hyl)
    clear oG hok hy
    by_cases hlt : k + 1 < RL
    · have d1 : decide ((k : Int) + 1 < (RL : Int)) = true := by simp; omega
      go_wp2_with fail
      refine (specSecLike_any A n c xs ((k : Int) + 1) w4 ((h.below B4).more B4.size) hn).mono ?_
      rintro e w5 ⟨rfl, b5⟩
      have s5 := b5.size
      have B5 := below_more B4 b5 B4.size
      have ok5 := ok4.below b5 (by omega)
      have hy5 := hy4.keep (b5.block _ (by omega))
      have q0 : w5.cell? ⟨w2.heap.size, 0, none⟩ = some (.int .i64 s) := hy5.cell 0
      clear ok4 hy4 b4 b5 hB B4
      cases hsl : secLikeB xs ((k : Int) + 1)
      · have HE : Hid ((List.range (k + 1)).foldl (lostStep xs) [] = fs) := by rw [HSk.out, hsl]; simp [Hid]
        clear HSk hsl
        go_wp2_with fail
        go_roundw
        case rel => exact ⟨k + 1, g', c', by omega, by go_num, by rw [HE.out], by rw [HE.out]; exact ok5.more (Nat.le_refl _) (by omega), hy5, B5, hne⟩
        case measure => simp [intOf]; omega
      · by_cases hq : (fs.length : Int) < (s + 7) / 8
        · have d2 : decide ((fs.length : Int) < (s + 7) / 8) = true := by simpa using hq
          have HE : Hid ((List.range (k + 1)).foldl (lostStep xs) [] = fs ++ [(k : Int) + 1]) := by rw [HSk.out, hsl, if_pos ⟨rfl, hq⟩]; exact rfl
          clear HSk hsl hq
          go_wp2_with (at_builtin; refine wpList_append_lit rfl (.tmp 32) (.tmp 34) 22 rfl 2 1 8 _ i0 Try.underlying22 hi0 hz0 hz1 hz2 rfl (by omega) (by omega) w.heap.size wr.heap.size g' fs.length c' _ rfl ok5 #[.int .i64 ((k : Int) + 1)] 1 1 rfl rfl (by simp [Value.oneCell']) (by omega) (by omega) ?_; intro g3 cd w6 ho6 hgr hat _)
          go_roundw
          case rel =>
            refine ⟨k + 1, g3, cd, by omega, by go_num, by rw [HE.out]; simp, ?_, hy5.keep (hgr.block _ hy5.lt (fun e => by injection e with e; omega)), B5.grown hgr B5.size (fun q e => by cases e; exact ok5.low), by have := hy5.lt; omega⟩
            rw [HE.out, ← iv_one, List.length_append]
            exact ho6
          case measure => simp [intOf]; omega
        · have d2 : decide ((fs.length : Int) < (s + 7) / 8) = false := by simpa using hq
          have HE : Hid ((List.range (k + 1)).foldl (lostStep xs) [] = fs) := by rw [HSk.out, if_neg (fun h => hq h.2)]; exact rfl
          clear HSk hsl hq
          go_wp2_with fail
          go_roundw
          case rel => exact ⟨k + 1, g', c', by omega, by go_num, by rw [HE.out], by rw [HE.out]; exact ok5.more (Nat.le_refl _) (by omega), hy5, B5, hne⟩
          case measure => simp [intOf]; omega
    · have d1 : decide ((k : Int) + 1 < (RL : Int)) = false := by simp; omega
      have HE : Hid (lostL xs = fs) := by
        rw [HLL.out, show RL - 1 = k by omega]
        exact HFS.out
      go_wp2_with fail
      go_ret
      rw [HE.out]
      exact ⟨g', _, c', rfl, ok4.cap, (ok4.more (Nat.le_refl _) (by omega)).toI, B4⟩

theorem lost_table (l : List Int) (z : List Int) (k : Nat) : (List.range (k + 1)).foldl (fun o i => o.set i (entryOf (l.getD i 0) true)) z = ((List.range k).foldl (fun o i => o.set i (entryOf (l.getD i 0) true)) z).set k (entryOf (l.getD k 0) true) := range_next _ _ _
def setLost (l : List Int) (k : Nat) : List Int := (List.range k).foldl (fun o i => o.set i (entryOf (l.getD i 0) true)) (List.replicate 8 0)
theorem setLost_get (l : List Int) : ∀ k : Nat, k ≤ 8 → (setLost l k).length = 8 ∧ ∀ j, j < 8 → (setLost l k).getD j 0 = if j < k then entryOf (l.getD j 0) true else 0
  | 0, _ => by
    refine ⟨by simp [setLost], fun j hj => ?_⟩
    rw [if_neg (by omega)]
    unfold setLost
    exact zeros_get 8 j
  | k + 1, hk => by
    obtain ⟨h1, h2⟩ := setLost_get l k (by omega)
    have e : setLost l (k + 1) = (setLost l k).set k (entryOf (l.getD k 0) true) := range_next _ _ _
    rw [e]
    refine ⟨by rw [List.length_set, h1], fun j hj => ?_⟩
    rw [getD_set, h1, h2 j hj]
    by_cases e2 : k = j
    · subst e2; rw [if_pos ⟨rfl, by omega⟩, if_pos (by omega)]
    · rw [if_neg (fun h => e2 h.1)]
      by_cases h3 : j < k
      · rw [if_pos h3, if_pos (by omega)]
      · rw [if_neg h3, if_neg (by omega)]
theorem setLost_all {b : List Int} (h : (lostL b).length ≤ 8) : setLost (lostL b) (lostL b).length = lostT b := by
  obtain ⟨h1, h2⟩ := setLost_get (lostL b) _ h
  apply List.ext_getElem?
  intro j
  by_cases hj : j < 8
  · have e1 : (setLost (lostL b) (lostL b).length)[j]? = some ((setLost (lostL b) (lostL b).length).getD j 0) := by
      rw [List.getD_eq_getElem?_getD, List.getElem?_eq_getElem (by omega)]; rfl
    rw [e1, h2 j hj]
    unfold lostT
    rw [List.getElem?_map, List.getElem?_range hj]
    rfl
  · rw [List.getElem?_eq_none (by omega), List.getElem?_eq_none (by unfold lostT; simp; omega)]
end Go.Proofs.Ytimbfilbojejiaa
