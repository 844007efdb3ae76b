/- Defects: the tables that are gone into (l11Tables), the model's side. -/
import Derived.Test.YtieknpkbmccimaaGreatDoorDf
namespace Go.Proofs.YtieknpkbmccimaaGreatDoor
open Go.RowKit

theorem range_fold {β : Type} (f : β → Nat → β) (z : β) (k : Nat) : (List.range (k + 1)).foldl f z = f ((List.range k).foldl f z) k := by
  rw [List.range_succ, List.foldl_append]; rfl

/-- The numbers o, in a row of the call's own. -/
def OutAt (w : World) (o : List Int) (v : Value) (wr : World) : Prop :=
  ∃ g' c', v = .slice (some ⟨g', 0, none⟩) o.length c' ∧ OwV 2 1 wr w.heap.size wr.heap.size g' o.length c' (iv o) ∧ Below w.heap.size w wr
def TblIn (w : World) (l : List Cm) (k : Nat) (o : List Int) (v i : Value) (wr : World) : Prop :=
  ∃ j : Nat, j ≤ l.length ∧ i = .int .i64 j ∧ ((l.take j).foldl (tblStep k) o).length ≤ o.length + j ∧ OutAt w ((l.take j).foldl (tblStep k) o) v wr
def TblOut (w : World) (l : List Cm) (v i : Value) (wr : World) : Prop :=
  ∃ k : Nat, k ≤ 3 ∧ i = .int .i64 k ∧ ((List.range k).foldl (tblRound l) []).length ≤ k * 10000 ∧ OutAt w ((List.range k).foldl (tblRound l) []) v wr

set_option maxRecDepth 100000 in
set_option maxHeartbeats 8000000 in
theorem specTables_any (g cap : Nat) (l : List Cm) (w : World) (h : RdV 6 w w.heap.size (some ⟨g, 0, none⟩) l.length (l.flatMap cmV)) (hl : l.length ≤ 10000) :
    Calls Tryz.prog 31 #[.slice (some ⟨g, 0, none⟩) l.length cap] w (RetS w (tablesC l)) := by
  obtain ⟨i0, hi0, hz0, hz1, hz2⟩ := info_parts info2
  have HTC : Hid (tablesC l = (List.range 3).foldl (tblRound l) []) := rfl
  go_enter Tryz.func31, Tryz.ntmps31
  go_wp2_with fail
  go_loopw [3, 4] (fun v i wr => TblOut w l v i wr) (fun _ i _ => 3 - (intOf i).toNat)
  case atStart => exact ⟨0, by omega, rfl, by simp, w.heap.size, 0, rfl, emptyV 2 1 w _ _ _ (Nat.le_refl _) rfl (by simp), (Below.refl _ _).alloc (Nat.le_refl _) _⟩
  case round =>
    obtain ⟨k, hk, rfl, hol, g', c', rfl, hown, hb⟩ := hrel
    have HKT := Lib.hid (range_fold (tblRound l) [] k)
    obtain ⟨o, ho⟩ : ∃ o, o = (List.range k).foldl (tblRound l) [] := ⟨_, rfl⟩
    rw [← ho] at hol hown HKT ⊢
    have HO := Lib.hid ho
    clear ho
    by_cases hlt : k < 3
    · have hd3 : decide ((k : Int) < 3) = true := by simp; omega
      go_wp2_with fail
      go_loopw [3, 5] (fun v i wr => TblIn w l k o v i wr) (fun _ i _ => l.length - (intOf i).toNat)
      case atStart => exact ⟨0, Nat.zero_le _, rfl, by simp, g', c', rfl, hown, hb⟩
      case round =>
        clear hown hb
        obtain ⟨j, hj, rfl, hol2, g2, c2, rfl, hown, hb⟩ := hrel
        obtain ⟨o2, ho2⟩ : ∃ o2, o2 = (l.take j).foldl (tblStep k) o := ⟨_, rfl⟩
        have HS0 : Hid (∀ h : j < l.length, (l.take (j + 1)).foldl (tblStep k) o = tblStep k o2 l[j]) := fun h => by rw [take_fold (tblStep k) l o j h, ho2]
        rw [← ho2] at hol2 hown ⊢
        have HO2 := Lib.hid ho2
        clear ho2
        have hsz := hb.size
        by_cases hjl : j < l.length
        · have hce := cm_cells (h.below hb) hjl
          have HS := Lib.hid (HS0.out hjl)
          clear HS0
          have hgd : l.getD j cm0 = l[j] := by simp [List.getD_eq_getElem?_getD, hjl]
          rw [hgd] at hce
          clear hgd
          generalize l[j] = x at *
          obtain ⟨xk, xf, xs', xp, xt, xg⟩ := x
          have e0 : wr.cell? ⟨g, j * 6, none⟩ = some (.int .i64 xk) := hce 0 (by omega)
          have e1 : wr.cell? ⟨g, j * 6 + 1, none⟩ = some (.int .i64 xf) := hce 1 (by omega)
          have e2 : wr.cell? ⟨g, j * 6 + 2, none⟩ = some (.int .i64 xs') := hce 2 (by omega)
          have e3 : wr.cell? ⟨g, j * 6 + 3, none⟩ = some (.int .i64 xp) := hce 3 (by omega)
          have e4 : wr.cell? ⟨g, j * 6 + 4, none⟩ = some (.int .i64 xt) := hce 4 (by omega)
          have e5 : wr.cell? ⟨g, j * 6 + 5, none⟩ = some (.bool xg) := hce 5 (by omega)
          clear hce
          have hb2 := hb.alloc hb.size (.cells #[.int .i64 xk, .int .i64 xf, .int .i64 xs', .int .i64 xp, .int .i64 xt, .bool xg] 40)
          have hown2 : OwV 2 1 (wr.alloc (.cells #[.int .i64 xk, .int .i64 xf, .int .i64 xs', .int .i64 xp, .int .i64 xt, .bool xg] 40)) w.heap.size (wr.heap.size + 1) g2 o2.length c2 (iv o2) := ⟨(hown.keep (Below.heap_alloc _ _ _ hown.lt)).own, by have := hown.lt; omega⟩
          have HNo : Hid ((inTab k ⟨xk, xf, xs', xp, xt, xg⟩ && xg) = false → (l.take (j + 1)).foldl (tblStep k) o = o2) := fun hq => by
            rw [HS.out, tblStep, if_neg (by simp only; rw [hq]; simp)]
          have HHas : Hid (hasB o2 xt = true → (l.take (j + 1)).foldl (tblStep k) o = o2) := fun hq => by
            rw [HS.out, tblStep, if_neg (by simp only; rw [hq]; simp)]
          have HYes : Hid ((inTab k ⟨xk, xf, xs', xp, xt, xg⟩ && xg) = true → hasB o2 xt = false → (l.take (j + 1)).foldl (tblStep k) o = o2 ++ [xt]) := fun hq hq2 => by
            rw [HS.out, tblStep, if_pos ⟨hq, hq2⟩]
          clear HS
          have hin : (inTab k ⟨xk, xf, xs', xp, xt, xg⟩ = true ∧ ((k = 0 ∧ (xk == 3) = true) ∨ (k = 1 ∧ (xk == 2) = true) ∨ (k = 1 ∧ (xk == 2) = false ∧ (xk == 6) = true) ∨ (k = 2 ∧ (xk == 7) = true))) ∨ (inTab k ⟨xk, xf, xs', xp, xt, xg⟩ = false ∧ ((k = 0 ∧ (xk == 3) = false) ∨ (k = 1 ∧ (xk == 2) = false ∧ (xk == 6) = false) ∨ (k = 2 ∧ (xk == 7) = false))) := by
            have hk3 : k = 0 ∨ k = 1 ∨ k = 2 := by omega
            rcases hk3 with rfl | rfl | rfl
            · by_cases h3 : xk = 3 <;> simp [inTab, h3]
            · by_cases h3 : xk = 2
              · simp [inTab, h3]
              · by_cases h6 : xk = 6 <;> simp [inTab, h3, h6]
            · by_cases h3 : xk = 7 <;> simp [inTab, h3]
          rcases hin with ⟨hit, hcs⟩ | ⟨hit, hcs⟩
          · cases xg
            · have HE := Lib.hid (HNo.out (by simp))
              clear HNo HHas HYes hit
              rcases hcs with ⟨rfl, q1⟩ | ⟨rfl, q1⟩ | ⟨rfl, q1, q2⟩ | ⟨rfl, q1⟩
              all_goals
                go_wp2_with fail
                go_roundw
                case rel => exact ⟨j + 1, by omega, by go_num, by rw [HE.out]; omega, g2, c2, by rw [HE.out], by rw [HE.out]; exact hown2.more (Nat.le_refl _) (by simp), hb2⟩
                case measure => simp [intOf]; omega
            · rw [hit] at HNo HYes
              cases hq : hasB o2 xt
              · have HE := Lib.hid (HYes.out rfl hq)
                have HQ := Lib.hid hq
                clear HNo HHas HYes hit hq
                rcases hcs with ⟨rfl, q1⟩ | ⟨rfl, q1⟩ | ⟨rfl, q1, q2⟩ | ⟨rfl, q1⟩
                all_goals
                  go_wp2_with fail
                  refine (specHas_any _ _ _ _ o2 xt _ hown2.toI.rd (by omega)).mono ?_
                  rintro e w' ⟨rfl, rfl⟩
                  rw [HQ.out]
                  have c4 : (wr.alloc (.cells #[.int .i64 xk, .int .i64 xf, .int .i64 xs', .int .i64 xp, .int .i64 xt, .bool true] 40)).cell? ⟨wr.heap.size, 4, none⟩ = some (.int .i64 xt) := World.cell?_alloc_new _ _ _ _
                  have hb2s := hb2.size
                  generalize wr.alloc (.cells #[.int .i64 xk, .int .i64 xf, .int .i64 xs', .int .i64 xp, .int .i64 xt, .bool true] 40) = w6 at *
                  go_wp2_with (at_builtin; refine wpList_append_lit rfl (.tmp 65) (.tmp 68) 22 rfl 2 1 8 _ i0 Tryz.underlying22 hi0 hz0 hz1 hz2 rfl (by omega) (by omega) w.heap.size (wr.heap.size + 1) g2 o2.length c2 _ rfl hown2 #[.int .i64 xt] 1 1 rfl rfl (by simp [Value.oneCell']) (by omega) hb2s ?_; intro g3 cd w5 ho5 hgr hat _)
                  go_roundw
                  case rel =>
                    refine ⟨j + 1, by omega, by go_num, by rw [HE.out]; simp; omega, g3, cd, by rw [HE.out]; simp, ?_, hb2.grown hgr hb2.size (fun q e => by cases e; exact hown.low)⟩
                    rw [HE.out, ← iv_one, List.length_append]
                    exact ho5
                  case measure => simp [intOf]; omega
              · have HE := Lib.hid (HHas.out hq)
                have HQ := Lib.hid hq
                clear HNo HHas HYes hit hq
                rcases hcs with ⟨rfl, q1⟩ | ⟨rfl, q1⟩ | ⟨rfl, q1, q2⟩ | ⟨rfl, q1⟩
                all_goals
                  go_wp2_with fail
                  refine (specHas_any _ _ _ _ o2 xt _ hown2.toI.rd (by omega)).mono ?_
                  rintro e w' ⟨rfl, rfl⟩
                  rw [HQ.out]
                  go_wp2_with fail
                  go_roundw
                  case rel =>
                    have hr : TblIn w l _ o (.slice (some ⟨g2, 0, none⟩) o2.length c2) (.int .i64 ((j : Int) + 1)) (wr.alloc (.cells #[.int .i64 xk, .int .i64 xf, .int .i64 xs', .int .i64 xp, .int .i64 xt, .bool true] 40)) :=
                      ⟨j + 1, by omega, by go_num, by rw [HE.out]; omega, g2, c2, by rw [HE.out], by rw [HE.out]; exact hown2.more (Nat.le_refl _) (by simp), hb2⟩
                    first
                      | exact hr
                      | ((repeat apply Exists.intro); exact ⟨hr, rfl⟩)
                  case measure => simp [intOf]; omega
          · have HE := Lib.hid (HNo.out (by rw [hit]; rfl))
            clear HNo HHas HYes hit
            rcases hcs with ⟨rfl, q1⟩ | ⟨rfl, q1, q2⟩ | ⟨rfl, q1⟩
            all_goals
              go_wp2_with fail
              go_roundw
              case rel => exact ⟨j + 1, by omega, by go_num, by rw [HE.out]; omega, g2, c2, by rw [HE.out], by rw [HE.out]; exact hown2.more (Nat.le_refl _) (by simp), hb2⟩
              case measure => simp [intOf]; omega
        · obtain rfl : j = l.length := by omega
          go_wp2_with fail
          go_roundw
          case rel =>
            have e : (List.range (k + 1)).foldl (tblRound l) [] = o2 := by rw [HKT.out, HO2.out, List.take_length]; rfl
            exact ⟨k + 1, by omega, by go_num, by rw [e]; omega, g2, c2, by rw [e], by rw [e]; exact hown, hb⟩
          case measure => simp [intOf]; omega
    · obtain rfl : k = 3 := by omega
      go_wp2_with fail
      go_ret
      rw [HTC.out, ← HO.out]
      exact ⟨g', _, c', rfl, hown.cap, hown.toI, hb⟩

end Go.Proofs.YtieknpkbmccimaaGreatDoor
