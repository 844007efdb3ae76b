/- Defects: the tables that are gone into (l11Has, l11Tables). Defects: the tables that are gone into (l11Tables), the model's side. Defects: the word of a slot as it must be (l11Must), the model's side. Defects: words that are not as they must be (l11Wrongs), the model's side. -/
import Derived.Test.YtiokfhdkbpoadaaGreatDoorG7
namespace Go.Proofs.YtiokfhdkbpoadaaGreatDoor
open Go.RowKit

def hasB (o : List Int) (x : Int) : Bool := o.contains x
theorem hasB_mem {o : List Int} {x : Int} : hasB o x = true ↔ x ∈ o := by unfold hasB; exact List.contains_iff_mem
theorem hasB_not {o : List Int} {x : Int} : hasB o x = false ↔ ¬ x ∈ o := by rw [← hasB_mem]; simp
theorem hasB_step (ys : List Int) (k : Nat) (h : k < ys.length) (x : Int) : hasB (ys.take (k + 1)) x = (hasB (ys.take k) x || (x == ys.getD k 0)) := by
  rw [Bool.eq_iff_iff, hasB_mem, Bool.or_eq_true, hasB_mem, List.take_succ_eq_append_getElem h, List.mem_append, List.getD_eq_getElem?_getD, List.getElem?_eq_getElem h, List.mem_singleton, beq_iff_eq]
  rfl
def inTab (k : Nat) (c : Cm) : Bool := (k == 0 && c.kind == 3) || ((k == 1 && (c.kind == 2 || c.kind == 6)) || (k == 2 && c.kind == 7))
def tblStep (k : Nat) (o : List Int) (c : Cm) : List Int := if (inTab k c && c.good) = true ∧ hasB o c.target = false then o ++ [c.target] else o
def tblRound (l : List Cm) (o : List Int) (k : Nat) : List Int := l.foldl (tblStep k) o
/-- The tables that are gone into, each but once. -/
def tablesC (l : List Cm) : List Int := (List.range 3).foldl (tblRound l) []

theorem tblStep_mem {k : Nat} {o : List Int} {c : Cm} {t : Int} (h : t ∈ tblStep k o c) : t ∈ o ∨ (t = c.target ∧ c.good = true ∧ (c.kind = 2 ∨ c.kind = 3 ∨ c.kind = 6 ∨ c.kind = 7)) := by
  unfold tblStep at h
  split at h
  · rename_i hc
    rw [List.mem_append] at h
    rcases h with h | h
    · exact .inl h
    · rw [List.mem_singleton] at h
      refine .inr ⟨h, ?_⟩
      have := hc.1
      simp [inTab] at this
      refine ⟨this.2, ?_⟩
      have := this.1
      omega
  · exact .inl h
theorem tbl_mem (l : List Cm) (k : Nat) : ∀ (o : List Int) (t : Int), t ∈ l.foldl (tblStep k) o → t ∈ o ∨ ∃ c ∈ l, t = c.target ∧ c.good = true ∧ (c.kind = 2 ∨ c.kind = 3 ∨ c.kind = 6 ∨ c.kind = 7) := by
  induction l with
  | nil => intro o t h; exact .inl h
  | cons c l ih =>
    intro o t h
    rw [List.foldl_cons] at h
    rcases ih _ _ h with h1 | ⟨x, hx, h2⟩
    · rcases tblStep_mem h1 with h3 | h3
      · exact .inl h3
      · exact .inr ⟨c, by simp, h3⟩
    · exact .inr ⟨x, by simp [hx], h2⟩
theorem tables_mem {l : List Cm} {t : Int} (h : t ∈ tablesC l) : ∃ c ∈ l, t = c.target ∧ c.good = true ∧ (c.kind = 2 ∨ c.kind = 3 ∨ c.kind = 6 ∨ c.kind = 7) := by
  have : tablesC l = tblRound l (tblRound l (tblRound l [] 0) 1) 2 := rfl
  rw [this] at h
  rcases tbl_mem l 2 _ t h with h | h
  · rcases tbl_mem l 1 _ t h with h | h
    · rcases tbl_mem l 0 _ t h with h | h
      · cases h
      · exact h
    · exact h
  · exact h
/-- Each is there. -/
theorem tables_there {xs : List Int} {t : Int} (h : t ∈ tablesC (claimsC xs)) : thereB xs t = true := by
  obtain ⟨c, hc, rfl, hg, hk⟩ := tables_mem h
  rcases (claims_ok xs c hc).lead hg with h1 | h1
  · omega
  · exact h1
theorem tbl_nodup (l : List Cm) (k : Nat) : ∀ o : List Int, o.Nodup → (l.foldl (tblStep k) o).Nodup := by
  induction l with
  | nil => intro o h; exact h
  | cons c l ih =>
    intro o h
    rw [List.foldl_cons]
    apply ih
    unfold tblStep
    split
    · rename_i hc
      rw [List.nodup_append]
      refine ⟨h, by simp, ?_⟩
      intro a ha b hb
      rw [List.mem_singleton] at hb
      subst hb
      rintro rfl
      exact hasB_not.1 hc.2 ha
    · exact h
theorem tables_nodup (l : List Cm) : (tablesC l).Nodup := tbl_nodup l 2 _ (tbl_nodup l 1 _ (tbl_nodup l 0 _ List.nodup_nil))
theorem tbl_length (l : List Cm) (k : Nat) : ∀ o : List Int, (l.foldl (tblStep k) o).length ≤ o.length + l.length := by
  induction l with
  | nil => intro o; simp
  | cons c l ih =>
    intro o
    rw [List.foldl_cons, List.length_cons]
    have := ih (tblStep k o c)
    have h2 : (tblStep k o c).length ≤ o.length + 1 := by unfold tblStep; split <;> simp
    omega

set_option maxHeartbeats 1000000 in
theorem specHas_any (A : Option Addr) (n c B : Nat) (ys : List Int) (x : Int) (w : World) (h : Rd w B A n ys) (hn : n ≤ 2097152) :
    Calls Tryz.prog 131 #[.slice A n c, .int .i64 x] w fun e w' => e = .returned (.bool (hasB ys x)) ∧ w = w' := by
  have hx := Lib.hid h.len
  go_enter Tryz.func131, Tryz.ntmps131
  go_wp2_with fail
  go_loop [5] (fun i => ∃ k : Nat, k ≤ n ∧ i = .int .i64 k ∧ hasB (ys.take k) x = false) (fun i => n - (intOf i).toNat)
  case atStart => exact ⟨0, Nat.zero_le _, rfl, rfl⟩
  case round =>
    obtain ⟨k, hk, rfl, ht⟩ := hrel
    have HT := Lib.hid ht
    clear ht
    by_cases hlt : k < n
    · obtain ⟨b, off, rfl, hbb, hc⟩ := h.2 (by omega)
      have hcx := hc k hlt
      have hky : k < ys.length := by have := hx.out; omega
      have HS := Lib.hid (hasB_step ys k hky x)
      have HM : Hid (ys.getD k 0 ∈ ys) := by
        rw [List.getD_eq_getElem?_getD, List.getElem?_eq_getElem hky]
        exact List.getElem_mem hky
      clear hc
      generalize ys.getD k 0 = y at *
      by_cases hxy : y = x
      · subst hxy
        have hd : (y == y) = true := by simp
        have HC : Hid (hasB ys y = true) := hasB_mem.2 HM.out
        go_wp2_with fail
        go_ret
        exact ⟨ret_bool HC.out.symm, rfl⟩
      · have hd : (y == x) = false := by simpa using hxy
        have HC : Hid (hasB (ys.take (k + 1)) x = false) := by
          rw [HS.out, HT.out, Bool.false_or]; exact beq_eq_false_iff_ne.2 (fun e => hxy e.symm)
        go_wp2_with fail
        go_round
        case rel => exact ⟨k + 1, by omega, by go_num, HC.out⟩
        case measure => simp [intOf]; omega
    · obtain rfl : k = n := by omega
      go_wp2_with fail
      go_ret
      have e := HT.out
      rw [List.take_of_length_le (by have := hx.out; omega)] at e
      exact ⟨ret_bool e.symm, rfl⟩

theorem range_fold {β : Type} (f : β → Nat → β) (z : β) (k : Nat) : (List.range (k + 1)).foldl f z = f ((List.range k).foldl f z) k := by
  rw [List.range_succ, List.foldl_append]; rfl

/-- The numbers o, in a row of the call's own. -/
def OutAt (w : World) (o : List Int) (v : Value) (wr : World) : Prop :=
  ∃ g' c', v = .slice (some ⟨g', 0, none⟩) o.length c' ∧ OwV 2 1 wr w.heap.size wr.heap.size g' o.length c' (iv o) ∧ Below w.heap.size w wr
def TblIn (w : World) (l : List Cm) (k : Nat) (o : List Int) (v i : Value) (wr : World) : Prop :=
  ∃ j : Nat, j ≤ l.length ∧ i = .int .i64 j ∧ ((l.take j).foldl (tblStep k) o).length ≤ o.length + j ∧ OutAt w ((l.take j).foldl (tblStep k) o) v wr
def TblOut (w : World) (l : List Cm) (v i : Value) (wr : World) : Prop :=
  ∃ k : Nat, k ≤ 3 ∧ i = .int .i64 k ∧ ((List.range k).foldl (tblRound l) []).length ≤ k * 10000 ∧ OutAt w ((List.range k).foldl (tblRound l) []) v wr

set_option maxRecDepth 100000 in
set_option maxHeartbeats 8000000 in
theorem specTables_any (g cap : Nat) (l : List Cm) (w : World) (h : RdV 6 w w.heap.size (some ⟨g, 0, none⟩) l.length (l.flatMap cmV)) (hl : l.length ≤ 10000) :
    Calls Tryz.prog 110 #[.slice (some ⟨g, 0, none⟩) l.length cap] w (RetS w (tablesC l)) := by
  obtain ⟨i0, hi0, hz0, hz1, hz2⟩ := info_parts info2
  have HTC : Hid (tablesC l = (List.range 3).foldl (tblRound l) []) := rfl
  go_enter Tryz.func110, Tryz.ntmps110
  go_wp2_with fail
  go_loopw [3, 4] (fun v i wr => TblOut w l v i wr) (fun _ i _ => 3 - (intOf i).toNat)
  case atStart => exact ⟨0, by omega, rfl, by simp, w.heap.size, 0, rfl, emptyV 2 1 w _ _ _ (Nat.le_refl _) rfl (by simp), (Below.refl _ _).alloc (Nat.le_refl _) _⟩
  case round =>
    obtain ⟨k, hk, rfl, hol, g', c', rfl, hown, hb⟩ := hrel
    have HKT := Lib.hid (range_fold (tblRound l) [] k)
    obtain ⟨o, ho⟩ : ∃ o, o = (List.range k).foldl (tblRound l) [] := ⟨_, rfl⟩
    rw [← ho] at hol hown HKT ⊢
    have HO := Lib.hid ho
    clear ho
    by_cases hlt : k < 3
    · have hd3 : decide ((k : Int) < 3) = true := by simp; omega
      go_wp2_with fail
      go_loopw [3, 5] (fun v i wr => TblIn w l k o v i wr) (fun _ i _ => l.length - (intOf i).toNat)
      case atStart => exact ⟨0, Nat.zero_le _, rfl, by simp, g', c', rfl, hown, hb⟩
      case round =>
        clear hown hb
        obtain ⟨j, hj, rfl, hol2, g2, c2, rfl, hown, hb⟩ := hrel
        obtain ⟨o2, ho2⟩ : ∃ o2, o2 = (l.take j).foldl (tblStep k) o := ⟨_, rfl⟩
        have HS0 : Hid (∀ h : j < l.length, (l.take (j + 1)).foldl (tblStep k) o = tblStep k o2 l[j]) := fun h => by rw [take_fold (tblStep k) l o j h, ho2]
        rw [← ho2] at hol2 hown ⊢
        have HO2 := Lib.hid ho2
        clear ho2
        have hsz := hb.size
        by_cases hjl : j < l.length
        · have hce := cm_cells (h.below hb) hjl
          have HS := Lib.hid (HS0.out hjl)
          clear HS0
          have hgd : l.getD j cm0 = l[j] := by simp [List.getD_eq_getElem?_getD, hjl]
          rw [hgd] at hce
          clear hgd
          generalize l[j] = x at *
          obtain ⟨xk, xf, xs', xp, xt, xg⟩ := x
          have e0 : wr.cell? ⟨g, j * 6, none⟩ = some (.int .i64 xk) := hce 0 (by omega)
          have e1 : wr.cell? ⟨g, j * 6 + 1, none⟩ = some (.int .i64 xf) := hce 1 (by omega)
          have e2 : wr.cell? ⟨g, j * 6 + 2, none⟩ = some (.int .i64 xs') := hce 2 (by omega)
          have e3 : wr.cell? ⟨g, j * 6 + 3, none⟩ = some (.int .i64 xp) := hce 3 (by omega)
          have e4 : wr.cell? ⟨g, j * 6 + 4, none⟩ = some (.int .i64 xt) := hce 4 (by omega)
          have e5 : wr.cell? ⟨g, j * 6 + 5, none⟩ = some (.bool xg) := hce 5 (by omega)
          clear hce
          have hb2 := hb.alloc hb.size (.cells #[.int .i64 xk, .int .i64 xf, .int .i64 xs', .int .i64 xp, .int .i64 xt, .bool xg] 80)
          have hown2 : OwV 2 1 (wr.alloc (.cells #[.int .i64 xk, .int .i64 xf, .int .i64 xs', .int .i64 xp, .int .i64 xt, .bool xg] 80)) w.heap.size (wr.heap.size + 1) g2 o2.length c2 (iv o2) := ⟨(hown.keep (Below.heap_alloc _ _ _ hown.lt)).own, by have := hown.lt; omega⟩
          have HNo : Hid ((inTab k ⟨xk, xf, xs', xp, xt, xg⟩ && xg) = false → (l.take (j + 1)).foldl (tblStep k) o = o2) := fun hq => by
            rw [HS.out, tblStep, if_neg (by simp only; rw [hq]; simp)]
          have HHas : Hid (hasB o2 xt = true → (l.take (j + 1)).foldl (tblStep k) o = o2) := fun hq => by
            rw [HS.out, tblStep, if_neg (by simp only; rw [hq]; simp)]
          have HYes : Hid ((inTab k ⟨xk, xf, xs', xp, xt, xg⟩ && xg) = true → hasB o2 xt = false → (l.take (j + 1)).foldl (tblStep k) o = o2 ++ [xt]) := fun hq hq2 => by
            rw [HS.out, tblStep, if_pos ⟨hq, hq2⟩]
          clear HS
          have hin : (inTab k ⟨xk, xf, xs', xp, xt, xg⟩ = true ∧ ((k = 0 ∧ (xk == 3) = true) ∨ (k = 1 ∧ (xk == 2) = true) ∨ (k = 1 ∧ (xk == 2) = false ∧ (xk == 6) = true) ∨ (k = 2 ∧ (xk == 7) = true))) ∨ (inTab k ⟨xk, xf, xs', xp, xt, xg⟩ = false ∧ ((k = 0 ∧ (xk == 3) = false) ∨ (k = 1 ∧ (xk == 2) = false ∧ (xk == 6) = false) ∨ (k = 2 ∧ (xk == 7) = false))) := by
            have hk3 : k = 0 ∨ k = 1 ∨ k = 2 := by omega
            rcases hk3 with rfl | rfl | rfl
            · by_cases h3 : xk = 3 <;> simp [inTab, h3]
            · by_cases h3 : xk = 2
              · simp [inTab, h3]
              · by_cases h6 : xk = 6 <;> simp [inTab, h3, h6]
            · by_cases h3 : xk = 7 <;> simp [inTab, h3]
          rcases hin with ⟨hit, hcs⟩ | ⟨hit, hcs⟩
          · cases xg
            · have HE := Lib.hid (HNo.out (by simp))
              clear HNo HHas HYes hit
              rcases hcs with ⟨rfl, q1⟩ | ⟨rfl, q1⟩ | ⟨rfl, q1, q2⟩ | ⟨rfl, q1⟩
              all_goals
                go_wp2_with fail
                go_roundw
                case rel => exact ⟨j + 1, by omega, by go_num, by rw [HE.out]; omega, g2, c2, by rw [HE.out], by rw [HE.out]; exact hown2.more (Nat.le_refl _) (by simp), hb2⟩
                case measure => simp [intOf]; omega
            · rw [hit] at HNo HYes
              cases hq : hasB o2 xt
              · have HE := Lib.hid (HYes.out rfl hq)
                have HQ := Lib.hid hq
                clear HNo HHas HYes hit hq
                rcases hcs with ⟨rfl, q1⟩ | ⟨rfl, q1⟩ | ⟨rfl, q1, q2⟩ | ⟨rfl, q1⟩
                all_goals
                  go_wp2_with fail
                  refine (specHas_any _ _ _ _ o2 xt _ hown2.toI.rd (by omega)).mono ?_
                  rintro e w' ⟨rfl, rfl⟩
                  rw [HQ.out]
                  have c4 : (wr.alloc (.cells #[.int .i64 xk, .int .i64 xf, .int .i64 xs', .int .i64 xp, .int .i64 xt, .bool true] 80)).cell? ⟨wr.heap.size, 4, none⟩ = some (.int .i64 xt) := World.cell?_alloc_new _ _ _ _
                  have hb2s := hb2.size
                  generalize wr.alloc (.cells #[.int .i64 xk, .int .i64 xf, .int .i64 xs', .int .i64 xp, .int .i64 xt, .bool true] 80) = w6 at *
                  go_wp2_with (at_builtin; refine wpList_append_lit rfl (.tmp 65) (.tmp 68) 22 rfl 2 1 8 _ i0 Tryz.underlying22 hi0 hz0 hz1 hz2 rfl (by omega) (by omega) w.heap.size (wr.heap.size + 1) g2 o2.length c2 _ rfl hown2 #[.int .i64 xt] 1 1 rfl rfl (by simp [Value.oneCell']) (by omega) hb2s ?_; intro g3 cd w5 ho5 hgr hat _)
                  go_roundw
                  case rel =>
                    refine ⟨j + 1, by omega, by go_num, by rw [HE.out]; simp; omega, g3, cd, by rw [HE.out]; simp, ?_, hb2.grown hgr hb2.size (fun q e => by cases e; exact hown.low)⟩
                    rw [HE.out, ← iv_one, List.length_append]
                    exact ho5
                  case measure => simp [intOf]; omega
              · have HE := Lib.hid (HHas.out hq)
                have HQ := Lib.hid hq
                clear HNo HHas HYes hit hq
                rcases hcs with ⟨rfl, q1⟩ | ⟨rfl, q1⟩ | ⟨rfl, q1, q2⟩ | ⟨rfl, q1⟩
                all_goals
                  go_wp2_with fail
                  refine (specHas_any _ _ _ _ o2 xt _ hown2.toI.rd (by omega)).mono ?_
                  rintro e w' ⟨rfl, rfl⟩
                  rw [HQ.out]
                  go_wp2_with fail
                  go_roundw
                  case rel =>
                    have hr : TblIn w l _ o (.slice (some ⟨g2, 0, none⟩) o2.length c2) (.int .i64 ((j : Int) + 1)) (wr.alloc (.cells #[.int .i64 xk, .int .i64 xf, .int .i64 xs', .int .i64 xp, .int .i64 xt, .bool true] 80)) :=
                      ⟨j + 1, by omega, by go_num, by rw [HE.out]; omega, g2, c2, by rw [HE.out], by rw [HE.out]; exact hown2.more (Nat.le_refl _) (by simp), hb2⟩
                    first
                      | exact hr
                      | ((repeat apply Exists.intro); exact ⟨hr, rfl⟩)
                  case measure => simp [intOf]; omega
          · have HE := Lib.hid (HNo.out (by rw [hit]; rfl))
            clear HNo HHas HYes hit
            rcases hcs with ⟨rfl, q1⟩ | ⟨rfl, q1, q2⟩ | ⟨rfl, q1⟩
            all_goals
              go_wp2_with fail
              go_roundw
              case rel => exact ⟨j + 1, by omega, by go_num, by rw [HE.out]; omega, g2, c2, by rw [HE.out], by rw [HE.out]; exact hown2.more (Nat.le_refl _) (by simp), hb2⟩
              case measure => simp [intOf]; omega
        · obtain rfl : j = l.length := by omega
          go_wp2_with fail
          go_roundw
          case rel =>
            have e : (List.range (k + 1)).foldl (tblRound l) [] = o2 := by rw [HKT.out, HO2.out, List.take_length]; rfl
            exact ⟨k + 1, by omega, by go_num, by rw [e]; omega, g2, c2, by rw [e], by rw [e]; exact hown, hb⟩
          case measure => simp [intOf]; omega
    · obtain rfl : k = 3 := by omega
      go_wp2_with fail
      go_ret
      rw [HTC.out, ← HO.out]
      exact ⟨g', _, c', rfl, hown.cap, hown.toI, hb⟩

def mustP (frm slot : Int) (c : Cm) : Bool := (c.frm == frm && c.slot == slot) && (c.kind == 4 || (c.kind == 7 || c.kind == 8))
/-- What the claim of a slot makes of its word. -/
def mustOf (counts : List Int) (word : Int) : Option Cm → Int
  | none => word
  | some c => if c.good = true then entryOf c.target (c.kind != 4 && counts.getD c.target.toNat 0 == 1) else word
def mustC (l : List Cm) (counts : List Int) (frm slot word : Int) : Int := if targetOf word = 0 then 0 else mustOf counts word (l.find? (mustP frm slot))

theorem find_step {l : List Cm} {p : Cm → Bool} {k : Nat} (hk : k < l.length) (h : (l.take k).find? p = none) : (l.take (k + 1)).find? p = if p l[k] = true then some l[k] else none := by
  rw [List.take_succ_eq_append_getElem hk, List.find?_append, h]
  simp [List.find?_cons]
  split <;> simp_all
theorem find_at {l : List Cm} {p : Cm → Bool} {k : Nat} (hk : k < l.length) (h : (l.take k).find? p = none) (hp : p l[k] = true) : l.find? p = some l[k] := by
  have e : l.find? p = (l.take (k + 1) ++ l.drop (k + 1)).find? p := by rw [List.take_append_drop]
  rw [e, List.find?_append, find_step hk h, if_pos hp]
  rfl

theorem specEntry_still (t : Int) (o : Bool) (w : World) : Calls Tryz.prog 132 #[.int .i64 t, .bool o] w fun r w' => r = .returned (.int .i64 (entryOf t o)) ∧ w' = w := (specEntry_any t o w).mono fun _ _ h => ⟨h.1, h.2.symm⟩

def MustRel (w : World) (l : List Cm) (p : Cm → Bool) (i : Value) (wr : World) : Prop := ∃ k : Nat, k ≤ l.length ∧ i = .int .i64 k ∧ (l.take k).find? p = none ∧ Below w.heap.size w wr

set_option maxRecDepth 100000 in
set_option maxHeartbeats 8000000 in
theorem specMust_any (g cap : Nat) (l : List Cm) (C : Option Addr) (cc : Nat) (counts : List Int) (frm slot word : Int) (w : World) (h : RdV 6 w w.heap.size (some ⟨g, 0, none⟩) l.length (l.flatMap cmV)) (hl : l.length ≤ 10000)
    (hc : Rd w w.heap.size C 64 counts) (hg : ∀ c ∈ l, c.good = true → 0 ≤ c.target ∧ c.target < 64) :
    Calls Tryz.prog 111 #[.slice (some ⟨g, 0, none⟩) l.length cap, .slice C 64 cc, .int .i64 frm, .int .i64 slot, .int .i64 word] w (RetI w (mustC l counts frm slot word)) := by
  have HG := Lib.hid hg
  clear hg
  by_cases h0 : targetOf word = 0
  · have HE : Hid (mustC l counts frm slot word = 0) := by unfold mustC; rw [if_pos h0]; exact rfl
    have hd : (targetOf word == 0) = true := by simpa using h0
    clear h0
    go_enter Tryz.func111, Tryz.ntmps111
    go_wp2_with fail
    refine (specTarget_any _ _).mono ?_
    rintro e w' ⟨rfl, rfl⟩
    go_wp2_with fail
    go_ret
    exact RetI.mk HE.out.symm (Below.refl _ _)
  have HM : Hid (mustC l counts frm slot word = mustOf counts word (l.find? (mustP frm slot))) := by unfold mustC; rw [if_neg h0]; exact rfl
  have hd : (targetOf word == 0) = false := by simpa using h0
  clear h0
  go_enter Tryz.func111, Tryz.ntmps111
  go_wp2_with fail
  refine (specTarget_any _ _).mono ?_
  rintro e w' ⟨rfl, rfl⟩
  go_wp2_with fail
  go_loopw [11] (fun i wr => MustRel w l (mustP frm slot) i wr) (fun i _ => l.length - (intOf i).toNat)
  case atStart => exact ⟨0, Nat.zero_le _, rfl, rfl, Below.refl _ _⟩
  case round =>
    obtain ⟨k, hk, rfl, hf, hb⟩ := hrel
    have HF := Lib.hid hf
    clear hf
    by_cases hlt : k < l.length
    · have hce := cm_cells (h.below hb) hlt
      have HNext := Lib.hid (find_step hlt HF.out)
      have HAt := Lib.hid (find_at hlt HF.out)
      have HGk := Lib.hid (HG.out _ (List.getElem_mem hlt))
      have hgd : l.getD k cm0 = l[k] := by simp [List.getD_eq_getElem?_getD, hlt]
      rw [hgd] at hce
      clear hgd
      generalize l[k] = x at *
      obtain ⟨xk, xf, xs', xp, xt, xg⟩ := x
      have e0 : wr.cell? ⟨g, k * 6, none⟩ = some (.int .i64 xk) := hce 0 (by omega)
      have e1 : wr.cell? ⟨g, k * 6 + 1, none⟩ = some (.int .i64 xf) := hce 1 (by omega)
      have e2 : wr.cell? ⟨g, k * 6 + 2, none⟩ = some (.int .i64 xs') := hce 2 (by omega)
      have e3 : wr.cell? ⟨g, k * 6 + 3, none⟩ = some (.int .i64 xp) := hce 3 (by omega)
      have e4 : wr.cell? ⟨g, k * 6 + 4, none⟩ = some (.int .i64 xt) := hce 4 (by omega)
      have e5 : wr.cell? ⟨g, k * 6 + 5, none⟩ = some (.bool xg) := hce 5 (by omega)
      clear hce
      have hb2 := hb.alloc hb.size (.cells #[.int .i64 xk, .int .i64 xf, .int .i64 xs', .int .i64 xp, .int .i64 xt, .bool xg] 80)
      by_cases q1 : xf = frm
      · by_cases q2 : xs' = slot
        · by_cases q3 : xk = 4 ∨ xk = 7 ∨ xk = 8
          · have HP := Lib.hid (HAt.out (by simp [mustP, q1, q2]; omega))
            have d1 : (xf != frm) = false := by simp [q1]
            have d2 : (xs' != slot) = false := by simp [q2]
            clear q1 q2
            clear HNext HAt
            cases xg
            · have HE : Hid (mustC l counts frm slot word = word) := by rw [HM.out, HP.out]; exact rfl
              clear HP HGk HM
              rcases q3 with rfl | rfl | rfl
              all_goals
                go_wp2_with fail
                go_ret
                exact RetI.mk HE.out.symm hb2
            · obtain ⟨t0, t1⟩ := HGk.out rfl
              simp only at t0 t1
              have HE : Hid (mustC l counts frm slot word = entryOf xt (xk != 4 && counts.getD xt.toNat 0 == 1)) := by rw [HM.out, HP.out]; exact rfl
              obtain ⟨τ, rfl⟩ := Int.eq_ofNat_of_zero_le t0
              rw [Int.toNat_natCast] at HE
              have hτ : τ < 64 := by omega
              obtain ⟨b, off, rfl, hbb, hcc⟩ := hc.2 (by omega)
              have hcx : wr.cell? ⟨b, off + τ, none⟩ = some (.int .i64 (counts.getD τ 0)) := (hb.cell (p := ⟨b, off + τ, none⟩) hbb).trans (hcc τ hτ)
              have hbw : b < wr.heap.size := by have := hb.size; omega
              generalize counts.getD τ 0 = v at *
              clear HP HGk HM t0 t1 hcc
              have n1 : (0 : Int) ≤ (τ : Int) := by omega
              have n2 : (τ : Int) < 64 := by omega
              have hbn : b ≠ wr.heap.size := by omega
              rcases q3 with rfl | rfl | rfl
              all_goals
                go_wp2_with fail
                go_quiet ((go_at_call 132; exact Calls.quiet_of_same (specEntry_still _ _ _)))
                go_wp2_with fail
                go_ret
                refine RetI.mk ?_ (below_drewN hb2 _)
                rw [HE.out]; rfl
          · have HN : Hid ((l.take (k + 1)).find? (mustP frm slot) = none) := by rw [HNext.out, if_neg (by simp [mustP]; omega)]; exact rfl
            have d1 : (xf != frm) = false := by simp [q1]
            have d2 : (xs' != slot) = false := by simp [q2]
            have d4 : (xk != 4) = true := by simp; omega
            have d7 : (xk != 7) = true := by simp; omega
            have d8 : (xk != 8) = true := by simp; omega
            clear q1 q2 q3 HNext HAt
            go_wp2_with fail
            go_roundw
            case rel => exact ⟨k + 1, by omega, by go_num, HN.out, hb2⟩
            case measure => simp [intOf]; omega
        · have HN : Hid ((l.take (k + 1)).find? (mustP frm slot) = none) := by rw [HNext.out, if_neg (by simp [mustP]; omega)]; exact rfl
          have d1 : (xf != frm) = false := by simp [q1]
          have d2 : (xs' != slot) = true := by simpa using q2
          clear q1 q2 HNext HAt
          go_wp2_with fail
          go_roundw
          case rel => exact ⟨k + 1, by omega, by go_num, HN.out, hb2⟩
          case measure => simp [intOf]; omega
      · have HN : Hid ((l.take (k + 1)).find? (mustP frm slot) = none) := by rw [HNext.out, if_neg (by simp [mustP]; omega)]; exact rfl
        have d1 : (xf != frm) = true := by simpa using q1
        clear q1 HNext HAt
        go_wp2_with fail
        go_roundw
        case rel => exact ⟨k + 1, by omega, by go_num, HN.out, hb2⟩
        case measure => simp [intOf]; omega
    · obtain rfl : k = l.length := by omega
      have HE : Hid (mustC l counts frm slot word = word) := by
        have := HF.out
        rw [List.take_length] at this
        rw [HM.out, this]; exact rfl
      go_wp2_with fail
      go_ret
      exact RetI.mk HE.out.symm hb

structure Wr where
  frm : Int
  slot : Int
  must : Int
deriving DecidableEq
def wrV (x : Wr) : List Value := [.int .i64 x.frm, .int .i64 x.slot, .int .i64 x.must]
theorem wrV_length (x : Wr) : (wrV x).length = 3 := rfl
def wr0 : Wr := ⟨0, 0, 0⟩
def wrStep (xs : List Int) (l : List Cm) (counts : List Int) (t : Int) (o : List Wr) (s : Nat) : List Wr :=
  if mustC l counts t s ((cl xs t.toNat).getD s 0) ≠ (cl xs t.toNat).getD s 0 then o ++ [⟨t, s, mustC l counts t s ((cl xs t.toNat).getD s 0)⟩] else o
def wrRound (xs : List Int) (l : List Cm) (counts : List Int) (o : List Wr) (t : Int) : List Wr := (List.range 8).foldl (wrStep xs l counts t) o
/-- Of an image with a head: words that are not as they must be. -/
def wrongsC (xs : List Int) : List Wr := (tablesC (claimsC xs)).foldl (wrRound xs (claimsC xs) (countsC (claimsC xs))) []

theorem wrStep_length (xs : List Int) (l : List Cm) (counts : List Int) (t : Int) (o : List Wr) (s : Nat) : (wrStep xs l counts t o s).length ≤ o.length + 1 := by unfold wrStep; split <;> simp
theorem wrRound_length (xs : List Int) (l : List Cm) (counts : List Int) (o : List Wr) (t : Int) : (wrRound xs l counts o t).length ≤ o.length + 8 := by
  have := foldl_length (wrStep xs l counts t) 1 (wrStep_length xs l counts t) (List.range 8) o
  unfold wrRound; simp at this; omega
theorem tables_length (xs : List Int) : (tablesC (claimsC xs)).length ≤ 4000 := by
  have h0 := tbl_length (claimsC xs) 0 []
  have h1 := tbl_length (claimsC xs) 1 (tblRound (claimsC xs) [] 0)
  have h2 := tbl_length (claimsC xs) 2 (tblRound (claimsC xs) (tblRound (claimsC xs) [] 0) 1)
  have hl := claims_length xs
  have e : tablesC (claimsC xs) = tblRound (claimsC xs) (tblRound (claimsC xs) (tblRound (claimsC xs) [] 0) 1) 2 := rfl
  rw [e]
  unfold tblRound at *
  simp at h0
  omega

theorem infoWr : (Tryz.prog.info? 84).map (fun i => (i.zero, i.size, i.bytes)) = some (some (.agg #[.int .i64 0, .int .i64 0, .int .i64 0]), 3, 24) := by kernel_rfl

/-- It answers a new list of such words. -/
def RetWr (w : World) (l : List Wr) (e : Ending) (w' : World) : Prop :=
  ∃ g c, e = .returned (.slice (some ⟨g, 0, none⟩) l.length c) ∧ OwV 84 3 w' w.heap.size w'.heap.size g l.length c (l.flatMap wrV) ∧ Below w.heap.size w w'

/-- The words o, in a row that began at block g0. -/
def WrAt (w4 : World) (lo g0 : Nat) (o : List Wr) (v : Value) (wr : World) : Prop :=
  ∃ g' c', v = .slice (some ⟨g', 0, none⟩) o.length c' ∧ OwV 84 3 wr lo wr.heap.size g' o.length c' (o.flatMap wrV) ∧ w4.grownBy wr (some g0) ∧ (g' = g0 ∨ w4.heap.size ≤ g')
def WrOut (w4 : World) (lo g0 n : Nat) (xs : List Int) (l : List Cm) (counts tb : List Int) (v i : Value) (wr : World) : Prop := ∃ k : Nat, k ≤ n ∧ i = .int .i64 k ∧ WrAt w4 lo g0 ((tb.take k).foldl (wrRound xs l counts) []) v wr
def WrIn (w4 : World) (lo g0 : Nat) (xs : List Int) (l : List Cm) (counts : List Int) (t : Int) (o : List Wr) (v i : Value) (wr : World) : Prop := ∃ k : Nat, k ≤ 8 ∧ i = .int .i64 k ∧ WrAt w4 lo g0 ((List.range k).foldl (wrStep xs l counts t) o) v wr

theorem Rd.grownAt {w w' : World} {B n b off g : Nat} {xs : List Int} (h : Rd w B (some ⟨b, off, none⟩) n xs) (hg : w.grownBy w' (some g)) (hb : b < w.heap.size) (hne : b ≠ g) : Rd w' B (some ⟨b, off, none⟩) n xs :=
  ⟨h.1, fun hn => by
    obtain ⟨b', off', e, hb', hc⟩ := h.2 hn
    injection e with e
    injection e with e1 e2
    subst e1; subst e2
    exact ⟨b, off, rfl, hb', fun j hj => (World.cell?_of_block (w := w) (hg.block b hb (fun e => by injection e with e; exact hne e))).trans (hc j hj)⟩⟩

set_option maxRecDepth 100000 in
set_option maxHeartbeats 8000000 in
theorem specWrongs_any (A : Option Addr) (n cb : Nat) (xs : List Int) (w : World) (hr : Rd w w.heap.size A n xs) (hn : n ≤ 2097152) (hh : hasHead xs = true) :
    Calls Tryz.prog 80 #[.slice A n cb] w (RetWr w (wrongsC xs)) := by
  obtain ⟨i0, hi0, hz0, hz1, hz2⟩ := info_parts infoWr
  have HH := Lib.hid hh
  have hmany := manyN_le (hasHead_img hh)
  clear hh
  have b1 := (Below.refl w.heap.size w).alloc (Nat.le_refl _) (.cells #[] 84)
  have o1 := emptyV 84 3 w w.heap.size (w.heap.size + 1) w.heap.size (Nat.le_refl _) rfl (by omega)
  have hz : (w.alloc (.cells #[] 84)).heap.size = w.heap.size + 1 := by simp
  go_enter Tryz.func80, Tryz.ntmps80
  go_wp2_with fail
  refine (specClaims_any A n cb xs _ ((hr.below b1).more b1.size) hn HH.out).mono ?_
  rintro e w2 ⟨gl, c2, rfl, ol, b2⟩
  have hs2 := b2.size
  have hgl := ol.low
  have hgt := ol.lt
  have o2 := o1.below b2 (by omega)
  have b02 := below_more b1 b2 b1.size
  rw [hz] at hs2 hgl
  clear hz b1 b2 o1
  have RL2 := ol.rd
  clear ol
  go_wp2_with fail
  refine (specCounts_any A n cb xs w2 ((hr.below b02).more b02.size) hn HH.out).mono ?_
  rintro e w3 ⟨gc, nc, c3, rfl, _, oc, b3⟩
  obtain rfl : 64 = nc := by have := oc.len; rw [counts_length] at this; exact this
  have hs3 := b3.size
  have o3 := o2.below b3 (by omega)
  have b03 := below_more b02 b3 b02.size
  have RL3 := (RL2.below b3).more hs3
  have RC3 := oc.rd
  have hgc : w2.heap.size ≤ gc ∧ gc < w3.heap.size := by
    rcases oc.form with ⟨h, _⟩ | ⟨x, hx, h1, h2, _⟩
    · cases h
    · injection hx with hx; injection hx with hx; omega
  clear b3 oc o2 RL2 b02
  go_wp2_with fail
  have hll := claims_length xs
  refine (specTables_any gl c2 (claimsC xs) w3 RL3 (by omega)).mono ?_
  rintro e w4 ⟨gt, nt, c4, rfl, _, ot, b4⟩
  have HNT := Lib.hid ot.len
  have hs4 := b4.size
  have o4 := o3.below b4 (by omega)
  have b04 := below_more b03 b4 b03.size
  have RL4 := (RL3.below b4).more hs4
  have RC4 := (RC3.below b4).more hs4
  have hgt4 : w3.heap.size ≤ gt ∧ gt < w4.heap.size := by
    rcases ot.form with ⟨h, _⟩ | ⟨x, hx, h1, h2, _⟩
    · cases h
    · injection hx with hx; injection hx with hx; omega
  have HCT := Lib.hid (fun (j : Nat) (hj : j < nt) => ot.cell hj)
  have HTT := Lib.hid (fun t (ht : t ∈ tablesC (claimsC xs)) => tables_there ht)
  have HTL := Lib.hid (tables_length xs)
  have hnt : nt ≤ 4000 := by have := HNT.out; have := HTL.out; omega
  have HGT : Hid (∀ c ∈ claimsC xs, c.good = true → 0 ≤ c.target ∧ c.target < 64) := fun c hc hg => by have := good_target HH.out hc hg; omega
  have HW : Hid (wrongsC xs = (tablesC (claimsC xs)).foldl (wrRound xs (claimsC xs) (countsC (claimsC xs))) []) := rfl
  clear b4 ot o3 RL3 RC3 b03
  generalize claimsC xs = l at *
  generalize countsC l = counts at *
  generalize tablesC l = tb at *
  go_wp2_with fail
  go_loopw [3, 7] (fun v i wr => WrOut w4 w.heap.size w.heap.size nt xs l counts tb v i wr) (fun _ i _ => nt - (intOf i).toNat)
  case atStart => exact ⟨0, Nat.zero_le _, rfl, w.heap.size, 0, rfl, o4.more (Nat.le_refl _) (by omega), grown_refl _ _, .inl rfl⟩
  case round =>
    obtain ⟨k, hk, rfl, g', c', rfl, ho, hg, hat⟩ := hrel
    have AT := Lib.hid hat
    clear hat
    have sr := hg.size
    by_cases hlt : k < nt
    · have hkt : k < tb.length := by have := HNT.out; omega
      have HTk := Lib.hid (take_fold (wrRound xs l counts) tb [] k hkt)
      have hgd : tb.getD k 0 = tb[k] := by simp [List.getD_eq_getElem?_getD, hkt]
      have hth := HTT.out _ (List.getElem_mem hkt)
      have hct4 : w4.cell? ⟨gt, k, none⟩ = some (.int .i64 (tb.getD k 0)) := HCT.out k hlt
      rw [hgd] at hct4
      clear hgd
      generalize tb[k] = t at *
      obtain ⟨t1, t2⟩ := there_lt hth
      obtain ⟨τ, rfl⟩ := Int.eq_ofNat_of_zero_le (show 0 ≤ t by omega)
      clear hth
      have HL : Hid (((tb.take k).foldl (wrRound xs l counts) []).length ≤ 32000) := by
        have h1 := foldl_length (wrRound xs l counts) 8 (wrRound_length xs l counts) (tb.take k) []
        have h2 : (tb.take k).length ≤ k := List.length_take_le _ _
        simp at h1
        show _ ≤ _
        omega
      have hok := HL.out
      generalize (tb.take k).foldl (wrRound xs l counts) [] = ok at *
      have hct : wr.cell? ⟨gt, k, none⟩ = some (.int .i64 τ) := hg.cell hct4 (fun e => by injection e with e; have : gt = w.heap.size := e; omega)
      have hrr : Rd wr w.heap.size A n xs := (hr.below b04).grown hg (Nat.le_refl _) b04.size
      go_wp2_with fail
      refine (specCluster_any A n cb τ xs wr (hrr.more (by have := b04.size; omega)) hn (by omega)).mono ?_
      rintro e w5 ⟨G, ng, cg, rfl, oG, b5⟩
      obtain rfl : 8 = ng := by have := oG.len; simpa [cl, f8_length] using this
      rcases oG.form with ⟨_, h0, _⟩ | ⟨gk, rfl, g1, g2, g3, g4⟩
      · omega
      have hs5 := b5.size
      have F5 : w4.grownBy w5 (some w.heap.size) := ⟨b5.os.trans hg.os, b5.tape.trans hg.tape, b5.output.trans hg.output, Nat.le_trans hg.size b5.size, fun q hq hne => (b5.block q (by omega)).trans (hg.block q hq hne)⟩
      have hgl' := ho.lt
      have o5 : OwV 84 3 w5 w.heap.size w5.heap.size g' ok.length c' (ok.flatMap wrV) := ⟨(ho.keep (b5.block g' hgl')).own, by omega⟩
      have HCC := Lib.hid (fun (j : Nat) (hj : j < 8) => oG.cell hj)
      have hlow := ho.low
      clear oG b5 hrr hct ho
      go_wp2_with fail
      go_loopw [3, 9] (fun v i wr => WrIn w5 w.heap.size g' xs l counts τ ok v i wr) (fun _ i _ => 8 - (intOf i).toNat)
      case atStart => exact ⟨0, by omega, rfl, g', c', rfl, o5, grown_refl _ _, .inl rfl⟩
      case round =>
        obtain ⟨s, hs, rfl, g2', c2', rfl, ho2, hg2, hat2⟩ := hrel
        have AT2 := Lib.hid hat2
        clear hat2
        have sr2 := hg2.size
        have FT := grown_next F5 AT.out hg2
        by_cases hs8 : s < 8
        · have HR := Lib.hid (range_fold (wrStep xs l counts τ) ok s)
          have HLs : Hid (((List.range s).foldl (wrStep xs l counts τ) ok).length ≤ 33000) := by
            have h1 := foldl_length (wrStep xs l counts τ) 1 (wrStep_length xs l counts τ) (List.range s) ok
            simp at h1
            show _ ≤ _
            omega
          have hosl := HLs.out
          generalize (List.range s).foldl (wrStep xs l counts τ) ok = os at *
          have hcc : wr.cell? ⟨gk, s, none⟩ = some (.int .i64 ((cl xs τ).getD s 0)) := hg2.cell (HCC.out s hs8) (fun e => by injection e with e; have : gk = g' := e; omega)
          have hct : wr.cell? ⟨gt, k, none⟩ = some (.int .i64 τ) := FT.cell hct4 (fun e => by injection e with e; have : gt = w.heap.size := e; omega)
          have RLr := (RL4.grown FT (by show gl < _; omega) (by show gl ≠ _; omega)).more FT.size
          have RCr := (RC4.grownAt FT (by omega) (by omega)).more FT.size
          have HS : Hid (wrStep xs l counts τ os s = if mustC l counts τ s ((cl xs τ).getD s 0) ≠ (cl xs τ).getD s 0 then os ++ [⟨τ, s, mustC l counts τ s ((cl xs τ).getD s 0)⟩] else os) := by unfold wrStep; rw [Int.toNat_natCast]; exact rfl
          generalize (cl xs τ).getD s 0 = x at hcc HS
          go_wp2_with fail
          go_still_tail 11, (by kernel_rfl)
          change wpList _ _ _ _ _ wr.drew
          go_wp2_with fail
          refine (specMust_any gl c2 l (some ⟨gc, 0, none⟩) c3 counts τ s x wr.drew RLr.drew (by omega) RCr HGT.out).mono ?_
          rintro e w6 ⟨rfl, b6⟩
          have hs6 : wr.heap.size ≤ w6.heap.size := b6.size
          have hcc6 := (b6.cell (p := ⟨gk, s, none⟩) (by show gk < wr.heap.size; omega)).trans (show wr.drew.cell? _ = _ from hcc)
          have hct6 := (b6.cell (p := ⟨gt, k, none⟩) (by show gt < wr.heap.size; omega)).trans (show wr.drew.cell? _ = _ from hct)
          have hg2l := ho2.lt
          have o6 : OwV 84 3 w6 w.heap.size w6.heap.size g2' os.length c2' (os.flatMap wrV) := ⟨(ho2.drew.keep (b6.block g2' hg2l)).own, by omega⟩
          have G6 : w5.grownBy w6 (some g') := ⟨b6.os.trans hg2.os, b6.tape.trans hg2.tape, b6.output.trans hg2.output, Nat.le_trans hg2.size b6.size, fun q hq hne => (b6.block q (by show q < wr.heap.size; omega)).trans (hg2.block q hq hne)⟩
          clear b6 RLr RCr hcc hct ho2 hg2
          generalize mustC l counts τ s x = mu at *
          by_cases hmx : mu = x
          · subst hmx
            have hd : (mu != mu) = false := by simp
            have HE : Hid ((List.range (s + 1)).foldl (wrStep xs l counts τ) ok = os) := by rw [HR.out, HS.out]; simp [Hid]
            go_wp2_with fail
            go_roundw
            case rel => exact ⟨s + 1, by omega, by go_num, g2', c2', by rw [HE.out], by rw [HE.out]; exact o6, G6, AT2.out⟩
            case measure => simp [intOf]; omega
          · have hd : (mu != x) = true := by simpa using hmx
            have HE : Hid ((List.range (s + 1)).foldl (wrStep xs l counts τ) ok = os ++ [⟨τ, s, mu⟩]) := by rw [HR.out, HS.out, if_pos hmx]; exact rfl
            clear hmx
            go_wp2_with (at_builtin; refine wpList_append_lit rfl (.tmp 52) (.tmp 60) 81 rfl 84 3 24 _ i0 Tryz.underlying81 hi0 hz0 hz1 hz2 rfl (by omega) (by omega) w.heap.size w6.heap.size g2' os.length c2' _ rfl o6 #[.int .i64 τ, .int .i64 s, .int .i64 mu] 1 1 rfl rfl (by simp [Value.oneCell']) (by omega) (by omega) ?_; intro g7 c7 w7 ho7 hgr hat7 _)
            go_roundw
            case rel =>
              refine ⟨s + 1, by omega, by go_num, g7, c7, by rw [HE.out]; simp, ?_, grown_next G6 AT2.out hgr, by have := AT2.out; omega⟩
              rw [HE.out, List.flatMap_append, List.length_append]
              exact ho7
            case measure => simp [intOf]; omega
        · obtain rfl : s = 8 := by omega
          go_wp2_with fail
          go_roundw
          case rel =>
            have e : (tb.take (k + 1)).foldl (wrRound xs l counts) [] = (List.range 8).foldl (wrStep xs l counts τ) ok := by rw [HTk.out]; rfl
            exact ⟨k + 1, by omega, by go_num, g2', c2', by rw [e], by rw [e]; exact ho2, FT, by have := AT.out; have := AT2.out; omega⟩
          case measure => simp [intOf]; omega
    · obtain rfl : k = nt := by omega
      have HE : Hid ((tb.take k).foldl (wrRound xs l counts) [] = wrongsC xs) := by rw [HW.out, List.take_of_length_le (by have := HNT.out; omega)]; exact rfl
      go_wp2_with fail
      go_ret
      rw [← HE.out]
      exact ⟨g', c', rfl, ho, below_of_grown b04 hg (Nat.le_refl _)⟩

theorem wr_cells {w : World} {B g : Nat} {l : List Wr} (h : RdV 3 w B (some ⟨g, 0, none⟩) l.length (l.flatMap wrV)) {k : Nat} (hk : k < l.length) : ∀ j, j < 3 → w.cell? ⟨g, k * 3 + j, none⟩ = (wrV (l.getD k wr0))[j]? := by
  intro j hj
  obtain ⟨b, off, e, _, hc⟩ := h.2 (by omega)
  injection e with e
  injection e with e1 e2
  subst e1; subst e2
  have := hc (k * 3 + j) (by omega)
  rw [Nat.zero_add] at this
  rw [this, flat_get wrV 3 wrV_length l k j hk hj, List.getD_eq_getElem?_getD, List.getElem?_eq_getElem hk]; rfl
theorem wrongs_length (xs : List Int) : (wrongsC xs).length ≤ 32000 := by
  unfold wrongsC
  have h1 := foldl_length (wrRound xs (claimsC xs) (countsC (claimsC xs))) 8 (wrRound_length xs _ _) (tablesC (claimsC xs)) []
  have h2 := tables_length xs
  simp at h1
  omega
theorem looseL_length (xs : List Int) : (looseL xs).length ≤ 1296 := by
  have := List.length_filter_le (fun c : Cm => !c.good) (claimsL xs)
  have := claimsL_length xs
  unfold looseL
  omega

end Go.Proofs.YtiokfhdkbpoadaaGreatDoor
