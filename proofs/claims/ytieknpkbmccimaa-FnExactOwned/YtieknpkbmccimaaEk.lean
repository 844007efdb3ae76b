/- Whether a list of claims has one that a function asks for (slices.ContainsFunc), for the two functions that the program asks with. -/
import Derived.Test.YtieknpkbmccimaaX1
import Derived.Test.YtieknpkbmccimaaDfq
import Derived.Test.YtieknpkbmccimaaX2
namespace Go.Proofs.Ytieknpkbmccimaa
open Go.RowKit

/-- tablesGoneInto's function: is it the target of the claim in the box Bx? -/
theorem sameTarget_any (Bx : Nat) (t : Int) (x : Cm) (w : World) (h4 : w.cell? ⟨Bx, 4, none⟩ = some (.int .i64 t)) :
    Calls Try.prog 48 #[.agg #[.int .i64 x.kind, .int .i64 x.frm, .int .i64 x.slot, .int .i64 x.place, .int .i64 x.target, .bool x.good], .pointer (some ⟨Bx, 0, none⟩)] w
      fun e w' => e = .returned (.bool (x.target == t)) ∧ w' = w.alloc (.cells #[.int .i64 x.kind, .int .i64 x.frm, .int .i64 x.slot, .int .i64 x.place, .int .i64 x.target, .bool x.good] 53) := by
  obtain ⟨xk, xf, xs', xp, xt, xg⟩ := x
  have hB := World.block_lt_of_cell? w _ h4
  have h5 : (w.alloc (.cells #[.int .i64 xk, .int .i64 xf, .int .i64 xs', .int .i64 xp, .int .i64 xt, .bool xg] 53)).cell? ⟨Bx, 4, none⟩ = some (.int .i64 t) := by
    rw [World.cell?_alloc_lt _ _ ⟨Bx, 4, none⟩ hB]; exact h4
  go_enter Try.func48, Try.ntmps48
  go_wp2
  go_ret
  exact ⟨rfl, rfl⟩

/-- standsIn's function: does it stand in that slot of that table? -/
theorem standsAt_any (B1 B2 : Nat) (t s : Int) (x : Cm) (w : World) (h1 : w.cell? ⟨B1, 0, none⟩ = some (.int .i64 t)) (h2 : w.cell? ⟨B2, 0, none⟩ = some (.int .i64 s)) :
    Calls Try.prog 52 #[.agg #[.int .i64 x.kind, .int .i64 x.frm, .int .i64 x.slot, .int .i64 x.place, .int .i64 x.target, .bool x.good], .pointer (some ⟨B1, 0, none⟩), .pointer (some ⟨B2, 0, none⟩)] w
      fun e w' => e = .returned (.bool (x.frm == t && x.slot == s)) ∧ w' = w.alloc (.cells #[.int .i64 x.kind, .int .i64 x.frm, .int .i64 x.slot, .int .i64 x.place, .int .i64 x.target, .bool x.good] 53) := by
  obtain ⟨xk, xf, xs', xp, xt, xg⟩ := x
  have hB1 := World.block_lt_of_cell? w _ h1
  have hB2 := World.block_lt_of_cell? w _ h2
  have h3 : (w.alloc (.cells #[.int .i64 xk, .int .i64 xf, .int .i64 xs', .int .i64 xp, .int .i64 xt, .bool xg] 53)).cell? ⟨B1, 0, none⟩ = some (.int .i64 t) := by
    rw [World.cell?_alloc_lt _ _ ⟨B1, 0, none⟩ hB1]; exact h1
  have h4 : (w.alloc (.cells #[.int .i64 xk, .int .i64 xf, .int .i64 xs', .int .i64 xp, .int .i64 xt, .bool xg] 53)).cell? ⟨B2, 0, none⟩ = some (.int .i64 s) := by
    rw [World.cell?_alloc_lt _ _ ⟨B2, 0, none⟩ hB2]; exact h2
  cases hd : (xf == t)
  · go_enter Try.func52, Try.ntmps52
    go_wp2
    go_ret
    exact ⟨by simp, rfl⟩
  · go_enter Try.func52, Try.ntmps52
    go_wp2
    go_ret
    exact ⟨by simp, rfl⟩

theorem any_take_succ (l : List Cm) (p : Cm → Bool) (k : Nat) (hk : k < l.length) : (l.take (k + 1)).any p = ((l.take k).any p || p (l.getD k cm0)) := by
  rw [List.take_succ_eq_append_getElem hk, List.any_append, show l.getD k cm0 = l[k] by simp [List.getD_eq_getElem?_getD, hk]]
  simp
theorem any_at (l : List Cm) (p : Cm → Bool) (k : Nat) (hk : k < l.length) (h : p (l.getD k cm0) = true) : l.any p = true := by
  rw [List.any_eq_true]
  exact ⟨l[k], List.getElem_mem hk, by rw [show l.getD k cm0 = l[k] by simp [List.getD_eq_getElem?_getD, hk]] at h; exact h⟩

set_option maxRecDepth 100000 in
set_option maxHeartbeats 4000000 in
theorem hasTarget_any (Bx : Nat) (t : Int) (G : Option Addr) (cg lo hi : Nat) (l : List Cm) (w : World) (hl : l.length ≤ 10000) (h4 : w.cell? ⟨Bx, 4, none⟩ = some (.int .i64 t)) (oG : OwR 53 6 w lo hi G l.length cg (l.flatMap cmV)) :
    Calls Try.prog 47 #[.slice G l.length cg, .func (.func 48) #[] #[.pointer (some ⟨Bx, 0, none⟩)]] w (RetB w (l.any fun x => x.target == t)) := by
  have hB := World.block_lt_of_cell? w _ h4
  have hI : Calls Try.prog 67 #[.slice G l.length cg, .func (.func 48) #[] #[.pointer (some ⟨Bx, 0, none⟩)]] w fun e w' => ∃ v : Int, e = .returned (.int .i64 v) ∧ decide (0 ≤ v) = (l.any fun x => x.target == t) ∧ Below w.heap.size w w' := by
    have HG := Lib.hid oG
    have H4 := Lib.hid h4
    clear oG h4
    go_enter Try.func67, Try.ntmps67
    go_wp2_with fail
    go_loopw [8] (fun i wr => ∃ k : Nat, k ≤ l.length ∧ i = .int .i64 k ∧ ((l.take k).any fun x => x.target == t) = false ∧ Below w.heap.size w wr) (fun i _ => l.length - (intOf i).toNat)
    case atStart => exact ⟨0, Nat.zero_le _, rfl, rfl, Below.refl _ _⟩
    case round =>
      obtain ⟨k, hk, rfl, hf, hb⟩ := hrel
      have sr := hb.size
      by_cases hlt : k < l.length
      · obtain ⟨g, rfl, hg1, hg2, hg3, hce⟩ := cmr_cells HG.out hlt
        have hce := hce wr (hb.block g (by omega))
        have h4 : wr.cell? ⟨Bx, 4, none⟩ = some (.int .i64 t) := (World.cell?_of_block (hb.block Bx hB)).trans H4.out
        have HS := Lib.hid (any_take_succ l (fun x => x.target == t) k hlt)
        have HA := Lib.hid (any_at l (fun x => x.target == t) k hlt)
        have HF := Lib.hid hf
        clear hf
        generalize l.getD k cm0 = x at *
        obtain ⟨xk, xf, xs', xp, xt, xg⟩ := x
        have e0 : wr.cell? ⟨g, k * 6, none⟩ = some (.int .i64 xk) := hce 0 (by omega)
        have e1 : wr.cell? ⟨g, k * 6 + 1, none⟩ = some (.int .i64 xf) := hce 1 (by omega)
        have e2 : wr.cell? ⟨g, k * 6 + 2, none⟩ = some (.int .i64 xs') := hce 2 (by omega)
        have e3 : wr.cell? ⟨g, k * 6 + 3, none⟩ = some (.int .i64 xp) := hce 3 (by omega)
        have e4 : wr.cell? ⟨g, k * 6 + 4, none⟩ = some (.int .i64 xt) := hce 4 (by omega)
        have e5 : wr.cell? ⟨g, k * 6 + 5, none⟩ = some (.bool xg) := hce 5 (by omega)
        clear hce
        go_wp2_with fail
        refine (sameTarget_any Bx t ⟨xk, xf, xs', xp, xt, xg⟩ _ h4).mono ?_
        rintro e w' ⟨rfl, rfl⟩
        dsimp only
        cases hd : (xt == t)
        · go_wp2_with fail
          go_roundw
          case rel => exact ⟨k + 1, by omega, by go_num, by rw [HS.out, HF.out]; simp [hd], hb.alloc hb.size _⟩
          case measure => simp [intOf]; omega
        · go_wp2_with fail
          go_ret
          exact ⟨k, rfl, by rw [HA.out hd]; simp, hb.alloc hb.size _⟩
      · obtain rfl : k = l.length := by omega
        rw [List.take_length] at hf
        go_wp2_with fail
        go_ret
        exact ⟨-1, rfl, by rw [hf]; decide, hb⟩
  go_enter Try.func47, Try.ntmps47
  go_wp2_with fail
  refine hI.mono ?_
  rintro e w' ⟨v, rfl, hv, hb⟩
  have HV := Lib.hid hv
  clear hv
  go_wp2_with fail
  go_ret
  exact ⟨ret_bool (by rw [← HV.out]), hb⟩

set_option maxRecDepth 100000 in
set_option maxHeartbeats 4000000 in
theorem hasSlot_any (B1 B2 : Nat) (t s : Int) (G : Option Addr) (cg lo hi : Nat) (l : List Cm) (w : World) (hl : l.length ≤ 10000) (h1 : w.cell? ⟨B1, 0, none⟩ = some (.int .i64 t)) (h2 : w.cell? ⟨B2, 0, none⟩ = some (.int .i64 s)) (oG : OwR 53 6 w lo hi G l.length cg (l.flatMap cmV)) :
    Calls Try.prog 47 #[.slice G l.length cg, .func (.func 52) #[] #[.pointer (some ⟨B1, 0, none⟩), .pointer (some ⟨B2, 0, none⟩)]] w (RetB w (l.any fun x => x.frm == t && x.slot == s)) := by
  have hB1 := World.block_lt_of_cell? w _ h1
  have hB2 := World.block_lt_of_cell? w _ h2
  have hI : Calls Try.prog 67 #[.slice G l.length cg, .func (.func 52) #[] #[.pointer (some ⟨B1, 0, none⟩), .pointer (some ⟨B2, 0, none⟩)]] w fun e w' => ∃ v : Int, e = .returned (.int .i64 v) ∧ decide (0 ≤ v) = (l.any fun x => x.frm == t && x.slot == s) ∧ Below w.heap.size w w' := by
    have HG := Lib.hid oG
    have H1 := Lib.hid h1
    have H2 := Lib.hid h2
    clear oG h1 h2
    go_enter Try.func67, Try.ntmps67
    go_wp2_with fail
    go_loopw [8] (fun i wr => ∃ k : Nat, k ≤ l.length ∧ i = .int .i64 k ∧ ((l.take k).any fun x => x.frm == t && x.slot == s) = false ∧ Below w.heap.size w wr) (fun i _ => l.length - (intOf i).toNat)
    case atStart => exact ⟨0, Nat.zero_le _, rfl, rfl, Below.refl _ _⟩
    case round =>
      obtain ⟨k, hk, rfl, hf, hb⟩ := hrel
      have sr := hb.size
      by_cases hlt : k < l.length
      · obtain ⟨g, rfl, hg1, hg2, hg3, hce⟩ := cmr_cells HG.out hlt
        have hce := hce wr (hb.block g (by omega))
        have h1 : wr.cell? ⟨B1, 0, none⟩ = some (.int .i64 t) := (World.cell?_of_block (hb.block B1 hB1)).trans H1.out
        have h2 : wr.cell? ⟨B2, 0, none⟩ = some (.int .i64 s) := (World.cell?_of_block (hb.block B2 hB2)).trans H2.out
        have HS := Lib.hid (any_take_succ l (fun x => x.frm == t && x.slot == s) k hlt)
        have HA := Lib.hid (any_at l (fun x => x.frm == t && x.slot == s) k hlt)
        have HF := Lib.hid hf
        clear hf
        generalize l.getD k cm0 = x at *
        obtain ⟨xk, xf, xs', xp, xt, xg⟩ := x
        have e0 : wr.cell? ⟨g, k * 6, none⟩ = some (.int .i64 xk) := hce 0 (by omega)
        have e1 : wr.cell? ⟨g, k * 6 + 1, none⟩ = some (.int .i64 xf) := hce 1 (by omega)
        have e2 : wr.cell? ⟨g, k * 6 + 2, none⟩ = some (.int .i64 xs') := hce 2 (by omega)
        have e3 : wr.cell? ⟨g, k * 6 + 3, none⟩ = some (.int .i64 xp) := hce 3 (by omega)
        have e4 : wr.cell? ⟨g, k * 6 + 4, none⟩ = some (.int .i64 xt) := hce 4 (by omega)
        have e5 : wr.cell? ⟨g, k * 6 + 5, none⟩ = some (.bool xg) := hce 5 (by omega)
        clear hce
        go_wp2_with fail
        refine (standsAt_any B1 B2 t s ⟨xk, xf, xs', xp, xt, xg⟩ _ h1 h2).mono ?_
        rintro e w' ⟨rfl, rfl⟩
        dsimp only
        cases hd : (xf == t && xs' == s)
        · go_wp2_with fail
          go_roundw
          case rel => exact ⟨k + 1, by omega, by go_num, by rw [HS.out, HF.out]; simp [hd], hb.alloc hb.size _⟩
          case measure => simp [intOf]; omega
        · go_wp2_with fail
          go_ret
          exact ⟨k, rfl, by rw [HA.out hd]; simp, hb.alloc hb.size _⟩
      · obtain rfl : k = l.length := by omega
        rw [List.take_length] at hf
        go_wp2_with fail
        go_ret
        exact ⟨-1, rfl, by rw [hf]; decide, hb⟩
  go_enter Try.func47, Try.ntmps47
  go_wp2_with fail
  refine hI.mono ?_
  rintro e w' ⟨v, rfl, hv, hb⟩
  have HV := Lib.hid hv
  clear hv
  go_wp2_with fail
  go_ret
  exact ⟨ret_bool (by rw [← HV.out]), hb⟩

/-- Function 31. -/
theorem standsIn_any (G : Option Addr) (cg lo hi : Nat) (l : List Cm) (t s : Int) (w : World) (hl : l.length ≤ 10000) (oG : OwR 53 6 w lo hi G l.length cg (l.flatMap cmV)) (hhi : hi ≤ w.heap.size) :
    Calls Try.prog 31 #[.slice G l.length cg, .int .i64 t, .int .i64 s] w (RetB w (standB l t s)) := by
  have b1 := (Below.refl w.heap.size w).alloc (Nat.le_refl _) (.cells #[.int .i64 t] 2)
  have b2 := b1.alloc b1.size (.cells #[.int .i64 s] 2)
  have o2 := oG.below b2 hhi
  have c1 : ((w.alloc (.cells #[.int .i64 t] 2)).alloc (.cells #[.int .i64 s] 2)).cell? ⟨w.heap.size, 0, none⟩ = some (.int .i64 t) := by
    rw [World.cell?_alloc_lt _ _ ⟨w.heap.size, 0, none⟩ (by simp)]; simp
  have c2 : ((w.alloc (.cells #[.int .i64 t] 2)).alloc (.cells #[.int .i64 s] 2)).cell? ⟨w.heap.size + 1, 0, none⟩ = some (.int .i64 s) := by simp
  have hH := hasSlot_any w.heap.size (w.heap.size + 1) t s G cg lo hi l _ hl c1 c2 o2
  have HH := Lib.hid hH
  clear hH c1 c2 o2
  go_enter Try.func31, Try.ntmps31
  go_wp2_with fail
  refine HH.out.mono ?_
  rintro e w' ⟨rfl, hb⟩
  have hb3 := below_more b2 hb b2.size
  go_wp2_with fail
  go_ret
  exact ⟨rfl, hb3⟩

end Go.Proofs.Ytieknpkbmccimaa
