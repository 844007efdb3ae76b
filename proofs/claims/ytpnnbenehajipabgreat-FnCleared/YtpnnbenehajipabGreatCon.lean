/- Contents and names (chapter 10): plain functions, and that the model's Go functions compute them. -/
import Derived.Test.YtpnnbenehajipabGreatY5
import Derived.Test.YtpnnbenehajipabGreatCmc
namespace Go.Proofs.YtpnnbenehajipabGreat
open Go.RowKit

/-- What is read. -/
def orZero (l : List Int) : List Int := if l = [] then List.replicate 8 0 else l
def contentL (b : List Int) (which g : Int) : List Int := if hasHead b = true ∧ inB which 0 ((shotsL b).length : Int) = true ∧ inB g 0 ((headOf b).size - 1) = true then orZero (tableL b (targetOf (entryAt b which g))) else []
def namesL (b : List Int) : List Int := (shotsL b).map (·.1)
theorem orZero_length {b : List Int} (t : Int) : (orZero (tableL b t)).length = 8 := by
  unfold orZero
  split
  · simp
  · rcases tableL_length b t with h | h
    · rename_i hn
      exact absurd (List.eq_nil_of_length_eq_zero h) hn
    · exact h
theorem names_length (b : List Int) : (namesL b).length ≤ 4 := by unfold namesL; rw [List.length_map]; exact shotsL_length b
theorem names_step (l : List (Int × Int)) (k : Nat) (hk : k < l.length) : (l.take (k + 1)).map (·.1) = (l.take k).map (·.1) ++ [(l.getD k (0, 0)).1] := by
  rw [List.take_succ_eq_append_getElem hk, List.map_append, List.getD_eq_getElem?_getD, List.getElem?_eq_getElem hk]
  rfl

set_option maxRecDepth 100000 in
set_option maxHeartbeats 2000000 in
theorem specNames_any (A : Option Addr) (n c : Nat) (xs : List Int) (w : World) (h : Rd w w.heap.size A n xs) (hn : n ≤ 2097152) :
    Calls Tryz.prog 14 #[.slice A n c] w (Ret w (namesL xs)) := by
  obtain ⟨i0, hi0, hz0, hz1, hz2⟩ := info_parts info2
  have b1 := (Below.refl w.heap.size w).alloc (Nat.le_refl _) (.cells #[] 2)
  have o1 := emptyV 2 1 w w.heap.size (w.heap.size + 1) w.heap.size (Nat.le_refl _) rfl (by omega)
  go_enter Tryz.func14, Tryz.ntmps14
  go_wp2_with fail
  refine (specShotsIn_any A n c xs _ ((h.below b1).more b1.size) hn).mono ?_
  rintro e w2 ⟨G, cg, rfl, oG, b2⟩
  have hs2 := b2.size
  have hsz : (w.alloc (.cells #[] 2)).heap.size = w.heap.size + 1 := by simp
  rw [hsz] at hs2
  have o2 := o1.below b2 (by omega)
  have b02 := below_more b1 b2 b1.size
  have HL : Hid (namesL xs = (shotsL xs).map (·.1)) := rfl
  have hll := shotsL_length xs
  have HG := Lib.hid oG
  have HZ := Lib.hid hsz
  clear hsz b1 b2 o1 oG
  generalize shotsL xs = l at *
  go_wp2_with fail
  go_loopw [3, 5] (fun v i wr => ∃ (k g' c' : Nat), k ≤ l.length ∧ i = .int .i64 k ∧ v = .slice (some ⟨g', 0, none⟩) k c' ∧
    OwV 2 1 wr w.heap.size wr.heap.size g' k c' (iv ((l.take k).map (·.1))) ∧ w2.grownBy wr (some w.heap.size) ∧ (g' = w.heap.size ∨ w2.heap.size ≤ g')) (fun _ i _ => l.length - (intOf i).toNat)
  case atStart => exact ⟨0, w.heap.size, 0, Nat.zero_le _, rfl, rfl, o2.more (Nat.le_refl _) (by omega), grown_refl _ _, .inl rfl⟩
  case round =>
    obtain ⟨k, g', c', hk, rfl, rfl, hok, hg, hat⟩ := hrel
    have AT := Lib.hid hat
    clear hat
    have sr := hg.size
    by_cases hlt : k < l.length
    · rcases HG.out.form with ⟨_, h0, _⟩ | ⟨g, rfl, g1, g2, g3, _⟩
      · omega
      have hgw : w.heap.size + 1 ≤ g := by rw [← HZ.out]; exact g1
      have e0 : wr.cell? ⟨g, k * 2, none⟩ = some (.int .i64 (l.getD k (0, 0)).1) := by
        refine hg.cell ?_ (fun e => by injection e with e; have : g = w.heap.size := e; omega)
        have := HG.out.cell (j := k * 2 + 0) (by omega)
        rw [sh_cell hlt (by omega)] at this
        exact this
      have HS := Lib.hid (names_step l k hlt)
      generalize (l.take k).map (·.1) = fs at *
      generalize (l.getD k (0, 0)).1 = x at *
      have HE : Hid ((l.take (k + 1)).map (·.1) = fs ++ [x]) := HS.out
      clear HS
      go_wp2_with (at_builtin; refine wpList_append_lit rfl (.tmp 15) (.tmp 21) 24 rfl 2 1 8 _ i0 Tryz.underlying24 hi0 hz0 hz1 hz2 rfl (by omega) (by omega) w.heap.size wr.heap.size g' k c' _ rfl hok #[.int .i64 x] 1 1 rfl rfl (by simp [Value.oneCell']) (by omega) (by omega) ?_; intro g3 cd w5 ho5 hgr hat _)
      go_roundw
      case rel =>
        refine ⟨k + 1, g3, cd, by omega, by go_num, rfl, ?_, grown_next hg AT.out hgr, by have := AT.out; omega⟩
        rw [HE.out, ← iv_one]
        exact ho5
      case measure => simp [intOf]; omega
    · obtain rfl : k = l.length := by omega
      go_wp2_with fail
      go_ret
      rw [List.take_length] at hok
      rw [HL.out]
      exact ⟨_, _, c', rfl, hok.toI, below_of_grown b02 hg (Nat.le_refl _)⟩

end Go.Proofs.YtpnnbenehajipabGreat