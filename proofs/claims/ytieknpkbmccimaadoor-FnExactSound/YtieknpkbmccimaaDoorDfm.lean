/- Defects: the word of a slot as it must be (l11Must), the model's side. -/
import Derived.Test.YtieknpkbmccimaaDoorDft
namespace Go.Proofs.YtieknpkbmccimaaDoor
open Go.RowKit

def mustP (frm slot : Int) (c : Cm) : Bool := (c.frm == frm && c.slot == slot) && (c.kind == 4 || (c.kind == 7 || c.kind == 8))
/-- What the claim of a slot makes of its word. -/
def mustOf (counts : List Int) (word : Int) : Option Cm → Int
  | none => word
  | some c => if c.good = true then entryOf c.target (c.kind != 4 && counts.getD c.target.toNat 0 == 1) else word
def mustC (l : List Cm) (counts : List Int) (frm slot word : Int) : Int := if targetOf word = 0 then 0 else mustOf counts word (l.find? (mustP frm slot))

theorem find_step {l : List Cm} {p : Cm → Bool} {k : Nat} (hk : k < l.length) (h : (l.take k).find? p = none) : (l.take (k + 1)).find? p = if p l[k] = true then some l[k] else none := by
  rw [List.take_succ_eq_append_getElem hk, List.find?_append, h]
  simp [List.find?_cons]
  split <;> simp_all
theorem find_at {l : List Cm} {p : Cm → Bool} {k : Nat} (hk : k < l.length) (h : (l.take k).find? p = none) (hp : p l[k] = true) : l.find? p = some l[k] := by
  have e : l.find? p = (l.take (k + 1) ++ l.drop (k + 1)).find? p := by rw [List.take_append_drop]
  rw [e, List.find?_append, find_step hk h, if_pos hp]
  rfl

theorem specEntry_still (t : Int) (o : Bool) (w : World) : Calls Tryd.prog 52 #[.int .i64 t, .bool o] w fun r w' => r = .returned (.int .i64 (entryOf t o)) ∧ w' = w := (specEntry_any t o w).mono fun _ _ h => ⟨h.1, h.2.symm⟩

def MustRel (w : World) (l : List Cm) (p : Cm → Bool) (i : Value) (wr : World) : Prop := ∃ k : Nat, k ≤ l.length ∧ i = .int .i64 k ∧ (l.take k).find? p = none ∧ Below w.heap.size w wr

set_option maxRecDepth 100000 in
set_option maxHeartbeats 8000000 in
theorem specMust_any (g cap : Nat) (l : List Cm) (C : Option Addr) (cc : Nat) (counts : List Int) (frm slot word : Int) (w : World) (h : RdV 6 w w.heap.size (some ⟨g, 0, none⟩) l.length (l.flatMap cmV)) (hl : l.length ≤ 10000)
    (hc : Rd w w.heap.size C 64 counts) (hg : ∀ c ∈ l, c.good = true → 0 ≤ c.target ∧ c.target < 64) :
    Calls Tryd.prog 33 #[.slice (some ⟨g, 0, none⟩) l.length cap, .slice C 64 cc, .int .i64 frm, .int .i64 slot, .int .i64 word] w (RetI w (mustC l counts frm slot word)) := by
  have HG := Lib.hid hg
  clear hg
  by_cases h0 : targetOf word = 0
  · have HE : Hid (mustC l counts frm slot word = 0) := by unfold mustC; rw [if_pos h0]; exact rfl
    have hd : (targetOf word == 0) = true := by simpa using h0
    clear h0
    go_enter Tryd.func33, Tryd.ntmps33
    go_wp2_with fail
    refine (specTarget_any _ _).mono ?_
    rintro e w' ⟨rfl, rfl⟩
    go_wp2_with fail
    go_ret
    exact RetI.mk HE.out.symm (Below.refl _ _)
  have HM : Hid (mustC l counts frm slot word = mustOf counts word (l.find? (mustP frm slot))) := by unfold mustC; rw [if_neg h0]; exact rfl
  have hd : (targetOf word == 0) = false := by simpa using h0
  clear h0
  go_enter Tryd.func33, Tryd.ntmps33
  go_wp2_with fail
  refine (specTarget_any _ _).mono ?_
  rintro e w' ⟨rfl, rfl⟩
  go_wp2_with fail
  go_loopw [11] (fun i wr => MustRel w l (mustP frm slot) i wr) (fun i _ => l.length - (intOf i).toNat)
  case atStart => exact ⟨0, Nat.zero_le _, rfl, rfl, Below.refl _ _⟩
  case round =>
    obtain ⟨k, hk, rfl, hf, hb⟩ := hrel
    have HF := Lib.hid hf
    clear hf
    by_cases hlt : k < l.length
    · have hce := cm_cells (h.below hb) hlt
      have HNext := Lib.hid (find_step hlt HF.out)
      have HAt := Lib.hid (find_at hlt HF.out)
      have HGk := Lib.hid (HG.out _ (List.getElem_mem hlt))
      have hgd : l.getD k cm0 = l[k] := by simp [List.getD_eq_getElem?_getD, hlt]
      rw [hgd] at hce
      clear hgd
      generalize l[k] = x at *
      obtain ⟨xk, xf, xs', xp, xt, xg⟩ := x
      have e0 : wr.cell? ⟨g, k * 6, none⟩ = some (.int .i64 xk) := hce 0 (by omega)
      have e1 : wr.cell? ⟨g, k * 6 + 1, none⟩ = some (.int .i64 xf) := hce 1 (by omega)
      have e2 : wr.cell? ⟨g, k * 6 + 2, none⟩ = some (.int .i64 xs') := hce 2 (by omega)
      have e3 : wr.cell? ⟨g, k * 6 + 3, none⟩ = some (.int .i64 xp) := hce 3 (by omega)
      have e4 : wr.cell? ⟨g, k * 6 + 4, none⟩ = some (.int .i64 xt) := hce 4 (by omega)
      have e5 : wr.cell? ⟨g, k * 6 + 5, none⟩ = some (.bool xg) := hce 5 (by omega)
      clear hce
      have hb2 := hb.alloc hb.size (.cells #[.int .i64 xk, .int .i64 xf, .int .i64 xs', .int .i64 xp, .int .i64 xt, .bool xg] 40)
      by_cases q1 : xf = frm
      · by_cases q2 : xs' = slot
        · by_cases q3 : xk = 4 ∨ xk = 7 ∨ xk = 8
          · have HP := Lib.hid (HAt.out (by simp [mustP, q1, q2]; omega))
            have d1 : (xf != frm) = false := by simp [q1]
            have d2 : (xs' != slot) = false := by simp [q2]
            clear q1 q2
            clear HNext HAt
            cases xg
            · have HE : Hid (mustC l counts frm slot word = word) := by rw [HM.out, HP.out]; exact rfl
              clear HP HGk HM
              rcases q3 with rfl | rfl | rfl
              all_goals
                go_wp2_with fail
                go_ret
                exact RetI.mk HE.out.symm hb2
            · obtain ⟨t0, t1⟩ := HGk.out rfl
              simp only at t0 t1
              have HE : Hid (mustC l counts frm slot word = entryOf xt (xk != 4 && counts.getD xt.toNat 0 == 1)) := by rw [HM.out, HP.out]; exact rfl
              obtain ⟨τ, rfl⟩ := Int.eq_ofNat_of_zero_le t0
              rw [Int.toNat_natCast] at HE
              have hτ : τ < 64 := by omega
              obtain ⟨b, off, rfl, hbb, hcc⟩ := hc.2 (by omega)
              have hcx : wr.cell? ⟨b, off + τ, none⟩ = some (.int .i64 (counts.getD τ 0)) := (hb.cell (p := ⟨b, off + τ, none⟩) hbb).trans (hcc τ hτ)
              have hbw : b < wr.heap.size := by have := hb.size; omega
              generalize counts.getD τ 0 = v at *
              clear HP HGk HM t0 t1 hcc
              have n1 : (0 : Int) ≤ (τ : Int) := by omega
              have n2 : (τ : Int) < 64 := by omega
              have hbn : b ≠ wr.heap.size := by omega
              rcases q3 with rfl | rfl | rfl
              all_goals
                go_wp2_with fail
                go_quiet ((go_at_call 52; exact Calls.quiet_of_same (specEntry_still _ _ _)))
                go_wp2_with fail
                go_ret
                refine RetI.mk ?_ (below_drewN hb2 _)
                rw [HE.out]; rfl
          · have HN : Hid ((l.take (k + 1)).find? (mustP frm slot) = none) := by rw [HNext.out, if_neg (by simp [mustP]; omega)]; exact rfl
            have d1 : (xf != frm) = false := by simp [q1]
            have d2 : (xs' != slot) = false := by simp [q2]
            have d4 : (xk != 4) = true := by simp; omega
            have d7 : (xk != 7) = true := by simp; omega
            have d8 : (xk != 8) = true := by simp; omega
            clear q1 q2 q3 HNext HAt
            go_wp2_with fail
            go_roundw
            case rel => exact ⟨k + 1, by omega, by go_num, HN.out, hb2⟩
            case measure => simp [intOf]; omega
        · have HN : Hid ((l.take (k + 1)).find? (mustP frm slot) = none) := by rw [HNext.out, if_neg (by simp [mustP]; omega)]; exact rfl
          have d1 : (xf != frm) = false := by simp [q1]
          have d2 : (xs' != slot) = true := by simpa using q2
          clear q1 q2 HNext HAt
          go_wp2_with fail
          go_roundw
          case rel => exact ⟨k + 1, by omega, by go_num, HN.out, hb2⟩
          case measure => simp [intOf]; omega
      · have HN : Hid ((l.take (k + 1)).find? (mustP frm slot) = none) := by rw [HNext.out, if_neg (by simp [mustP]; omega)]; exact rfl
        have d1 : (xf != frm) = true := by simpa using q1
        clear q1 HNext HAt
        go_wp2_with fail
        go_roundw
        case rel => exact ⟨k + 1, by omega, by go_num, HN.out, hb2⟩
        case measure => simp [intOf]; omega
    · obtain rfl : k = l.length := by omega
      have HE : Hid (mustC l counts frm slot word = word) := by
        have := HF.out
        rw [List.take_length] at this
        rw [HM.out, this]; exact rfl
      go_wp2_with fail
      go_ret
      exact RetI.mk HE.out.symm hb

end Go.Proofs.YtieknpkbmccimaaDoor
