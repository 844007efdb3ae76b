/- Defects: the tables that are gone into (l11Has, l11Tables). -/
import Derived.Test.YtieknpkbmccimaaGreatDoorG7
namespace Go.Proofs.YtieknpkbmccimaaGreatDoor
open Go.RowKit

def hasB (o : List Int) (x : Int) : Bool := o.contains x
theorem hasB_mem {o : List Int} {x : Int} : hasB o x = true ↔ x ∈ o := by unfold hasB; exact List.contains_iff_mem
theorem hasB_not {o : List Int} {x : Int} : hasB o x = false ↔ ¬ x ∈ o := by rw [← hasB_mem]; simp
theorem hasB_step (ys : List Int) (k : Nat) (h : k < ys.length) (x : Int) : hasB (ys.take (k + 1)) x = (hasB (ys.take k) x || (x == ys.getD k 0)) := by
  rw [Bool.eq_iff_iff, hasB_mem, Bool.or_eq_true, hasB_mem, List.take_succ_eq_append_getElem h, List.mem_append, List.getD_eq_getElem?_getD, List.getElem?_eq_getElem h, List.mem_singleton, beq_iff_eq]
  rfl
def inTab (k : Nat) (c : Cm) : Bool := (k == 0 && c.kind == 3) || ((k == 1 && (c.kind == 2 || c.kind == 6)) || (k == 2 && c.kind == 7))
def tblStep (k : Nat) (o : List Int) (c : Cm) : List Int := if (inTab k c && c.good) = true ∧ hasB o c.target = false then o ++ [c.target] else o
def tblRound (l : List Cm) (o : List Int) (k : Nat) : List Int := l.foldl (tblStep k) o
/-- The tables that are gone into, each but once. -/
def tablesC (l : List Cm) : List Int := (List.range 3).foldl (tblRound l) []

theorem tblStep_mem {k : Nat} {o : List Int} {c : Cm} {t : Int} (h : t ∈ tblStep k o c) : t ∈ o ∨ (t = c.target ∧ c.good = true ∧ (c.kind = 2 ∨ c.kind = 3 ∨ c.kind = 6 ∨ c.kind = 7)) := by
  unfold tblStep at h
  split at h
  · rename_i hc
    rw [List.mem_append] at h
    rcases h with h | h
    · exact .inl h
    · rw [List.mem_singleton] at h
      refine .inr ⟨h, ?_⟩
      have := hc.1
      simp [inTab] at this
      refine ⟨this.2, ?_⟩
      have := this.1
      omega
  · exact .inl h
theorem tbl_mem (l : List Cm) (k : Nat) : ∀ (o : List Int) (t : Int), t ∈ l.foldl (tblStep k) o → t ∈ o ∨ ∃ c ∈ l, t = c.target ∧ c.good = true ∧ (c.kind = 2 ∨ c.kind = 3 ∨ c.kind = 6 ∨ c.kind = 7) := by
  induction l with
  | nil => intro o t h; exact .inl h
  | cons c l ih =>
    intro o t h
    rw [List.foldl_cons] at h
    rcases ih _ _ h with h1 | ⟨x, hx, h2⟩
    · rcases tblStep_mem h1 with h3 | h3
      · exact .inl h3
      · exact .inr ⟨c, by simp, h3⟩
    · exact .inr ⟨x, by simp [hx], h2⟩
theorem tables_mem {l : List Cm} {t : Int} (h : t ∈ tablesC l) : ∃ c ∈ l, t = c.target ∧ c.good = true ∧ (c.kind = 2 ∨ c.kind = 3 ∨ c.kind = 6 ∨ c.kind = 7) := by
  have : tablesC l = tblRound l (tblRound l (tblRound l [] 0) 1) 2 := rfl
  rw [this] at h
  rcases tbl_mem l 2 _ t h with h | h
  · rcases tbl_mem l 1 _ t h with h | h
    · rcases tbl_mem l 0 _ t h with h | h
      · cases h
      · exact h
    · exact h
  · exact h
/-- Each is there. -/
theorem tables_there {xs : List Int} {t : Int} (h : t ∈ tablesC (claimsC xs)) : thereB xs t = true := by
  obtain ⟨c, hc, rfl, hg, hk⟩ := tables_mem h
  rcases (claims_ok xs c hc).lead hg with h1 | h1
  · omega
  · exact h1
theorem tbl_nodup (l : List Cm) (k : Nat) : ∀ o : List Int, o.Nodup → (l.foldl (tblStep k) o).Nodup := by
  induction l with
  | nil => intro o h; exact h
  | cons c l ih =>
    intro o h
    rw [List.foldl_cons]
    apply ih
    unfold tblStep
    split
    · rename_i hc
      rw [List.nodup_append]
      refine ⟨h, by simp, ?_⟩
      intro a ha b hb
      rw [List.mem_singleton] at hb
      subst hb
      rintro rfl
      exact hasB_not.1 hc.2 ha
    · exact h
theorem tables_nodup (l : List Cm) : (tablesC l).Nodup := tbl_nodup l 2 _ (tbl_nodup l 1 _ (tbl_nodup l 0 _ List.nodup_nil))
theorem tbl_length (l : List Cm) (k : Nat) : ∀ o : List Int, (l.foldl (tblStep k) o).length ≤ o.length + l.length := by
  induction l with
  | nil => intro o; simp
  | cons c l ih =>
    intro o
    rw [List.foldl_cons, List.length_cons]
    have := ih (tblStep k o c)
    have h2 : (tblStep k o c).length ≤ o.length + 1 := by unfold tblStep; split <;> simp
    omega

set_option maxHeartbeats 1000000 in
theorem specHas_any (A : Option Addr) (n c B : Nat) (ys : List Int) (x : Int) (w : World) (h : Rd w B A n ys) (hn : n ≤ 2097152) :
    Calls Tryz.prog 54 #[.slice A n c, .int .i64 x] w fun e w' => e = .returned (.bool (hasB ys x)) ∧ w = w' := by
  have hx := Lib.hid h.len
  go_enter Tryz.func54, Tryz.ntmps54
  go_wp2_with fail
  go_loop [5] (fun i => ∃ k : Nat, k ≤ n ∧ i = .int .i64 k ∧ hasB (ys.take k) x = false) (fun i => n - (intOf i).toNat)
  case atStart => exact ⟨0, Nat.zero_le _, rfl, rfl⟩
  case round =>
    obtain ⟨k, hk, rfl, ht⟩ := hrel
    have HT := Lib.hid ht
    clear ht
    by_cases hlt : k < n
    · obtain ⟨b, off, rfl, hbb, hc⟩ := h.2 (by omega)
      have hcx := hc k hlt
      have hky : k < ys.length := by have := hx.out; omega
      have HS := Lib.hid (hasB_step ys k hky x)
      have HM : Hid (ys.getD k 0 ∈ ys) := by
        rw [List.getD_eq_getElem?_getD, List.getElem?_eq_getElem hky]
        exact List.getElem_mem hky
      clear hc
      generalize ys.getD k 0 = y at *
      by_cases hxy : y = x
      · subst hxy
        have hd : (y == y) = true := by simp
        have HC : Hid (hasB ys y = true) := hasB_mem.2 HM.out
        go_wp2_with fail
        go_ret
        exact ⟨ret_bool HC.out.symm, rfl⟩
      · have hd : (y == x) = false := by simpa using hxy
        have HC : Hid (hasB (ys.take (k + 1)) x = false) := by
          rw [HS.out, HT.out, Bool.false_or]; exact beq_eq_false_iff_ne.2 (fun e => hxy e.symm)
        go_wp2_with fail
        go_round
        case rel => exact ⟨k + 1, by omega, by go_num, HC.out⟩
        case measure => simp [intOf]; omega
    · obtain rfl : k = n := by omega
      go_wp2_with fail
      go_ret
      have e := HT.out
      rw [List.take_of_length_le (by have := hx.out; omega)] at e
      exact ⟨ret_bool e.symm, rfl⟩

end Go.Proofs.YtieknpkbmccimaaGreatDoor
