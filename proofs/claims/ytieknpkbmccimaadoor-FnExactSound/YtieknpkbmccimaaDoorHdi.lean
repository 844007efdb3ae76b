/- Heads: the program's side, and what the model still lacked of chapter 3. -/
import Derived.Test.YtieknpkbmccimaaDoorG8
import Derived.Test.YtieknpkbmccimaaDoorWci
import Derived.StillTailTactics
namespace Go.Proofs.YtieknpkbmccimaaDoor
open Go.RowKit

theorem words3 (a b c : Int) : wordsB [a, b, c] = (wordB a && wordB b && wordB c) := by simp [wordsB, Bool.and_assoc]
theorem headB_lo {s f r t m : Int} (h : ¬ 1 ≤ s) : headB ⟨s, f, r, t, m⟩ = false := by
  have : inB s 1 64 = false := inB_false.2 (fun hh => h hh.1)
  simp [headB, this]
theorem headB_hi {s f r t m : Int} (h : ¬ s ≤ 64) : headB ⟨s, f, r, t, m⟩ = false := by
  have : inB s 1 64 = false := inB_false.2 (fun hh => h hh.2)
  simp [headB, this]
theorem headB_in {s f r t m : Int} (h1 : 1 ≤ s) (h2 : s ≤ 64) : headB ⟨s, f, r, t, m⟩ = (wordsB [f, r, t] && inB m 0 4) := by
  have : inB s 1 64 = true := inB_true.2 ⟨h1, h2⟩
  simp [headB, this, words3, Bool.and_assoc]

set_option maxHeartbeats 1000000 in
theorem implHeadOk_any (h : Hd) (w : World) :
    Calls Tryd.prog 37 #[hdV h] w fun e w' => e = .returned (.bool (headB h)) ∧ Below w.heap.size w w' := by
  obtain ⟨s, f, r, t, m⟩ := h
  have hB := Lib.hid ((Below.refl w.heap.size w).alloc (Nat.le_refl _) (.cells #[.int .i64 s, .int .i64 f, .int .i64 r, .int .i64 t, .int .i64 m] 32))
  unfold hdV
  by_cases h1 : 1 ≤ s
  case neg =>
    have h1' : decide (1 ≤ s) = false := by simpa using h1
    have H := Lib.hid (headB_lo (f := f) (r := r) (t := t) (m := m) h1)
    go_enter Tryd.func37, Tryd.ntmps37
    go_wp2_with fail
    go_ret
    exact ⟨ret_bool H.out.symm, hB.out⟩
  by_cases h2 : s ≤ 64
  case neg =>
    have h2' : decide (s ≤ 64) = false := by simpa using h2
    have H := Lib.hid (headB_hi (f := f) (r := r) (t := t) (m := m) h2)
    go_enter Tryd.func37, Tryd.ntmps37
    go_wp2_with fail
    go_ret
    exact ⟨ret_bool H.out.symm, hB.out⟩
  have H := Lib.hid (headB_in (f := f) (r := r) (t := t) (m := m) h1 h2)
  have HB2 := Lib.hid (hB.out.alloc (by simp) (.cells #[.int .i64 f, .int .i64 r, .int .i64 t] 2))
  go_enter Tryd.func37, Tryd.ntmps37
  go_wp2_with fail
  refine (implWords_any _ _ _ [f, r, t] _ _ (made_ow _ _ [f, r, t] 3 0 (w.heap.size + 2) _ rfl rfl (by omega) (by simp) (by simp) (by simp)).rd (by omega)).mono ?_
  rintro e w' ⟨rfl, rfl⟩
  cases hw : wordsB [f, r, t]
  · go_wp2_with fail
    go_ret
    exact ⟨ret_bool (by rw [H.out, hw]; rfl), HB2.out⟩
  by_cases h3 : 0 ≤ m
  case neg =>
    have h3' : decide (0 ≤ m) = false := by simpa using h3
    have H3 := Lib.hid (inB_false.2 (fun hh => h3 hh.1) : inB m 0 4 = false)
    go_wp2_with fail
    go_ret
    exact ⟨ret_bool (by rw [H.out, hw, H3.out]; rfl), HB2.out⟩
  by_cases h4 : m ≤ 4
  case neg =>
    have h4' : decide (m ≤ 4) = false := by simpa using h4
    have H4 := Lib.hid (inB_false.2 (fun hh => h4 hh.2) : inB m 0 4 = false)
    go_wp2_with fail
    go_ret
    exact ⟨ret_bool (by rw [H.out, hw, H4.out]; rfl), HB2.out⟩
  go_wp2_with fail
  go_ret
  exact ⟨ret_bool (by rw [H.out, hw, inB_true.2 ⟨h3, h4⟩]; rfl), HB2.out⟩

/-- All that stands in the cluster of a head. -/
def hcV (a b : Int) (h : Hd) (z : Int) : Value := .agg #[.int .i64 a, .int .i64 b, .int .i64 h.size, .int .i64 h.first, .int .i64 h.refs, .int .i64 h.shots, .int .i64 h.many, .int .i64 z]

set_option maxHeartbeats 1000000 in
theorem clusterOfHead_any (h : Hd) (w : World) :
    Calls Tryd.prog 38 #[hdV h] w fun e w' => e = .returned (hcV 20559 3 h 0) ∧ Below w.heap.size w w' := by
  obtain ⟨s, f, r, t, m⟩ := h
  unfold hdV
  go_enter Tryd.func38, Tryd.ntmps38
  go_wp2_with fail
  refine bodyPost_ret (v := hcV 20559 3 ⟨s, f, r, t, m⟩ 0) (by simp [results, Tryd.results38, go_sem, hcV]) rfl ⟨rfl, ?_⟩
  exact ((Below.refl _ _).alloc (Nat.le_refl _) _).alloc (by simp) _

/-- The cells of a block that was made just ahead of a call. -/
theorem boxed {w w1 : World} {vs : Array Value} {t : TypeId} (hb : Below (w.alloc (.cells vs t)).heap.size (w.alloc (.cells vs t)) w1) (j : Nat) : w1.cell? ⟨w.heap.size, j, none⟩ = vs[j]? :=
  (hb.cell (p := ⟨w.heap.size, j, none⟩) (by simp)).trans (World.cell?_alloc_new _ _ _ _)

theorem boxedF {w w1 : World} {vs : Array Value} {t : TypeId} (hb : Below (w.alloc (.cells vs t)).heap.size (w.alloc (.cells vs t)) w1) (j : Nat) : w1.frozen? ⟨w.heap.size, j, none⟩ = false :=
  (hb.frozen (p := ⟨w.heap.size, j, none⟩) (by simp)).trans (World.frozen?_alloc_new _ _ _ _)

/-- HeadWords. -/
def hdWords (h : Hd) : List Int := if headB h then hdW h else []
theorem hdWords_no {h : Hd} (hb : headB h = false) : hdWords h = [] := by simp [hdWords, hb]
theorem hdWords_yes {h : Hd} (hb : headB h = true) : hdWords h = hdW h := by simp [hdWords, hb]
theorem hdWords_len (h : Hd) : (hdWords h).length ≤ 8 := by unfold hdWords; split <;> simp [hdW]

set_option maxRecDepth 100000 in
set_option maxHeartbeats 1000000 in
theorem readHead_any (g B c : Nat) (xs : List Int) (w : World) (h : Rd w B (some ⟨g, 0, none⟩) 8 xs) (hB : B ≤ w.heap.size) :
    Calls Tryd.prog 36 #[.slice (some ⟨g, 0, none⟩) 8 c] w fun e w' => e = .returned (hcV (xs.getD 0 0) (xs.getD 1 0) (headOf xs) (xs.getD 7 0)) ∧ Below w.heap.size w w' := by
  obtain ⟨b, off, e, hb, hc⟩ := h.2 (by omega)
  injection e with e
  injection e with e1 e2
  subst e1; subst e2
  have hgn : g ≠ w.heap.size := by omega
  have hgl : g < w.heap.size := by omega
  have c0 := hc 0 (by omega)
  have c1 := hc 1 (by omega)
  have c2 := hc 2 (by omega)
  have c3 := hc 3 (by omega)
  have c4 := hc 4 (by omega)
  have c5 := hc 5 (by omega)
  have c6 := hc 6 (by omega)
  have c7 := hc 7 (by omega)
  simp only [Nat.zero_add] at c0 c1 c2 c3 c4 c5 c6 c7
  unfold headOf
  clear hc h
  generalize xs.getD 0 0 = x0 at *
  generalize xs.getD 1 0 = x1 at *
  generalize xs.getD 2 0 = x2 at *
  generalize xs.getD 3 0 = x3 at *
  generalize xs.getD 4 0 = x4 at *
  generalize xs.getD 5 0 = x5 at *
  generalize xs.getD 6 0 = x6 at *
  generalize xs.getD 7 0 = x7 at *
  go_enter Tryd.func36, Tryd.ntmps36
  go_wp2_with fail
  have d0 := (World.cell?_alloc_lt w (.cells #[.int .i64 0, .int .i64 0, .int .i64 0, .int .i64 0, .int .i64 0, .int .i64 0, .int .i64 0, .int .i64 0] 56) ⟨g, 0, none⟩ hgl).trans c0
  have d1 := (World.cell?_alloc_lt w (.cells #[.int .i64 0, .int .i64 0, .int .i64 0, .int .i64 0, .int .i64 0, .int .i64 0, .int .i64 0, .int .i64 0] 56) ⟨g, 1, none⟩ hgl).trans c1
  have d2 := (World.cell?_alloc_lt w (.cells #[.int .i64 0, .int .i64 0, .int .i64 0, .int .i64 0, .int .i64 0, .int .i64 0, .int .i64 0, .int .i64 0] 56) ⟨g, 2, none⟩ hgl).trans c2
  have d3 := (World.cell?_alloc_lt w (.cells #[.int .i64 0, .int .i64 0, .int .i64 0, .int .i64 0, .int .i64 0, .int .i64 0, .int .i64 0, .int .i64 0] 56) ⟨g, 3, none⟩ hgl).trans c3
  have d4 := (World.cell?_alloc_lt w (.cells #[.int .i64 0, .int .i64 0, .int .i64 0, .int .i64 0, .int .i64 0, .int .i64 0, .int .i64 0, .int .i64 0] 56) ⟨g, 4, none⟩ hgl).trans c4
  have d5 := (World.cell?_alloc_lt w (.cells #[.int .i64 0, .int .i64 0, .int .i64 0, .int .i64 0, .int .i64 0, .int .i64 0, .int .i64 0, .int .i64 0] 56) ⟨g, 5, none⟩ hgl).trans c5
  have d6 := (World.cell?_alloc_lt w (.cells #[.int .i64 0, .int .i64 0, .int .i64 0, .int .i64 0, .int .i64 0, .int .i64 0, .int .i64 0, .int .i64 0] 56) ⟨g, 6, none⟩ hgl).trans c6
  have d7 := (World.cell?_alloc_lt w (.cells #[.int .i64 0, .int .i64 0, .int .i64 0, .int .i64 0, .int .i64 0, .int .i64 0, .int .i64 0, .int .i64 0] 56) ⟨g, 7, none⟩ hgl).trans c7
  have z0 : (w.alloc (.cells #[.int .i64 0, .int .i64 0, .int .i64 0, .int .i64 0, .int .i64 0, .int .i64 0, .int .i64 0, .int .i64 0] 56)).cell? ⟨w.heap.size, 0, none⟩ = some (.int .i64 0) := World.cell?_alloc_new _ _ _ _
  have z1 : (w.alloc (.cells #[.int .i64 0, .int .i64 0, .int .i64 0, .int .i64 0, .int .i64 0, .int .i64 0, .int .i64 0, .int .i64 0] 56)).cell? ⟨w.heap.size, 1, none⟩ = some (.int .i64 0) := World.cell?_alloc_new _ _ _ _
  have z2 : (w.alloc (.cells #[.int .i64 0, .int .i64 0, .int .i64 0, .int .i64 0, .int .i64 0, .int .i64 0, .int .i64 0, .int .i64 0] 56)).cell? ⟨w.heap.size, 2, none⟩ = some (.int .i64 0) := World.cell?_alloc_new _ _ _ _
  have z3 : (w.alloc (.cells #[.int .i64 0, .int .i64 0, .int .i64 0, .int .i64 0, .int .i64 0, .int .i64 0, .int .i64 0, .int .i64 0] 56)).cell? ⟨w.heap.size, 3, none⟩ = some (.int .i64 0) := World.cell?_alloc_new _ _ _ _
  have z4 : (w.alloc (.cells #[.int .i64 0, .int .i64 0, .int .i64 0, .int .i64 0, .int .i64 0, .int .i64 0, .int .i64 0, .int .i64 0] 56)).cell? ⟨w.heap.size, 4, none⟩ = some (.int .i64 0) := World.cell?_alloc_new _ _ _ _
  have z5 : (w.alloc (.cells #[.int .i64 0, .int .i64 0, .int .i64 0, .int .i64 0, .int .i64 0, .int .i64 0, .int .i64 0, .int .i64 0] 56)).cell? ⟨w.heap.size, 5, none⟩ = some (.int .i64 0) := World.cell?_alloc_new _ _ _ _
  have z6 : (w.alloc (.cells #[.int .i64 0, .int .i64 0, .int .i64 0, .int .i64 0, .int .i64 0, .int .i64 0, .int .i64 0, .int .i64 0] 56)).cell? ⟨w.heap.size, 6, none⟩ = some (.int .i64 0) := World.cell?_alloc_new _ _ _ _
  have z7 : (w.alloc (.cells #[.int .i64 0, .int .i64 0, .int .i64 0, .int .i64 0, .int .i64 0, .int .i64 0, .int .i64 0, .int .i64 0] 56)).cell? ⟨w.heap.size, 7, none⟩ = some (.int .i64 0) := World.cell?_alloc_new _ _ _ _
  have k0 : (w.alloc (.cells #[.int .i64 0, .int .i64 0, .int .i64 0, .int .i64 0, .int .i64 0, .int .i64 0, .int .i64 0, .int .i64 0] 56)).frozen? ⟨w.heap.size, 0, none⟩ = false := World.frozen?_alloc_new _ _ _ _
  have k1 : (w.alloc (.cells #[.int .i64 0, .int .i64 0, .int .i64 0, .int .i64 0, .int .i64 0, .int .i64 0, .int .i64 0, .int .i64 0] 56)).frozen? ⟨w.heap.size, 1, none⟩ = false := World.frozen?_alloc_new _ _ _ _
  have k2 : (w.alloc (.cells #[.int .i64 0, .int .i64 0, .int .i64 0, .int .i64 0, .int .i64 0, .int .i64 0, .int .i64 0, .int .i64 0] 56)).frozen? ⟨w.heap.size, 2, none⟩ = false := World.frozen?_alloc_new _ _ _ _
  have k3 : (w.alloc (.cells #[.int .i64 0, .int .i64 0, .int .i64 0, .int .i64 0, .int .i64 0, .int .i64 0, .int .i64 0, .int .i64 0] 56)).frozen? ⟨w.heap.size, 3, none⟩ = false := World.frozen?_alloc_new _ _ _ _
  have k4 : (w.alloc (.cells #[.int .i64 0, .int .i64 0, .int .i64 0, .int .i64 0, .int .i64 0, .int .i64 0, .int .i64 0, .int .i64 0] 56)).frozen? ⟨w.heap.size, 4, none⟩ = false := World.frozen?_alloc_new _ _ _ _
  have k5 : (w.alloc (.cells #[.int .i64 0, .int .i64 0, .int .i64 0, .int .i64 0, .int .i64 0, .int .i64 0, .int .i64 0, .int .i64 0] 56)).frozen? ⟨w.heap.size, 5, none⟩ = false := World.frozen?_alloc_new _ _ _ _
  have k6 : (w.alloc (.cells #[.int .i64 0, .int .i64 0, .int .i64 0, .int .i64 0, .int .i64 0, .int .i64 0, .int .i64 0, .int .i64 0] 56)).frozen? ⟨w.heap.size, 6, none⟩ = false := World.frozen?_alloc_new _ _ _ _
  have k7 : (w.alloc (.cells #[.int .i64 0, .int .i64 0, .int .i64 0, .int .i64 0, .int .i64 0, .int .i64 0, .int .i64 0, .int .i64 0] 56)).frozen? ⟨w.heap.size, 7, none⟩ = false := World.frozen?_alloc_new _ _ _ _
  have hB := Lib.hid ((Below.refl w.heap.size w).alloc (Nat.le_refl _) (.cells #[.int .i64 0, .int .i64 0, .int .i64 0, .int .i64 0, .int .i64 0, .int .i64 0, .int .i64 0, .int .i64 0] 56))
  clear c0 c1 c2 c3 c4 c5 c6 c7
  generalize (w.alloc (.cells #[.int .i64 0, .int .i64 0, .int .i64 0, .int .i64 0, .int .i64 0, .int .i64 0, .int .i64 0, .int .i64 0] 56)) = w1 at *
  go_still_tail 26, (by kernel_rfl)
  go_wp2_with fail
  refine bodyPost_ret (v := hcV x0 x1 ⟨x2, x3, x4, x5, x6⟩ x7) (by simp [results, Tryd.results36, go_sem, hcV, z0, z1, z2, z3, z4, z5, z6, z7]) rfl ⟨rfl, ?_⟩
  exact ((((((((hB.out.setCell (Nat.le_refl _) _).setCell (Nat.le_refl _) _).setCell (Nat.le_refl _) _).setCell (Nat.le_refl _) _).setCell (Nat.le_refl _) _).setCell (Nat.le_refl _) _).setCell (Nat.le_refl _) _).setCell (Nat.le_refl _) _).drew
end Go.Proofs.YtieknpkbmccimaaDoor
