/- Heads: the program's side, and what the model still lacked of chapter 3. -/
import Derived.Test.YtibokhkohanoaaaHd
import Derived.Test.YtibokhkohanoaaaWci
import Derived.StillTailTactics
namespace Go.Proofs.Ytibokhkohanoaaa
open Go.RowKit

theorem words3 (a b c : Int) : wordsB [a, b, c] = (wordB a && wordB b && wordB c) := by simp [wordsB, Bool.and_assoc]
theorem headB_lo {s f r t m : Int} (h : ¬ 1 ≤ s) : headB ⟨s, f, r, t, m⟩ = false := by
  have : inB s 1 64 = false := inB_false.2 (fun hh => h hh.1)
  simp [headB, this]
theorem headB_hi {s f r t m : Int} (h : ¬ s ≤ 64) : headB ⟨s, f, r, t, m⟩ = false := by
  have : inB s 1 64 = false := inB_false.2 (fun hh => h hh.2)
  simp [headB, this]
theorem headB_in {s f r t m : Int} (h1 : 1 ≤ s) (h2 : s ≤ 64) : headB ⟨s, f, r, t, m⟩ = (wordsB [f, r, t] && inB m 0 4) := by
  have : inB s 1 64 = true := inB_true.2 ⟨h1, h2⟩
  simp [headB, this, words3, Bool.and_assoc]

set_option maxHeartbeats 1000000 in
theorem implHeadOk_any (h : Hd) (w : World) :
    Calls Try.prog 13 #[hdV h] w fun e w' => e = .returned (.bool (headB h)) ∧ Below w.heap.size w w' := by
  obtain ⟨s, f, r, t, m⟩ := h
  have hB := Lib.hid ((Below.refl w.heap.size w).alloc (Nat.le_refl _) (.cells #[.int .i64 s, .int .i64 f, .int .i64 r, .int .i64 t, .int .i64 m] 30))
  unfold hdV
  by_cases h1 : 1 ≤ s
  case neg =>
    have h1' : decide (1 ≤ s) = false := by simpa using h1
    have H := Lib.hid (headB_lo (f := f) (r := r) (t := t) (m := m) h1)
    go_enter Try.func13, Try.ntmps13
    go_wp2_with fail
    go_ret
    exact ⟨ret_bool H.out.symm, hB.out⟩
  by_cases h2 : s ≤ 64
  case neg =>
    have h2' : decide (s ≤ 64) = false := by simpa using h2
    have H := Lib.hid (headB_hi (f := f) (r := r) (t := t) (m := m) h2)
    go_enter Try.func13, Try.ntmps13
    go_wp2_with fail
    go_ret
    exact ⟨ret_bool H.out.symm, hB.out⟩
  have H := Lib.hid (headB_in (f := f) (r := r) (t := t) (m := m) h1 h2)
  have HB2 := Lib.hid (hB.out.alloc (by simp) (.cells #[.int .i64 f, .int .i64 r, .int .i64 t] 2))
  go_enter Try.func13, Try.ntmps13
  go_wp2_with fail
  refine (implWords_any _ _ _ [f, r, t] _ _ (made_ow _ _ [f, r, t] 3 0 (w.heap.size + 2) _ rfl rfl (by omega) (by simp) (by simp) (by simp)).rd (by omega)).mono ?_
  rintro e w' ⟨rfl, rfl⟩
  cases hw : wordsB [f, r, t]
  · go_wp2_with fail
    go_ret
    exact ⟨ret_bool (by rw [H.out, hw]; rfl), HB2.out⟩
  by_cases h3 : 0 ≤ m
  case neg =>
    have h3' : decide (0 ≤ m) = false := by simpa using h3
    have H3 := Lib.hid (inB_false.2 (fun hh => h3 hh.1) : inB m 0 4 = false)
    go_wp2_with fail
    go_ret
    exact ⟨ret_bool (by rw [H.out, hw, H3.out]; rfl), HB2.out⟩
  by_cases h4 : m ≤ 4
  case neg =>
    have h4' : decide (m ≤ 4) = false := by simpa using h4
    have H4 := Lib.hid (inB_false.2 (fun hh => h4 hh.2) : inB m 0 4 = false)
    go_wp2_with fail
    go_ret
    exact ⟨ret_bool (by rw [H.out, hw, H4.out]; rfl), HB2.out⟩
  go_wp2_with fail
  go_ret
  exact ⟨ret_bool (by rw [H.out, hw, inB_true.2 ⟨h3, h4⟩]; rfl), HB2.out⟩

/-- All that stands in the cluster of a head. -/
def hcV (a b : Int) (h : Hd) (z : Int) : Value := .agg #[.int .i64 a, .int .i64 b, .int .i64 h.size, .int .i64 h.first, .int .i64 h.refs, .int .i64 h.shots, .int .i64 h.many, .int .i64 z]

set_option maxHeartbeats 1000000 in
theorem clusterOfHead_any (h : Hd) (w : World) :
    Calls Try.prog 14 #[hdV h] w fun e w' => e = .returned (hcV 20559 3 h 0) ∧ Below w.heap.size w w' := by
  obtain ⟨s, f, r, t, m⟩ := h
  unfold hdV
  go_enter Try.func14, Try.ntmps14
  go_wp2_with fail
  refine bodyPost_ret (v := hcV 20559 3 ⟨s, f, r, t, m⟩ 0) (by simp [results, Try.results14, go_sem, hcV]) rfl ⟨rfl, ?_⟩
  exact ((Below.refl _ _).alloc (Nat.le_refl _) _).alloc (by simp) _

/-- The cells of a block that was made just ahead of a call. -/
theorem boxed {w w1 : World} {vs : Array Value} {t : TypeId} (hb : Below (w.alloc (.cells vs t)).heap.size (w.alloc (.cells vs t)) w1) (j : Nat) : w1.cell? ⟨w.heap.size, j, none⟩ = vs[j]? :=
  (hb.cell (p := ⟨w.heap.size, j, none⟩) (by simp)).trans (World.cell?_alloc_new _ _ _ _)

theorem boxedF {w w1 : World} {vs : Array Value} {t : TypeId} (hb : Below (w.alloc (.cells vs t)).heap.size (w.alloc (.cells vs t)) w1) (j : Nat) : w1.frozen? ⟨w.heap.size, j, none⟩ = false :=
  (hb.frozen (p := ⟨w.heap.size, j, none⟩) (by simp)).trans (World.frozen?_alloc_new _ _ _ _)

/-- HeadWords. -/
def hdWords (h : Hd) : List Int := if headB h then hdW h else []
theorem hdWords_no {h : Hd} (hb : headB h = false) : hdWords h = [] := by simp [hdWords, hb]
theorem hdWords_yes {h : Hd} (hb : headB h = true) : hdWords h = hdW h := by simp [hdWords, hb]
theorem hdWords_len (h : Hd) : (hdWords h).length ≤ 8 := by unfold hdWords; split <;> simp [hdW]

set_option maxHeartbeats 1000000 in
theorem implHeadWords_any (h : Hd) (w : World) : Calls Try.prog 11 #[hdV h] w (Ret w (hdWords h)) := by
  obtain ⟨s, f, r, t, m⟩ := h
  have hB := Lib.hid ((Below.refl w.heap.size w).alloc (Nat.le_refl _) (.cells #[.int .i64 s, .int .i64 f, .int .i64 r, .int .i64 t, .int .i64 m] 30))
  cases hb : headB ⟨s, f, r, t, m⟩
  · have H := Lib.hid (hdWords_no hb)
    unfold hdV
    go_enter Try.func11, Try.ntmps11
    go_wp2_with fail
    refine (implHeadOk_any ⟨s, f, r, t, m⟩ _).mono ?_
    rintro e w1 ⟨rfl, b1⟩
    have b01 := below_more hB.out b1 hB.out.size
    go_wp2_with fail
    go_ret
    rw [H.out]
    exact Ret.nil _ _ b01
  · have H := Lib.hid (hdWords_yes hb)
    unfold hdV
    go_enter Try.func11, Try.ntmps11
    go_wp2_with fail
    refine (implHeadOk_any ⟨s, f, r, t, m⟩ _).mono ?_
    rintro e w1 ⟨rfl, b1⟩
    have b01 := below_more hB.out b1 hB.out.size
    have c0 : w1.cell? ⟨w.heap.size, 0, none⟩ = some (.int .i64 s) := boxed b1 0
    have c1 : w1.cell? ⟨w.heap.size, 1, none⟩ = some (.int .i64 f) := boxed b1 1
    have c2 : w1.cell? ⟨w.heap.size, 2, none⟩ = some (.int .i64 r) := boxed b1 2
    have c3 : w1.cell? ⟨w.heap.size, 3, none⟩ = some (.int .i64 t) := boxed b1 3
    have c4 : w1.cell? ⟨w.heap.size, 4, none⟩ = some (.int .i64 m) := boxed b1 4
    have hz1 : w.heap.size < w1.heap.size := by have := b1.size; simp at this; omega
    go_wp2_with fail
    refine (clusterOfHead_any ⟨s, f, r, t, m⟩ w1).mono ?_
    rintro e w2 ⟨rfl, b2⟩
    have b02 := below_more b01 b2 b01.size
    have c0 := (b2.cell (p := ⟨w.heap.size, 0, none⟩) hz1).trans c0
    have c1 := (b2.cell (p := ⟨w.heap.size, 1, none⟩) hz1).trans c1
    have c2 := (b2.cell (p := ⟨w.heap.size, 2, none⟩) hz1).trans c2
    have c3 := (b2.cell (p := ⟨w.heap.size, 3, none⟩) hz1).trans c3
    have c4 := (b2.cell (p := ⟨w.heap.size, 4, none⟩) hz1).trans c4
    have hz2 : w.heap.size < w2.heap.size := by have := b2.size; omega
    have hzn : w.heap.size ≠ w2.heap.size := by omega
    clear b1 b2 b01
    unfold hcV
    go_wp2_with fail
    go_ret
    rw [H.out]
    exact ⟨_, 8, 8, rfl, made_ow _ _ (hdW ⟨s, f, r, t, m⟩) 8 _ _ _ rfl rfl (by omega) (by simp; omega) (by simp) (by simp), (b02.alloc b02.size _).alloc (by simp; omega) _⟩

end Go.Proofs.Ytibokhkohanoaaa