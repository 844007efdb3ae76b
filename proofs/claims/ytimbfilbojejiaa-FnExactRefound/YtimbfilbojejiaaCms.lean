/- Claims, the model's side: that the Go functions compute them. -/
import Derived.Test.YtimbfilbojejiaaCm
import Derived.StillTailTactics
namespace Go.Proofs.Ytimbfilbojejiaa
open Go.RowKit

theorem infoCm : (Try.prog.info? 45).map (fun i => (i.zero, i.size, i.bytes)) = some (some (.agg #[.int .i64 0, .int .i64 0, .int .i64 0, .int .i64 0, .int .i64 0, .bool false]), 6, 48) := by kernel_rfl

/-- It answers yes or no; nothing that was there has turned. -/
def RetB (w : World) (x : Bool) (e : Ending) (w' : World) : Prop := e = .returned (.bool x) ∧ Below w.heap.size w w'
theorem RetB.mk {w w' : World} {x y : Bool} (h : y = x) (hb : Below w.heap.size w w') : RetB w x (.returned (.bool y)) w' := by subst h; exact ⟨rfl, hb⟩

set_option maxHeartbeats 2000000 in
theorem specBars_any (x c : Cm) (w : World) : Calls Try.prog 65 #[cmA x, cmA c] w (RetB w (barsB x c)) := by
  obtain ⟨k, f, s, p, t, g⟩ := x
  obtain ⟨k', f', s', p', t', g'⟩ := c
  have hb := Lib.hid (((Below.refl w.heap.size w).alloc (Nat.le_refl _) (.cells #[.int .i64 k, .int .i64 f, .int .i64 s, .int .i64 p, .int .i64 t, .bool g] 45)).alloc (by simp) (.cells #[.int .i64 k', .int .i64 f', .int .i64 s', .int .i64 p', .int .i64 t', .bool g'] 45))
  unfold cmA
  cases g
  · go_enter Try.func65, Try.ntmps65
    go_wp2
    go_ret
    exact RetB.mk (by simp [barsB]) hb.out
  by_cases ht : t = t'
  · subst ht
    have q1 : (t != t) = false := by simp
    by_cases hk : k' = 7
    · subst hk
      by_cases hk2 : k = 7
      · subst hk2
        by_cases hf : f = f'
        · subst hf
          have q2 : (f == f) = true := by simp
          go_enter Try.func65, Try.ntmps65
          go_wp2
          go_ret
          exact RetB.mk (by simp [barsB]) hb.out
        · have q2 : (f == f') = false := by simpa using hf
          go_enter Try.func65, Try.ntmps65
          go_wp2
          go_ret
          exact RetB.mk (by simp [barsB, hf]) hb.out
      · have q3 : (k == 7) = false := by simpa using hk2
        go_enter Try.func65, Try.ntmps65
        go_wp2
        go_ret
        exact RetB.mk (by simp [barsB, hk2]) hb.out
    · have q4 : (k' == 7) = false := by simpa using hk
      by_cases hk8 : k' = 8
      · subst hk8
        by_cases hk2 : k = 8
        · subst hk2
          go_enter Try.func65, Try.ntmps65
          go_wp2
          go_ret
          exact RetB.mk (by simp [barsB]) hb.out
        · have q3 : (k == 8) = false := by simpa using hk2
          go_enter Try.func65, Try.ntmps65
          go_wp2
          go_ret
          exact RetB.mk (by simp [barsB, hk2]) hb.out
      · have q5 : (k' == 8) = false := by simpa using hk8
        go_enter Try.func65, Try.ntmps65
        go_wp2
        go_ret
        exact RetB.mk (by simp [barsB, hk, hk8]) hb.out
  · have q1 : (t != t') = true := by simpa using ht
    go_enter Try.func65, Try.ntmps65
    go_wp2
    go_ret
    exact RetB.mk (by simp [barsB, ht]) hb.out

/-- Block b holds the claim c. -/
def BoxC (w : World) (b : Nat) (c : Cm) : Prop := w.heap[b]? = some (.cells (cmV c).toArray 45 (0, 0))
theorem BoxC.cell {w : World} {b : Nat} {c : Cm} (h : BoxC w b c) (j : Nat) : w.cell? ⟨b, j, none⟩ = (cmV c)[j]? := by
  have := cell_of_row w b j _ _ _ h
  simpa using this
theorem BoxC.free {w : World} {b : Nat} {c : Cm} (h : BoxC w b c) (j : Nat) : w.frozen? ⟨b, j, none⟩ = false := by
  unfold BoxC at h
  simp [World.frozen?, h]
theorem BoxC.keep {w w' : World} {b : Nat} {c : Cm} (h : BoxC w b c) (hk : w'.heap[b]? = w.heap[b]?) : BoxC w' b c := hk.trans h
theorem BoxC.good {w : World} {b : Nat} {c : Cm} (h : BoxC w b c) (x : Bool) : BoxC (w.setCell ⟨b, 5, none⟩ (.bool x)) b { c with good := x } := by
  unfold BoxC at *
  simp only [World.setCell, Array.getElem?_modify]
  simp [h, cmV]

end Go.Proofs.Ytimbfilbojejiaa
