/- Sound (chapter 11): the program's side; and what the package-level variables hold. What the row's list of package-level variables gives the walks: three errors at three places, and the handle of a type. -/
import Derived.Test.YtiokfhdkbpoadaaGreatDoorX7
import Derived.Test.YtiokfhdkbpoadaaGreatDoorRows
import Derived.Stop.LaidTwo
import Derived.LaidLaws
namespace Go.Proofs.YtiokfhdkbpoadaaGreatDoor
open Go.RowKit

set_option maxHeartbeats 1000000 in
theorem implSound_any (hC : ClaimsC) (hL : LooseC) (hCo : CountsC) (hSt : StoredC) (hT : TableC) {aN aM aG : Addr} {W : World} (hG : GlE W aN aM aG) : SoundC W := by
  intro A n c xs w hb hr hn hnc
  have hGw := hG.below hb hG.size
  have HS : Hid (soundB xs = decide ((errsL aN aM aG xs).length = 0)) := by
    unfold soundB errsL
    cases imgB xs <;> simp [Hid]
  have HW := Lib.hid (allWrong_any hC hL hCo hSt hT A n c xs w hGw hr hn hnc)
  generalize errsL aN aM aG xs = es at *
  generalize hne : es.length = ne at *
  cases hz : decide (ne = 0)
  · have dz : ((ne : Int) == 0) = false := by simp at hz ⊢; omega
    go_enter Tryz.func26, Tryz.ntmps26
    go_wp2_with fail
    refine HW.out.mono ?_
    rintro e w2 ⟨X, cx, rfl, oX, b2⟩
    go_wp2_with fail
    go_ret
    exact ⟨ret_bool (by rw [HS.out, hz]), b2⟩
  · have dz : ((ne : Int) == 0) = true := by simp at hz ⊢; omega
    go_enter Tryz.func26, Tryz.ntmps26
    go_wp2_with fail
    refine HW.out.mono ?_
    rintro e w2 ⟨X, cx, rfl, oX, b2⟩
    go_wp2_with fail
    go_ret
    exact ⟨ret_bool (by rw [HS.out, hz]), b2⟩

/-- The errors' texts lie in rows of their own: 2 is not the others. -/
structure GlA (W : World) (aN aM aG : Addr) : Prop where
  none : ∃ ca ta, W.heap[aN.block]? = some (.cells ca ta (0, 0))
  mild : ∃ ca ta, W.heap[aM.block]? = some (.cells ca ta (0, 0))
  grave : ∃ ca ta, W.heap[aG.block]? = some (.cells ca ta (0, 0))
  nm : aN ≠ aM
  gm : aG ≠ aM
theorem GlA.below {W w : World} {aN aM aG : Addr} (h : GlA W aN aM aG) (hb : Below W.heap.size W w) : GlA w aN aM aG := by
  obtain ⟨⟨c1, t1, h1⟩, ⟨c2, t2, h2⟩, ⟨c3, t3, h3⟩, n1, n2⟩ := h
  exact ⟨⟨c1, t1, (hb.block _ (Array.getElem?_eq_some_iff.1 h1).1).trans h1⟩, ⟨c2, t2, (hb.block _ (Array.getElem?_eq_some_iff.1 h2).1).trans h2⟩, ⟨c3, t3, (hb.block _ (Array.getElem?_eq_some_iff.1 h3).1).trans h3⟩, n1, n2⟩

theorem lv_gN : Tryz.prog.globalNamed "loop.example/g00821/impl.errNoImage" = some 0 := by kernel_rfl
theorem lv_gM : Tryz.prog.globalNamed "loop.example/g00821/impl.errMild" = some 2 := by kernel_rfl
theorem lv_gG : Tryz.prog.globalNamed "loop.example/g00821/impl.errGrave" = some 1 := by kernel_rfl
theorem lv_tN : (Tryz.prog.globals[0]?).map (·.type) = some 90 := by kernel_rfl
theorem lv_tM : (Tryz.prog.globals[2]?).map (·.type) = some 90 := by kernel_rfl
theorem lv_tG : (Tryz.prog.globals[1]?).map (·.type) = some 90 := by kernel_rfl
theorem lv_cE : Tryz.prog.cellsOf 154 = 1 := by kernel_rfl
theorem lv_cS : Tryz.prog.cellsOf 9 = 1 := by kernel_rfl
theorem lv_star : "*" ++ "errors.errorString" = "*errors.errorString" := by decide
theorem lv_row (u : TypeId) (h : Tryz.prog.typeName? 3 u = some "*errors.errorString") : u = 136 :=
  typeName_ptr_named (nm := "errors.errorString") (by rw [lv_star]; kernel_rfl) (by kernel_rfl) (by decide) u (by rw [lv_star]; exact h)

/-- The list of the three errors, 90 each. -/
def errsLaid : List (String × DataW Unit) := [("loop.example/g00821/impl.errNoImage", Rows.laid_loop_example_g00821_impl_errNoImage), ("loop.example/g00821/impl.errMild", Rows.laid_loop_example_g00821_impl_errMild), ("loop.example/g00821/impl.errGrave", Rows.laid_loop_example_g00821_impl_errGrave)]
theorem errs_of_laid {W : World} (h : laidMet Tryz.prog errsLaid W) : ∃ aN aM aG, GlE W aN aM aG ∧ GlA W aN aM aG := by
  obtain ⟨a0, a1, s0, s1, c0, c1, t0, t1, hv0, hv1, _, _, _, _, _, _, hne, hb0, hb1⟩ := laid_sentinels2 h lv_gN lv_tN lv_gM lv_tM Tryz.underlying90 lv_row Tryz.underlying136 Tryz.underlying154 rfl rfl Tryz.underlying9 lv_cE lv_cS
  obtain ⟨a1', a2, _, _, c1', c2, t1', t2, hv1', hv2, _, _, _, _, _, _, hne2, hb1', hb2⟩ := laid_sentinels2 (laidMet.tail h) lv_gM lv_tM lv_gG lv_tG Tryz.underlying90 lv_row Tryz.underlying136 Tryz.underlying154 rfl rfl Tryz.underlying9 lv_cE lv_cS
  have e : a1' = a1 := by
    have := hv1'.symm.trans hv1
    simpa using this
  subst e
  have k0 : W.cell? ⟨0, 0, none⟩ = some (.iface 136 (.pointer (some a0))) := by simpa using World.var?_cell lv_gN hv0 0
  have k1 : W.cell? ⟨2, 0, none⟩ = some (.iface 136 (.pointer (some a1'))) := by simpa using World.var?_cell lv_gM hv1 0
  have k2 : W.cell? ⟨1, 0, none⟩ = some (.iface 136 (.pointer (some a2))) := by simpa using World.var?_cell lv_gG hv2 0
  have j0 : 0 < W.heap.size := World.block_lt_of_cell? W _ k0
  have j1 : 2 < W.heap.size := World.block_lt_of_cell? W _ k1
  have j2 : 1 < W.heap.size := World.block_lt_of_cell? W _ k2
  exact ⟨a0, a1', a2, ⟨by omega, k0, k1, k2⟩, ⟨⟨c0, t0, hb0⟩, ⟨c1, t1, hb1⟩, ⟨c2, t2, hb2⟩, hne, fun e => hne2 e.symm⟩⟩

end Go.Proofs.YtiokfhdkbpoadaaGreatDoor
