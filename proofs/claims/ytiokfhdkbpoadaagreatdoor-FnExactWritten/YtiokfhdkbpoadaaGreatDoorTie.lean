/-
  DERIVED. GIVEN WITH THE SEED: THE PROGRAM's TIES (one call each: nine closed facts by the kernel) AND EACH ROW's TIE, after the 31st guide's Derived/Test/Toyas{Tie, Card}.lean. No idea stands in it: it is a product of the set-up. Laid BY PROGRAM, IN A SANDBOX (cutbox-door.mjs). By AI agents, Wed Nov 11 2026. No macro, syntax, notation, axiom, sorry.
-/
import Derived.Test.YtiokfhdkbpoadaaGreatDoorRows
import Derived.LaidByTextLater
import Derived.SevenTiedAt
import Derived.LaidSub
import Derived.LaidOnce
namespace Go.Proofs.YtiokfhdkbpoadaaGreatDoor
open Go
set_option maxRecDepth 100000
theorem seatTie1 : Tryz.prog.laidByTextLater [("loop.example/g00821/impl.errNoImage", Rows.laid_loop_example_g00821_impl_errNoImage), ("loop.example/g00821/impl.errMild", Rows.laid_loop_example_g00821_impl_errMild), ("loop.example/g00821/impl.errGrave", Rows.laid_loop_example_g00821_impl_errGrave)] [.sentinel, .sentinel, .sentinel] true :=
  Program.laidByTextLater_by_one 66 8 2 (by kernel_rfl) (by kernel_rfl) (by kernel_rfl) (by kernel_rfl) (by kernel_rfl) (by kernel_rfl) (fun _ _ => by kernel_rfl)
theorem noOwnUnsafe : Tryz.pinned.checked.prog.headLifts.contains "ownunsafe" = false := by kernel_rfl
theorem tie : Tryz.prog.laidByTextLater [("loop.example/g00821/impl.errNoImage", Rows.laid_loop_example_g00821_impl_errNoImage), ("loop.example/g00821/impl.errMild", Rows.laid_loop_example_g00821_impl_errMild), ("loop.example/g00821/impl.errGrave", Rows.laid_loop_example_g00821_impl_errGrave)] [.sentinel, .sentinel, .sentinel] true :=
  Program.laidByTextLater.sub seatTie1 ["loop.example/g00821/impl.errNoImage", "loop.example/g00821/impl.errMild", "loop.example/g00821/impl.errGrave"] (by kernel_rfl) (by kernel_rfl)
theorem fnExactWritten_row_tie : Rows.fnExactWrittenRow.laidByTextAt .later Tryz.pinned [.sentinel, .sentinel, .sentinel] true :=
  OpenClaim.laidByTextAt_later rfl rfl tie noOwnUnsafe
theorem fnExactPictured_row_tie : Rows.fnExactPicturedRow.laidByTextAt .later Tryz.pinned [.sentinel, .sentinel, .sentinel] true :=
  OpenClaim.laidByTextAt_later rfl rfl tie noOwnUnsafe
theorem fnExactWrittenUpto_row_tie : Rows.fnExactWrittenUptoRow.laidByTextAt .later Tryz.pinned [.sentinel, .sentinel, .sentinel] true :=
  OpenClaim.laidByTextAt_later rfl rfl tie noOwnUnsafe
theorem fnExactPicturedUpto_row_tie : Rows.fnExactPicturedUptoRow.laidByTextAt .later Tryz.pinned [.sentinel, .sentinel, .sentinel] true :=
  OpenClaim.laidByTextAt_later rfl rfl tie noOwnUnsafe
end Go.Proofs.YtiokfhdkbpoadaaGreatDoor
