/-
  NARROWER THAN 'FOR EVERY INPUT', by the rows' own cells (each row's printed sentence says how): FnExactWritten: ifaces, laid · FnExactPictured: ifaces, laid.
  DERIVED. THE GIVEN ROWS OF THIS SEAT. 2 by the template 'for every input the law returns true; each argument reads behind the call as it read before'; 0 by the template 'total and deterministic' (their statements: YtiokfhdkbpoadaaGreatDoorTotals.lean).
  GIVEN WITH THE SEED: the statements are not yours to turn. If you find one false, say at which input.
  Laid BY PROGRAM, IN A SANDBOX (cutbox-rows.mjs): the forced cells as the released guide's own fill.sh prints them over the translation ac9513603126baa2… (all of the seat's roots in one cut). By AI agents, Wed Nov 11 2026. No macro, syntax, notation, axiom, sorry.
-/
import Derived.Test.YtiokfhdkbpoadaaGreatDoorChecked
import GoSem.Claim
import GoSem.ClaimJoined
import GoSem.ClaimMapViews
import Derived.JoinedTies
import Derived.KernelRfl
namespace Go.Proofs.YtiokfhdkbpoadaaGreatDoor
/- THE CELL 'sum', in the pinned program and in every row, IS THE sha256 OF THE DUMP (.gsa) THAT YtiokfhdkbpoadaaGreatDoorProg.lean LOADS. Nothing in Lean hashes anything: it is a label: what it is worth is what the hold of that sum in a sandbox is worth. -/
noncomputable def Tryz.pinned : Pinned := { name := "ytiokfhdkbpoadaagreatdoor", sum := "ac9513603126baa27c21e7b4856fab9af072773395766c7cff182c1b4fd4610c", checked := Tryz.checked }
namespace Rows
def none {H : Type} : Left H := { results := [], args := [] }

/- WHAT THE LISTED PACKAGE-LEVEL VARIABLES READ AS WHEN THE CALL BEGINS. Each datum BY PROGRAM (the guide's laid-datum.mjs) off the statement by which the dump's own 'gosem.cut.vars' lays the variable. In a bare row this is a premise. The card (YtiokfhdkbpoadaaGreatDoorCards.lean) ties it to the program's text. -/
def laid_loop_example_g00821_impl_errNoImage {H : Type} : DataW H := .iface "*errors.errorString" (.ptr (.agg [.lit (.string [116, 104, 101, 114, 101, 32, 105, 115, 32, 110, 111, 32, 105, 109, 97, 103, 101])]))
def laid_loop_example_g00821_impl_errMild {H : Type} : DataW H := .iface "*errors.errorString" (.ptr (.agg [.lit (.string [110, 111, 116, 104, 105, 110, 103, 32, 105, 115, 32, 108, 111, 115, 116, 32, 98, 121, 32, 105, 116])]))
def laid_loop_example_g00821_impl_errGrave {H : Type} : DataW H := .iface "*errors.errorString" (.ptr (.agg [.lit (.string [115, 111, 109, 101, 116, 104, 105, 110, 103, 32, 109, 97, 121, 32, 98, 101, 32, 108, 111, 115, 116, 32, 98, 121, 32, 105, 116])]))

/-- 'laws.FnExactWritten': WHATEVER THE INPUT: true; the input reads as it did. -/
def fnExactWrittenSpec : ChangeSpec := { name := "fnExactWritten", vars := ["loop.example/g00821/impl.errNoImage", "loop.example/g00821/impl.errGrave", "loop.example/g00821/impl.errMild"], fn := fun _ => fun
  | [d1, d2, d3, g1, g2, g3] => { results := [.lit (.bool true)], args := [d1, d2, d3], vars := [g1, g2, g3] }
  | _ => none }
def fnExactWrittenRow : OpenClaim := { program := "ytiokfhdkbpoadaagreatdoor", sum := "ac9513603126baa27c21e7b4856fab9af072773395766c7cff182c1b4fd4610c", func := "loop.example/g00821/laws.FnExactWritten", spec := "fnExactWritten", unfollowed := true, recurses := true, named := ["loop.example/g00821/impl.errNoImage", "loop.example/g00821/impl.errGrave", "loop.example/g00821/impl.errMild"], ifaces := true, apart := false, laid := [("loop.example/g00821/impl.errNoImage", laid_loop_example_g00821_impl_errNoImage), ("loop.example/g00821/impl.errMild", laid_loop_example_g00821_impl_errMild), ("loop.example/g00821/impl.errGrave", laid_loop_example_g00821_impl_errGrave)] }
def FnExactWrittenSaid : Prop := fnExactWrittenRow.holds Tryz.pinned (OpenSpec.ofChange fnExactWrittenSpec)

/-- ITS FALSE NEIGHBOUR: 'it returns false'. Refute it at one input. -/
def fnExactWrittenWrong : ChangeSpec := { name := "fnExactWritten", vars := ["loop.example/g00821/impl.errNoImage", "loop.example/g00821/impl.errGrave", "loop.example/g00821/impl.errMild"], fn := fun _ => fun
  | [d1, d2, d3, g1, g2, g3] => { results := [.lit (.bool false)], args := [d1, d2, d3], vars := [g1, g2, g3] }
  | _ => none }
def FnExactWrittenWrongFalsely : Prop := fnExactWrittenRow.holds Tryz.pinned (OpenSpec.ofChange fnExactWrittenWrong)

/-- 'laws.FnExactPictured': WHATEVER THE INPUT: true; the input reads as it did. -/
def fnExactPicturedSpec : ChangeSpec := { name := "fnExactPictured", vars := ["loop.example/g00821/impl.errNoImage", "loop.example/g00821/impl.errGrave", "loop.example/g00821/impl.errMild"], fn := fun _ => fun
  | [d1, d2, g1, g2, g3] => { results := [.lit (.bool true)], args := [d1, d2], vars := [g1, g2, g3] }
  | _ => none }
def fnExactPicturedRow : OpenClaim := { program := "ytiokfhdkbpoadaagreatdoor", sum := "ac9513603126baa27c21e7b4856fab9af072773395766c7cff182c1b4fd4610c", func := "loop.example/g00821/laws.FnExactPictured", spec := "fnExactPictured", unfollowed := true, recurses := true, named := ["loop.example/g00821/impl.errNoImage", "loop.example/g00821/impl.errGrave", "loop.example/g00821/impl.errMild"], ifaces := true, apart := false, laid := [("loop.example/g00821/impl.errNoImage", laid_loop_example_g00821_impl_errNoImage), ("loop.example/g00821/impl.errMild", laid_loop_example_g00821_impl_errMild), ("loop.example/g00821/impl.errGrave", laid_loop_example_g00821_impl_errGrave)] }
def FnExactPicturedSaid : Prop := fnExactPicturedRow.holds Tryz.pinned (OpenSpec.ofChange fnExactPicturedSpec)

/-- ITS FALSE NEIGHBOUR: 'it returns false'. Refute it at one input. -/
def fnExactPicturedWrong : ChangeSpec := { name := "fnExactPictured", vars := ["loop.example/g00821/impl.errNoImage", "loop.example/g00821/impl.errGrave", "loop.example/g00821/impl.errMild"], fn := fun _ => fun
  | [d1, d2, g1, g2, g3] => { results := [.lit (.bool false)], args := [d1, d2], vars := [g1, g2, g3] }
  | _ => none }
def FnExactPicturedWrongFalsely : Prop := fnExactPicturedRow.holds Tryz.pinned (OpenSpec.ofChange fnExactPicturedWrong)

/- THE SECOND FORM. 'bulk': how many values and letters a reading holds, each counted each time it is reached (what is shared counts as often as it is met; a slice's spare places count too). A statement '..UptoSaid' is the law's where the arguments, and the package variables that the reading takes, are together of bulk at most 1048576: NARROWER than '..Said'. Prove '..Said' where nothing that the law and all that it calls make is longer than what came in: it says more and counts as full. Else prove '..UptoSaid'. A law counts once. -/
mutual
def uptoBulk {H : Type} : DataW H → Nat
  | .lit (.string bytes) => bytes.length + 1
  | .lit _ => 1
  | .nil => 1
  | .ptr d => uptoBulk d + 1
  | .slice elems spare => uptoBulkAll elems + uptoBulkAll spare + 1
  | .agg parts => uptoBulkAll parts + 1
  | .iface _ d => uptoBulk d + 1
  | .map entries => uptoBulkEntries entries + 1
  | .held _ => 1
def uptoBulkAll {H : Type} : List (DataW H) → Nat
  | [] => 0
  | d :: r => uptoBulk d + uptoBulkAll r
def uptoBulkEntries {H : Type} : List (Lit × DataW H) → Nat
  | [] => 0
  | x :: r => uptoBulkEntry x + uptoBulkEntries r
def uptoBulkEntry {H : Type} : Lit × DataW H → Nat
  | (.string bytes, d) => bytes.length + uptoBulk d + 1
  | (_, d) => uptoBulk d + 1
 end
def uptoSmall : (H : Type) → List (DataW H) → Bool := fun _ ds => decide (uptoBulkAll ds ≤ 1048576)
def OpenSpec.upto (s : _root_.Go.ChangeSpec) : _root_.Go.OpenSpec := { _root_.Go.OpenSpec.ofChange s with cond := some uptoSmall }

/-- 'laws.FnExactWritten', WHERE WHAT IT READS IS OF BULK AT MOST 1048576: true; the input reads as it did. -/
def fnExactWrittenUptoRow : OpenClaim := { program := "ytiokfhdkbpoadaagreatdoor", sum := "ac9513603126baa27c21e7b4856fab9af072773395766c7cff182c1b4fd4610c", func := "loop.example/g00821/laws.FnExactWritten", spec := "fnExactWritten", unfollowed := true, recurses := true, named := ["loop.example/g00821/impl.errNoImage", "loop.example/g00821/impl.errGrave", "loop.example/g00821/impl.errMild"], ifaces := true, apart := false, laid := [("loop.example/g00821/impl.errNoImage", laid_loop_example_g00821_impl_errNoImage), ("loop.example/g00821/impl.errMild", laid_loop_example_g00821_impl_errMild), ("loop.example/g00821/impl.errGrave", laid_loop_example_g00821_impl_errGrave)], narrowed := true }
def FnExactWrittenUptoSaid : Prop := fnExactWrittenUptoRow.holds Tryz.pinned (OpenSpec.upto fnExactWrittenSpec)

/-- 'laws.FnExactPictured', WHERE WHAT IT READS IS OF BULK AT MOST 1048576: true; the input reads as it did. -/
def fnExactPicturedUptoRow : OpenClaim := { program := "ytiokfhdkbpoadaagreatdoor", sum := "ac9513603126baa27c21e7b4856fab9af072773395766c7cff182c1b4fd4610c", func := "loop.example/g00821/laws.FnExactPictured", spec := "fnExactPictured", unfollowed := true, recurses := true, named := ["loop.example/g00821/impl.errNoImage", "loop.example/g00821/impl.errGrave", "loop.example/g00821/impl.errMild"], ifaces := true, apart := false, laid := [("loop.example/g00821/impl.errNoImage", laid_loop_example_g00821_impl_errNoImage), ("loop.example/g00821/impl.errMild", laid_loop_example_g00821_impl_errMild), ("loop.example/g00821/impl.errGrave", laid_loop_example_g00821_impl_errGrave)], narrowed := true }
def FnExactPicturedUptoSaid : Prop := fnExactPicturedUptoRow.holds Tryz.pinned (OpenSpec.upto fnExactPicturedSpec)

end Rows
end Go.Proofs.YtiokfhdkbpoadaaGreatDoor
