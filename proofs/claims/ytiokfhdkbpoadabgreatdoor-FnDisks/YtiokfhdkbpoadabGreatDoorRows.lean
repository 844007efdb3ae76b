/-
  NARROWER THAN 'FOR EVERY INPUT', by the rows' own cells (each row's printed sentence says how): FnDisks: ifaces, laid.
  DERIVED. THE GIVEN ROWS OF THIS SEAT. 1 by the template 'for every input the law returns true; each argument reads behind the call as it read before'; 0 by the template 'total and deterministic' (their statements: YtiokfhdkbpoadabGreatDoorTotals.lean).
  GIVEN WITH THE SEED: the statements are not yours to turn. If you find one false, say at which input.
  Laid BY PROGRAM, IN A SANDBOX (cutbox-rows.mjs): the forced cells as the released guide's own fill.sh prints them over the translation 09bed63fe75cda89… (all of the seat's roots in one cut). By AI agents, Wed Nov 11 2026. No macro, syntax, notation, axiom, sorry.
-/
import Derived.Test.YtiokfhdkbpoadabGreatDoorChecked
import GoSem.Claim
import GoSem.ClaimJoined
import GoSem.ClaimMapViews
import Derived.JoinedTies
import Derived.KernelRfl
namespace Go.Proofs.YtiokfhdkbpoadabGreatDoor
/- THE CELL 'sum', in the pinned program and in every row, IS THE sha256 OF THE DUMP (.gsa) THAT YtiokfhdkbpoadabGreatDoorProg.lean LOADS. Nothing in Lean hashes anything: it is a label: what it is worth is what the hold of that sum in a sandbox is worth. -/
noncomputable def Tryz.pinned : Pinned := { name := "ytiokfhdkbpoadabgreatdoor", sum := "09bed63fe75cda896e969c4d99754493df33fee1481b32d540adb6d497a6d604", checked := Tryz.checked }
namespace Rows
def none {H : Type} : Left H := { results := [], args := [] }

/- WHAT THE LISTED PACKAGE-LEVEL VARIABLES READ AS WHEN THE CALL BEGINS. Each datum BY PROGRAM (the guide's laid-datum.mjs) off the statement by which the dump's own 'gosem.cut.vars' lays the variable. In a bare row this is a premise. The card (YtiokfhdkbpoadabGreatDoorCards.lean) ties it to the program's text. -/
def laid_loop_example_g00821_impl_errNoImage {H : Type} : DataW H := .iface "*errors.errorString" (.ptr (.agg [.lit (.string [116, 104, 101, 114, 101, 32, 105, 115, 32, 110, 111, 32, 105, 109, 97, 103, 101])]))
def laid_loop_example_g00821_impl_errMild {H : Type} : DataW H := .iface "*errors.errorString" (.ptr (.agg [.lit (.string [110, 111, 116, 104, 105, 110, 103, 32, 105, 115, 32, 108, 111, 115, 116, 32, 98, 121, 32, 105, 116])]))
def laid_loop_example_g00821_impl_errGrave {H : Type} : DataW H := .iface "*errors.errorString" (.ptr (.agg [.lit (.string [115, 111, 109, 101, 116, 104, 105, 110, 103, 32, 109, 97, 121, 32, 98, 101, 32, 108, 111, 115, 116, 32, 98, 121, 32, 105, 116])]))

/-- 'laws.FnDisks': WHATEVER THE INPUT: true; the input reads as it did. -/
def fnDisksSpec : ChangeSpec := { name := "fnDisks", vars := ["loop.example/g00821/impl.errNoImage", "loop.example/g00821/impl.errGrave", "loop.example/g00821/impl.errMild"], fn := fun _ => fun
  | [d, g1, g2, g3] => { results := [.lit (.bool true)], args := [d], vars := [g1, g2, g3] }
  | _ => none }
def fnDisksRow : OpenClaim := { program := "ytiokfhdkbpoadabgreatdoor", sum := "09bed63fe75cda896e969c4d99754493df33fee1481b32d540adb6d497a6d604", func := "loop.example/g00821/laws.FnDisks", spec := "fnDisks", unfollowed := true, recurses := true, named := ["loop.example/g00821/impl.errNoImage", "loop.example/g00821/impl.errGrave", "loop.example/g00821/impl.errMild"], ifaces := true, apart := false, laid := [("loop.example/g00821/impl.errNoImage", laid_loop_example_g00821_impl_errNoImage), ("loop.example/g00821/impl.errMild", laid_loop_example_g00821_impl_errMild), ("loop.example/g00821/impl.errGrave", laid_loop_example_g00821_impl_errGrave)] }
def FnDisksSaid : Prop := fnDisksRow.holds Tryz.pinned (OpenSpec.ofChange fnDisksSpec)

/-- ITS FALSE NEIGHBOUR: 'it returns false'. Refute it at one input. -/
def fnDisksWrong : ChangeSpec := { name := "fnDisks", vars := ["loop.example/g00821/impl.errNoImage", "loop.example/g00821/impl.errGrave", "loop.example/g00821/impl.errMild"], fn := fun _ => fun
  | [d, g1, g2, g3] => { results := [.lit (.bool false)], args := [d], vars := [g1, g2, g3] }
  | _ => none }
def FnDisksWrongFalsely : Prop := fnDisksRow.holds Tryz.pinned (OpenSpec.ofChange fnDisksWrong)

/- THE SECOND FORM. 'bulk': how many values and letters a reading holds, each counted each time it is reached (what is shared counts as often as it is met; a slice's spare places count too). A statement '..UptoSaid' is the law's where the arguments, and the package variables that the reading takes, are together of bulk at most 1048576: NARROWER than '..Said'. Prove '..Said' where nothing that the law and all that it calls make is longer than what came in: it says more and counts as full. Else prove '..UptoSaid'. A law counts once. -/
mutual
def uptoBulk {H : Type} : DataW H → Nat
  | .lit (.string bytes) => bytes.length + 1
  | .lit _ => 1
  | .nil => 1
  | .ptr d => uptoBulk d + 1
  | .slice elems spare => uptoBulkAll elems + uptoBulkAll spare + 1
  | .agg parts => uptoBulkAll parts + 1
  | .iface _ d => uptoBulk d + 1
  | .map entries => uptoBulkEntries entries + 1
  | .held _ => 1
def uptoBulkAll {H : Type} : List (DataW H) → Nat
  | [] => 0
  | d :: r => uptoBulk d + uptoBulkAll r
def uptoBulkEntries {H : Type} : List (Lit × DataW H) → Nat
  | [] => 0
  | x :: r => uptoBulkEntry x + uptoBulkEntries r
def uptoBulkEntry {H : Type} : Lit × DataW H → Nat
  | (.string bytes, d) => bytes.length + uptoBulk d + 1
  | (_, d) => uptoBulk d + 1
 end
def uptoSmall : (H : Type) → List (DataW H) → Bool := fun _ ds => decide (uptoBulkAll ds ≤ 1048576)
def OpenSpec.upto (s : _root_.Go.ChangeSpec) : _root_.Go.OpenSpec := { _root_.Go.OpenSpec.ofChange s with cond := some uptoSmall }

/-- 'laws.FnDisks', WHERE WHAT IT READS IS OF BULK AT MOST 1048576: true; the input reads as it did. -/
def fnDisksUptoRow : OpenClaim := { program := "ytiokfhdkbpoadabgreatdoor", sum := "09bed63fe75cda896e969c4d99754493df33fee1481b32d540adb6d497a6d604", func := "loop.example/g00821/laws.FnDisks", spec := "fnDisks", unfollowed := true, recurses := true, named := ["loop.example/g00821/impl.errNoImage", "loop.example/g00821/impl.errGrave", "loop.example/g00821/impl.errMild"], ifaces := true, apart := false, laid := [("loop.example/g00821/impl.errNoImage", laid_loop_example_g00821_impl_errNoImage), ("loop.example/g00821/impl.errMild", laid_loop_example_g00821_impl_errMild), ("loop.example/g00821/impl.errGrave", laid_loop_example_g00821_impl_errGrave)], narrowed := true }
def FnDisksUptoSaid : Prop := fnDisksUptoRow.holds Tryz.pinned (OpenSpec.upto fnDisksSpec)

end Rows
end Go.Proofs.YtiokfhdkbpoadabGreatDoor
