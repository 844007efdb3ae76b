/-
  No cell of these rows narrows 'for every input' (looked for: loops, veiled, ifaces, maps, wideKeys, modest, calm, conditions, laid).
  DERIVED. THE GIVEN ROWS OF THIS SEAT. 3 by the template 'for every input the law returns true; each argument reads behind the call as it read before'; 0 by the template 'total and deterministic' (their statements: YtiokfhdkbpoadaaTotals.lean).
  GIVEN WITH THE SEED: the statements are not yours to turn. If you find one false, say at which input.
  Laid BY PROGRAM, IN A SANDBOX (cutbox-rows.mjs): the forced cells as the released guide's own fill.sh prints them over the translation 7919c722163a333b… (all of the seat's roots in one cut). By AI agents, Wed Nov 11 2026. No macro, syntax, notation, axiom, sorry.
-/
import Derived.Test.YtiokfhdkbpoadaaChecked
import GoSem.Claim
import GoSem.ClaimJoined
import GoSem.ClaimMapViews
import Derived.JoinedTies
import Derived.KernelRfl
namespace Go.Proofs.Ytiokfhdkbpoadaa
/- THE CELL 'sum', in the pinned program and in every row, IS THE sha256 OF THE DUMP (.gsa) THAT YtiokfhdkbpoadaaProg.lean LOADS. Nothing in Lean hashes anything: it is a label: what it is worth is what the hold of that sum in a sandbox is worth. -/
noncomputable def Try.pinned : Pinned := { name := "ytiokfhdkbpoadaa", sum := "7919c722163a333bae2532ccc0fec3aa2fb4b8efe5fcd984bfa1cc6356c4f778", checked := Try.checked }
namespace Rows
def none {H : Type} : Left H := { results := [], args := [] }

/-- 'laws.FnExactClustersIn': WHATEVER THE INPUT: true; the input reads as it did. -/
def fnExactClustersInSpec : ChangeSpec := { name := "fnExactClustersIn", fn := fun _ => fun
  | [d] => { results := [.lit (.bool true)], args := [d] }
  | _ => none }
def fnExactClustersInRow : OpenClaim := { program := "ytiokfhdkbpoadaa", sum := "7919c722163a333bae2532ccc0fec3aa2fb4b8efe5fcd984bfa1cc6356c4f778", func := "loop.example/g00821/laws.FnExactClustersIn", spec := "fnExactClustersIn", apart := false }
def FnExactClustersInSaid : Prop := fnExactClustersInRow.holds Try.pinned (OpenSpec.ofChange fnExactClustersInSpec)

/-- ITS FALSE NEIGHBOUR: 'it returns false'. Refute it at one input. -/
def fnExactClustersInWrong : ChangeSpec := { name := "fnExactClustersIn", fn := fun _ => fun
  | [d] => { results := [.lit (.bool false)], args := [d] }
  | _ => none }
def FnExactClustersInWrongFalsely : Prop := fnExactClustersInRow.holds Try.pinned (OpenSpec.ofChange fnExactClustersInWrong)

/-- 'laws.FnExactClusterAt': WHATEVER THE INPUT: true; the input reads as it did. -/
def fnExactClusterAtSpec : ChangeSpec := { name := "fnExactClusterAt", fn := fun _ => fun
  | [d1, d2] => { results := [.lit (.bool true)], args := [d1, d2] }
  | _ => none }
def fnExactClusterAtRow : OpenClaim := { program := "ytiokfhdkbpoadaa", sum := "7919c722163a333bae2532ccc0fec3aa2fb4b8efe5fcd984bfa1cc6356c4f778", func := "loop.example/g00821/laws.FnExactClusterAt", spec := "fnExactClusterAt", apart := false }
def FnExactClusterAtSaid : Prop := fnExactClusterAtRow.holds Try.pinned (OpenSpec.ofChange fnExactClusterAtSpec)

/-- ITS FALSE NEIGHBOUR: 'it returns false'. Refute it at one input. -/
def fnExactClusterAtWrong : ChangeSpec := { name := "fnExactClusterAt", fn := fun _ => fun
  | [d1, d2] => { results := [.lit (.bool false)], args := [d1, d2] }
  | _ => none }
def FnExactClusterAtWrongFalsely : Prop := fnExactClusterAtRow.holds Try.pinned (OpenSpec.ofChange fnExactClusterAtWrong)

/-- 'laws.FnExactWithCluster': WHATEVER THE INPUT: true; the input reads as it did. -/
def fnExactWithClusterSpec : ChangeSpec := { name := "fnExactWithCluster", fn := fun _ => fun
  | [d1, d2, d3] => { results := [.lit (.bool true)], args := [d1, d2, d3] }
  | _ => none }
def fnExactWithClusterRow : OpenClaim := { program := "ytiokfhdkbpoadaa", sum := "7919c722163a333bae2532ccc0fec3aa2fb4b8efe5fcd984bfa1cc6356c4f778", func := "loop.example/g00821/laws.FnExactWithCluster", spec := "fnExactWithCluster", apart := false }
def FnExactWithClusterSaid : Prop := fnExactWithClusterRow.holds Try.pinned (OpenSpec.ofChange fnExactWithClusterSpec)

/-- ITS FALSE NEIGHBOUR: 'it returns false'. Refute it at one input. -/
def fnExactWithClusterWrong : ChangeSpec := { name := "fnExactWithCluster", fn := fun _ => fun
  | [d1, d2, d3] => { results := [.lit (.bool false)], args := [d1, d2, d3] }
  | _ => none }
def FnExactWithClusterWrongFalsely : Prop := fnExactWithClusterRow.holds Try.pinned (OpenSpec.ofChange fnExactWithClusterWrong)

/- THE SECOND FORM. 'bulk': how many values and letters a reading holds, each counted each time it is reached (what is shared counts as often as it is met; a slice's spare places count too). A statement '..UptoSaid' is the law's where the arguments, and the package variables that the reading takes, are together of bulk at most 1048576: NARROWER than '..Said'. Prove '..Said' where nothing that the law and all that it calls make is longer than what came in: it says more and counts as full. Else prove '..UptoSaid'. A law counts once. -/
mutual
def uptoBulk {H : Type} : DataW H → Nat
  | .lit (.string bytes) => bytes.length + 1
  | .lit _ => 1
  | .nil => 1
  | .ptr d => uptoBulk d + 1
  | .slice elems spare => uptoBulkAll elems + uptoBulkAll spare + 1
  | .agg parts => uptoBulkAll parts + 1
  | .iface _ d => uptoBulk d + 1
  | .map entries => uptoBulkEntries entries + 1
  | .held _ => 1
def uptoBulkAll {H : Type} : List (DataW H) → Nat
  | [] => 0
  | d :: r => uptoBulk d + uptoBulkAll r
def uptoBulkEntries {H : Type} : List (Lit × DataW H) → Nat
  | [] => 0
  | x :: r => uptoBulkEntry x + uptoBulkEntries r
def uptoBulkEntry {H : Type} : Lit × DataW H → Nat
  | (.string bytes, d) => bytes.length + uptoBulk d + 1
  | (_, d) => uptoBulk d + 1
 end
def uptoSmall : (H : Type) → List (DataW H) → Bool := fun _ ds => decide (uptoBulkAll ds ≤ 1048576)
def OpenSpec.upto (s : _root_.Go.ChangeSpec) : _root_.Go.OpenSpec := { _root_.Go.OpenSpec.ofChange s with cond := some uptoSmall }

/-- 'laws.FnExactClustersIn', WHERE WHAT IT READS IS OF BULK AT MOST 1048576: true; the input reads as it did. -/
def fnExactClustersInUptoRow : OpenClaim := { program := "ytiokfhdkbpoadaa", sum := "7919c722163a333bae2532ccc0fec3aa2fb4b8efe5fcd984bfa1cc6356c4f778", func := "loop.example/g00821/laws.FnExactClustersIn", spec := "fnExactClustersIn", apart := false, narrowed := true }
def FnExactClustersInUptoSaid : Prop := fnExactClustersInUptoRow.holds Try.pinned (OpenSpec.upto fnExactClustersInSpec)

/-- 'laws.FnExactClusterAt', WHERE WHAT IT READS IS OF BULK AT MOST 1048576: true; the input reads as it did. -/
def fnExactClusterAtUptoRow : OpenClaim := { program := "ytiokfhdkbpoadaa", sum := "7919c722163a333bae2532ccc0fec3aa2fb4b8efe5fcd984bfa1cc6356c4f778", func := "loop.example/g00821/laws.FnExactClusterAt", spec := "fnExactClusterAt", apart := false, narrowed := true }
def FnExactClusterAtUptoSaid : Prop := fnExactClusterAtUptoRow.holds Try.pinned (OpenSpec.upto fnExactClusterAtSpec)

/-- 'laws.FnExactWithCluster', WHERE WHAT IT READS IS OF BULK AT MOST 1048576: true; the input reads as it did. -/
def fnExactWithClusterUptoRow : OpenClaim := { program := "ytiokfhdkbpoadaa", sum := "7919c722163a333bae2532ccc0fec3aa2fb4b8efe5fcd984bfa1cc6356c4f778", func := "loop.example/g00821/laws.FnExactWithCluster", spec := "fnExactWithCluster", apart := false, narrowed := true }
def FnExactWithClusterUptoSaid : Prop := fnExactWithClusterUptoRow.holds Try.pinned (OpenSpec.upto fnExactWithClusterSpec)

end Rows
end Go.Proofs.Ytiokfhdkbpoadaa
