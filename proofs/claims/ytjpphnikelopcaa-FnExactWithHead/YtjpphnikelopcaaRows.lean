/-
  No cell of these rows narrows 'for every input' (looked for: loops, veiled, ifaces, maps, wideKeys, modest, calm, conditions, laid).
  DERIVED. THE GIVEN ROWS OF THIS SEAT. 4 by the template 'for every input the law returns true; each argument reads behind the call as it read before'; 0 by the template 'total and deterministic' (their statements: YtjpphnikelopcaaTotals.lean).
  GIVEN WITH THE SEED: the statements are not yours to turn. If you find one false, say at which input.
  Laid BY PROGRAM, IN A SANDBOX (cutbox-rows.mjs): the forced cells as the released guide's own fill.sh prints them over the translation 9f91b771a825b613… (all of the seat's roots in one cut). By AI agents, Wed Nov 11 2026. No macro, syntax, notation, axiom, sorry.
-/
import Derived.Test.YtjpphnikelopcaaChecked
import GoSem.Claim
import GoSem.ClaimJoined
import GoSem.ClaimMapViews
import Derived.JoinedTies
import Derived.KernelRfl
namespace Go.Proofs.Ytjpphnikelopcaa
/- THE CELL 'sum', in the pinned program and in every row, IS THE sha256 OF THE DUMP (.gsa) THAT YtjpphnikelopcaaProg.lean LOADS. Nothing in Lean hashes anything: it is a label: what it is worth is what the hold of that sum in a sandbox is worth. -/
noncomputable def Try.pinned : Pinned := { name := "ytjpphnikelopcaa", sum := "9f91b771a825b6134b045ed105f16f10d27ba3c99434d9e6fe772330e888c9d9", checked := Try.checked }
namespace Rows
def none {H : Type} : Left H := { results := [], args := [] }

/-- 'laws.FnExactHeadOk': WHATEVER THE INPUT: true; the input reads as it did. -/
def fnExactHeadOkSpec : ChangeSpec := { name := "fnExactHeadOk", fn := fun _ => fun
  | [d] => { results := [.lit (.bool true)], args := [d] }
  | _ => none }
def fnExactHeadOkRow : OpenClaim := { program := "ytjpphnikelopcaa", sum := "9f91b771a825b6134b045ed105f16f10d27ba3c99434d9e6fe772330e888c9d9", func := "loop.example/g00821/laws.FnExactHeadOk", spec := "fnExactHeadOk", apart := false }
def FnExactHeadOkSaid : Prop := fnExactHeadOkRow.holds Try.pinned (OpenSpec.ofChange fnExactHeadOkSpec)

/-- ITS FALSE NEIGHBOUR: 'it returns false'. Refute it at one input. -/
def fnExactHeadOkWrong : ChangeSpec := { name := "fnExactHeadOk", fn := fun _ => fun
  | [d] => { results := [.lit (.bool false)], args := [d] }
  | _ => none }
def FnExactHeadOkWrongFalsely : Prop := fnExactHeadOkRow.holds Try.pinned (OpenSpec.ofChange fnExactHeadOkWrong)

/-- 'laws.FnExactHeadWords': WHATEVER THE INPUT: true; the input reads as it did. -/
def fnExactHeadWordsSpec : ChangeSpec := { name := "fnExactHeadWords", fn := fun _ => fun
  | [d] => { results := [.lit (.bool true)], args := [d] }
  | _ => none }
def fnExactHeadWordsRow : OpenClaim := { program := "ytjpphnikelopcaa", sum := "9f91b771a825b6134b045ed105f16f10d27ba3c99434d9e6fe772330e888c9d9", func := "loop.example/g00821/laws.FnExactHeadWords", spec := "fnExactHeadWords", apart := false }
def FnExactHeadWordsSaid : Prop := fnExactHeadWordsRow.holds Try.pinned (OpenSpec.ofChange fnExactHeadWordsSpec)

/-- ITS FALSE NEIGHBOUR: 'it returns false'. Refute it at one input. -/
def fnExactHeadWordsWrong : ChangeSpec := { name := "fnExactHeadWords", fn := fun _ => fun
  | [d] => { results := [.lit (.bool false)], args := [d] }
  | _ => none }
def FnExactHeadWordsWrongFalsely : Prop := fnExactHeadWordsRow.holds Try.pinned (OpenSpec.ofChange fnExactHeadWordsWrong)

/-- 'laws.FnExactHeadIn': WHATEVER THE INPUT: true; the input reads as it did. -/
def fnExactHeadInSpec : ChangeSpec := { name := "fnExactHeadIn", fn := fun _ => fun
  | [d] => { results := [.lit (.bool true)], args := [d] }
  | _ => none }
def fnExactHeadInRow : OpenClaim := { program := "ytjpphnikelopcaa", sum := "9f91b771a825b6134b045ed105f16f10d27ba3c99434d9e6fe772330e888c9d9", func := "loop.example/g00821/laws.FnExactHeadIn", spec := "fnExactHeadIn", apart := false }
def FnExactHeadInSaid : Prop := fnExactHeadInRow.holds Try.pinned (OpenSpec.ofChange fnExactHeadInSpec)

/-- ITS FALSE NEIGHBOUR: 'it returns false'. Refute it at one input. -/
def fnExactHeadInWrong : ChangeSpec := { name := "fnExactHeadIn", fn := fun _ => fun
  | [d] => { results := [.lit (.bool false)], args := [d] }
  | _ => none }
def FnExactHeadInWrongFalsely : Prop := fnExactHeadInRow.holds Try.pinned (OpenSpec.ofChange fnExactHeadInWrong)

/-- 'laws.FnExactWithHead': WHATEVER THE INPUT: true; the input reads as it did. -/
def fnExactWithHeadSpec : ChangeSpec := { name := "fnExactWithHead", fn := fun _ => fun
  | [d1, d2] => { results := [.lit (.bool true)], args := [d1, d2] }
  | _ => none }
def fnExactWithHeadRow : OpenClaim := { program := "ytjpphnikelopcaa", sum := "9f91b771a825b6134b045ed105f16f10d27ba3c99434d9e6fe772330e888c9d9", func := "loop.example/g00821/laws.FnExactWithHead", spec := "fnExactWithHead", apart := false }
def FnExactWithHeadSaid : Prop := fnExactWithHeadRow.holds Try.pinned (OpenSpec.ofChange fnExactWithHeadSpec)

/-- ITS FALSE NEIGHBOUR: 'it returns false'. Refute it at one input. -/
def fnExactWithHeadWrong : ChangeSpec := { name := "fnExactWithHead", fn := fun _ => fun
  | [d1, d2] => { results := [.lit (.bool false)], args := [d1, d2] }
  | _ => none }
def FnExactWithHeadWrongFalsely : Prop := fnExactWithHeadRow.holds Try.pinned (OpenSpec.ofChange fnExactWithHeadWrong)

/- THE SECOND FORM. 'bulk': how many values and letters a reading holds, each counted each time it is reached (what is shared counts as often as it is met; a slice's spare places count too). A statement '..UptoSaid' is the law's where the arguments, and the package variables that the reading takes, are together of bulk at most 1048576: NARROWER than '..Said'. Prove '..Said' where nothing that the law and all that it calls make is longer than what came in: it says more and counts as full. Else prove '..UptoSaid'. A law counts once. -/
mutual
def uptoBulk {H : Type} : DataW H → Nat
  | .lit (.string bytes) => bytes.length + 1
  | .lit _ => 1
  | .nil => 1
  | .ptr d => uptoBulk d + 1
  | .slice elems spare => uptoBulkAll elems + uptoBulkAll spare + 1
  | .agg parts => uptoBulkAll parts + 1
  | .iface _ d => uptoBulk d + 1
  | .map entries => uptoBulkEntries entries + 1
  | .held _ => 1
def uptoBulkAll {H : Type} : List (DataW H) → Nat
  | [] => 0
  | d :: r => uptoBulk d + uptoBulkAll r
def uptoBulkEntries {H : Type} : List (Lit × DataW H) → Nat
  | [] => 0
  | x :: r => uptoBulkEntry x + uptoBulkEntries r
def uptoBulkEntry {H : Type} : Lit × DataW H → Nat
  | (.string bytes, d) => bytes.length + uptoBulk d + 1
  | (_, d) => uptoBulk d + 1
 end
def uptoSmall : (H : Type) → List (DataW H) → Bool := fun _ ds => decide (uptoBulkAll ds ≤ 1048576)
def OpenSpec.upto (s : _root_.Go.ChangeSpec) : _root_.Go.OpenSpec := { _root_.Go.OpenSpec.ofChange s with cond := some uptoSmall }

/-- 'laws.FnExactHeadOk', WHERE WHAT IT READS IS OF BULK AT MOST 1048576: true; the input reads as it did. -/
def fnExactHeadOkUptoRow : OpenClaim := { program := "ytjpphnikelopcaa", sum := "9f91b771a825b6134b045ed105f16f10d27ba3c99434d9e6fe772330e888c9d9", func := "loop.example/g00821/laws.FnExactHeadOk", spec := "fnExactHeadOk", apart := false, narrowed := true }
def FnExactHeadOkUptoSaid : Prop := fnExactHeadOkUptoRow.holds Try.pinned (OpenSpec.upto fnExactHeadOkSpec)

/-- 'laws.FnExactHeadWords', WHERE WHAT IT READS IS OF BULK AT MOST 1048576: true; the input reads as it did. -/
def fnExactHeadWordsUptoRow : OpenClaim := { program := "ytjpphnikelopcaa", sum := "9f91b771a825b6134b045ed105f16f10d27ba3c99434d9e6fe772330e888c9d9", func := "loop.example/g00821/laws.FnExactHeadWords", spec := "fnExactHeadWords", apart := false, narrowed := true }
def FnExactHeadWordsUptoSaid : Prop := fnExactHeadWordsUptoRow.holds Try.pinned (OpenSpec.upto fnExactHeadWordsSpec)

/-- 'laws.FnExactHeadIn', WHERE WHAT IT READS IS OF BULK AT MOST 1048576: true; the input reads as it did. -/
def fnExactHeadInUptoRow : OpenClaim := { program := "ytjpphnikelopcaa", sum := "9f91b771a825b6134b045ed105f16f10d27ba3c99434d9e6fe772330e888c9d9", func := "loop.example/g00821/laws.FnExactHeadIn", spec := "fnExactHeadIn", apart := false, narrowed := true }
def FnExactHeadInUptoSaid : Prop := fnExactHeadInUptoRow.holds Try.pinned (OpenSpec.upto fnExactHeadInSpec)

/-- 'laws.FnExactWithHead', WHERE WHAT IT READS IS OF BULK AT MOST 1048576: true; the input reads as it did. -/
def fnExactWithHeadUptoRow : OpenClaim := { program := "ytjpphnikelopcaa", sum := "9f91b771a825b6134b045ed105f16f10d27ba3c99434d9e6fe772330e888c9d9", func := "loop.example/g00821/laws.FnExactWithHead", spec := "fnExactWithHead", apart := false, narrowed := true }
def FnExactWithHeadUptoSaid : Prop := fnExactWithHeadUptoRow.holds Try.pinned (OpenSpec.upto fnExactWithHeadSpec)

end Rows
end Go.Proofs.Ytjpphnikelopcaa
