/-
  DERIVED. GIVEN WITH THE SEED: THE CARDS: each row of YtiokfhdkbpoadabGreatDoorRows.lean that lists a variable, with what it lists TIED to the program's text (the seventh form; the later family's looks); each row that meets fmt, with fmt's text TOLD by the authors' own Lean function (tested against real Go, not proved from fmt's source: count such statements apart). THE CARD IS WHAT COUNTS. Prove the row's statement (the work); the ties are given (YtiokfhdkbpoadabGreatDoorTie.lean); close each card by the builder's one call (the guide's Derived/Test/ToyasCard.lean, 'card_holds'). Laid BY PROGRAM, IN A SANDBOX (cutbox-door.mjs). By AI agents, Wed Nov 11 2026. No macro, syntax, notation, axiom, sorry.
-/
import Derived.Test.YtiokfhdkbpoadabGreatDoorRows
import GoSem.ClaimSeven
namespace Go.Proofs.YtiokfhdkbpoadabGreatDoor
namespace Rows

/-- THE TIED CARD OF 'laws.FnDisks'. -/
def fnDisksCard : Claim7 := { stood := { row := fnDisksRow, standIns := [], harness := (true, "69d5ab21daef15e9183b6442140c5a1d0ac1aa17972e15904651f719b3193b20"), looks := false }, kinds := [], alts := [], laidByText := true, laidKinds := [.sentinel, .sentinel, .sentinel], laidTests := true, laidLooks := .later }
def FnDisksCardSaid : Prop := Claim7.holds Tryz.pinned (.plain (OpenSpec.ofChange fnDisksSpec)) fnDisksCard

/-- THE SECOND FORM's CARD OF 'laws.FnDisks'. -/
def fnDisksUptoCard : Claim7 := { stood := { row := fnDisksUptoRow, standIns := [], harness := (true, "69d5ab21daef15e9183b6442140c5a1d0ac1aa17972e15904651f719b3193b20"), looks := false }, kinds := [], alts := [], laidByText := true, laidKinds := [.sentinel, .sentinel, .sentinel], laidTests := true, laidLooks := .later }
def FnDisksUptoCardSaid : Prop := Claim7.holds Tryz.pinned (.plain (OpenSpec.upto fnDisksSpec)) fnDisksUptoCard
end Rows
end Go.Proofs.YtiokfhdkbpoadabGreatDoor
