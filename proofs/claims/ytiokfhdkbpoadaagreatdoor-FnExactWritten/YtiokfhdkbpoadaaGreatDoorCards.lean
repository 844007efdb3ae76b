/-
  DERIVED. GIVEN WITH THE SEED: THE CARDS: each row of YtiokfhdkbpoadaaGreatDoorRows.lean that lists a variable, with what it lists TIED to the program's text (the seventh form; the later family's looks); each row that meets fmt, with fmt's text TOLD by the authors' own Lean function (tested against real Go, not proved from fmt's source: count such statements apart). THE CARD IS WHAT COUNTS. Prove the row's statement (the work); the ties are given (YtiokfhdkbpoadaaGreatDoorTie.lean); close each card by the builder's one call (the guide's Derived/Test/ToyasCard.lean, 'card_holds'). Laid BY PROGRAM, IN A SANDBOX (cutbox-door.mjs). By AI agents, Wed Nov 11 2026. No macro, syntax, notation, axiom, sorry.
-/
import Derived.Test.YtiokfhdkbpoadaaGreatDoorRows
import GoSem.ClaimSeven
namespace Go.Proofs.YtiokfhdkbpoadaaGreatDoor
namespace Rows

/-- THE TIED CARD OF 'laws.FnExactWritten'. -/
def fnExactWrittenCard : Claim7 := { stood := { row := fnExactWrittenRow, standIns := [], harness := (true, "2b1993f5d8fdfffa28a9f1292dfe3e063f66ae0656775b6dc51dafde1e54b9b3"), looks := false }, kinds := [], alts := [], laidByText := true, laidKinds := [.sentinel, .sentinel, .sentinel], laidTests := true, laidLooks := .later }
def FnExactWrittenCardSaid : Prop := Claim7.holds Tryz.pinned (.plain (OpenSpec.ofChange fnExactWrittenSpec)) fnExactWrittenCard

/-- THE TIED CARD OF 'laws.FnExactPictured'. -/
def fnExactPicturedCard : Claim7 := { stood := { row := fnExactPicturedRow, standIns := [], harness := (true, "2b1993f5d8fdfffa28a9f1292dfe3e063f66ae0656775b6dc51dafde1e54b9b3"), looks := false }, kinds := [], alts := [], laidByText := true, laidKinds := [.sentinel, .sentinel, .sentinel], laidTests := true, laidLooks := .later }
def FnExactPicturedCardSaid : Prop := Claim7.holds Tryz.pinned (.plain (OpenSpec.ofChange fnExactPicturedSpec)) fnExactPicturedCard

/-- THE SECOND FORM's CARD OF 'laws.FnExactWritten'. -/
def fnExactWrittenUptoCard : Claim7 := { stood := { row := fnExactWrittenUptoRow, standIns := [], harness := (true, "2b1993f5d8fdfffa28a9f1292dfe3e063f66ae0656775b6dc51dafde1e54b9b3"), looks := false }, kinds := [], alts := [], laidByText := true, laidKinds := [.sentinel, .sentinel, .sentinel], laidTests := true, laidLooks := .later }
def FnExactWrittenUptoCardSaid : Prop := Claim7.holds Tryz.pinned (.plain (OpenSpec.upto fnExactWrittenSpec)) fnExactWrittenUptoCard

/-- THE SECOND FORM's CARD OF 'laws.FnExactPictured'. -/
def fnExactPicturedUptoCard : Claim7 := { stood := { row := fnExactPicturedUptoRow, standIns := [], harness := (true, "2b1993f5d8fdfffa28a9f1292dfe3e063f66ae0656775b6dc51dafde1e54b9b3"), looks := false }, kinds := [], alts := [], laidByText := true, laidKinds := [.sentinel, .sentinel, .sentinel], laidTests := true, laidLooks := .later }
def FnExactPicturedUptoCardSaid : Prop := Claim7.holds Tryz.pinned (.plain (OpenSpec.upto fnExactPicturedSpec)) fnExactPicturedUptoCard
end Rows
end Go.Proofs.YtiokfhdkbpoadaaGreatDoor
