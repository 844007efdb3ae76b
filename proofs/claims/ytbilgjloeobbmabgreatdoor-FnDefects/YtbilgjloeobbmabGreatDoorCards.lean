/-
  DERIVED. GIVEN WITH THE SEED: THE CARDS: each row of YtbilgjloeobbmabGreatDoorRows.lean that lists a variable, with what it lists TIED to the program's text (the seventh form; the later family's looks); each row that meets fmt, with fmt's text TOLD by the authors' own Lean function (tested against real Go, not proved from fmt's source: count such statements apart). THE CARD IS WHAT COUNTS. Prove the row's statement (the work); the ties are given (YtbilgjloeobbmabGreatDoorTie.lean); close each card by the builder's one call (the guide's Derived/Test/ToyasCard.lean, 'card_holds'). Laid BY PROGRAM, IN A SANDBOX (cutbox-door.mjs). By AI agents, Wed Nov 11 2026. No macro, syntax, notation, axiom, sorry.
-/
import Derived.Test.YtbilgjloeobbmabGreatDoorRows
import GoSem.ClaimSeven
namespace Go.Proofs.YtbilgjloeobbmabGreatDoor
namespace Rows

/-- THE TIED CARD OF 'laws.FnDefects'. -/
def fnDefectsCard : Claim7 := { stood := { row := fnDefectsRow, standIns := [], harness := (true, "75e25730c770b23c5beef66659af50f75b37ef186ed77de2261f90a7b7795a68"), looks := true }, kinds := [], alts := [], laidByText := true, laidKinds := [.handle, .sentinel, .sentinel, .sentinel], laidTests := true, laidLooks := .later }
def FnDefectsCardSaid : Prop := Claim7.holds Tryz.pinned (.plain (OpenSpec.ofChange fnDefectsSpec)) fnDefectsCard

/-- THE SECOND FORM's CARD OF 'laws.FnDefects'. -/
def fnDefectsUptoCard : Claim7 := { stood := { row := fnDefectsUptoRow, standIns := [], harness := (true, "75e25730c770b23c5beef66659af50f75b37ef186ed77de2261f90a7b7795a68"), looks := true }, kinds := [], alts := [], laidByText := true, laidKinds := [.handle, .sentinel, .sentinel, .sentinel], laidTests := true, laidLooks := .later }
def FnDefectsUptoCardSaid : Prop := Claim7.holds Tryz.pinned (.plain (OpenSpec.upto fnDefectsSpec)) fnDefectsUptoCard
end Rows
end Go.Proofs.YtbilgjloeobbmabGreatDoor
