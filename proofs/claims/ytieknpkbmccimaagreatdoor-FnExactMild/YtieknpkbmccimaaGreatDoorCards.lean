/-
  DERIVED. GIVEN WITH THE SEED: THE CARDS: each row of YtieknpkbmccimaaGreatDoorRows.lean that lists a variable, with what it lists TIED to the program's text (the seventh form; the later family's looks); each row that meets fmt, with fmt's text TOLD by the authors' own Lean function (tested against real Go, not proved from fmt's source: count such statements apart). THE CARD IS WHAT COUNTS. Prove the row's statement (the work); the ties are given (YtieknpkbmccimaaGreatDoorTie.lean); close each card by the builder's one call (the guide's Derived/Test/ToyasCard.lean, 'card_holds'). Laid BY PROGRAM, IN A SANDBOX (cutbox-door.mjs). By AI agents, Wed Nov 11 2026. No macro, syntax, notation, axiom, sorry.
-/
import Derived.Test.YtieknpkbmccimaaGreatDoorRows
import GoSem.ClaimSeven
namespace Go.Proofs.YtieknpkbmccimaaGreatDoor
namespace Rows

/-- THE TIED CARD OF 'laws.FnExactDefectsIn'. -/
def fnExactDefectsInCard : Claim7 := { stood := { row := fnExactDefectsInRow, standIns := [], harness := (true, "9ff3a744c93c76c7efd84c1b0b957865b54ab12a31401426f71b5b98881879e3"), looks := true }, kinds := [], alts := [], laidByText := true, laidKinds := [.handle, .sentinel, .sentinel, .sentinel], laidTests := true, laidLooks := .later }
def FnExactDefectsInCardSaid : Prop := Claim7.holds Tryz.pinned (.plain (OpenSpec.ofChange fnExactDefectsInSpec)) fnExactDefectsInCard

/-- THE TIED CARD OF 'laws.FnExactMild'. -/
def fnExactMildCard : Claim7 := { stood := { row := fnExactMildRow, standIns := [], harness := (true, "9ff3a744c93c76c7efd84c1b0b957865b54ab12a31401426f71b5b98881879e3"), looks := true }, kinds := [], alts := [], laidByText := true, laidKinds := [.sentinel, .sentinel, .sentinel], laidTests := true, laidLooks := .later }
def FnExactMildCardSaid : Prop := Claim7.holds Tryz.pinned (.plain (OpenSpec.ofChange fnExactMildSpec)) fnExactMildCard

/-- THE SECOND FORM's CARD OF 'laws.FnExactDefectsIn'. -/
def fnExactDefectsInUptoCard : Claim7 := { stood := { row := fnExactDefectsInUptoRow, standIns := [], harness := (true, "9ff3a744c93c76c7efd84c1b0b957865b54ab12a31401426f71b5b98881879e3"), looks := true }, kinds := [], alts := [], laidByText := true, laidKinds := [.handle, .sentinel, .sentinel, .sentinel], laidTests := true, laidLooks := .later }
def FnExactDefectsInUptoCardSaid : Prop := Claim7.holds Tryz.pinned (.plain (OpenSpec.upto fnExactDefectsInSpec)) fnExactDefectsInUptoCard

/-- THE SECOND FORM's CARD OF 'laws.FnExactMild'. -/
def fnExactMildUptoCard : Claim7 := { stood := { row := fnExactMildUptoRow, standIns := [], harness := (true, "9ff3a744c93c76c7efd84c1b0b957865b54ab12a31401426f71b5b98881879e3"), looks := true }, kinds := [], alts := [], laidByText := true, laidKinds := [.sentinel, .sentinel, .sentinel], laidTests := true, laidLooks := .later }
def FnExactMildUptoCardSaid : Prop := Claim7.holds Tryz.pinned (.plain (OpenSpec.upto fnExactMildSpec)) fnExactMildUptoCard
end Rows
end Go.Proofs.YtieknpkbmccimaaGreatDoor
