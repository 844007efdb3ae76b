/-
  DERIVED. GIVEN WITH THE SEED: THE CARDS: each row of YtieknpkbmccimabGreatDoorRows.lean that lists a variable, with what it lists TIED to the program's text (the seventh form; the later family's looks); each row that meets fmt, with fmt's text TOLD by the authors' own Lean function (tested against real Go, not proved from fmt's source: count such statements apart). THE CARD IS WHAT COUNTS. Prove the row's statement (the work); the ties are given (YtieknpkbmccimabGreatDoorTie.lean); close each card by the builder's one call (the guide's Derived/Test/ToyasCard.lean, 'card_holds'). Laid BY PROGRAM, IN A SANDBOX (cutbox-door.mjs). By AI agents, Wed Nov 11 2026. No macro, syntax, notation, axiom, sorry.
-/
import Derived.Test.YtieknpkbmccimabGreatDoorRows
import GoSem.ClaimSeven
namespace Go.Proofs.YtieknpkbmccimabGreatDoor
namespace Rows

/-- THE TIED CARD OF 'laws.FnDefects'. -/
def fnDefectsCard : Claim7 := { stood := { row := fnDefectsRow, standIns := [], harness := (true, "65b0315087e8b7ff8686eb85e3e52839aef7c9050ff5be7ee2c752c5212b8431"), looks := true }, kinds := [], alts := [], laidByText := true, laidKinds := [.handle, .sentinel, .sentinel, .sentinel], laidTests := true, laidLooks := .later }
def FnDefectsCardSaid : Prop := Claim7.holds Tryz.pinned (.plain (OpenSpec.ofChange fnDefectsSpec)) fnDefectsCard

/-- THE TIED CARD OF 'laws.FnOwned'. -/
def fnOwnedCard : Claim7 := { stood := { row := fnOwnedRow, standIns := [], harness := (true, "65b0315087e8b7ff8686eb85e3e52839aef7c9050ff5be7ee2c752c5212b8431"), looks := true }, kinds := [], alts := [], laidByText := true, laidKinds := [.handle, .sentinel, .sentinel, .sentinel], laidTests := true, laidLooks := .later }
def FnOwnedCardSaid : Prop := Claim7.holds Tryz.pinned (.plain (OpenSpec.ofChange fnOwnedSpec)) fnOwnedCard

/-- THE SECOND FORM's CARD OF 'laws.FnDefects'. -/
def fnDefectsUptoCard : Claim7 := { stood := { row := fnDefectsUptoRow, standIns := [], harness := (true, "65b0315087e8b7ff8686eb85e3e52839aef7c9050ff5be7ee2c752c5212b8431"), looks := true }, kinds := [], alts := [], laidByText := true, laidKinds := [.handle, .sentinel, .sentinel, .sentinel], laidTests := true, laidLooks := .later }
def FnDefectsUptoCardSaid : Prop := Claim7.holds Tryz.pinned (.plain (OpenSpec.upto fnDefectsSpec)) fnDefectsUptoCard

/-- THE SECOND FORM's CARD OF 'laws.FnOwned'. -/
def fnOwnedUptoCard : Claim7 := { stood := { row := fnOwnedUptoRow, standIns := [], harness := (true, "65b0315087e8b7ff8686eb85e3e52839aef7c9050ff5be7ee2c752c5212b8431"), looks := true }, kinds := [], alts := [], laidByText := true, laidKinds := [.handle, .sentinel, .sentinel, .sentinel], laidTests := true, laidLooks := .later }
def FnOwnedUptoCardSaid : Prop := Claim7.holds Tryz.pinned (.plain (OpenSpec.upto fnOwnedSpec)) fnOwnedUptoCard
end Rows
end Go.Proofs.YtieknpkbmccimabGreatDoor
