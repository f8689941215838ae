/-
  DERIVED. GIVEN WITH THE SEED: THE CARDS: each row of YtghfmbmdfojapaaGreatDoorRows.lean that lists a variable, with what it lists TIED to the program's text (the seventh form; the later family's looks); each row that meets fmt, with fmt's text TOLD by the authors' own Lean function (tested against real Go, not proved from fmt's source: count such statements apart). THE CARD IS WHAT COUNTS. Prove the row's statement (the work); the ties are given (YtghfmbmdfojapaaGreatDoorTie.lean); close each card by the builder's one call (the guide's Derived/Test/ToyasCard.lean, 'card_holds'). Laid BY PROGRAM, IN A SANDBOX (cutbox-door.mjs). By AI agents, Wed Nov 11 2026. No macro, syntax, notation, axiom, sorry.
-/
import Derived.Test.YtghfmbmdfojapaaGreatDoorRows
import GoSem.ClaimSeven
namespace Go.Proofs.YtghfmbmdfojapaaGreatDoor
namespace Rows

/-- THE TIED CARD OF 'wainwrightlaw07.WildNumbers'. -/
def wildNumbersCard : Claim7 := { stood := { row := wildNumbersRow, standIns := [], harness := (true, "d50b016dac9e5bf7128db872c84e92a247d83a08611a01640deced69d3bd75ac"), looks := false }, kinds := [], alts := [], laidByText := true, laidKinds := [.data, .pinned], laidTests := true, laidLooks := .later }
def WildNumbersCardSaid : Prop := Claim7.holds Tryz.pinned (.plain (OpenSpec.ofChange wildNumbersSpec)) wildNumbersCard

/-- THE SECOND FORM's CARD OF 'wainwrightlaw07.WildNumbers'. -/
def wildNumbersUptoCard : Claim7 := { stood := { row := wildNumbersUptoRow, standIns := [], harness := (true, "d50b016dac9e5bf7128db872c84e92a247d83a08611a01640deced69d3bd75ac"), looks := false }, kinds := [], alts := [], laidByText := true, laidKinds := [.data, .pinned], laidTests := true, laidLooks := .later }
def WildNumbersUptoCardSaid : Prop := Claim7.holds Tryz.pinned (.plain (OpenSpec.upto wildNumbersSpec)) wildNumbersUptoCard
end Rows
end Go.Proofs.YtghfmbmdfojapaaGreatDoor
