/-
  DERIVED. GIVEN WITH THE SEED: THE CARDS: each row of YtmallbgmpmdjiaaDoorRows.lean that lists a variable, with what it lists TIED to the program's text (the seventh form; the later family's looks); each row that meets fmt, with fmt's text TOLD by the authors' own Lean function (tested against real Go, not proved from fmt's source: count such statements apart). THE CARD IS WHAT COUNTS. Prove the row's statement (the work); the ties are given (YtmallbgmpmdjiaaDoorTie.lean); close each card by the builder's one call (the guide's Derived/Test/ToyasCard.lean, 'card_holds'). Laid BY PROGRAM, IN A SANDBOX (cutbox-door.mjs). By AI agents, Wed Nov 11 2026. No macro, syntax, notation, axiom, sorry.
-/
import Derived.Test.YtmallbgmpmdjiaaDoorRows
import GoSem.ClaimSeven
namespace Go.Proofs.YtmallbgmpmdjiaaDoor
namespace Rows

/-- THE TIED CARD OF 'wainwrightlaw05.ListsAll'. -/
def listsAllCard : Claim7 := { stood := { row := listsAllRow, standIns := [], harness := (true, "5d3bc054e6a5ce914dd4da9a3e8c8c81e22e5cffecc2324577f71faab3efc00a"), looks := false }, kinds := [], alts := [], laidByText := true, laidKinds := [.data, .pinned], laidTests := true, laidLooks := .later }
def ListsAllCardSaid : Prop := Claim7.holds Tryd.pinned (.plain (OpenSpec.ofChange listsAllSpec)) listsAllCard

/-- THE TIED CARD OF 'wainwrightlaw05.ListsHalves'. -/
def listsHalvesCard : Claim7 := { stood := { row := listsHalvesRow, standIns := [], harness := (true, "5d3bc054e6a5ce914dd4da9a3e8c8c81e22e5cffecc2324577f71faab3efc00a"), looks := false }, kinds := [], alts := [], laidByText := true, laidKinds := [.data, .pinned], laidTests := true, laidLooks := .later }
def ListsHalvesCardSaid : Prop := Claim7.holds Tryd.pinned (.plain (OpenSpec.ofChange listsHalvesSpec)) listsHalvesCard

/-- THE TIED CARD OF 'wainwrightlaw05.ListsSlices'. -/
def listsSlicesCard : Claim7 := { stood := { row := listsSlicesRow, standIns := [], harness := (true, "5d3bc054e6a5ce914dd4da9a3e8c8c81e22e5cffecc2324577f71faab3efc00a"), looks := false }, kinds := [], alts := [], laidByText := true, laidKinds := [.data, .pinned], laidTests := true, laidLooks := .later }
def ListsSlicesCardSaid : Prop := Claim7.holds Tryd.pinned (.plain (OpenSpec.ofChange listsSlicesSpec)) listsSlicesCard

/-- THE TIED CARD OF 'wainwrightlaw05.ListsPairs'. -/
def listsPairsCard : Claim7 := { stood := { row := listsPairsRow, standIns := [], harness := (true, "5d3bc054e6a5ce914dd4da9a3e8c8c81e22e5cffecc2324577f71faab3efc00a"), looks := false }, kinds := [], alts := [], laidByText := true, laidKinds := [.data, .pinned], laidTests := true, laidLooks := .later }
def ListsPairsCardSaid : Prop := Claim7.holds Tryd.pinned (.plain (OpenSpec.ofChange listsPairsSpec)) listsPairsCard

/-- THE SECOND FORM's CARD OF 'wainwrightlaw05.ListsAll'. -/
def listsAllUptoCard : Claim7 := { stood := { row := listsAllUptoRow, standIns := [], harness := (true, "5d3bc054e6a5ce914dd4da9a3e8c8c81e22e5cffecc2324577f71faab3efc00a"), looks := false }, kinds := [], alts := [], laidByText := true, laidKinds := [.data, .pinned], laidTests := true, laidLooks := .later }
def ListsAllUptoCardSaid : Prop := Claim7.holds Tryd.pinned (.plain (OpenSpec.upto listsAllSpec)) listsAllUptoCard

/-- THE SECOND FORM's CARD OF 'wainwrightlaw05.ListsHalves'. -/
def listsHalvesUptoCard : Claim7 := { stood := { row := listsHalvesUptoRow, standIns := [], harness := (true, "5d3bc054e6a5ce914dd4da9a3e8c8c81e22e5cffecc2324577f71faab3efc00a"), looks := false }, kinds := [], alts := [], laidByText := true, laidKinds := [.data, .pinned], laidTests := true, laidLooks := .later }
def ListsHalvesUptoCardSaid : Prop := Claim7.holds Tryd.pinned (.plain (OpenSpec.upto listsHalvesSpec)) listsHalvesUptoCard

/-- THE SECOND FORM's CARD OF 'wainwrightlaw05.ListsSlices'. -/
def listsSlicesUptoCard : Claim7 := { stood := { row := listsSlicesUptoRow, standIns := [], harness := (true, "5d3bc054e6a5ce914dd4da9a3e8c8c81e22e5cffecc2324577f71faab3efc00a"), looks := false }, kinds := [], alts := [], laidByText := true, laidKinds := [.data, .pinned], laidTests := true, laidLooks := .later }
def ListsSlicesUptoCardSaid : Prop := Claim7.holds Tryd.pinned (.plain (OpenSpec.upto listsSlicesSpec)) listsSlicesUptoCard

/-- THE SECOND FORM's CARD OF 'wainwrightlaw05.ListsPairs'. -/
def listsPairsUptoCard : Claim7 := { stood := { row := listsPairsUptoRow, standIns := [], harness := (true, "5d3bc054e6a5ce914dd4da9a3e8c8c81e22e5cffecc2324577f71faab3efc00a"), looks := false }, kinds := [], alts := [], laidByText := true, laidKinds := [.data, .pinned], laidTests := true, laidLooks := .later }
def ListsPairsUptoCardSaid : Prop := Claim7.holds Tryd.pinned (.plain (OpenSpec.upto listsPairsSpec)) listsPairsUptoCard
end Rows
end Go.Proofs.YtmallbgmpmdjiaaDoor
