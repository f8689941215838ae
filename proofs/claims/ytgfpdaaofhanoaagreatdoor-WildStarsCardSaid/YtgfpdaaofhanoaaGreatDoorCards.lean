/-
  DERIVED. GIVEN WITH THE SEED: THE CARDS: each row of YtgfpdaaofhanoaaGreatDoorRows.lean that lists a variable, with what it lists TIED to the program's text (the seventh form; the later family's looks); each row that meets fmt, with fmt's text TOLD by the authors' own Lean function (tested against real Go, not proved from fmt's source: count such statements apart). THE CARD IS WHAT COUNTS. Prove the row's statement (the work); the ties are given (YtgfpdaaofhanoaaGreatDoorTie.lean); close each card by the builder's one call (the guide's Derived/Test/ToyasCard.lean, 'card_holds'). Laid BY PROGRAM, IN A SANDBOX (cutbox-door.mjs). By AI agents, Wed Nov 11 2026. No macro, syntax, notation, axiom, sorry.
-/
import Derived.Test.YtgfpdaaofhanoaaGreatDoorRows
import GoSem.ClaimSeven
namespace Go.Proofs.YtgfpdaaofhanoaaGreatDoor
namespace Rows

/-- THE TIED CARD OF 'wainwrightlaw07.WildAll'. -/
def wildAllCard : Claim7 := { stood := { row := wildAllRow, standIns := [], harness := (true, "c8d0f29d68396117acf4e68efe5b2f86b567d88dd4704e27c135c63dde10d28b"), looks := false }, kinds := [], alts := [], laidByText := true, laidKinds := [.data, .pinned], laidTests := true, laidLooks := .later }
def WildAllCardSaid : Prop := Claim7.holds Tryz.pinned (.plain (OpenSpec.ofChange wildAllSpec)) wildAllCard

/-- THE TIED CARD OF 'wainwrightlaw07.WildNumbers'. -/
def wildNumbersCard : Claim7 := { stood := { row := wildNumbersRow, standIns := [], harness := (true, "c8d0f29d68396117acf4e68efe5b2f86b567d88dd4704e27c135c63dde10d28b"), looks := false }, kinds := [], alts := [], laidByText := true, laidKinds := [.data, .pinned], laidTests := true, laidLooks := .later }
def WildNumbersCardSaid : Prop := Claim7.holds Tryz.pinned (.plain (OpenSpec.ofChange wildNumbersSpec)) wildNumbersCard

/-- THE TIED CARD OF 'wainwrightlaw07.WildStars'. -/
def wildStarsCard : Claim7 := { stood := { row := wildStarsRow, standIns := [], harness := (true, "c8d0f29d68396117acf4e68efe5b2f86b567d88dd4704e27c135c63dde10d28b"), looks := false }, kinds := [], alts := [], laidByText := true, laidKinds := [.data, .pinned], laidTests := true, laidLooks := .later }
def WildStarsCardSaid : Prop := Claim7.holds Tryz.pinned (.plain (OpenSpec.ofChange wildStarsSpec)) wildStarsCard

/-- THE TIED CARD OF 'wainwrightlaw07.WildQuoted'. -/
def wildQuotedCard : Claim7 := { stood := { row := wildQuotedRow, standIns := [], harness := (true, "c8d0f29d68396117acf4e68efe5b2f86b567d88dd4704e27c135c63dde10d28b"), looks := false }, kinds := [], alts := [], laidByText := true, laidKinds := [.data, .pinned], laidTests := true, laidLooks := .later }
def WildQuotedCardSaid : Prop := Claim7.holds Tryz.pinned (.plain (OpenSpec.ofChange wildQuotedSpec)) wildQuotedCard

/-- THE SECOND FORM's CARD OF 'wainwrightlaw07.WildAll'. -/
def wildAllUptoCard : Claim7 := { stood := { row := wildAllUptoRow, standIns := [], harness := (true, "c8d0f29d68396117acf4e68efe5b2f86b567d88dd4704e27c135c63dde10d28b"), looks := false }, kinds := [], alts := [], laidByText := true, laidKinds := [.data, .pinned], laidTests := true, laidLooks := .later }
def WildAllUptoCardSaid : Prop := Claim7.holds Tryz.pinned (.plain (OpenSpec.upto wildAllSpec)) wildAllUptoCard

/-- THE SECOND FORM's CARD OF 'wainwrightlaw07.WildNumbers'. -/
def wildNumbersUptoCard : Claim7 := { stood := { row := wildNumbersUptoRow, standIns := [], harness := (true, "c8d0f29d68396117acf4e68efe5b2f86b567d88dd4704e27c135c63dde10d28b"), looks := false }, kinds := [], alts := [], laidByText := true, laidKinds := [.data, .pinned], laidTests := true, laidLooks := .later }
def WildNumbersUptoCardSaid : Prop := Claim7.holds Tryz.pinned (.plain (OpenSpec.upto wildNumbersSpec)) wildNumbersUptoCard

/-- THE SECOND FORM's CARD OF 'wainwrightlaw07.WildStars'. -/
def wildStarsUptoCard : Claim7 := { stood := { row := wildStarsUptoRow, standIns := [], harness := (true, "c8d0f29d68396117acf4e68efe5b2f86b567d88dd4704e27c135c63dde10d28b"), looks := false }, kinds := [], alts := [], laidByText := true, laidKinds := [.data, .pinned], laidTests := true, laidLooks := .later }
def WildStarsUptoCardSaid : Prop := Claim7.holds Tryz.pinned (.plain (OpenSpec.upto wildStarsSpec)) wildStarsUptoCard

/-- THE SECOND FORM's CARD OF 'wainwrightlaw07.WildQuoted'. -/
def wildQuotedUptoCard : Claim7 := { stood := { row := wildQuotedUptoRow, standIns := [], harness := (true, "c8d0f29d68396117acf4e68efe5b2f86b567d88dd4704e27c135c63dde10d28b"), looks := false }, kinds := [], alts := [], laidByText := true, laidKinds := [.data, .pinned], laidTests := true, laidLooks := .later }
def WildQuotedUptoCardSaid : Prop := Claim7.holds Tryz.pinned (.plain (OpenSpec.upto wildQuotedSpec)) wildQuotedUptoCard
end Rows
end Go.Proofs.YtgfpdaaofhanoaaGreatDoor
