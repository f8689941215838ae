/-
  DERIVED. GIVEN WITH THE SEED: THE CARDS: each row of YtcopddepnphfmaaDoorRows.lean that lists a variable, with what it lists TIED to the program's text (the seventh form; the later family's looks); each row that meets fmt, with fmt's text TOLD by the authors' own Lean function (tested against real Go, not proved from fmt's source: count such statements apart). THE CARD IS WHAT COUNTS. Prove the row's statement (the work); the ties are given (YtcopddepnphfmaaDoorTie.lean); close each card by the builder's one call (the guide's Derived/Test/ToyasCard.lean, 'card_holds'). Laid BY PROGRAM, IN A SANDBOX (cutbox-door.mjs). By AI agents, Wed Nov 11 2026. No macro, syntax, notation, axiom, sorry.
-/
import Derived.Test.YtcopddepnphfmaaDoorRows
import GoSem.ClaimSeven
namespace Go.Proofs.YtcopddepnphfmaaDoor
namespace Rows

/-- THE TIED CARD OF 'wainwrightlaw08.LinesAll'. -/
def linesAllCard : Claim7 := { stood := { row := linesAllRow, standIns := [], harness := (true, "2d94feae908141e55f62ad900d37204e9c884b8118efa462075b23ce5bdcf865"), looks := false }, kinds := [], alts := [], laidByText := true, laidKinds := [.data, .pinned], laidTests := true, laidLooks := .later }
def LinesAllCardSaid : Prop := Claim7.holds Tryd.pinned (.plain (OpenSpec.ofChange linesAllSpec)) linesAllCard

/-- THE TIED CARD OF 'wainwrightlaw08.LinesNumbers'. -/
def linesNumbersCard : Claim7 := { stood := { row := linesNumbersRow, standIns := [], harness := (true, "2d94feae908141e55f62ad900d37204e9c884b8118efa462075b23ce5bdcf865"), looks := false }, kinds := [], alts := [], laidByText := true, laidKinds := [.data, .pinned], laidTests := true, laidLooks := .later }
def LinesNumbersCardSaid : Prop := Claim7.holds Tryd.pinned (.plain (OpenSpec.ofChange linesNumbersSpec)) linesNumbersCard

/-- THE TIED CARD OF 'wainwrightlaw08.LinesPlain'. -/
def linesPlainCard : Claim7 := { stood := { row := linesPlainRow, standIns := [], harness := (true, "2d94feae908141e55f62ad900d37204e9c884b8118efa462075b23ce5bdcf865"), looks := false }, kinds := [], alts := [], laidByText := true, laidKinds := [.data, .pinned], laidTests := true, laidLooks := .later }
def LinesPlainCardSaid : Prop := Claim7.holds Tryd.pinned (.plain (OpenSpec.ofChange linesPlainSpec)) linesPlainCard

/-- THE TIED CARD OF 'wainwrightlaw08.LinesBare'. -/
def linesBareCard : Claim7 := { stood := { row := linesBareRow, standIns := [], harness := (true, "2d94feae908141e55f62ad900d37204e9c884b8118efa462075b23ce5bdcf865"), looks := false }, kinds := [], alts := [], laidByText := true, laidKinds := [.data, .pinned], laidTests := true, laidLooks := .later }
def LinesBareCardSaid : Prop := Claim7.holds Tryd.pinned (.plain (OpenSpec.ofChange linesBareSpec)) linesBareCard

/-- THE TIED CARD OF 'wainwrightlaw08.LinesRecipes'. -/
def linesRecipesCard : Claim7 := { stood := { row := linesRecipesRow, standIns := [], harness := (true, "2d94feae908141e55f62ad900d37204e9c884b8118efa462075b23ce5bdcf865"), looks := false }, kinds := [], alts := [], laidByText := true, laidKinds := [.data, .pinned], laidTests := true, laidLooks := .later }
def LinesRecipesCardSaid : Prop := Claim7.holds Tryd.pinned (.plain (OpenSpec.ofChange linesRecipesSpec)) linesRecipesCard

/-- THE SECOND FORM's CARD OF 'wainwrightlaw08.LinesAll'. -/
def linesAllUptoCard : Claim7 := { stood := { row := linesAllUptoRow, standIns := [], harness := (true, "2d94feae908141e55f62ad900d37204e9c884b8118efa462075b23ce5bdcf865"), looks := false }, kinds := [], alts := [], laidByText := true, laidKinds := [.data, .pinned], laidTests := true, laidLooks := .later }
def LinesAllUptoCardSaid : Prop := Claim7.holds Tryd.pinned (.plain (OpenSpec.upto linesAllSpec)) linesAllUptoCard

/-- THE SECOND FORM's CARD OF 'wainwrightlaw08.LinesNumbers'. -/
def linesNumbersUptoCard : Claim7 := { stood := { row := linesNumbersUptoRow, standIns := [], harness := (true, "2d94feae908141e55f62ad900d37204e9c884b8118efa462075b23ce5bdcf865"), looks := false }, kinds := [], alts := [], laidByText := true, laidKinds := [.data, .pinned], laidTests := true, laidLooks := .later }
def LinesNumbersUptoCardSaid : Prop := Claim7.holds Tryd.pinned (.plain (OpenSpec.upto linesNumbersSpec)) linesNumbersUptoCard

/-- THE SECOND FORM's CARD OF 'wainwrightlaw08.LinesPlain'. -/
def linesPlainUptoCard : Claim7 := { stood := { row := linesPlainUptoRow, standIns := [], harness := (true, "2d94feae908141e55f62ad900d37204e9c884b8118efa462075b23ce5bdcf865"), looks := false }, kinds := [], alts := [], laidByText := true, laidKinds := [.data, .pinned], laidTests := true, laidLooks := .later }
def LinesPlainUptoCardSaid : Prop := Claim7.holds Tryd.pinned (.plain (OpenSpec.upto linesPlainSpec)) linesPlainUptoCard

/-- THE SECOND FORM's CARD OF 'wainwrightlaw08.LinesBare'. -/
def linesBareUptoCard : Claim7 := { stood := { row := linesBareUptoRow, standIns := [], harness := (true, "2d94feae908141e55f62ad900d37204e9c884b8118efa462075b23ce5bdcf865"), looks := false }, kinds := [], alts := [], laidByText := true, laidKinds := [.data, .pinned], laidTests := true, laidLooks := .later }
def LinesBareUptoCardSaid : Prop := Claim7.holds Tryd.pinned (.plain (OpenSpec.upto linesBareSpec)) linesBareUptoCard

/-- THE SECOND FORM's CARD OF 'wainwrightlaw08.LinesRecipes'. -/
def linesRecipesUptoCard : Claim7 := { stood := { row := linesRecipesUptoRow, standIns := [], harness := (true, "2d94feae908141e55f62ad900d37204e9c884b8118efa462075b23ce5bdcf865"), looks := false }, kinds := [], alts := [], laidByText := true, laidKinds := [.data, .pinned], laidTests := true, laidLooks := .later }
def LinesRecipesUptoCardSaid : Prop := Claim7.holds Tryd.pinned (.plain (OpenSpec.upto linesRecipesSpec)) linesRecipesUptoCard
end Rows
end Go.Proofs.YtcopddepnphfmaaDoor
