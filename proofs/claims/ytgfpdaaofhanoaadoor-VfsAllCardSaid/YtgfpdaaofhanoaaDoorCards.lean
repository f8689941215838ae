/-
  DERIVED. GIVEN WITH THE SEED: THE CARDS: each row of YtgfpdaaofhanoaaDoorRows.lean that lists a variable, with what it lists TIED to the program's text (the seventh form; the later family's looks); each row that meets fmt, with fmt's text TOLD by the authors' own Lean function (tested against real Go, not proved from fmt's source: count such statements apart). THE CARD IS WHAT COUNTS. Prove the row's statement (the work); the ties are given (YtgfpdaaofhanoaaDoorTie.lean); close each card by the builder's one call (the guide's Derived/Test/ToyasCard.lean, 'card_holds'). Laid BY PROGRAM, IN A SANDBOX (cutbox-door.mjs). By AI agents, Wed Nov 11 2026. No macro, syntax, notation, axiom, sorry.
-/
import Derived.Test.YtgfpdaaofhanoaaDoorRows
import GoSem.ClaimSeven
namespace Go.Proofs.YtgfpdaaofhanoaaDoor
namespace Rows

/-- THE TIED CARD OF 'wainwrightlaw06.VfsAll'. -/
def vfsAllCard : Claim7 := { stood := { row := vfsAllRow, standIns := [], harness := (true, "7c8b5220683847472edb9bd84ab9d90ea5c878a7c35c922a2895b1c3e24ba0a8"), looks := false }, kinds := [], alts := [], laidByText := true, laidKinds := [.data, .pinned], laidTests := true, laidLooks := .later }
def VfsAllCardSaid : Prop := Claim7.holds Tryd.pinned (.plain (OpenSpec.ofChange vfsAllSpec)) vfsAllCard

/-- THE TIED CARD OF 'wainwrightlaw06.VfsFirst'. -/
def vfsFirstCard : Claim7 := { stood := { row := vfsFirstRow, standIns := [], harness := (true, "7c8b5220683847472edb9bd84ab9d90ea5c878a7c35c922a2895b1c3e24ba0a8"), looks := false }, kinds := [], alts := [], laidByText := true, laidKinds := [.data, .pinned], laidTests := true, laidLooks := .later }
def VfsFirstCardSaid : Prop := Claim7.holds Tryd.pinned (.plain (OpenSpec.ofChange vfsFirstSpec)) vfsFirstCard

/-- THE SECOND FORM's CARD OF 'wainwrightlaw06.VfsAll'. -/
def vfsAllUptoCard : Claim7 := { stood := { row := vfsAllUptoRow, standIns := [], harness := (true, "7c8b5220683847472edb9bd84ab9d90ea5c878a7c35c922a2895b1c3e24ba0a8"), looks := false }, kinds := [], alts := [], laidByText := true, laidKinds := [.data, .pinned], laidTests := true, laidLooks := .later }
def VfsAllUptoCardSaid : Prop := Claim7.holds Tryd.pinned (.plain (OpenSpec.upto vfsAllSpec)) vfsAllUptoCard

/-- THE SECOND FORM's CARD OF 'wainwrightlaw06.VfsFirst'. -/
def vfsFirstUptoCard : Claim7 := { stood := { row := vfsFirstUptoRow, standIns := [], harness := (true, "7c8b5220683847472edb9bd84ab9d90ea5c878a7c35c922a2895b1c3e24ba0a8"), looks := false }, kinds := [], alts := [], laidByText := true, laidKinds := [.data, .pinned], laidTests := true, laidLooks := .later }
def VfsFirstUptoCardSaid : Prop := Claim7.holds Tryd.pinned (.plain (OpenSpec.upto vfsFirstSpec)) vfsFirstUptoCard
end Rows
end Go.Proofs.YtgfpdaaofhanoaaDoor
