/-
  DERIVED. GIVEN WITH THE SEED: THE CARDS: each row of YtpphkaolonjjdaaDoorRows.lean that lists a variable, with what it lists TIED to the program's text (the seventh form; the later family's looks); each row that meets fmt, with fmt's text TOLD by the authors' own Lean function (tested against real Go, not proved from fmt's source: count such statements apart). THE CARD IS WHAT COUNTS. Prove the row's statement (the work); the ties are given (YtpphkaolonjjdaaDoorTie.lean); close each card by the builder's one call (the guide's Derived/Test/ToyasCard.lean, 'card_holds'). Laid BY PROGRAM, IN A SANDBOX (cutbox-door.mjs). By AI agents, Wed Nov 11 2026. No macro, syntax, notation, axiom, sorry.
-/
import Derived.Test.YtpphkaolonjjdaaDoorRows
import GoSem.ClaimSeven
namespace Go.Proofs.YtpphkaolonjjdaaDoor
namespace Rows

/-- THE TIED CARD OF 'wainwrightlaw13.SoundAny'. -/
def soundAnyCard : Claim7 := { stood := { row := soundAnyRow, standIns := [], harness := (true, "c78869dee7492a1af6cca3f1a95ccd06589e3ea26e979d6e9799f8f553e06057"), looks := false }, kinds := [], alts := [], laidByText := true, laidKinds := [.data], laidTests := true, laidLooks := .later }
def SoundAnyCardSaid : Prop := Claim7.holds Tryd.pinned (.plain (OpenSpec.ofChange soundAnySpec)) soundAnyCard

/-- THE TIED CARD OF 'wainwrightlaw13.SoundNumbers'. -/
def soundNumbersCard : Claim7 := { stood := { row := soundNumbersRow, standIns := [], harness := (true, "c78869dee7492a1af6cca3f1a95ccd06589e3ea26e979d6e9799f8f553e06057"), looks := false }, kinds := [], alts := [], laidByText := true, laidKinds := [.data], laidTests := true, laidLooks := .later }
def SoundNumbersCardSaid : Prop := Claim7.holds Tryd.pinned (.plain (OpenSpec.ofChange soundNumbersSpec)) soundNumbersCard

/-- THE TIED CARD OF 'wainwrightlaw13.SoundPiles'. -/
def soundPilesCard : Claim7 := { stood := { row := soundPilesRow, standIns := [], harness := (true, "c78869dee7492a1af6cca3f1a95ccd06589e3ea26e979d6e9799f8f553e06057"), looks := false }, kinds := [], alts := [], laidByText := true, laidKinds := [.data], laidTests := true, laidLooks := .later }
def SoundPilesCardSaid : Prop := Claim7.holds Tryd.pinned (.plain (OpenSpec.ofChange soundPilesSpec)) soundPilesCard

/-- THE TIED CARD OF 'wainwrightlaw13.SoundArgs'. -/
def soundArgsCard : Claim7 := { stood := { row := soundArgsRow, standIns := [], harness := (true, "c78869dee7492a1af6cca3f1a95ccd06589e3ea26e979d6e9799f8f553e06057"), looks := false }, kinds := [], alts := [], laidByText := true, laidKinds := [.data], laidTests := true, laidLooks := .later }
def SoundArgsCardSaid : Prop := Claim7.holds Tryd.pinned (.plain (OpenSpec.ofChange soundArgsSpec)) soundArgsCard

/-- THE TIED CARD OF 'wainwrightlaw13.SoundBig'. -/
def soundBigCard : Claim7 := { stood := { row := soundBigRow, standIns := [], harness := (true, "c78869dee7492a1af6cca3f1a95ccd06589e3ea26e979d6e9799f8f553e06057"), looks := false }, kinds := [], alts := [], laidByText := true, laidKinds := [.data], laidTests := true, laidLooks := .later }
def SoundBigCardSaid : Prop := Claim7.holds Tryd.pinned (.plain (OpenSpec.ofChange soundBigSpec)) soundBigCard

/-- THE SECOND FORM's CARD OF 'wainwrightlaw13.SoundAny'. -/
def soundAnyUptoCard : Claim7 := { stood := { row := soundAnyUptoRow, standIns := [], harness := (true, "c78869dee7492a1af6cca3f1a95ccd06589e3ea26e979d6e9799f8f553e06057"), looks := false }, kinds := [], alts := [], laidByText := true, laidKinds := [.data], laidTests := true, laidLooks := .later }
def SoundAnyUptoCardSaid : Prop := Claim7.holds Tryd.pinned (.plain (OpenSpec.upto soundAnySpec)) soundAnyUptoCard

/-- THE SECOND FORM's CARD OF 'wainwrightlaw13.SoundNumbers'. -/
def soundNumbersUptoCard : Claim7 := { stood := { row := soundNumbersUptoRow, standIns := [], harness := (true, "c78869dee7492a1af6cca3f1a95ccd06589e3ea26e979d6e9799f8f553e06057"), looks := false }, kinds := [], alts := [], laidByText := true, laidKinds := [.data], laidTests := true, laidLooks := .later }
def SoundNumbersUptoCardSaid : Prop := Claim7.holds Tryd.pinned (.plain (OpenSpec.upto soundNumbersSpec)) soundNumbersUptoCard

/-- THE SECOND FORM's CARD OF 'wainwrightlaw13.SoundPiles'. -/
def soundPilesUptoCard : Claim7 := { stood := { row := soundPilesUptoRow, standIns := [], harness := (true, "c78869dee7492a1af6cca3f1a95ccd06589e3ea26e979d6e9799f8f553e06057"), looks := false }, kinds := [], alts := [], laidByText := true, laidKinds := [.data], laidTests := true, laidLooks := .later }
def SoundPilesUptoCardSaid : Prop := Claim7.holds Tryd.pinned (.plain (OpenSpec.upto soundPilesSpec)) soundPilesUptoCard

/-- THE SECOND FORM's CARD OF 'wainwrightlaw13.SoundArgs'. -/
def soundArgsUptoCard : Claim7 := { stood := { row := soundArgsUptoRow, standIns := [], harness := (true, "c78869dee7492a1af6cca3f1a95ccd06589e3ea26e979d6e9799f8f553e06057"), looks := false }, kinds := [], alts := [], laidByText := true, laidKinds := [.data], laidTests := true, laidLooks := .later }
def SoundArgsUptoCardSaid : Prop := Claim7.holds Tryd.pinned (.plain (OpenSpec.upto soundArgsSpec)) soundArgsUptoCard

/-- THE SECOND FORM's CARD OF 'wainwrightlaw13.SoundBig'. -/
def soundBigUptoCard : Claim7 := { stood := { row := soundBigUptoRow, standIns := [], harness := (true, "c78869dee7492a1af6cca3f1a95ccd06589e3ea26e979d6e9799f8f553e06057"), looks := false }, kinds := [], alts := [], laidByText := true, laidKinds := [.data], laidTests := true, laidLooks := .later }
def SoundBigUptoCardSaid : Prop := Claim7.holds Tryd.pinned (.plain (OpenSpec.upto soundBigSpec)) soundBigUptoCard
end Rows
end Go.Proofs.YtpphkaolonjjdaaDoor
