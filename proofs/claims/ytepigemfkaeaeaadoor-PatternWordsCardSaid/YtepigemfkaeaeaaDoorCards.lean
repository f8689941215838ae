/-
  DERIVED. GIVEN WITH THE SEED: THE CARDS: each row of YtepigemfkaeaeaaDoorRows.lean that lists a variable, with what it lists TIED to the program's text (the seventh form; the later family's looks); each row that meets fmt, with fmt's text TOLD by the authors' own Lean function (tested against real Go, not proved from fmt's source: count such statements apart). THE CARD IS WHAT COUNTS. Prove the row's statement (the work); the ties are given (YtepigemfkaeaeaaDoorTie.lean); close each card by the builder's one call (the guide's Derived/Test/ToyasCard.lean, 'card_holds'). Laid BY PROGRAM, IN A SANDBOX (cutbox-door.mjs). By AI agents, Wed Nov 11 2026. No macro, syntax, notation, axiom, sorry.
-/
import Derived.Test.YtepigemfkaeaeaaDoorRows
import GoSem.ClaimSeven
namespace Go.Proofs.YtepigemfkaeaeaaDoor
namespace Rows

/-- THE TIED CARD OF 'wainwrightlaw02.PatternAll'. -/
def patternAllCard : Claim7 := { stood := { row := patternAllRow, standIns := [], harness := (true, "c2b174a770c4b524e7684de967b4ee95b61472f5272640d1ea0f3578c1172ee6"), looks := false }, kinds := [], alts := [], laidByText := true, laidKinds := [.data, .pinned], laidTests := true, laidLooks := .later }
def PatternAllCardSaid : Prop := Claim7.holds Tryd.pinned (.plain (OpenSpec.ofChange patternAllSpec)) patternAllCard

/-- THE TIED CARD OF 'wainwrightlaw02.PatternPuts'. -/
def patternPutsCard : Claim7 := { stood := { row := patternPutsRow, standIns := [], harness := (true, "c2b174a770c4b524e7684de967b4ee95b61472f5272640d1ea0f3578c1172ee6"), looks := false }, kinds := [], alts := [], laidByText := true, laidKinds := [.data, .pinned], laidTests := true, laidLooks := .later }
def PatternPutsCardSaid : Prop := Claim7.holds Tryd.pinned (.plain (OpenSpec.ofChange patternPutsSpec)) patternPutsCard

/-- THE TIED CARD OF 'wainwrightlaw02.PatternBacks'. -/
def patternBacksCard : Claim7 := { stood := { row := patternBacksRow, standIns := [], harness := (true, "c2b174a770c4b524e7684de967b4ee95b61472f5272640d1ea0f3578c1172ee6"), looks := false }, kinds := [], alts := [], laidByText := true, laidKinds := [.data, .pinned], laidTests := true, laidLooks := .later }
def PatternBacksCardSaid : Prop := Claim7.holds Tryd.pinned (.plain (OpenSpec.ofChange patternBacksSpec)) patternBacksCard

/-- THE TIED CARD OF 'wainwrightlaw02.PatternWords'. -/
def patternWordsCard : Claim7 := { stood := { row := patternWordsRow, standIns := [], harness := (true, "c2b174a770c4b524e7684de967b4ee95b61472f5272640d1ea0f3578c1172ee6"), looks := false }, kinds := [], alts := [], laidByText := true, laidKinds := [.data, .pinned], laidTests := true, laidLooks := .later }
def PatternWordsCardSaid : Prop := Claim7.holds Tryd.pinned (.plain (OpenSpec.ofChange patternWordsSpec)) patternWordsCard

/-- THE TIED CARD OF 'wainwrightlaw02.PatternShort'. -/
def patternShortCard : Claim7 := { stood := { row := patternShortRow, standIns := [], harness := (true, "c2b174a770c4b524e7684de967b4ee95b61472f5272640d1ea0f3578c1172ee6"), looks := false }, kinds := [], alts := [], laidByText := true, laidKinds := [.data, .pinned], laidTests := true, laidLooks := .later }
def PatternShortCardSaid : Prop := Claim7.holds Tryd.pinned (.plain (OpenSpec.ofChange patternShortSpec)) patternShortCard

/-- THE SECOND FORM's CARD OF 'wainwrightlaw02.PatternAll'. -/
def patternAllUptoCard : Claim7 := { stood := { row := patternAllUptoRow, standIns := [], harness := (true, "c2b174a770c4b524e7684de967b4ee95b61472f5272640d1ea0f3578c1172ee6"), looks := false }, kinds := [], alts := [], laidByText := true, laidKinds := [.data, .pinned], laidTests := true, laidLooks := .later }
def PatternAllUptoCardSaid : Prop := Claim7.holds Tryd.pinned (.plain (OpenSpec.upto patternAllSpec)) patternAllUptoCard

/-- THE SECOND FORM's CARD OF 'wainwrightlaw02.PatternPuts'. -/
def patternPutsUptoCard : Claim7 := { stood := { row := patternPutsUptoRow, standIns := [], harness := (true, "c2b174a770c4b524e7684de967b4ee95b61472f5272640d1ea0f3578c1172ee6"), looks := false }, kinds := [], alts := [], laidByText := true, laidKinds := [.data, .pinned], laidTests := true, laidLooks := .later }
def PatternPutsUptoCardSaid : Prop := Claim7.holds Tryd.pinned (.plain (OpenSpec.upto patternPutsSpec)) patternPutsUptoCard

/-- THE SECOND FORM's CARD OF 'wainwrightlaw02.PatternBacks'. -/
def patternBacksUptoCard : Claim7 := { stood := { row := patternBacksUptoRow, standIns := [], harness := (true, "c2b174a770c4b524e7684de967b4ee95b61472f5272640d1ea0f3578c1172ee6"), looks := false }, kinds := [], alts := [], laidByText := true, laidKinds := [.data, .pinned], laidTests := true, laidLooks := .later }
def PatternBacksUptoCardSaid : Prop := Claim7.holds Tryd.pinned (.plain (OpenSpec.upto patternBacksSpec)) patternBacksUptoCard

/-- THE SECOND FORM's CARD OF 'wainwrightlaw02.PatternWords'. -/
def patternWordsUptoCard : Claim7 := { stood := { row := patternWordsUptoRow, standIns := [], harness := (true, "c2b174a770c4b524e7684de967b4ee95b61472f5272640d1ea0f3578c1172ee6"), looks := false }, kinds := [], alts := [], laidByText := true, laidKinds := [.data, .pinned], laidTests := true, laidLooks := .later }
def PatternWordsUptoCardSaid : Prop := Claim7.holds Tryd.pinned (.plain (OpenSpec.upto patternWordsSpec)) patternWordsUptoCard

/-- THE SECOND FORM's CARD OF 'wainwrightlaw02.PatternShort'. -/
def patternShortUptoCard : Claim7 := { stood := { row := patternShortUptoRow, standIns := [], harness := (true, "c2b174a770c4b524e7684de967b4ee95b61472f5272640d1ea0f3578c1172ee6"), looks := false }, kinds := [], alts := [], laidByText := true, laidKinds := [.data, .pinned], laidTests := true, laidLooks := .later }
def PatternShortUptoCardSaid : Prop := Claim7.holds Tryd.pinned (.plain (OpenSpec.upto patternShortSpec)) patternShortUptoCard
end Rows
end Go.Proofs.YtepigemfkaeaeaaDoor
