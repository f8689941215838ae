/-
  NARROWER THAN 'FOR EVERY INPUT', by the rows' own cells (each row's printed sentence says how): SoundAny: laid · SoundNumbers: laid · SoundPiles: laid · SoundArgs: laid · SoundBig: laid.
  DERIVED. THE GIVEN ROWS OF THIS SEAT. 5 by the template 'for every input the law returns true; each argument reads behind the call as it read before'; 0 by the template 'total and deterministic' (their statements: YtpphkaolonjjdaaDoorTotals.lean).
  GIVEN WITH THE SEED: the statements are not yours to turn. If you find one false, say at which input.
  Laid BY PROGRAM, IN A SANDBOX (cutbox-rows.mjs): the forced cells as the released guide's own fill.sh prints them over the translation f7f7e41e7dadc1e6… (all of the seat's roots in one cut). By AI agents, Wed Nov 11 2026. No macro, syntax, notation, axiom, sorry.
-/
import Derived.Test.YtpphkaolonjjdaaDoorChecked
import GoSem.Claim
import GoSem.ClaimJoined
import GoSem.ClaimMapViews
import Derived.JoinedTies
import Derived.KernelRfl
namespace Go.Proofs.YtpphkaolonjjdaaDoor
/- THE CELL 'sum', in the pinned program and in every row, IS THE sha256 OF THE DUMP (.gsa) THAT YtpphkaolonjjdaaDoorProg.lean LOADS. Nothing in Lean hashes anything: it is a label: what it is worth is what the hold of that sum in a sandbox is worth. -/
noncomputable def Tryd.pinned : Pinned := { name := "ytpphkaolonjjdaadoor", sum := "f7f7e41e7dadc1e665d550c8ad1314aa0cfe8adc5781dddaacd4a501c4fa3d1e", checked := Tryd.checked }
namespace Rows
def none {H : Type} : Left H := { results := [], args := [] }

/- WHAT THE LISTED PACKAGE-LEVEL VARIABLES READ AS WHEN THE CALL BEGINS. Each datum BY PROGRAM (the guide's laid-datum.mjs) off the statement by which the dump's own 'gosem.cut.vars' lays the variable. In a bare row this is a premise. The card (YtpphkaolonjjdaaDoorCards.lean) ties it to the program's text. -/
def laid_wainwright_sound_kinds {H : Type} : DataW H := .agg [.agg [.lit (.int .i64 0), .lit (.bool false), .lit (.bool false), .lit (.bool false)], .agg [.lit (.int .i64 0), .lit (.bool false), .lit (.bool true), .lit (.bool false)], .agg [.lit (.int .i64 1), .lit (.bool false), .lit (.bool false), .lit (.bool false)], .agg [.lit (.int .i64 3), .lit (.bool false), .lit (.bool false), .lit (.bool false)], .agg [.lit (.int .i64 0), .lit (.bool true), .lit (.bool false), .lit (.bool false)], .agg [.lit (.int .i64 0), .lit (.bool true), .lit (.bool true), .lit (.bool false)], .agg [.lit (.int .i64 0), .lit (.bool false), .lit (.bool true), .lit (.bool true)]]

/-- 'wainwrightlaw13.SoundAny': WHATEVER THE INPUT: true; the input reads as it did. -/
def soundAnySpec : ChangeSpec := { name := "soundAny", fn := fun _ => fun
  | [d] => { results := [.lit (.bool true)], args := [d] }
  | _ => none }
def soundAnyRow : OpenClaim := { program := "ytpphkaolonjjdaadoor", sum := "f7f7e41e7dadc1e665d550c8ad1314aa0cfe8adc5781dddaacd4a501c4fa3d1e", func := "wainwright/wainwrightlaw13.SoundAny", spec := "soundAny", named := ["wainwright/sound.kinds"], apart := false, laid := [("wainwright/sound.kinds", laid_wainwright_sound_kinds)] }
def SoundAnySaid : Prop := soundAnyRow.holds Tryd.pinned (OpenSpec.ofChange soundAnySpec)

/-- ITS FALSE NEIGHBOUR: 'it returns false'. Refute it at one input. -/
def soundAnyWrong : ChangeSpec := { name := "soundAny", fn := fun _ => fun
  | [d] => { results := [.lit (.bool false)], args := [d] }
  | _ => none }
def SoundAnyWrongFalsely : Prop := soundAnyRow.holds Tryd.pinned (OpenSpec.ofChange soundAnyWrong)

/-- 'wainwrightlaw13.SoundNumbers': WHATEVER THE INPUT: true; the input reads as it did. -/
def soundNumbersSpec : ChangeSpec := { name := "soundNumbers", fn := fun _ => fun
  | [d1, d2, d3, d4] => { results := [.lit (.bool true)], args := [d1, d2, d3, d4] }
  | _ => none }
def soundNumbersRow : OpenClaim := { program := "ytpphkaolonjjdaadoor", sum := "f7f7e41e7dadc1e665d550c8ad1314aa0cfe8adc5781dddaacd4a501c4fa3d1e", func := "wainwright/wainwrightlaw13.SoundNumbers", spec := "soundNumbers", recurses := true, named := ["wainwright/sound.kinds"], apart := false, laid := [("wainwright/sound.kinds", laid_wainwright_sound_kinds)] }
def SoundNumbersSaid : Prop := soundNumbersRow.holds Tryd.pinned (OpenSpec.ofChange soundNumbersSpec)

/-- ITS FALSE NEIGHBOUR: 'it returns false'. Refute it at one input. -/
def soundNumbersWrong : ChangeSpec := { name := "soundNumbers", fn := fun _ => fun
  | [d1, d2, d3, d4] => { results := [.lit (.bool false)], args := [d1, d2, d3, d4] }
  | _ => none }
def SoundNumbersWrongFalsely : Prop := soundNumbersRow.holds Tryd.pinned (OpenSpec.ofChange soundNumbersWrong)

/-- 'wainwrightlaw13.SoundPiles': WHATEVER THE INPUT: true; the input reads as it did. -/
def soundPilesSpec : ChangeSpec := { name := "soundPiles", fn := fun _ => fun
  | [d1, d2] => { results := [.lit (.bool true)], args := [d1, d2] }
  | _ => none }
def soundPilesRow : OpenClaim := { program := "ytpphkaolonjjdaadoor", sum := "f7f7e41e7dadc1e665d550c8ad1314aa0cfe8adc5781dddaacd4a501c4fa3d1e", func := "wainwright/wainwrightlaw13.SoundPiles", spec := "soundPiles", named := ["wainwright/sound.kinds"], apart := false, laid := [("wainwright/sound.kinds", laid_wainwright_sound_kinds)] }
def SoundPilesSaid : Prop := soundPilesRow.holds Tryd.pinned (OpenSpec.ofChange soundPilesSpec)

/-- ITS FALSE NEIGHBOUR: 'it returns false'. Refute it at one input. -/
def soundPilesWrong : ChangeSpec := { name := "soundPiles", fn := fun _ => fun
  | [d1, d2] => { results := [.lit (.bool false)], args := [d1, d2] }
  | _ => none }
def SoundPilesWrongFalsely : Prop := soundPilesRow.holds Tryd.pinned (OpenSpec.ofChange soundPilesWrong)

/-- 'wainwrightlaw13.SoundArgs': WHATEVER THE INPUT: true; the input reads as it did. -/
def soundArgsSpec : ChangeSpec := { name := "soundArgs", fn := fun _ => fun
  | [d1, d2, d3] => { results := [.lit (.bool true)], args := [d1, d2, d3] }
  | _ => none }
def soundArgsRow : OpenClaim := { program := "ytpphkaolonjjdaadoor", sum := "f7f7e41e7dadc1e665d550c8ad1314aa0cfe8adc5781dddaacd4a501c4fa3d1e", func := "wainwright/wainwrightlaw13.SoundArgs", spec := "soundArgs", named := ["wainwright/sound.kinds"], apart := false, laid := [("wainwright/sound.kinds", laid_wainwright_sound_kinds)] }
def SoundArgsSaid : Prop := soundArgsRow.holds Tryd.pinned (OpenSpec.ofChange soundArgsSpec)

/-- ITS FALSE NEIGHBOUR: 'it returns false'. Refute it at one input. -/
def soundArgsWrong : ChangeSpec := { name := "soundArgs", fn := fun _ => fun
  | [d1, d2, d3] => { results := [.lit (.bool false)], args := [d1, d2, d3] }
  | _ => none }
def SoundArgsWrongFalsely : Prop := soundArgsRow.holds Tryd.pinned (OpenSpec.ofChange soundArgsWrong)

/-- 'wainwrightlaw13.SoundBig': WHATEVER THE INPUT: true; the input reads as it did. -/
def soundBigSpec : ChangeSpec := { name := "soundBig", fn := fun _ => fun
  | [d1, d2] => { results := [.lit (.bool true)], args := [d1, d2] }
  | _ => none }
def soundBigRow : OpenClaim := { program := "ytpphkaolonjjdaadoor", sum := "f7f7e41e7dadc1e665d550c8ad1314aa0cfe8adc5781dddaacd4a501c4fa3d1e", func := "wainwright/wainwrightlaw13.SoundBig", spec := "soundBig", named := ["wainwright/sound.kinds"], apart := false, laid := [("wainwright/sound.kinds", laid_wainwright_sound_kinds)] }
def SoundBigSaid : Prop := soundBigRow.holds Tryd.pinned (OpenSpec.ofChange soundBigSpec)

/-- ITS FALSE NEIGHBOUR: 'it returns false'. Refute it at one input. -/
def soundBigWrong : ChangeSpec := { name := "soundBig", fn := fun _ => fun
  | [d1, d2] => { results := [.lit (.bool false)], args := [d1, d2] }
  | _ => none }
def SoundBigWrongFalsely : Prop := soundBigRow.holds Tryd.pinned (OpenSpec.ofChange soundBigWrong)

/- THE SECOND FORM. 'bulk': how many values and letters a reading holds, each counted each time it is reached (what is shared counts as often as it is met; a slice's spare places count too). A statement '..UptoSaid' is the law's where the arguments, and the package variables that the reading takes, are together of bulk at most 1048576: NARROWER than '..Said'. Prove '..Said' where nothing that the law and all that it calls make is longer than what came in: it says more and counts as full. Else prove '..UptoSaid'. A law counts once. -/
mutual
def uptoBulk {H : Type} : DataW H → Nat
  | .lit (.string bytes) => bytes.length + 1
  | .lit _ => 1
  | .nil => 1
  | .ptr d => uptoBulk d + 1
  | .slice elems spare => uptoBulkAll elems + uptoBulkAll spare + 1
  | .agg parts => uptoBulkAll parts + 1
  | .iface _ d => uptoBulk d + 1
  | .map entries => uptoBulkEntries entries + 1
  | .held _ => 1
def uptoBulkAll {H : Type} : List (DataW H) → Nat
  | [] => 0
  | d :: r => uptoBulk d + uptoBulkAll r
def uptoBulkEntries {H : Type} : List (Lit × DataW H) → Nat
  | [] => 0
  | x :: r => uptoBulkEntry x + uptoBulkEntries r
def uptoBulkEntry {H : Type} : Lit × DataW H → Nat
  | (.string bytes, d) => bytes.length + uptoBulk d + 1
  | (_, d) => uptoBulk d + 1
 end
def uptoSmall : (H : Type) → List (DataW H) → Bool := fun _ ds => decide (uptoBulkAll ds ≤ 1048576)
def OpenSpec.upto (s : _root_.Go.ChangeSpec) : _root_.Go.OpenSpec := { _root_.Go.OpenSpec.ofChange s with cond := some uptoSmall }

/-- 'wainwrightlaw13.SoundAny', WHERE WHAT IT READS IS OF BULK AT MOST 1048576: true; the input reads as it did. -/
def soundAnyUptoRow : OpenClaim := { program := "ytpphkaolonjjdaadoor", sum := "f7f7e41e7dadc1e665d550c8ad1314aa0cfe8adc5781dddaacd4a501c4fa3d1e", func := "wainwright/wainwrightlaw13.SoundAny", spec := "soundAny", named := ["wainwright/sound.kinds"], apart := false, laid := [("wainwright/sound.kinds", laid_wainwright_sound_kinds)], narrowed := true }
def SoundAnyUptoSaid : Prop := soundAnyUptoRow.holds Tryd.pinned (OpenSpec.upto soundAnySpec)

/-- 'wainwrightlaw13.SoundNumbers', WHERE WHAT IT READS IS OF BULK AT MOST 1048576: true; the input reads as it did. -/
def soundNumbersUptoRow : OpenClaim := { program := "ytpphkaolonjjdaadoor", sum := "f7f7e41e7dadc1e665d550c8ad1314aa0cfe8adc5781dddaacd4a501c4fa3d1e", func := "wainwright/wainwrightlaw13.SoundNumbers", spec := "soundNumbers", recurses := true, named := ["wainwright/sound.kinds"], apart := false, laid := [("wainwright/sound.kinds", laid_wainwright_sound_kinds)], narrowed := true }
def SoundNumbersUptoSaid : Prop := soundNumbersUptoRow.holds Tryd.pinned (OpenSpec.upto soundNumbersSpec)

/-- 'wainwrightlaw13.SoundPiles', WHERE WHAT IT READS IS OF BULK AT MOST 1048576: true; the input reads as it did. -/
def soundPilesUptoRow : OpenClaim := { program := "ytpphkaolonjjdaadoor", sum := "f7f7e41e7dadc1e665d550c8ad1314aa0cfe8adc5781dddaacd4a501c4fa3d1e", func := "wainwright/wainwrightlaw13.SoundPiles", spec := "soundPiles", named := ["wainwright/sound.kinds"], apart := false, laid := [("wainwright/sound.kinds", laid_wainwright_sound_kinds)], narrowed := true }
def SoundPilesUptoSaid : Prop := soundPilesUptoRow.holds Tryd.pinned (OpenSpec.upto soundPilesSpec)

/-- 'wainwrightlaw13.SoundArgs', WHERE WHAT IT READS IS OF BULK AT MOST 1048576: true; the input reads as it did. -/
def soundArgsUptoRow : OpenClaim := { program := "ytpphkaolonjjdaadoor", sum := "f7f7e41e7dadc1e665d550c8ad1314aa0cfe8adc5781dddaacd4a501c4fa3d1e", func := "wainwright/wainwrightlaw13.SoundArgs", spec := "soundArgs", named := ["wainwright/sound.kinds"], apart := false, laid := [("wainwright/sound.kinds", laid_wainwright_sound_kinds)], narrowed := true }
def SoundArgsUptoSaid : Prop := soundArgsUptoRow.holds Tryd.pinned (OpenSpec.upto soundArgsSpec)

/-- 'wainwrightlaw13.SoundBig', WHERE WHAT IT READS IS OF BULK AT MOST 1048576: true; the input reads as it did. -/
def soundBigUptoRow : OpenClaim := { program := "ytpphkaolonjjdaadoor", sum := "f7f7e41e7dadc1e665d550c8ad1314aa0cfe8adc5781dddaacd4a501c4fa3d1e", func := "wainwright/wainwrightlaw13.SoundBig", spec := "soundBig", named := ["wainwright/sound.kinds"], apart := false, laid := [("wainwright/sound.kinds", laid_wainwright_sound_kinds)], narrowed := true }
def SoundBigUptoSaid : Prop := soundBigUptoRow.holds Tryd.pinned (OpenSpec.upto soundBigSpec)

end Rows
end Go.Proofs.YtpphkaolonjjdaaDoor
