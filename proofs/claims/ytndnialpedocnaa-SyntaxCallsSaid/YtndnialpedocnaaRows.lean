/-
  No cell of these rows narrows 'for every input' (looked for: loops, veiled, ifaces, maps, wideKeys, modest, calm, conditions, laid).
  DERIVED. THE GIVEN ROWS OF THIS SEAT. 3 by the template 'for every input the law returns true; each argument reads behind the call as it read before'; 0 by the template 'total and deterministic' (their statements: YtndnialpedocnaaTotals.lean).
  GIVEN WITH THE SEED: the statements are not yours to turn. If you find one false, say at which input.
  Laid BY PROGRAM, IN A SANDBOX (cutbox-rows.mjs): the forced cells as the released guide's own fill.sh prints them over the translation 6f1a68119c22bf9e… (all of the seat's roots in one cut). By AI agents, Wed Nov 11 2026. No macro, syntax, notation, axiom, sorry.
-/
import Derived.Test.YtndnialpedocnaaChecked
import GoSem.Claim
import GoSem.ClaimJoined
import GoSem.ClaimMapViews
import Derived.JoinedTies
import Derived.KernelRfl
namespace Go.Proofs.Ytndnialpedocnaa
/- THE CELL 'sum', in the pinned program and in every row, IS THE sha256 OF THE DUMP (.gsa) THAT YtndnialpedocnaaProg.lean LOADS. Nothing in Lean hashes anything: it is a label: what it is worth is what the hold of that sum in a sandbox is worth. -/
noncomputable def Try.pinned : Pinned := { name := "ytndnialpedocnaa", sum := "6f1a68119c22bf9e3f62f7f92dd9943fec222ee4f34b95449f288697d5a28c5e", checked := Try.checked }
namespace Rows
def none {H : Type} : Left H := { results := [], args := [] }

/-- 'wainwrightlaw10.SyntaxDeep': WHATEVER THE INPUT: true; the input reads as it did. -/
def syntaxDeepSpec : ChangeSpec := { name := "syntaxDeep", fn := fun _ => fun
  | [d1, d2] => { results := [.lit (.bool true)], args := [d1, d2] }
  | _ => none }
def syntaxDeepRow : OpenClaim := { program := "ytndnialpedocnaa", sum := "6f1a68119c22bf9e3f62f7f92dd9943fec222ee4f34b95449f288697d5a28c5e", func := "wainwright/wainwrightlaw10.SyntaxDeep", spec := "syntaxDeep", inPlace := ["internal/bytealg.IndexByteString", "internal/bytealg.IndexString", "internal/abi.NoEscape"], unfollowed := true, recurses := true, named := ["internal/bytealg.MaxLen"], apart := false }
def SyntaxDeepSaid : Prop := syntaxDeepRow.holds Try.pinned (OpenSpec.ofChange syntaxDeepSpec)

/-- ITS FALSE NEIGHBOUR: 'it returns false'. Refute it at one input. -/
def syntaxDeepWrong : ChangeSpec := { name := "syntaxDeep", fn := fun _ => fun
  | [d1, d2] => { results := [.lit (.bool false)], args := [d1, d2] }
  | _ => none }
def SyntaxDeepWrongFalsely : Prop := syntaxDeepRow.holds Try.pinned (OpenSpec.ofChange syntaxDeepWrong)

/-- 'wainwrightlaw10.SyntaxCalls': WHATEVER THE INPUT: true; the input reads as it did. -/
def syntaxCallsSpec : ChangeSpec := { name := "syntaxCalls", fn := fun _ => fun
  | [d1, d2, d3] => { results := [.lit (.bool true)], args := [d1, d2, d3] }
  | _ => none }
def syntaxCallsRow : OpenClaim := { program := "ytndnialpedocnaa", sum := "6f1a68119c22bf9e3f62f7f92dd9943fec222ee4f34b95449f288697d5a28c5e", func := "wainwright/wainwrightlaw10.SyntaxCalls", spec := "syntaxCalls", inPlace := ["internal/bytealg.IndexByteString", "internal/bytealg.IndexString", "internal/abi.NoEscape"], unfollowed := true, recurses := true, named := ["internal/bytealg.MaxLen"], apart := false }
def SyntaxCallsSaid : Prop := syntaxCallsRow.holds Try.pinned (OpenSpec.ofChange syntaxCallsSpec)

/-- ITS FALSE NEIGHBOUR: 'it returns false'. Refute it at one input. -/
def syntaxCallsWrong : ChangeSpec := { name := "syntaxCalls", fn := fun _ => fun
  | [d1, d2, d3] => { results := [.lit (.bool false)], args := [d1, d2, d3] }
  | _ => none }
def SyntaxCallsWrongFalsely : Prop := syntaxCallsRow.holds Try.pinned (OpenSpec.ofChange syntaxCallsWrong)

/-- 'wainwrightlaw10.SyntaxPlain': WHATEVER THE INPUT: true; the input reads as it did. -/
def syntaxPlainSpec : ChangeSpec := { name := "syntaxPlain", fn := fun _ => fun
  | [d] => { results := [.lit (.bool true)], args := [d] }
  | _ => none }
def syntaxPlainRow : OpenClaim := { program := "ytndnialpedocnaa", sum := "6f1a68119c22bf9e3f62f7f92dd9943fec222ee4f34b95449f288697d5a28c5e", func := "wainwright/wainwrightlaw10.SyntaxPlain", spec := "syntaxPlain", inPlace := ["internal/bytealg.IndexByteString", "internal/bytealg.IndexString", "internal/abi.NoEscape"], unfollowed := true, recurses := true, named := ["internal/bytealg.MaxLen"], apart := false }
def SyntaxPlainSaid : Prop := syntaxPlainRow.holds Try.pinned (OpenSpec.ofChange syntaxPlainSpec)

/-- ITS FALSE NEIGHBOUR: 'it returns false'. Refute it at one input. -/
def syntaxPlainWrong : ChangeSpec := { name := "syntaxPlain", fn := fun _ => fun
  | [d] => { results := [.lit (.bool false)], args := [d] }
  | _ => none }
def SyntaxPlainWrongFalsely : Prop := syntaxPlainRow.holds Try.pinned (OpenSpec.ofChange syntaxPlainWrong)

/- THE SECOND FORM. 'bulk': how many values and letters a reading holds, each counted each time it is reached (what is shared counts as often as it is met; a slice's spare places count too). A statement '..UptoSaid' is the law's where the arguments, and the package variables that the reading takes, are together of bulk at most 1048576: NARROWER than '..Said'. Prove '..Said' where nothing that the law and all that it calls make is longer than what came in: it says more and counts as full. Else prove '..UptoSaid'. A law counts once. -/
mutual
def uptoBulk {H : Type} : DataW H → Nat
  | .lit (.string bytes) => bytes.length + 1
  | .lit _ => 1
  | .nil => 1
  | .ptr d => uptoBulk d + 1
  | .slice elems spare => uptoBulkAll elems + uptoBulkAll spare + 1
  | .agg parts => uptoBulkAll parts + 1
  | .iface _ d => uptoBulk d + 1
  | .map entries => uptoBulkEntries entries + 1
  | .held _ => 1
def uptoBulkAll {H : Type} : List (DataW H) → Nat
  | [] => 0
  | d :: r => uptoBulk d + uptoBulkAll r
def uptoBulkEntries {H : Type} : List (Lit × DataW H) → Nat
  | [] => 0
  | x :: r => uptoBulkEntry x + uptoBulkEntries r
def uptoBulkEntry {H : Type} : Lit × DataW H → Nat
  | (.string bytes, d) => bytes.length + uptoBulk d + 1
  | (_, d) => uptoBulk d + 1
 end
def uptoSmall : (H : Type) → List (DataW H) → Bool := fun _ ds => decide (uptoBulkAll ds ≤ 1048576)
def OpenSpec.upto (s : _root_.Go.ChangeSpec) : _root_.Go.OpenSpec := { _root_.Go.OpenSpec.ofChange s with cond := some uptoSmall }

/-- 'wainwrightlaw10.SyntaxDeep', WHERE WHAT IT READS IS OF BULK AT MOST 1048576: true; the input reads as it did. -/
def syntaxDeepUptoRow : OpenClaim := { program := "ytndnialpedocnaa", sum := "6f1a68119c22bf9e3f62f7f92dd9943fec222ee4f34b95449f288697d5a28c5e", func := "wainwright/wainwrightlaw10.SyntaxDeep", spec := "syntaxDeep", inPlace := ["internal/bytealg.IndexByteString", "internal/bytealg.IndexString", "internal/abi.NoEscape"], unfollowed := true, recurses := true, named := ["internal/bytealg.MaxLen"], apart := false, narrowed := true }
def SyntaxDeepUptoSaid : Prop := syntaxDeepUptoRow.holds Try.pinned (OpenSpec.upto syntaxDeepSpec)

/-- 'wainwrightlaw10.SyntaxCalls', WHERE WHAT IT READS IS OF BULK AT MOST 1048576: true; the input reads as it did. -/
def syntaxCallsUptoRow : OpenClaim := { program := "ytndnialpedocnaa", sum := "6f1a68119c22bf9e3f62f7f92dd9943fec222ee4f34b95449f288697d5a28c5e", func := "wainwright/wainwrightlaw10.SyntaxCalls", spec := "syntaxCalls", inPlace := ["internal/bytealg.IndexByteString", "internal/bytealg.IndexString", "internal/abi.NoEscape"], unfollowed := true, recurses := true, named := ["internal/bytealg.MaxLen"], apart := false, narrowed := true }
def SyntaxCallsUptoSaid : Prop := syntaxCallsUptoRow.holds Try.pinned (OpenSpec.upto syntaxCallsSpec)

/-- 'wainwrightlaw10.SyntaxPlain', WHERE WHAT IT READS IS OF BULK AT MOST 1048576: true; the input reads as it did. -/
def syntaxPlainUptoRow : OpenClaim := { program := "ytndnialpedocnaa", sum := "6f1a68119c22bf9e3f62f7f92dd9943fec222ee4f34b95449f288697d5a28c5e", func := "wainwright/wainwrightlaw10.SyntaxPlain", spec := "syntaxPlain", inPlace := ["internal/bytealg.IndexByteString", "internal/bytealg.IndexString", "internal/abi.NoEscape"], unfollowed := true, recurses := true, named := ["internal/bytealg.MaxLen"], apart := false, narrowed := true }
def SyntaxPlainUptoSaid : Prop := syntaxPlainUptoRow.holds Try.pinned (OpenSpec.upto syntaxPlainSpec)

end Rows
end Go.Proofs.Ytndnialpedocnaa
