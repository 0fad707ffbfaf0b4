/-
  No cell of these rows narrows 'for every input' (looked for: loops, veiled, ifaces, maps, wideKeys, modest, calm, conditions, laid).
  DERIVED. THE GIVEN ROWS OF THIS SEAT. 9 by the template 'for every input the law returns true; each argument reads behind the call as it read before'; 0 by the template 'total and deterministic' (their statements: YtckekkhfjcaclaaTotals.lean).
  GIVEN WITH THE SEED: the statements are not yours to turn. If you find one false, say at which input.
  Laid BY PROGRAM, IN A SANDBOX (cutbox-rows.mjs): the forced cells as the released guide's own fill.sh prints them over the translation 7f22da18d1e61ec6… (all of the seat's roots in one cut). By AI agents, Wed Nov 11 2026. No macro, syntax, notation, axiom, sorry.
-/
import Derived.Test.YtckekkhfjcaclaaChecked
import GoSem.Claim
import GoSem.ClaimJoined
import GoSem.ClaimMapViews
import Derived.JoinedTies
import Derived.KernelRfl
namespace Go.Proofs.Ytckekkhfjcaclaa
/- THE CELL 'sum', in the pinned program and in every row, IS THE sha256 OF THE DUMP (.gsa) THAT YtckekkhfjcaclaaProg.lean LOADS. Nothing in Lean hashes anything: it is a label: what it is worth is what the hold of that sum in a sandbox is worth. -/
noncomputable def Try.pinned : Pinned := { name := "ytckekkhfjcaclaa", sum := "7f22da18d1e61ec6d3c822e75151d706c89b04f3efe08f3fc0be935bd2c6603f", checked := Try.checked }
namespace Rows
def none {H : Type} : Left H := { results := [], args := [] }

/-- 'laws.FnUndo': WHATEVER THE INPUT: true; the input reads as it did. -/
def fnUndoSpec : ChangeSpec := { name := "fnUndo", fn := fun _ => fun
  | [d1, d2] => { results := [.lit (.bool true)], args := [d1, d2] }
  | _ => none }
def fnUndoRow : OpenClaim := { program := "ytckekkhfjcaclaa", sum := "7f22da18d1e61ec6d3c822e75151d706c89b04f3efe08f3fc0be935bd2c6603f", func := "loop.example/g00608/laws.FnUndo", spec := "fnUndo", apart := false }
def FnUndoSaid : Prop := fnUndoRow.holds Try.pinned (OpenSpec.ofChange fnUndoSpec)

/-- ITS FALSE NEIGHBOUR: 'it returns false'. Refute it at one input. -/
def fnUndoWrong : ChangeSpec := { name := "fnUndo", fn := fun _ => fun
  | [d1, d2] => { results := [.lit (.bool false)], args := [d1, d2] }
  | _ => none }
def FnUndoWrongFalsely : Prop := fnUndoRow.holds Try.pinned (OpenSpec.ofChange fnUndoWrong)

/-- 'laws.FnMerge': WHATEVER THE INPUT: true; the input reads as it did. -/
def fnMergeSpec : ChangeSpec := { name := "fnMerge", fn := fun _ => fun
  | [d1, d2] => { results := [.lit (.bool true)], args := [d1, d2] }
  | _ => none }
def fnMergeRow : OpenClaim := { program := "ytckekkhfjcaclaa", sum := "7f22da18d1e61ec6d3c822e75151d706c89b04f3efe08f3fc0be935bd2c6603f", func := "loop.example/g00608/laws.FnMerge", spec := "fnMerge", apart := false }
def FnMergeSaid : Prop := fnMergeRow.holds Try.pinned (OpenSpec.ofChange fnMergeSpec)

/-- ITS FALSE NEIGHBOUR: 'it returns false'. Refute it at one input. -/
def fnMergeWrong : ChangeSpec := { name := "fnMerge", fn := fun _ => fun
  | [d1, d2] => { results := [.lit (.bool false)], args := [d1, d2] }
  | _ => none }
def FnMergeWrongFalsely : Prop := fnMergeRow.holds Try.pinned (OpenSpec.ofChange fnMergeWrong)

/-- 'laws.FnChain': WHATEVER THE INPUT: true; the input reads as it did. -/
def fnChainSpec : ChangeSpec := { name := "fnChain", fn := fun _ => fun
  | [d1, d2] => { results := [.lit (.bool true)], args := [d1, d2] }
  | _ => none }
def fnChainRow : OpenClaim := { program := "ytckekkhfjcaclaa", sum := "7f22da18d1e61ec6d3c822e75151d706c89b04f3efe08f3fc0be935bd2c6603f", func := "loop.example/g00608/laws.FnChain", spec := "fnChain", apart := false }
def FnChainSaid : Prop := fnChainRow.holds Try.pinned (OpenSpec.ofChange fnChainSpec)

/-- ITS FALSE NEIGHBOUR: 'it returns false'. Refute it at one input. -/
def fnChainWrong : ChangeSpec := { name := "fnChain", fn := fun _ => fun
  | [d1, d2] => { results := [.lit (.bool false)], args := [d1, d2] }
  | _ => none }
def FnChainWrongFalsely : Prop := fnChainRow.holds Try.pinned (OpenSpec.ofChange fnChainWrong)

/-- 'laws.FnExactContentOK': WHATEVER THE INPUT: true; the input reads as it did. -/
def fnExactContentOKSpec : ChangeSpec := { name := "fnExactContentOK", fn := fun _ => fun
  | [d] => { results := [.lit (.bool true)], args := [d] }
  | _ => none }
def fnExactContentOKRow : OpenClaim := { program := "ytckekkhfjcaclaa", sum := "7f22da18d1e61ec6d3c822e75151d706c89b04f3efe08f3fc0be935bd2c6603f", func := "loop.example/g00608/laws.FnExactContentOK", spec := "fnExactContentOK", apart := false }
def FnExactContentOKSaid : Prop := fnExactContentOKRow.holds Try.pinned (OpenSpec.ofChange fnExactContentOKSpec)

/-- ITS FALSE NEIGHBOUR: 'it returns false'. Refute it at one input. -/
def fnExactContentOKWrong : ChangeSpec := { name := "fnExactContentOK", fn := fun _ => fun
  | [d] => { results := [.lit (.bool false)], args := [d] }
  | _ => none }
def FnExactContentOKWrongFalsely : Prop := fnExactContentOKRow.holds Try.pinned (OpenSpec.ofChange fnExactContentOKWrong)

/-- 'laws.FnExactForward': WHATEVER THE INPUT: true; the input reads as it did. -/
def fnExactForwardSpec : ChangeSpec := { name := "fnExactForward", fn := fun _ => fun
  | [d1, d2] => { results := [.lit (.bool true)], args := [d1, d2] }
  | _ => none }
def fnExactForwardRow : OpenClaim := { program := "ytckekkhfjcaclaa", sum := "7f22da18d1e61ec6d3c822e75151d706c89b04f3efe08f3fc0be935bd2c6603f", func := "loop.example/g00608/laws.FnExactForward", spec := "fnExactForward", apart := false }
def FnExactForwardSaid : Prop := fnExactForwardRow.holds Try.pinned (OpenSpec.ofChange fnExactForwardSpec)

/-- ITS FALSE NEIGHBOUR: 'it returns false'. Refute it at one input. -/
def fnExactForwardWrong : ChangeSpec := { name := "fnExactForward", fn := fun _ => fun
  | [d1, d2] => { results := [.lit (.bool false)], args := [d1, d2] }
  | _ => none }
def FnExactForwardWrongFalsely : Prop := fnExactForwardRow.holds Try.pinned (OpenSpec.ofChange fnExactForwardWrong)

/-- 'laws.FnExactBackward': WHATEVER THE INPUT: true; the input reads as it did. -/
def fnExactBackwardSpec : ChangeSpec := { name := "fnExactBackward", fn := fun _ => fun
  | [d1, d2] => { results := [.lit (.bool true)], args := [d1, d2] }
  | _ => none }
def fnExactBackwardRow : OpenClaim := { program := "ytckekkhfjcaclaa", sum := "7f22da18d1e61ec6d3c822e75151d706c89b04f3efe08f3fc0be935bd2c6603f", func := "loop.example/g00608/laws.FnExactBackward", spec := "fnExactBackward", apart := false }
def FnExactBackwardSaid : Prop := fnExactBackwardRow.holds Try.pinned (OpenSpec.ofChange fnExactBackwardSpec)

/-- ITS FALSE NEIGHBOUR: 'it returns false'. Refute it at one input. -/
def fnExactBackwardWrong : ChangeSpec := { name := "fnExactBackward", fn := fun _ => fun
  | [d1, d2] => { results := [.lit (.bool false)], args := [d1, d2] }
  | _ => none }
def FnExactBackwardWrongFalsely : Prop := fnExactBackwardRow.holds Try.pinned (OpenSpec.ofChange fnExactBackwardWrong)

/-- 'laws.FnExactMergeSegs': WHATEVER THE INPUT: true; the input reads as it did. -/
def fnExactMergeSegsSpec : ChangeSpec := { name := "fnExactMergeSegs", fn := fun _ => fun
  | [d1, d2] => { results := [.lit (.bool true)], args := [d1, d2] }
  | _ => none }
def fnExactMergeSegsRow : OpenClaim := { program := "ytckekkhfjcaclaa", sum := "7f22da18d1e61ec6d3c822e75151d706c89b04f3efe08f3fc0be935bd2c6603f", func := "loop.example/g00608/laws.FnExactMergeSegs", spec := "fnExactMergeSegs", apart := false }
def FnExactMergeSegsSaid : Prop := fnExactMergeSegsRow.holds Try.pinned (OpenSpec.ofChange fnExactMergeSegsSpec)

/-- ITS FALSE NEIGHBOUR: 'it returns false'. Refute it at one input. -/
def fnExactMergeSegsWrong : ChangeSpec := { name := "fnExactMergeSegs", fn := fun _ => fun
  | [d1, d2] => { results := [.lit (.bool false)], args := [d1, d2] }
  | _ => none }
def FnExactMergeSegsWrongFalsely : Prop := fnExactMergeSegsRow.holds Try.pinned (OpenSpec.ofChange fnExactMergeSegsWrong)

/-- 'laws.FnExactSegOf': WHATEVER THE INPUT: true; the input reads as it did. -/
def fnExactSegOfSpec : ChangeSpec := { name := "fnExactSegOf", fn := fun _ => fun
  | [d1, d2] => { results := [.lit (.bool true)], args := [d1, d2] }
  | _ => none }
def fnExactSegOfRow : OpenClaim := { program := "ytckekkhfjcaclaa", sum := "7f22da18d1e61ec6d3c822e75151d706c89b04f3efe08f3fc0be935bd2c6603f", func := "loop.example/g00608/laws.FnExactSegOf", spec := "fnExactSegOf", apart := false }
def FnExactSegOfSaid : Prop := fnExactSegOfRow.holds Try.pinned (OpenSpec.ofChange fnExactSegOfSpec)

/-- ITS FALSE NEIGHBOUR: 'it returns false'. Refute it at one input. -/
def fnExactSegOfWrong : ChangeSpec := { name := "fnExactSegOf", fn := fun _ => fun
  | [d1, d2] => { results := [.lit (.bool false)], args := [d1, d2] }
  | _ => none }
def FnExactSegOfWrongFalsely : Prop := fnExactSegOfRow.holds Try.pinned (OpenSpec.ofChange fnExactSegOfWrong)

/-- 'laws.FnExactChainOK': WHATEVER THE INPUT: true; the input reads as it did. -/
def fnExactChainOKSpec : ChangeSpec := { name := "fnExactChainOK", fn := fun _ => fun
  | [d1, d2] => { results := [.lit (.bool true)], args := [d1, d2] }
  | _ => none }
def fnExactChainOKRow : OpenClaim := { program := "ytckekkhfjcaclaa", sum := "7f22da18d1e61ec6d3c822e75151d706c89b04f3efe08f3fc0be935bd2c6603f", func := "loop.example/g00608/laws.FnExactChainOK", spec := "fnExactChainOK", apart := false }
def FnExactChainOKSaid : Prop := fnExactChainOKRow.holds Try.pinned (OpenSpec.ofChange fnExactChainOKSpec)

/-- ITS FALSE NEIGHBOUR: 'it returns false'. Refute it at one input. -/
def fnExactChainOKWrong : ChangeSpec := { name := "fnExactChainOK", fn := fun _ => fun
  | [d1, d2] => { results := [.lit (.bool false)], args := [d1, d2] }
  | _ => none }
def FnExactChainOKWrongFalsely : Prop := fnExactChainOKRow.holds Try.pinned (OpenSpec.ofChange fnExactChainOKWrong)

/- THE SECOND FORM. 'bulk': how many values and letters a reading holds, each counted each time it is reached (what is shared counts as often as it is met; a slice's spare places count too). A statement '..UptoSaid' is the law's where the arguments, and the package variables that the reading takes, are together of bulk at most 1048576: NARROWER than '..Said'. Prove '..Said' where nothing that the law and all that it calls make is longer than what came in: it says more and counts as full. Else prove '..UptoSaid'. A law counts once. -/
mutual
def uptoBulk {H : Type} : DataW H → Nat
  | .lit (.string bytes) => bytes.length + 1
  | .lit _ => 1
  | .nil => 1
  | .ptr d => uptoBulk d + 1
  | .slice elems spare => uptoBulkAll elems + uptoBulkAll spare + 1
  | .agg parts => uptoBulkAll parts + 1
  | .iface _ d => uptoBulk d + 1
  | .map entries => uptoBulkEntries entries + 1
  | .held _ => 1
def uptoBulkAll {H : Type} : List (DataW H) → Nat
  | [] => 0
  | d :: r => uptoBulk d + uptoBulkAll r
def uptoBulkEntries {H : Type} : List (Lit × DataW H) → Nat
  | [] => 0
  | x :: r => uptoBulkEntry x + uptoBulkEntries r
def uptoBulkEntry {H : Type} : Lit × DataW H → Nat
  | (.string bytes, d) => bytes.length + uptoBulk d + 1
  | (_, d) => uptoBulk d + 1
 end
def uptoSmall : (H : Type) → List (DataW H) → Bool := fun _ ds => decide (uptoBulkAll ds ≤ 1048576)
def OpenSpec.upto (s : _root_.Go.ChangeSpec) : _root_.Go.OpenSpec := { _root_.Go.OpenSpec.ofChange s with cond := some uptoSmall }

/-- 'laws.FnUndo', WHERE WHAT IT READS IS OF BULK AT MOST 1048576: true; the input reads as it did. -/
def fnUndoUptoRow : OpenClaim := { program := "ytckekkhfjcaclaa", sum := "7f22da18d1e61ec6d3c822e75151d706c89b04f3efe08f3fc0be935bd2c6603f", func := "loop.example/g00608/laws.FnUndo", spec := "fnUndo", apart := false, narrowed := true }
def FnUndoUptoSaid : Prop := fnUndoUptoRow.holds Try.pinned (OpenSpec.upto fnUndoSpec)

/-- 'laws.FnMerge', WHERE WHAT IT READS IS OF BULK AT MOST 1048576: true; the input reads as it did. -/
def fnMergeUptoRow : OpenClaim := { program := "ytckekkhfjcaclaa", sum := "7f22da18d1e61ec6d3c822e75151d706c89b04f3efe08f3fc0be935bd2c6603f", func := "loop.example/g00608/laws.FnMerge", spec := "fnMerge", apart := false, narrowed := true }
def FnMergeUptoSaid : Prop := fnMergeUptoRow.holds Try.pinned (OpenSpec.upto fnMergeSpec)

/-- 'laws.FnChain', WHERE WHAT IT READS IS OF BULK AT MOST 1048576: true; the input reads as it did. -/
def fnChainUptoRow : OpenClaim := { program := "ytckekkhfjcaclaa", sum := "7f22da18d1e61ec6d3c822e75151d706c89b04f3efe08f3fc0be935bd2c6603f", func := "loop.example/g00608/laws.FnChain", spec := "fnChain", apart := false, narrowed := true }
def FnChainUptoSaid : Prop := fnChainUptoRow.holds Try.pinned (OpenSpec.upto fnChainSpec)

/-- 'laws.FnExactContentOK', WHERE WHAT IT READS IS OF BULK AT MOST 1048576: true; the input reads as it did. -/
def fnExactContentOKUptoRow : OpenClaim := { program := "ytckekkhfjcaclaa", sum := "7f22da18d1e61ec6d3c822e75151d706c89b04f3efe08f3fc0be935bd2c6603f", func := "loop.example/g00608/laws.FnExactContentOK", spec := "fnExactContentOK", apart := false, narrowed := true }
def FnExactContentOKUptoSaid : Prop := fnExactContentOKUptoRow.holds Try.pinned (OpenSpec.upto fnExactContentOKSpec)

/-- 'laws.FnExactForward', WHERE WHAT IT READS IS OF BULK AT MOST 1048576: true; the input reads as it did. -/
def fnExactForwardUptoRow : OpenClaim := { program := "ytckekkhfjcaclaa", sum := "7f22da18d1e61ec6d3c822e75151d706c89b04f3efe08f3fc0be935bd2c6603f", func := "loop.example/g00608/laws.FnExactForward", spec := "fnExactForward", apart := false, narrowed := true }
def FnExactForwardUptoSaid : Prop := fnExactForwardUptoRow.holds Try.pinned (OpenSpec.upto fnExactForwardSpec)

/-- 'laws.FnExactBackward', WHERE WHAT IT READS IS OF BULK AT MOST 1048576: true; the input reads as it did. -/
def fnExactBackwardUptoRow : OpenClaim := { program := "ytckekkhfjcaclaa", sum := "7f22da18d1e61ec6d3c822e75151d706c89b04f3efe08f3fc0be935bd2c6603f", func := "loop.example/g00608/laws.FnExactBackward", spec := "fnExactBackward", apart := false, narrowed := true }
def FnExactBackwardUptoSaid : Prop := fnExactBackwardUptoRow.holds Try.pinned (OpenSpec.upto fnExactBackwardSpec)

/-- 'laws.FnExactMergeSegs', WHERE WHAT IT READS IS OF BULK AT MOST 1048576: true; the input reads as it did. -/
def fnExactMergeSegsUptoRow : OpenClaim := { program := "ytckekkhfjcaclaa", sum := "7f22da18d1e61ec6d3c822e75151d706c89b04f3efe08f3fc0be935bd2c6603f", func := "loop.example/g00608/laws.FnExactMergeSegs", spec := "fnExactMergeSegs", apart := false, narrowed := true }
def FnExactMergeSegsUptoSaid : Prop := fnExactMergeSegsUptoRow.holds Try.pinned (OpenSpec.upto fnExactMergeSegsSpec)

/-- 'laws.FnExactSegOf', WHERE WHAT IT READS IS OF BULK AT MOST 1048576: true; the input reads as it did. -/
def fnExactSegOfUptoRow : OpenClaim := { program := "ytckekkhfjcaclaa", sum := "7f22da18d1e61ec6d3c822e75151d706c89b04f3efe08f3fc0be935bd2c6603f", func := "loop.example/g00608/laws.FnExactSegOf", spec := "fnExactSegOf", apart := false, narrowed := true }
def FnExactSegOfUptoSaid : Prop := fnExactSegOfUptoRow.holds Try.pinned (OpenSpec.upto fnExactSegOfSpec)

/-- 'laws.FnExactChainOK', WHERE WHAT IT READS IS OF BULK AT MOST 1048576: true; the input reads as it did. -/
def fnExactChainOKUptoRow : OpenClaim := { program := "ytckekkhfjcaclaa", sum := "7f22da18d1e61ec6d3c822e75151d706c89b04f3efe08f3fc0be935bd2c6603f", func := "loop.example/g00608/laws.FnExactChainOK", spec := "fnExactChainOK", apart := false, narrowed := true }
def FnExactChainOKUptoSaid : Prop := fnExactChainOKUptoRow.holds Try.pinned (OpenSpec.upto fnExactChainOKSpec)

end Rows
end Go.Proofs.Ytckekkhfjcaclaa
