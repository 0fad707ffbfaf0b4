/-
  No cell of these rows narrows 'for every input' (looked for: loops, veiled, ifaces, maps, wideKeys, modest, calm, conditions, laid).
  DERIVED. THE GIVEN ROWS OF THIS SEAT. 11 by the template 'for every input the law returns true; each argument reads behind the call as it read before'; 0 by the template 'total and deterministic' (their statements: YtihpadelfpogmaaTotals.lean).
  GIVEN WITH THE SEED: the statements are not yours to turn. If you find one false, say at which input.
  Laid BY PROGRAM, IN A SANDBOX (cutbox-rows.mjs): the forced cells as the released guide's own fill.sh prints them over the translation 326d23b99454451e… (all of the seat's roots in one cut). By AI agents, Wed Nov 11 2026. No macro, syntax, notation, axiom, sorry.
-/
import Derived.Test.YtihpadelfpogmaaChecked
import GoSem.Claim
import GoSem.ClaimJoined
import GoSem.ClaimMapViews
import Derived.JoinedTies
import Derived.KernelRfl
namespace Go.Proofs.Ytihpadelfpogmaa
/- THE CELL 'sum', in the pinned program and in every row, IS THE sha256 OF THE DUMP (.gsa) THAT YtihpadelfpogmaaProg.lean LOADS. Nothing in Lean hashes anything: it is a label: what it is worth is what the hold of that sum in a sandbox is worth. -/
noncomputable def Try.pinned : Pinned := { name := "ytihpadelfpogmaa", sum := "326d23b99454451e9de3081cfc58700cd8563a1325c0b99059893994dca08e23", checked := Try.checked }
namespace Rows
def none {H : Type} : Left H := { results := [], args := [] }

/-- 'laws.FnExactSameVault': WHATEVER THE INPUT: true; the input reads as it did. -/
def fnExactSameVaultSpec : ChangeSpec := { name := "fnExactSameVault", fn := fun _ => fun
  | [d1, d2] => { results := [.lit (.bool true)], args := [d1, d2] }
  | _ => none }
def fnExactSameVaultRow : OpenClaim := { program := "ytihpadelfpogmaa", sum := "326d23b99454451e9de3081cfc58700cd8563a1325c0b99059893994dca08e23", func := "loop.example/g00608/laws.FnExactSameVault", spec := "fnExactSameVault", unfollowed := true, recurses := true, apart := false }
def FnExactSameVaultSaid : Prop := fnExactSameVaultRow.holds Try.pinned (OpenSpec.ofChange fnExactSameVaultSpec)

/-- ITS FALSE NEIGHBOUR: 'it returns false'. Refute it at one input. -/
def fnExactSameVaultWrong : ChangeSpec := { name := "fnExactSameVault", fn := fun _ => fun
  | [d1, d2] => { results := [.lit (.bool false)], args := [d1, d2] }
  | _ => none }
def FnExactSameVaultWrongFalsely : Prop := fnExactSameVaultRow.holds Try.pinned (OpenSpec.ofChange fnExactSameVaultWrong)

/-- 'laws.FnExactVaultOK': WHATEVER THE INPUT: true; the input reads as it did. -/
def fnExactVaultOKSpec : ChangeSpec := { name := "fnExactVaultOK", fn := fun _ => fun
  | [d] => { results := [.lit (.bool true)], args := [d] }
  | _ => none }
def fnExactVaultOKRow : OpenClaim := { program := "ytihpadelfpogmaa", sum := "326d23b99454451e9de3081cfc58700cd8563a1325c0b99059893994dca08e23", func := "loop.example/g00608/laws.FnExactVaultOK", spec := "fnExactVaultOK", apart := false }
def FnExactVaultOKSaid : Prop := fnExactVaultOKRow.holds Try.pinned (OpenSpec.ofChange fnExactVaultOKSpec)

/-- ITS FALSE NEIGHBOUR: 'it returns false'. Refute it at one input. -/
def fnExactVaultOKWrong : ChangeSpec := { name := "fnExactVaultOK", fn := fun _ => fun
  | [d] => { results := [.lit (.bool false)], args := [d] }
  | _ => none }
def FnExactVaultOKWrongFalsely : Prop := fnExactVaultOKRow.holds Try.pinned (OpenSpec.ofChange fnExactVaultOKWrong)

/-- 'laws.FnExactTipOf': WHATEVER THE INPUT: true; the input reads as it did. -/
def fnExactTipOfSpec : ChangeSpec := { name := "fnExactTipOf", fn := fun _ => fun
  | [d] => { results := [.lit (.bool true)], args := [d] }
  | _ => none }
def fnExactTipOfRow : OpenClaim := { program := "ytihpadelfpogmaa", sum := "326d23b99454451e9de3081cfc58700cd8563a1325c0b99059893994dca08e23", func := "loop.example/g00608/laws.FnExactTipOf", spec := "fnExactTipOf", apart := false }
def FnExactTipOfSaid : Prop := fnExactTipOfRow.holds Try.pinned (OpenSpec.ofChange fnExactTipOfSpec)

/-- ITS FALSE NEIGHBOUR: 'it returns false'. Refute it at one input. -/
def fnExactTipOfWrong : ChangeSpec := { name := "fnExactTipOf", fn := fun _ => fun
  | [d] => { results := [.lit (.bool false)], args := [d] }
  | _ => none }
def FnExactTipOfWrongFalsely : Prop := fnExactTipOfRow.holds Try.pinned (OpenSpec.ofChange fnExactTipOfWrong)

/-- 'laws.FnExactRetainedOf': WHATEVER THE INPUT: true; the input reads as it did. -/
def fnExactRetainedOfSpec : ChangeSpec := { name := "fnExactRetainedOf", fn := fun _ => fun
  | [d] => { results := [.lit (.bool true)], args := [d] }
  | _ => none }
def fnExactRetainedOfRow : OpenClaim := { program := "ytihpadelfpogmaa", sum := "326d23b99454451e9de3081cfc58700cd8563a1325c0b99059893994dca08e23", func := "loop.example/g00608/laws.FnExactRetainedOf", spec := "fnExactRetainedOf", apart := false }
def FnExactRetainedOfSaid : Prop := fnExactRetainedOfRow.holds Try.pinned (OpenSpec.ofChange fnExactRetainedOfSpec)

/-- ITS FALSE NEIGHBOUR: 'it returns false'. Refute it at one input. -/
def fnExactRetainedOfWrong : ChangeSpec := { name := "fnExactRetainedOf", fn := fun _ => fun
  | [d] => { results := [.lit (.bool false)], args := [d] }
  | _ => none }
def FnExactRetainedOfWrongFalsely : Prop := fnExactRetainedOfRow.holds Try.pinned (OpenSpec.ofChange fnExactRetainedOfWrong)

/-- 'laws.FnExactContentAt': WHATEVER THE INPUT: true; the input reads as it did. -/
def fnExactContentAtSpec : ChangeSpec := { name := "fnExactContentAt", fn := fun _ => fun
  | [d1, d2] => { results := [.lit (.bool true)], args := [d1, d2] }
  | _ => none }
def fnExactContentAtRow : OpenClaim := { program := "ytihpadelfpogmaa", sum := "326d23b99454451e9de3081cfc58700cd8563a1325c0b99059893994dca08e23", func := "loop.example/g00608/laws.FnExactContentAt", spec := "fnExactContentAt", apart := false }
def FnExactContentAtSaid : Prop := fnExactContentAtRow.holds Try.pinned (OpenSpec.ofChange fnExactContentAtSpec)

/-- ITS FALSE NEIGHBOUR: 'it returns false'. Refute it at one input. -/
def fnExactContentAtWrong : ChangeSpec := { name := "fnExactContentAt", fn := fun _ => fun
  | [d1, d2] => { results := [.lit (.bool false)], args := [d1, d2] }
  | _ => none }
def FnExactContentAtWrongFalsely : Prop := fnExactContentAtRow.holds Try.pinned (OpenSpec.ofChange fnExactContentAtWrong)

/-- 'laws.FnExactSegOf': WHATEVER THE INPUT: true; the input reads as it did. -/
def fnExactSegOfSpec : ChangeSpec := { name := "fnExactSegOf", fn := fun _ => fun
  | [d1, d2] => { results := [.lit (.bool true)], args := [d1, d2] }
  | _ => none }
def fnExactSegOfRow : OpenClaim := { program := "ytihpadelfpogmaa", sum := "326d23b99454451e9de3081cfc58700cd8563a1325c0b99059893994dca08e23", func := "loop.example/g00608/laws.FnExactSegOf", spec := "fnExactSegOf", apart := false }
def FnExactSegOfSaid : Prop := fnExactSegOfRow.holds Try.pinned (OpenSpec.ofChange fnExactSegOfSpec)

/-- ITS FALSE NEIGHBOUR: 'it returns false'. Refute it at one input. -/
def fnExactSegOfWrong : ChangeSpec := { name := "fnExactSegOf", fn := fun _ => fun
  | [d1, d2] => { results := [.lit (.bool false)], args := [d1, d2] }
  | _ => none }
def FnExactSegOfWrongFalsely : Prop := fnExactSegOfRow.holds Try.pinned (OpenSpec.ofChange fnExactSegOfWrong)

/-- 'laws.FnExactFreeSectors': WHATEVER THE INPUT: true; the input reads as it did. -/
def fnExactFreeSectorsSpec : ChangeSpec := { name := "fnExactFreeSectors", fn := fun _ => fun
  | [d] => { results := [.lit (.bool true)], args := [d] }
  | _ => none }
def fnExactFreeSectorsRow : OpenClaim := { program := "ytihpadelfpogmaa", sum := "326d23b99454451e9de3081cfc58700cd8563a1325c0b99059893994dca08e23", func := "loop.example/g00608/laws.FnExactFreeSectors", spec := "fnExactFreeSectors", apart := false }
def FnExactFreeSectorsSaid : Prop := fnExactFreeSectorsRow.holds Try.pinned (OpenSpec.ofChange fnExactFreeSectorsSpec)

/-- ITS FALSE NEIGHBOUR: 'it returns false'. Refute it at one input. -/
def fnExactFreeSectorsWrong : ChangeSpec := { name := "fnExactFreeSectors", fn := fun _ => fun
  | [d] => { results := [.lit (.bool false)], args := [d] }
  | _ => none }
def FnExactFreeSectorsWrongFalsely : Prop := fnExactFreeSectorsRow.holds Try.pinned (OpenSpec.ofChange fnExactFreeSectorsWrong)

/-- 'laws.FnFree': WHATEVER THE INPUT: true; the input reads as it did. -/
def fnFreeSpec : ChangeSpec := { name := "fnFree", fn := fun _ => fun
  | [d] => { results := [.lit (.bool true)], args := [d] }
  | _ => none }
def fnFreeRow : OpenClaim := { program := "ytihpadelfpogmaa", sum := "326d23b99454451e9de3081cfc58700cd8563a1325c0b99059893994dca08e23", func := "loop.example/g00608/laws.FnFree", spec := "fnFree", apart := false }
def FnFreeSaid : Prop := fnFreeRow.holds Try.pinned (OpenSpec.ofChange fnFreeSpec)

/-- ITS FALSE NEIGHBOUR: 'it returns false'. Refute it at one input. -/
def fnFreeWrong : ChangeSpec := { name := "fnFree", fn := fun _ => fun
  | [d] => { results := [.lit (.bool false)], args := [d] }
  | _ => none }
def FnFreeWrongFalsely : Prop := fnFreeRow.holds Try.pinned (OpenSpec.ofChange fnFreeWrong)

/-- 'laws.FnUndo': WHATEVER THE INPUT: true; the input reads as it did. -/
def fnUndoSpec : ChangeSpec := { name := "fnUndo", fn := fun _ => fun
  | [d1, d2] => { results := [.lit (.bool true)], args := [d1, d2] }
  | _ => none }
def fnUndoRow : OpenClaim := { program := "ytihpadelfpogmaa", sum := "326d23b99454451e9de3081cfc58700cd8563a1325c0b99059893994dca08e23", func := "loop.example/g00608/laws.FnUndo", spec := "fnUndo", apart := false }
def FnUndoSaid : Prop := fnUndoRow.holds Try.pinned (OpenSpec.ofChange fnUndoSpec)

/-- ITS FALSE NEIGHBOUR: 'it returns false'. Refute it at one input. -/
def fnUndoWrong : ChangeSpec := { name := "fnUndo", fn := fun _ => fun
  | [d1, d2] => { results := [.lit (.bool false)], args := [d1, d2] }
  | _ => none }
def FnUndoWrongFalsely : Prop := fnUndoRow.holds Try.pinned (OpenSpec.ofChange fnUndoWrong)

/-- 'laws.FnMerge': WHATEVER THE INPUT: true; the input reads as it did. -/
def fnMergeSpec : ChangeSpec := { name := "fnMerge", fn := fun _ => fun
  | [d1, d2] => { results := [.lit (.bool true)], args := [d1, d2] }
  | _ => none }
def fnMergeRow : OpenClaim := { program := "ytihpadelfpogmaa", sum := "326d23b99454451e9de3081cfc58700cd8563a1325c0b99059893994dca08e23", func := "loop.example/g00608/laws.FnMerge", spec := "fnMerge", apart := false }
def FnMergeSaid : Prop := fnMergeRow.holds Try.pinned (OpenSpec.ofChange fnMergeSpec)

/-- ITS FALSE NEIGHBOUR: 'it returns false'. Refute it at one input. -/
def fnMergeWrong : ChangeSpec := { name := "fnMerge", fn := fun _ => fun
  | [d1, d2] => { results := [.lit (.bool false)], args := [d1, d2] }
  | _ => none }
def FnMergeWrongFalsely : Prop := fnMergeRow.holds Try.pinned (OpenSpec.ofChange fnMergeWrong)

/-- 'laws.FnChain': WHATEVER THE INPUT: true; the input reads as it did. -/
def fnChainSpec : ChangeSpec := { name := "fnChain", fn := fun _ => fun
  | [d1, d2] => { results := [.lit (.bool true)], args := [d1, d2] }
  | _ => none }
def fnChainRow : OpenClaim := { program := "ytihpadelfpogmaa", sum := "326d23b99454451e9de3081cfc58700cd8563a1325c0b99059893994dca08e23", func := "loop.example/g00608/laws.FnChain", spec := "fnChain", apart := false }
def FnChainSaid : Prop := fnChainRow.holds Try.pinned (OpenSpec.ofChange fnChainSpec)

/-- ITS FALSE NEIGHBOUR: 'it returns false'. Refute it at one input. -/
def fnChainWrong : ChangeSpec := { name := "fnChain", fn := fun _ => fun
  | [d1, d2] => { results := [.lit (.bool false)], args := [d1, d2] }
  | _ => none }
def FnChainWrongFalsely : Prop := fnChainRow.holds Try.pinned (OpenSpec.ofChange fnChainWrong)

/- THE SECOND FORM. 'bulk': how many values and letters a reading holds, each counted each time it is reached (what is shared counts as often as it is met; a slice's spare places count too). A statement '..UptoSaid' is the law's where the arguments, and the package variables that the reading takes, are together of bulk at most 1048576: NARROWER than '..Said'. Prove '..Said' where nothing that the law and all that it calls make is longer than what came in: it says more and counts as full. Else prove '..UptoSaid'. A law counts once. -/
mutual
def uptoBulk {H : Type} : DataW H → Nat
  | .lit (.string bytes) => bytes.length + 1
  | .lit _ => 1
  | .nil => 1
  | .ptr d => uptoBulk d + 1
  | .slice elems spare => uptoBulkAll elems + uptoBulkAll spare + 1
  | .agg parts => uptoBulkAll parts + 1
  | .iface _ d => uptoBulk d + 1
  | .map entries => uptoBulkEntries entries + 1
  | .held _ => 1
def uptoBulkAll {H : Type} : List (DataW H) → Nat
  | [] => 0
  | d :: r => uptoBulk d + uptoBulkAll r
def uptoBulkEntries {H : Type} : List (Lit × DataW H) → Nat
  | [] => 0
  | x :: r => uptoBulkEntry x + uptoBulkEntries r
def uptoBulkEntry {H : Type} : Lit × DataW H → Nat
  | (.string bytes, d) => bytes.length + uptoBulk d + 1
  | (_, d) => uptoBulk d + 1
 end
def uptoSmall : (H : Type) → List (DataW H) → Bool := fun _ ds => decide (uptoBulkAll ds ≤ 1048576)
def OpenSpec.upto (s : _root_.Go.ChangeSpec) : _root_.Go.OpenSpec := { _root_.Go.OpenSpec.ofChange s with cond := some uptoSmall }

/-- 'laws.FnExactSameVault', WHERE WHAT IT READS IS OF BULK AT MOST 1048576: true; the input reads as it did. -/
def fnExactSameVaultUptoRow : OpenClaim := { program := "ytihpadelfpogmaa", sum := "326d23b99454451e9de3081cfc58700cd8563a1325c0b99059893994dca08e23", func := "loop.example/g00608/laws.FnExactSameVault", spec := "fnExactSameVault", unfollowed := true, recurses := true, apart := false, narrowed := true }
def FnExactSameVaultUptoSaid : Prop := fnExactSameVaultUptoRow.holds Try.pinned (OpenSpec.upto fnExactSameVaultSpec)

/-- 'laws.FnExactVaultOK', WHERE WHAT IT READS IS OF BULK AT MOST 1048576: true; the input reads as it did. -/
def fnExactVaultOKUptoRow : OpenClaim := { program := "ytihpadelfpogmaa", sum := "326d23b99454451e9de3081cfc58700cd8563a1325c0b99059893994dca08e23", func := "loop.example/g00608/laws.FnExactVaultOK", spec := "fnExactVaultOK", apart := false, narrowed := true }
def FnExactVaultOKUptoSaid : Prop := fnExactVaultOKUptoRow.holds Try.pinned (OpenSpec.upto fnExactVaultOKSpec)

/-- 'laws.FnExactTipOf', WHERE WHAT IT READS IS OF BULK AT MOST 1048576: true; the input reads as it did. -/
def fnExactTipOfUptoRow : OpenClaim := { program := "ytihpadelfpogmaa", sum := "326d23b99454451e9de3081cfc58700cd8563a1325c0b99059893994dca08e23", func := "loop.example/g00608/laws.FnExactTipOf", spec := "fnExactTipOf", apart := false, narrowed := true }
def FnExactTipOfUptoSaid : Prop := fnExactTipOfUptoRow.holds Try.pinned (OpenSpec.upto fnExactTipOfSpec)

/-- 'laws.FnExactRetainedOf', WHERE WHAT IT READS IS OF BULK AT MOST 1048576: true; the input reads as it did. -/
def fnExactRetainedOfUptoRow : OpenClaim := { program := "ytihpadelfpogmaa", sum := "326d23b99454451e9de3081cfc58700cd8563a1325c0b99059893994dca08e23", func := "loop.example/g00608/laws.FnExactRetainedOf", spec := "fnExactRetainedOf", apart := false, narrowed := true }
def FnExactRetainedOfUptoSaid : Prop := fnExactRetainedOfUptoRow.holds Try.pinned (OpenSpec.upto fnExactRetainedOfSpec)

/-- 'laws.FnExactContentAt', WHERE WHAT IT READS IS OF BULK AT MOST 1048576: true; the input reads as it did. -/
def fnExactContentAtUptoRow : OpenClaim := { program := "ytihpadelfpogmaa", sum := "326d23b99454451e9de3081cfc58700cd8563a1325c0b99059893994dca08e23", func := "loop.example/g00608/laws.FnExactContentAt", spec := "fnExactContentAt", apart := false, narrowed := true }
def FnExactContentAtUptoSaid : Prop := fnExactContentAtUptoRow.holds Try.pinned (OpenSpec.upto fnExactContentAtSpec)

/-- 'laws.FnExactSegOf', WHERE WHAT IT READS IS OF BULK AT MOST 1048576: true; the input reads as it did. -/
def fnExactSegOfUptoRow : OpenClaim := { program := "ytihpadelfpogmaa", sum := "326d23b99454451e9de3081cfc58700cd8563a1325c0b99059893994dca08e23", func := "loop.example/g00608/laws.FnExactSegOf", spec := "fnExactSegOf", apart := false, narrowed := true }
def FnExactSegOfUptoSaid : Prop := fnExactSegOfUptoRow.holds Try.pinned (OpenSpec.upto fnExactSegOfSpec)

/-- 'laws.FnExactFreeSectors', WHERE WHAT IT READS IS OF BULK AT MOST 1048576: true; the input reads as it did. -/
def fnExactFreeSectorsUptoRow : OpenClaim := { program := "ytihpadelfpogmaa", sum := "326d23b99454451e9de3081cfc58700cd8563a1325c0b99059893994dca08e23", func := "loop.example/g00608/laws.FnExactFreeSectors", spec := "fnExactFreeSectors", apart := false, narrowed := true }
def FnExactFreeSectorsUptoSaid : Prop := fnExactFreeSectorsUptoRow.holds Try.pinned (OpenSpec.upto fnExactFreeSectorsSpec)

/-- 'laws.FnFree', WHERE WHAT IT READS IS OF BULK AT MOST 1048576: true; the input reads as it did. -/
def fnFreeUptoRow : OpenClaim := { program := "ytihpadelfpogmaa", sum := "326d23b99454451e9de3081cfc58700cd8563a1325c0b99059893994dca08e23", func := "loop.example/g00608/laws.FnFree", spec := "fnFree", apart := false, narrowed := true }
def FnFreeUptoSaid : Prop := fnFreeUptoRow.holds Try.pinned (OpenSpec.upto fnFreeSpec)

/-- 'laws.FnUndo', WHERE WHAT IT READS IS OF BULK AT MOST 1048576: true; the input reads as it did. -/
def fnUndoUptoRow : OpenClaim := { program := "ytihpadelfpogmaa", sum := "326d23b99454451e9de3081cfc58700cd8563a1325c0b99059893994dca08e23", func := "loop.example/g00608/laws.FnUndo", spec := "fnUndo", apart := false, narrowed := true }
def FnUndoUptoSaid : Prop := fnUndoUptoRow.holds Try.pinned (OpenSpec.upto fnUndoSpec)

/-- 'laws.FnMerge', WHERE WHAT IT READS IS OF BULK AT MOST 1048576: true; the input reads as it did. -/
def fnMergeUptoRow : OpenClaim := { program := "ytihpadelfpogmaa", sum := "326d23b99454451e9de3081cfc58700cd8563a1325c0b99059893994dca08e23", func := "loop.example/g00608/laws.FnMerge", spec := "fnMerge", apart := false, narrowed := true }
def FnMergeUptoSaid : Prop := fnMergeUptoRow.holds Try.pinned (OpenSpec.upto fnMergeSpec)

/-- 'laws.FnChain', WHERE WHAT IT READS IS OF BULK AT MOST 1048576: true; the input reads as it did. -/
def fnChainUptoRow : OpenClaim := { program := "ytihpadelfpogmaa", sum := "326d23b99454451e9de3081cfc58700cd8563a1325c0b99059893994dca08e23", func := "loop.example/g00608/laws.FnChain", spec := "fnChain", apart := false, narrowed := true }
def FnChainUptoSaid : Prop := fnChainUptoRow.holds Try.pinned (OpenSpec.upto fnChainSpec)

end Rows
end Go.Proofs.Ytihpadelfpogmaa
