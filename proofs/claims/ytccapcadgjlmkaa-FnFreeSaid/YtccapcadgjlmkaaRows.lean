/-
  No cell of these rows narrows 'for every input' (looked for: loops, veiled, ifaces, maps, wideKeys, modest, calm, conditions, laid).
  DERIVED. THE GIVEN ROWS OF THIS SEAT. 5 by the template 'for every input the law returns true; each argument reads behind the call as it read before'; 0 by the template 'total and deterministic' (their statements: YtccapcadgjlmkaaTotals.lean).
  GIVEN WITH THE SEED: the statements are not yours to turn. If you find one false, say at which input.
  Laid BY PROGRAM, IN A SANDBOX (cutbox-rows.mjs): the forced cells as the released guide's own fill.sh prints them over the translation 5cfbd67272b3817e… (all of the seat's roots in one cut). By AI agents, Wed Nov 11 2026. No macro, syntax, notation, axiom, sorry.
-/
import Derived.Test.YtccapcadgjlmkaaChecked
import GoSem.Claim
import GoSem.ClaimJoined
import GoSem.ClaimMapViews
import Derived.JoinedTies
import Derived.KernelRfl
namespace Go.Proofs.Ytccapcadgjlmkaa
/- THE CELL 'sum', in the pinned program and in every row, IS THE sha256 OF THE DUMP (.gsa) THAT YtccapcadgjlmkaaProg.lean LOADS. Nothing in Lean hashes anything: it is a label: what it is worth is what the hold of that sum in a sandbox is worth. -/
noncomputable def Try.pinned : Pinned := { name := "ytccapcadgjlmkaa", sum := "5cfbd67272b3817ec39fc573d6a7753af27ba053411380e70fd089d64918bdc6", checked := Try.checked }
namespace Rows
def none {H : Type} : Left H := { results := [], args := [] }

/-- 'laws.FnDisk': WHATEVER THE INPUT: true; the input reads as it did. -/
def fnDiskSpec : ChangeSpec := { name := "fnDisk", fn := fun _ => fun
  | [d1, d2] => { results := [.lit (.bool true)], args := [d1, d2] }
  | _ => none }
def fnDiskRow : OpenClaim := { program := "ytccapcadgjlmkaa", sum := "5cfbd67272b3817ec39fc573d6a7753af27ba053411380e70fd089d64918bdc6", func := "loop.example/g00608/laws.FnDisk", spec := "fnDisk", apart := false }
def FnDiskSaid : Prop := fnDiskRow.holds Try.pinned (OpenSpec.ofChange fnDiskSpec)

/-- ITS FALSE NEIGHBOUR: 'it returns false'. Refute it at one input. -/
def fnDiskWrong : ChangeSpec := { name := "fnDisk", fn := fun _ => fun
  | [d1, d2] => { results := [.lit (.bool false)], args := [d1, d2] }
  | _ => none }
def FnDiskWrongFalsely : Prop := fnDiskRow.holds Try.pinned (OpenSpec.ofChange fnDiskWrong)

/-- 'laws.FnFree': WHATEVER THE INPUT: true; the input reads as it did. -/
def fnFreeSpec : ChangeSpec := { name := "fnFree", fn := fun _ => fun
  | [d] => { results := [.lit (.bool true)], args := [d] }
  | _ => none }
def fnFreeRow : OpenClaim := { program := "ytccapcadgjlmkaa", sum := "5cfbd67272b3817ec39fc573d6a7753af27ba053411380e70fd089d64918bdc6", func := "loop.example/g00608/laws.FnFree", spec := "fnFree", apart := false }
def FnFreeSaid : Prop := fnFreeRow.holds Try.pinned (OpenSpec.ofChange fnFreeSpec)

/-- ITS FALSE NEIGHBOUR: 'it returns false'. Refute it at one input. -/
def fnFreeWrong : ChangeSpec := { name := "fnFree", fn := fun _ => fun
  | [d] => { results := [.lit (.bool false)], args := [d] }
  | _ => none }
def FnFreeWrongFalsely : Prop := fnFreeRow.holds Try.pinned (OpenSpec.ofChange fnFreeWrong)

/-- 'laws.FnExactFlushDisk': WHATEVER THE INPUT: true; the input reads as it did. -/
def fnExactFlushDiskSpec : ChangeSpec := { name := "fnExactFlushDisk", fn := fun _ => fun
  | [d] => { results := [.lit (.bool true)], args := [d] }
  | _ => none }
def fnExactFlushDiskRow : OpenClaim := { program := "ytccapcadgjlmkaa", sum := "5cfbd67272b3817ec39fc573d6a7753af27ba053411380e70fd089d64918bdc6", func := "loop.example/g00608/laws.FnExactFlushDisk", spec := "fnExactFlushDisk", apart := false }
def FnExactFlushDiskSaid : Prop := fnExactFlushDiskRow.holds Try.pinned (OpenSpec.ofChange fnExactFlushDiskSpec)

/-- ITS FALSE NEIGHBOUR: 'it returns false'. Refute it at one input. -/
def fnExactFlushDiskWrong : ChangeSpec := { name := "fnExactFlushDisk", fn := fun _ => fun
  | [d] => { results := [.lit (.bool false)], args := [d] }
  | _ => none }
def FnExactFlushDiskWrongFalsely : Prop := fnExactFlushDiskRow.holds Try.pinned (OpenSpec.ofChange fnExactFlushDiskWrong)

/-- 'laws.FnExactSuperOK': WHATEVER THE INPUT: true; the input reads as it did. -/
def fnExactSuperOKSpec : ChangeSpec := { name := "fnExactSuperOK", fn := fun _ => fun
  | [d] => { results := [.lit (.bool true)], args := [d] }
  | _ => none }
def fnExactSuperOKRow : OpenClaim := { program := "ytccapcadgjlmkaa", sum := "5cfbd67272b3817ec39fc573d6a7753af27ba053411380e70fd089d64918bdc6", func := "loop.example/g00608/laws.FnExactSuperOK", spec := "fnExactSuperOK", apart := false }
def FnExactSuperOKSaid : Prop := fnExactSuperOKRow.holds Try.pinned (OpenSpec.ofChange fnExactSuperOKSpec)

/-- ITS FALSE NEIGHBOUR: 'it returns false'. Refute it at one input. -/
def fnExactSuperOKWrong : ChangeSpec := { name := "fnExactSuperOK", fn := fun _ => fun
  | [d] => { results := [.lit (.bool false)], args := [d] }
  | _ => none }
def FnExactSuperOKWrongFalsely : Prop := fnExactSuperOKRow.holds Try.pinned (OpenSpec.ofChange fnExactSuperOKWrong)

/-- 'laws.FnExactFreeSectors': WHATEVER THE INPUT: true; the input reads as it did. -/
def fnExactFreeSectorsSpec : ChangeSpec := { name := "fnExactFreeSectors", fn := fun _ => fun
  | [d] => { results := [.lit (.bool true)], args := [d] }
  | _ => none }
def fnExactFreeSectorsRow : OpenClaim := { program := "ytccapcadgjlmkaa", sum := "5cfbd67272b3817ec39fc573d6a7753af27ba053411380e70fd089d64918bdc6", func := "loop.example/g00608/laws.FnExactFreeSectors", spec := "fnExactFreeSectors", apart := false }
def FnExactFreeSectorsSaid : Prop := fnExactFreeSectorsRow.holds Try.pinned (OpenSpec.ofChange fnExactFreeSectorsSpec)

/-- ITS FALSE NEIGHBOUR: 'it returns false'. Refute it at one input. -/
def fnExactFreeSectorsWrong : ChangeSpec := { name := "fnExactFreeSectors", fn := fun _ => fun
  | [d] => { results := [.lit (.bool false)], args := [d] }
  | _ => none }
def FnExactFreeSectorsWrongFalsely : Prop := fnExactFreeSectorsRow.holds Try.pinned (OpenSpec.ofChange fnExactFreeSectorsWrong)

/- THE SECOND FORM. 'bulk': how many values and letters a reading holds, each counted each time it is reached (what is shared counts as often as it is met; a slice's spare places count too). A statement '..UptoSaid' is the law's where the arguments, and the package variables that the reading takes, are together of bulk at most 1048576: NARROWER than '..Said'. Prove '..Said' where nothing that the law and all that it calls make is longer than what came in: it says more and counts as full. Else prove '..UptoSaid'. A law counts once. -/
mutual
def uptoBulk {H : Type} : DataW H → Nat
  | .lit (.string bytes) => bytes.length + 1
  | .lit _ => 1
  | .nil => 1
  | .ptr d => uptoBulk d + 1
  | .slice elems spare => uptoBulkAll elems + uptoBulkAll spare + 1
  | .agg parts => uptoBulkAll parts + 1
  | .iface _ d => uptoBulk d + 1
  | .map entries => uptoBulkEntries entries + 1
  | .held _ => 1
def uptoBulkAll {H : Type} : List (DataW H) → Nat
  | [] => 0
  | d :: r => uptoBulk d + uptoBulkAll r
def uptoBulkEntries {H : Type} : List (Lit × DataW H) → Nat
  | [] => 0
  | x :: r => uptoBulkEntry x + uptoBulkEntries r
def uptoBulkEntry {H : Type} : Lit × DataW H → Nat
  | (.string bytes, d) => bytes.length + uptoBulk d + 1
  | (_, d) => uptoBulk d + 1
 end
def uptoSmall : (H : Type) → List (DataW H) → Bool := fun _ ds => decide (uptoBulkAll ds ≤ 1048576)
def OpenSpec.upto (s : _root_.Go.ChangeSpec) : _root_.Go.OpenSpec := { _root_.Go.OpenSpec.ofChange s with cond := some uptoSmall }

/-- 'laws.FnDisk', WHERE WHAT IT READS IS OF BULK AT MOST 1048576: true; the input reads as it did. -/
def fnDiskUptoRow : OpenClaim := { program := "ytccapcadgjlmkaa", sum := "5cfbd67272b3817ec39fc573d6a7753af27ba053411380e70fd089d64918bdc6", func := "loop.example/g00608/laws.FnDisk", spec := "fnDisk", apart := false, narrowed := true }
def FnDiskUptoSaid : Prop := fnDiskUptoRow.holds Try.pinned (OpenSpec.upto fnDiskSpec)

/-- 'laws.FnFree', WHERE WHAT IT READS IS OF BULK AT MOST 1048576: true; the input reads as it did. -/
def fnFreeUptoRow : OpenClaim := { program := "ytccapcadgjlmkaa", sum := "5cfbd67272b3817ec39fc573d6a7753af27ba053411380e70fd089d64918bdc6", func := "loop.example/g00608/laws.FnFree", spec := "fnFree", apart := false, narrowed := true }
def FnFreeUptoSaid : Prop := fnFreeUptoRow.holds Try.pinned (OpenSpec.upto fnFreeSpec)

/-- 'laws.FnExactFlushDisk', WHERE WHAT IT READS IS OF BULK AT MOST 1048576: true; the input reads as it did. -/
def fnExactFlushDiskUptoRow : OpenClaim := { program := "ytccapcadgjlmkaa", sum := "5cfbd67272b3817ec39fc573d6a7753af27ba053411380e70fd089d64918bdc6", func := "loop.example/g00608/laws.FnExactFlushDisk", spec := "fnExactFlushDisk", apart := false, narrowed := true }
def FnExactFlushDiskUptoSaid : Prop := fnExactFlushDiskUptoRow.holds Try.pinned (OpenSpec.upto fnExactFlushDiskSpec)

/-- 'laws.FnExactSuperOK', WHERE WHAT IT READS IS OF BULK AT MOST 1048576: true; the input reads as it did. -/
def fnExactSuperOKUptoRow : OpenClaim := { program := "ytccapcadgjlmkaa", sum := "5cfbd67272b3817ec39fc573d6a7753af27ba053411380e70fd089d64918bdc6", func := "loop.example/g00608/laws.FnExactSuperOK", spec := "fnExactSuperOK", apart := false, narrowed := true }
def FnExactSuperOKUptoSaid : Prop := fnExactSuperOKUptoRow.holds Try.pinned (OpenSpec.upto fnExactSuperOKSpec)

/-- 'laws.FnExactFreeSectors', WHERE WHAT IT READS IS OF BULK AT MOST 1048576: true; the input reads as it did. -/
def fnExactFreeSectorsUptoRow : OpenClaim := { program := "ytccapcadgjlmkaa", sum := "5cfbd67272b3817ec39fc573d6a7753af27ba053411380e70fd089d64918bdc6", func := "loop.example/g00608/laws.FnExactFreeSectors", spec := "fnExactFreeSectors", apart := false, narrowed := true }
def FnExactFreeSectorsUptoSaid : Prop := fnExactFreeSectorsUptoRow.holds Try.pinned (OpenSpec.upto fnExactFreeSectorsSpec)

end Rows
end Go.Proofs.Ytccapcadgjlmkaa
