/-
  NARROWER THAN 'FOR EVERY INPUT', by the rows' own cells (each row's printed sentence says how): FnCodec: ifaces, laid · FnExactReadSeg: ifaces, laid · FnExactReadFrame: ifaces, laid.
  DERIVED. THE GIVEN ROWS OF THIS SEAT. 3 by the template 'for every input the law returns true; each argument reads behind the call as it read before'; 0 by the template 'total and deterministic' (their statements: YtiocbppldpogpaaDoorTotals.lean).
  GIVEN WITH THE SEED: the statements are not yours to turn. If you find one false, say at which input.
  Laid BY PROGRAM, IN A SANDBOX (cutbox-rows.mjs): the forced cells as the released guide's own fill.sh prints them over the translation 28e7cc1d3784dbb6… (all of the seat's roots in one cut). By AI agents, Wed Nov 11 2026. No macro, syntax, notation, axiom, sorry.
-/
import Derived.Test.YtiocbppldpogpaaDoorChecked
import GoSem.Claim
import GoSem.ClaimJoined
import GoSem.ClaimMapViews
import Derived.JoinedTies
import Derived.KernelRfl
namespace Go.Proofs.YtiocbppldpogpaaDoor
/- THE CELL 'sum', in the pinned program and in every row, IS THE sha256 OF THE DUMP (.gsa) THAT YtiocbppldpogpaaDoorProg.lean LOADS. Nothing in Lean hashes anything: it is a label: what it is worth is what the hold of that sum in a sandbox is worth. -/
noncomputable def Tryd.pinned : Pinned := { name := "ytiocbppldpogpaadoor", sum := "28e7cc1d3784dbb65a9bf4c666ec0810d91925ab6c0559b2d7ef1444ffa85953", checked := Tryd.checked }
namespace Rows
def none {H : Type} : Left H := { results := [], args := [] }

/- WHAT THE LISTED PACKAGE-LEVEL VARIABLES READ AS WHEN THE CALL BEGINS. Each datum BY PROGRAM (the guide's laid-datum.mjs) off the statement by which the dump's own 'gosem.cut.vars' lays the variable. In a bare row this is a premise. The card (YtiocbppldpogpaaDoorCards.lean) ties it to the program's text. -/
def laid_loop_example_g00608_impl_errTextLong {H : Type} : DataW H := .iface "*errors.errorString" (.ptr (.agg [.lit (.string [116, 104, 101, 32, 116, 101, 120, 116, 32, 105, 115, 32, 116, 111, 111, 32, 108, 111, 110, 103])]))
def laid_loop_example_g00608_impl_errTextForm {H : Type} : DataW H := .iface "*errors.errorString" (.ptr (.agg [.lit (.string [116, 104, 101, 32, 116, 101, 120, 116, 32, 105, 115, 32, 110, 111, 32, 115, 117, 99, 104, 32, 116, 104, 105, 110, 103])]))

/-- 'laws.FnCodec': WHATEVER THE INPUT: true; the input reads as it did. -/
def fnCodecSpec : ChangeSpec := { name := "fnCodec", vars := ["loop.example/g00608/impl.errTextForm", "loop.example/g00608/impl.errTextLong"], fn := fun _ => fun
  | [d1, d2, g1, g2] => { results := [.lit (.bool true)], args := [d1, d2], vars := [g1, g2] }
  | _ => none }
def fnCodecRow : OpenClaim := { program := "ytiocbppldpogpaadoor", sum := "28e7cc1d3784dbb65a9bf4c666ec0810d91925ab6c0559b2d7ef1444ffa85953", func := "loop.example/g00608/laws.FnCodec", spec := "fnCodec", inPlace := ["internal/abi.NoEscape", "internal/reflectlite.TypeOf"], unfollowed := true, recurses := true, named := ["loop.example/g00608/impl.errTextForm", "loop.example/g00608/impl.errTextLong"], ifaces := true, apart := false, laid := [("loop.example/g00608/impl.errTextLong", laid_loop_example_g00608_impl_errTextLong), ("loop.example/g00608/impl.errTextForm", laid_loop_example_g00608_impl_errTextForm)] }
def FnCodecSaid : Prop := fnCodecRow.holds Tryd.pinned (OpenSpec.ofChange fnCodecSpec)

/-- ITS FALSE NEIGHBOUR: 'it returns false'. Refute it at one input. -/
def fnCodecWrong : ChangeSpec := { name := "fnCodec", vars := ["loop.example/g00608/impl.errTextForm", "loop.example/g00608/impl.errTextLong"], fn := fun _ => fun
  | [d1, d2, g1, g2] => { results := [.lit (.bool false)], args := [d1, d2], vars := [g1, g2] }
  | _ => none }
def FnCodecWrongFalsely : Prop := fnCodecRow.holds Tryd.pinned (OpenSpec.ofChange fnCodecWrong)

/-- 'laws.FnExactReadSeg': WHATEVER THE INPUT: true; the input reads as it did. -/
def fnExactReadSegSpec : ChangeSpec := { name := "fnExactReadSeg", vars := ["loop.example/g00608/impl.errTextForm", "loop.example/g00608/impl.errTextLong"], fn := fun _ => fun
  | [d, g1, g2] => { results := [.lit (.bool true)], args := [d], vars := [g1, g2] }
  | _ => none }
def fnExactReadSegRow : OpenClaim := { program := "ytiocbppldpogpaadoor", sum := "28e7cc1d3784dbb65a9bf4c666ec0810d91925ab6c0559b2d7ef1444ffa85953", func := "loop.example/g00608/laws.FnExactReadSeg", spec := "fnExactReadSeg", inPlace := ["internal/reflectlite.TypeOf"], unfollowed := true, recurses := true, named := ["loop.example/g00608/impl.errTextForm", "loop.example/g00608/impl.errTextLong"], ifaces := true, apart := false, laid := [("loop.example/g00608/impl.errTextLong", laid_loop_example_g00608_impl_errTextLong), ("loop.example/g00608/impl.errTextForm", laid_loop_example_g00608_impl_errTextForm)] }
def FnExactReadSegSaid : Prop := fnExactReadSegRow.holds Tryd.pinned (OpenSpec.ofChange fnExactReadSegSpec)

/-- ITS FALSE NEIGHBOUR: 'it returns false'. Refute it at one input. -/
def fnExactReadSegWrong : ChangeSpec := { name := "fnExactReadSeg", vars := ["loop.example/g00608/impl.errTextForm", "loop.example/g00608/impl.errTextLong"], fn := fun _ => fun
  | [d, g1, g2] => { results := [.lit (.bool false)], args := [d], vars := [g1, g2] }
  | _ => none }
def FnExactReadSegWrongFalsely : Prop := fnExactReadSegRow.holds Tryd.pinned (OpenSpec.ofChange fnExactReadSegWrong)

/-- 'laws.FnExactReadFrame': WHATEVER THE INPUT: true; the input reads as it did. -/
def fnExactReadFrameSpec : ChangeSpec := { name := "fnExactReadFrame", vars := ["loop.example/g00608/impl.errTextForm", "loop.example/g00608/impl.errTextLong"], fn := fun _ => fun
  | [d, g1, g2] => { results := [.lit (.bool true)], args := [d], vars := [g1, g2] }
  | _ => none }
def fnExactReadFrameRow : OpenClaim := { program := "ytiocbppldpogpaadoor", sum := "28e7cc1d3784dbb65a9bf4c666ec0810d91925ab6c0559b2d7ef1444ffa85953", func := "loop.example/g00608/laws.FnExactReadFrame", spec := "fnExactReadFrame", inPlace := ["internal/reflectlite.TypeOf"], unfollowed := true, recurses := true, named := ["loop.example/g00608/impl.errTextForm", "loop.example/g00608/impl.errTextLong"], ifaces := true, apart := false, laid := [("loop.example/g00608/impl.errTextLong", laid_loop_example_g00608_impl_errTextLong), ("loop.example/g00608/impl.errTextForm", laid_loop_example_g00608_impl_errTextForm)] }
def FnExactReadFrameSaid : Prop := fnExactReadFrameRow.holds Tryd.pinned (OpenSpec.ofChange fnExactReadFrameSpec)

/-- ITS FALSE NEIGHBOUR: 'it returns false'. Refute it at one input. -/
def fnExactReadFrameWrong : ChangeSpec := { name := "fnExactReadFrame", vars := ["loop.example/g00608/impl.errTextForm", "loop.example/g00608/impl.errTextLong"], fn := fun _ => fun
  | [d, g1, g2] => { results := [.lit (.bool false)], args := [d], vars := [g1, g2] }
  | _ => none }
def FnExactReadFrameWrongFalsely : Prop := fnExactReadFrameRow.holds Tryd.pinned (OpenSpec.ofChange fnExactReadFrameWrong)

/- THE SECOND FORM. 'bulk': how many values and letters a reading holds, each counted each time it is reached (what is shared counts as often as it is met; a slice's spare places count too). A statement '..UptoSaid' is the law's where the arguments, and the package variables that the reading takes, are together of bulk at most 1048576: NARROWER than '..Said'. Prove '..Said' where nothing that the law and all that it calls make is longer than what came in: it says more and counts as full. Else prove '..UptoSaid'. A law counts once. -/
mutual
def uptoBulk {H : Type} : DataW H → Nat
  | .lit (.string bytes) => bytes.length + 1
  | .lit _ => 1
  | .nil => 1
  | .ptr d => uptoBulk d + 1
  | .slice elems spare => uptoBulkAll elems + uptoBulkAll spare + 1
  | .agg parts => uptoBulkAll parts + 1
  | .iface _ d => uptoBulk d + 1
  | .map entries => uptoBulkEntries entries + 1
  | .held _ => 1
def uptoBulkAll {H : Type} : List (DataW H) → Nat
  | [] => 0
  | d :: r => uptoBulk d + uptoBulkAll r
def uptoBulkEntries {H : Type} : List (Lit × DataW H) → Nat
  | [] => 0
  | x :: r => uptoBulkEntry x + uptoBulkEntries r
def uptoBulkEntry {H : Type} : Lit × DataW H → Nat
  | (.string bytes, d) => bytes.length + uptoBulk d + 1
  | (_, d) => uptoBulk d + 1
 end
def uptoSmall : (H : Type) → List (DataW H) → Bool := fun _ ds => decide (uptoBulkAll ds ≤ 1048576)
def OpenSpec.upto (s : _root_.Go.ChangeSpec) : _root_.Go.OpenSpec := { _root_.Go.OpenSpec.ofChange s with cond := some uptoSmall }

/-- 'laws.FnCodec', WHERE WHAT IT READS IS OF BULK AT MOST 1048576: true; the input reads as it did. -/
def fnCodecUptoRow : OpenClaim := { program := "ytiocbppldpogpaadoor", sum := "28e7cc1d3784dbb65a9bf4c666ec0810d91925ab6c0559b2d7ef1444ffa85953", func := "loop.example/g00608/laws.FnCodec", spec := "fnCodec", inPlace := ["internal/abi.NoEscape", "internal/reflectlite.TypeOf"], unfollowed := true, recurses := true, named := ["loop.example/g00608/impl.errTextForm", "loop.example/g00608/impl.errTextLong"], ifaces := true, apart := false, laid := [("loop.example/g00608/impl.errTextLong", laid_loop_example_g00608_impl_errTextLong), ("loop.example/g00608/impl.errTextForm", laid_loop_example_g00608_impl_errTextForm)], narrowed := true }
def FnCodecUptoSaid : Prop := fnCodecUptoRow.holds Tryd.pinned (OpenSpec.upto fnCodecSpec)

/-- 'laws.FnExactReadSeg', WHERE WHAT IT READS IS OF BULK AT MOST 1048576: true; the input reads as it did. -/
def fnExactReadSegUptoRow : OpenClaim := { program := "ytiocbppldpogpaadoor", sum := "28e7cc1d3784dbb65a9bf4c666ec0810d91925ab6c0559b2d7ef1444ffa85953", func := "loop.example/g00608/laws.FnExactReadSeg", spec := "fnExactReadSeg", inPlace := ["internal/reflectlite.TypeOf"], unfollowed := true, recurses := true, named := ["loop.example/g00608/impl.errTextForm", "loop.example/g00608/impl.errTextLong"], ifaces := true, apart := false, laid := [("loop.example/g00608/impl.errTextLong", laid_loop_example_g00608_impl_errTextLong), ("loop.example/g00608/impl.errTextForm", laid_loop_example_g00608_impl_errTextForm)], narrowed := true }
def FnExactReadSegUptoSaid : Prop := fnExactReadSegUptoRow.holds Tryd.pinned (OpenSpec.upto fnExactReadSegSpec)

/-- 'laws.FnExactReadFrame', WHERE WHAT IT READS IS OF BULK AT MOST 1048576: true; the input reads as it did. -/
def fnExactReadFrameUptoRow : OpenClaim := { program := "ytiocbppldpogpaadoor", sum := "28e7cc1d3784dbb65a9bf4c666ec0810d91925ab6c0559b2d7ef1444ffa85953", func := "loop.example/g00608/laws.FnExactReadFrame", spec := "fnExactReadFrame", inPlace := ["internal/reflectlite.TypeOf"], unfollowed := true, recurses := true, named := ["loop.example/g00608/impl.errTextForm", "loop.example/g00608/impl.errTextLong"], ifaces := true, apart := false, laid := [("loop.example/g00608/impl.errTextLong", laid_loop_example_g00608_impl_errTextLong), ("loop.example/g00608/impl.errTextForm", laid_loop_example_g00608_impl_errTextForm)], narrowed := true }
def FnExactReadFrameUptoSaid : Prop := fnExactReadFrameUptoRow.holds Tryd.pinned (OpenSpec.upto fnExactReadFrameSpec)

end Rows
end Go.Proofs.YtiocbppldpogpaaDoor
