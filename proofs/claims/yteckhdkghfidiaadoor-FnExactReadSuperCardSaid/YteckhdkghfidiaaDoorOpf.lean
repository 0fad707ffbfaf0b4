/-
  A frame that comes in, opened.
  Conditions: none.
-/
import Derived.Test.YteckhdkghfidiaaDoorCore
import Derived.Lib.SmallJoins
import Derived.ChangeSame
import Derived.Deep.Fields
import Derived.Deep.Slices
namespace Go.Proofs.YteckhdkghfidiaaDoor
set_option linter.unusedVariables false
open Go.Joins Go.ChangeShapes Go.WideShapes Go.RowKit Go.Deep
theorem ci_ : Tryd.prog.cellsOf 3 = 1 := by kernel_rfl
section
variable {H : Type} {enc : TypeId × Value → H} {w : World} {base : Nat} {spare : Nat → Bool} {held : Bool}
theorem one_int {fuel : Nat} {v : Value} {x : DataW H × List MemPlace} (h : DataW.trod enc Tryd.prog w base spare held fuel 3 [v] = some x) : ∃ q, v = .int .i64 q ∧ (Lit.int .i64 q).wf = true := by
  obtain ⟨q, e, _, hw⟩ := DataW.trod_int (k := .i64) Tryd.underlying3 h
  exact ⟨q, by simpa using e, hw⟩
end
end Go.Proofs.YteckhdkghfidiaaDoor
