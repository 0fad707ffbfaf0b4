/-
  Contracts of ReadFrame, as the model and as the program have it: both answer the same frame and code.
  Conditions: texts of at most 1048576 bytes; the package's errors are known.
-/
import Derived.Test.YteckhdkghfidiaaDoorRdf
namespace Go.Proofs.YteckhdkghfidiaaDoor
set_option linter.unusedVariables false
open Go.RowKit

theorem Box.far4 {w : World} {g g' : Nat} {t : TypeId} {cs : Array Value} (h : Box w g t cs) (hg : g ≠ g') (v0 v1 v2 v3 : Value) : Box (put4 w g' v0 v1 v2 v3) g t cs :=
  (((h.far (p := ⟨g', 0, none⟩) hg v0).far (p := ⟨g', 1, none⟩) hg v1).far (p := ⟨g', 2, none⟩) hg v2).far (p := ⟨g', 3, none⟩) hg v3

/-- The frame and the code that a text has. -/
def frA (t : ByteArray) : F4 := if t.size ≤ 65536 then (rdF t).getD zF else zF
def frC (t : ByteArray) : Int := if t.size ≤ 65536 then (if (rdF t).isSome then 0 else 3) else 2
theorem frA_long {t : ByteArray} (h : ¬ t.size ≤ 65536) : Ending.returned (.tuple #[vF zF, .int .i64 2]) = .returned (.tuple #[vF (frA t), .int .i64 (frC t)]) := by unfold frA frC; rw [if_neg h, if_neg h]
theorem frA_none {t : ByteArray} (h : t.size ≤ 65536) (hr : rdF t = none) : Ending.returned (.tuple #[vF zF, .int .i64 3]) = .returned (.tuple #[vF (frA t), .int .i64 (frC t)]) := by unfold frA frC; rw [if_pos h, if_pos h, hr]; rfl
theorem frA_some {t : ByteArray} {q : F4} (h : t.size ≤ 65536) (hr : rdF t = some q) : Ending.returned (.tuple #[vF q, .int .i64 0]) = .returned (.tuple #[vF (frA t), .int .i64 (frC t)]) := by unfold frA frC; rw [if_pos h, if_pos h, hr]; rfl
def RetRF (w : World) (t : ByteArray) (e : Ending) (w' : World) : Prop := e = .returned (.tuple #[vF (frA t), .int .i64 (frC t)]) ∧ Nx w w'

def erV (a0 : Addr) (o : Option F4) : Value := if o.isSome then .nilIface else .iface 150 (.pointer (some a0))
def RetFT (w : World) (o : Option F4) (a0 : Addr) (e : Ending) (w' : World) : Prop := e = .returned (.tuple #[vF (o.getD zF), erV a0 o]) ∧ Nx w w'
end Go.Proofs.YteckhdkghfidiaaDoor
