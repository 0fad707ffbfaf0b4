/-
  A frame that comes in, opened.
  Conditions: none.
-/
import Derived.Test.YtihpadelfpogmaaCore
import Derived.Lib.SmallJoins
import Derived.ChangeSame
import Derived.Deep.Fields
import Derived.Deep.Slices
namespace Go.Proofs.Ytihpadelfpogmaa
set_option linter.unusedVariables false
set_option maxRecDepth 100000
open Go.Joins Go.ChangeShapes Go.WideShapes Go.RowKit Go.Deep
theorem ci_ : Try.prog.cellsOf 3 = 1 := by kernel_rfl
section
variable {H : Type} {enc : TypeId × Value → H} {w : World} {base : Nat} {spare : Nat → Bool} {held : Bool}
theorem one_int {fuel : Nat} {v : Value} {x : DataW H × List MemPlace} (h : DataW.trod enc Try.prog w base spare held fuel 3 [v] = some x) : ∃ q, v = .int .i64 q ∧ (Lit.int .i64 q).wf = true := by
  obtain ⟨q, e, _, hw⟩ := DataW.trod_int (k := .i64) Try.underlying3 h
  exact ⟨q, by simpa using e, hw⟩
theorem open_frame {r : Reach} {b0 : Nat} {v : Value} {d : DataW H} {p : List MemPlace} (hv : Value.okWide Try.prog w r b0 51 v) (h : DataW.Trod enc Try.prog w base spare held 51 v d p) :
    ∃ a b c t : Int, v = .agg #[.int .i64 a, .int .i64 b, .int .i64 c, .int .i64 t] := by
  obtain ⟨v0, v1, v2, v3, y0, y1, y2, y3, m, rfl, _, _, t0, t1, t2, t3⟩ := open_agg4 Try.underlying51 (by kernel_rfl) (by kernel_rfl) hv h
  obtain ⟨q0, rfl, _⟩ := one_int t0
  obtain ⟨q1, rfl, _⟩ := one_int t1
  obtain ⟨q2, rfl, _⟩ := one_int t2
  obtain ⟨q3, rfl, _⟩ := one_int t3
  exact ⟨q0, q1, q2, q3, rfl⟩
end
end Go.Proofs.Ytihpadelfpogmaa
