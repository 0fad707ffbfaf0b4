/-
  Contracts of the laws' function that makes the program's frames out of the laws' own, and the walk of the law FnExactFrameOK.
  Conditions: none.
-/
import Derived.Test.YtihpadelfpogmaaFrm
import Derived.Deep.Slices
import Derived.ChangeSame
import Derived.Deep.Fields
namespace Go.Proofs.Ytihpadelfpogmaa
set_option linter.unusedVariables false
set_option maxRecDepth 100000
open Go.RowKit
set_option maxHeartbeats 1000000 in
theorem toFrame_c (p b v t : Int) (w : World) :
    Calls Try.prog 33 #[.agg #[.int .i64 p, .int .i64 b, .int .i64 v, .int .i64 t]] w fun e w' => e = .returned (.agg #[.int .i64 p, .int .i64 b, .int .i64 v, .int .i64 t]) ∧ Nx w w' := by
  go_enter Try.func33, Try.ntmps33
  go_wp2
  exact bodyPost_ret (v := .agg #[.int .i64 p, .int .i64 b, .int .i64 v, .int .i64 t]) (by simp [results, Try.results33, go_sem]) rfl ⟨rfl, ((((Nx.refl _).alloc _).alloc _).alloc _)⟩
end Go.Proofs.Ytihpadelfpogmaa
