/-
  The walk of the law FnExactSumOf.
  Conditions: the text is of at most maxLen bytes (what the model lets a text have).
-/
import Derived.Test.YtadkaibgjfjdoaaSum
namespace Go.Proofs.Ytadkaibgjfjdoaa
set_option linter.unusedVariables false
open Go.RowKit
set_option maxHeartbeats 400000 in
theorem lawSumOf (s : ByteArray) (w : World) (hs : s.size ≤ maxLen) : Calls Try.prog 7 #[.string s] w fun e w' => e = .returned (.bool true) ∧ Nx w w' := by
  by_cases hb : s.size ≤ 1048576
  · have hb' : decide (1048576 < (s.size : Int)) = false := by simp; omega
    go_enter Try.func7, Try.ntmps7
    go_wp2_with (first | (go_at_call 20; refine (specSumOf_c s _ hs).mono ?_; rintro e w' ⟨rfl, rfl⟩) | (go_at_call 21; refine (implSumOf_c s _ hs).mono ?_; rintro e w' ⟨rfl, rfl⟩))
    go_ret
    exact ⟨rfl, Nx.refl _⟩
  · have hb' : decide (1048576 < (s.size : Int)) = true := by simp; omega
    go_enter Try.func7, Try.ntmps7
    go_wp2
    go_ret
    exact ⟨rfl, Nx.refl _⟩
end Go.Proofs.Ytadkaibgjfjdoaa
