/-
  Contracts of FrameOK, as the model and as the program have it: both answer the same bool of every frame.
  Conditions: none.
-/
import Derived.Test.YteckhdkghfidiaaDoorCore
import Derived.Outline
namespace Go.Proofs.YteckhdkghfidiaaDoor
set_option linter.unusedVariables false
open Go.RowKit

/-- A number within its bounds. -/
def inB (lo hi a : Int) : Bool := decide (lo ≤ a) && decide (a ≤ hi)
theorem inB_yes {lo hi a : Int} (h : inB lo hi a = true) : lo ≤ a ∧ a ≤ hi := by
  unfold inB at h; simpa using h
theorem inB_mk {lo hi a : Int} (h1 : lo ≤ a) (h2 : a ≤ hi) : inB lo hi a = true := by
  unfold inB; simp [h1, h2]
theorem inB_no {lo hi a : Int} (h : a < lo ∨ hi < a) : inB lo hi a = false := by
  unfold inB
  rcases h with h | h
  · rw [decide_eq_false (by omega)]; rfl
  · rw [decide_eq_false (p := a ≤ hi) (by omega)]; simp
/-- What a frame is. -/
def frameB (p b v t : Int) : Bool := inB 1 999999 p && inB 0 7 b && inB 0 999999 v && inB 0 999999 t

set_option maxHeartbeats 1000000 in
theorem l01In_c (a lo hi : Int) (w : World) : Calls Tryd.prog 32 #[.int .i64 a, .int .i64 lo, .int .i64 hi] w fun e w' => e = .returned (.bool (inB lo hi a)) ∧ w = w' := by
  go_enter Tryd.func32, Tryd.ntmps32
  go_wp2
  all_goals (go_ret; refine ⟨ret_bool ?_, rfl⟩; unfold inB; rw [Bool.eq_iff_iff]; simp; try omega)
set_option maxHeartbeats 1000000 in
theorem isWithin_c (a lo hi : Int) (w : World) : Calls Tryd.prog 40 #[.int .i64 a, .int .i64 lo, .int .i64 hi] w fun e w' => e = .returned (.bool (inB lo hi a)) ∧ w = w' := by
  go_enter Tryd.func40, Tryd.ntmps40
  go_wp2
  all_goals (go_ret; refine ⟨ret_bool ?_, rfl⟩; unfold inB; rw [Bool.eq_iff_iff]; simp; try omega)
theorem isPosition_c (a : Int) (w : World) : Calls Tryd.prog 41 #[.int .i64 a] w fun e w' => e = .returned (.bool (inB 0 999999 a)) ∧ w = w' := by
  go_enter Tryd.func41, Tryd.ntmps41
  go_wp2_with (go_at_call 40; refine (isWithin_c _ _ _ _).mono ?_; rintro e w' ⟨rfl, rfl⟩)
  go_ret
  exact ⟨rfl, rfl⟩
end Go.Proofs.YteckhdkghfidiaaDoor
