/-
  Contracts of FrameOK, as the model and as the program have it: both answer the same bool of every frame.
  Conditions: none.
-/
import Derived.Test.YtihpadelfpogmaaCore
import Derived.Outline
namespace Go.Proofs.Ytihpadelfpogmaa
set_option linter.unusedVariables false
set_option maxRecDepth 100000
open Go.RowKit

/-- A number within its bounds. -/
def inB (lo hi a : Int) : Bool := decide (lo ≤ a) && decide (a ≤ hi)
theorem inB_yes {lo hi a : Int} (h : inB lo hi a = true) : lo ≤ a ∧ a ≤ hi := by
  unfold inB at h; simpa using h
theorem inB_mk {lo hi a : Int} (h1 : lo ≤ a) (h2 : a ≤ hi) : inB lo hi a = true := by
  unfold inB; simp [h1, h2]
theorem inB_no {lo hi a : Int} (h : a < lo ∨ hi < a) : inB lo hi a = false := by
  unfold inB
  rcases h with h | h
  · rw [decide_eq_false (by omega)]; rfl
  · rw [decide_eq_false (p := a ≤ hi) (by omega)]; simp
/-- What a frame is. -/
def frameB (p b v t : Int) : Bool := inB 1 999999 p && inB 0 7 b && inB 0 999999 v && inB 0 999999 t

set_option maxHeartbeats 1000000 in
theorem l01In_c (a lo hi : Int) (w : World) : Calls Try.prog 122 #[.int .i64 a, .int .i64 lo, .int .i64 hi] w fun e w' => e = .returned (.bool (inB lo hi a)) ∧ w = w' := by
  go_enter Try.func122, Try.ntmps122
  go_wp2
  all_goals (go_ret; refine ⟨ret_bool ?_, rfl⟩; unfold inB; rw [Bool.eq_iff_iff]; simp; try omega)
set_option maxHeartbeats 1000000 in
theorem isWithin_c (a lo hi : Int) (w : World) : Calls Try.prog 144 #[.int .i64 a, .int .i64 lo, .int .i64 hi] w fun e w' => e = .returned (.bool (inB lo hi a)) ∧ w = w' := by
  go_enter Try.func144, Try.ntmps144
  go_wp2
  all_goals (go_ret; refine ⟨ret_bool ?_, rfl⟩; unfold inB; rw [Bool.eq_iff_iff]; simp; try omega)
theorem isPosition_c (a : Int) (w : World) : Calls Try.prog 114 #[.int .i64 a] w fun e w' => e = .returned (.bool (inB 0 999999 a)) ∧ w = w' := by
  go_enter Try.func114, Try.ntmps114
  go_wp2_with (go_at_call 144; refine (isWithin_c _ _ _ _).mono ?_; rintro e w' ⟨rfl, rfl⟩)
  go_ret
  exact ⟨rfl, rfl⟩
theorem isTime_c (a : Int) (w : World) : Calls Try.prog 140 #[.int .i64 a] w fun e w' => e = .returned (.bool (inB 0 999999 a)) ∧ w = w' := by
  go_enter Try.func140, Try.ntmps140
  go_wp2_with (go_at_call 144; refine (isWithin_c _ _ _ _).mono ?_; rintro e w' ⟨rfl, rfl⟩)
  go_ret
  exact ⟨rfl, rfl⟩
theorem isValue_c (a : Int) (w : World) : Calls Try.prog 113 #[.int .i64 a] w fun e w' => e = .returned (.bool (inB 0 999999 a)) ∧ w = w' := by
  go_enter Try.func113, Try.ntmps113
  go_wp2_with (go_at_call 144; refine (isWithin_c _ _ _ _).mono ?_; rintro e w' ⟨rfl, rfl⟩)
  go_ret
  exact ⟨rfl, rfl⟩
theorem isBlock_c (a : Int) (w : World) : Calls Try.prog 139 #[.int .i64 a] w fun e w' => e = .returned (.bool (inB 0 7 a)) ∧ w = w' := by
  go_enter Try.func139, Try.ntmps139
  go_wp2_with (go_at_call 144; refine (isWithin_c _ _ _ _).mono ?_; rintro e w' ⟨rfl, rfl⟩)
  go_ret
  exact ⟨rfl, rfl⟩

set_option maxHeartbeats 1000000 in
theorem specFrameOK_c (p b v t : Int) (w : World) : Calls Try.prog 89 #[.agg #[.int .i64 p, .int .i64 b, .int .i64 v, .int .i64 t]] w fun e w' => e = .returned (.bool (frameB p b v t)) ∧ Nx w w' := by
  obtain ⟨r, HF⟩ : ∃ r, Hid (r = frameB p b v t) := ⟨_, rfl⟩
  obtain ⟨x1, H1⟩ : ∃ r, Hid (inB 1 999999 p = r) := ⟨_, rfl⟩
  obtain ⟨x2, H2⟩ : ∃ r, Hid (inB 0 7 b = r) := ⟨_, rfl⟩
  obtain ⟨x3, H3⟩ : ∃ r, Hid (inB 0 999999 v = r) := ⟨_, rfl⟩
  obtain ⟨x4, H4⟩ : ∃ r, Hid (inB 0 999999 t = r) := ⟨_, rfl⟩
  have HR := Lib.hid (show (x1 && x2 && x3 && x4) = frameB p b v t by rw [← H1.out, ← H2.out, ← H3.out, ← H4.out]; rfl)
  clear HF r
  cases x1 <;> cases x2 <;> cases x3 <;> cases x4 <;> (
    go_enter Try.func89, Try.ntmps89
    go_wp2_with (go_at_call 122; refine (l01In_c _ _ _ _).mono ?_; rintro e w' ⟨rfl, rfl⟩; first | rw [H1.out] | rw [H2.out] | rw [H3.out] | rw [H4.out])
    go_ret
    exact ⟨ret_bool HR.out, (Nx.refl _).alloc _⟩)

set_option maxHeartbeats 1000000 in
theorem frameRight_c (p b v t : Int) (w : World) : Calls Try.prog 92 #[.agg #[.int .i64 p, .int .i64 b, .int .i64 v, .int .i64 t]] w fun e w' => e = .returned (.bool (frameB p b v t)) ∧ Nx w w' := by
  obtain ⟨x1, H1⟩ : ∃ r, Hid (inB 0 999999 p = r) := ⟨_, rfl⟩
  obtain ⟨x0, H0⟩ : ∃ r, Hid (decide (0 < p) = r) := ⟨_, rfl⟩
  obtain ⟨x2, H2⟩ : ∃ r, Hid (inB 0 7 b = r) := ⟨_, rfl⟩
  obtain ⟨x3, H3⟩ : ∃ r, Hid (inB 0 999999 v = r) := ⟨_, rfl⟩
  obtain ⟨x4, H4⟩ : ∃ r, Hid (inB 0 999999 t = r) := ⟨_, rfl⟩
  have HR := Lib.hid (show (x1 && x0 && x2 && x3 && x4) = frameB p b v t by
    rw [← H1.out, ← H0.out, ← H2.out, ← H3.out, ← H4.out]
    have : (inB 0 999999 p && decide (0 < p)) = inB 1 999999 p := by unfold inB; rw [Bool.eq_iff_iff]; simp; omega
    rw [this]; rfl)
  have h0 := H0.out
  clear H0
  cases x1 <;> cases x0 <;> cases x2 <;> cases x3 <;> cases x4 <;> (
    go_enter Try.func92, Try.ntmps92
    go_wp2_with (first
      | (go_at_call 114; refine (isPosition_c _ _).mono ?_; rintro e w' ⟨rfl, rfl⟩; rw [H1.out])
      | (go_at_call 139; refine (isBlock_c _ _).mono ?_; rintro e w' ⟨rfl, rfl⟩; rw [H2.out])
      | (go_at_call 113; refine (isValue_c _ _).mono ?_; rintro e w' ⟨rfl, rfl⟩; rw [H3.out])
      | (go_at_call 140; refine (isTime_c _ _).mono ?_; rintro e w' ⟨rfl, rfl⟩; rw [H4.out]))
    go_ret
    exact ⟨ret_bool HR.out, (Nx.refl _).alloc _⟩)
end Go.Proofs.Ytihpadelfpogmaa
