/-
  The walk of the law FnExactContentOK.
  Conditions: the list that comes in can be read.
-/
import Derived.Test.YtckekkhfjcaclaaCnt
import Derived.Test.YtckekkhfjcaclaaOpi
namespace Go.Proofs.Ytckekkhfjcaclaa
set_option linter.unusedVariables false
open Go.RowKit

set_option maxHeartbeats 4000000 in
theorem lawContentOK (A : Option Addr) (c : Nat) (xs : List Int) (w : World) (h : Ins w w.heap.size A xs) (hw : ∀ k, k < xs.length → (Lit.int .i64 (xs.getD k 0)).wf = true) (hn : xs.length ≤ 2 ^ 63 - 1) :
    Calls Try.prog 6 #[.slice A xs.length c] w fun e w' => e = .returned (.bool true) ∧ Nx w w' := by
  by_cases hl : xs.length ≤ 1048576
  case neg =>
    have hd : decide (1048576 < (xs.length : Int)) = true := by simp; omega
    go_enter Try.func6, Try.ntmps6
    go_wp2
    go_ret
    exact ⟨rfl, Nx.refl _⟩
  have hd : decide (1048576 < (xs.length : Int)) = false := by simp; omega
  clear hw hn
  go_enter Try.func6, Try.ntmps6
  go_wp2_with fail
  refine (toIntS_c A c _ xs _ h (Nat.le_refl _) hl).mono ?_
  rintro e w1 ⟨A1, c1, rfl, hS1, hx1⟩
  go_wp2_with fail
  refine (specContentOK_c A1 c1 _ xs _ hS1.row (Nat.le_refl _) hl).mono ?_
  rintro e w2 ⟨rfl, hx2⟩
  have hX2 := hx1.trans hx2
  go_wp2_with fail
  refine (toIntS_c A c _ xs _ (h.below hX2 (Nat.le_refl _)) hX2.size hl).mono ?_
  rintro e w3 ⟨A3, c3, rfl, hS3, hx3⟩
  go_wp2_with fail
  refine (implContentOK_c A3 c3 _ xs _ hS3.row (Nat.le_refl _) hl).mono ?_
  rintro e w4 ⟨rfl, hx4⟩
  have hX4 := (hX2.trans hx3).trans hx4
  have hS4 := hS3.nx hx4
  go_wp2_with fail
  refine (toIntS_c A c _ xs _ (h.below hX4 (Nat.le_refl _)) hX4.size hl).mono ?_
  rintro e w5 ⟨A5, c5, rfl, hS5, hx5⟩
  have hS6 := hS4.nx hx5
  go_wp2_with fail
  refine (eqIntS_c A3 A5 c3 c5 _ xs _ hS6.row hS5.row (Nat.le_refl _) hl).mono ?_
  rintro e w6 ⟨rfl, hx6⟩
  go_wp2
  go_ret
  exact ⟨rfl, (hX4.trans hx5).trans hx6⟩
end Go.Proofs.Ytckekkhfjcaclaa
