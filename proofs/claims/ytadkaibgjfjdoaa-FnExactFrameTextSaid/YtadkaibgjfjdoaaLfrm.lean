/-
  Contracts of the laws' function that makes the program's frames out of the laws' own, and the walk of the law FnExactFrameOK.
  Conditions: none.
-/
import Derived.Test.YtadkaibgjfjdoaaFrm
import Derived.Deep.Slices
import Derived.ChangeSame
import Derived.Deep.Fields
namespace Go.Proofs.Ytadkaibgjfjdoaa
set_option linter.unusedVariables false
open Go.RowKit
set_option maxHeartbeats 1000000 in
theorem toFrame_c (p b v t : Int) (w : World) :
    Calls Try.prog 16 #[.agg #[.int .i64 p, .int .i64 b, .int .i64 v, .int .i64 t]] w fun e w' => e = .returned (.agg #[.int .i64 p, .int .i64 b, .int .i64 v, .int .i64 t]) ∧ Nx w w' := by
  go_enter Try.func16, Try.ntmps16
  go_wp2
  exact bodyPost_ret (v := .agg #[.int .i64 p, .int .i64 b, .int .i64 v, .int .i64 t]) (by simp [results, Try.results16, go_sem]) rfl ⟨rfl, ((((Nx.refl _).alloc _).alloc _).alloc _)⟩
set_option maxHeartbeats 1000000 in
theorem lawFrameOK (p b v t : Int) (w : World) : Calls Try.prog 5 #[.agg #[.int .i64 p, .int .i64 b, .int .i64 v, .int .i64 t]] w fun e w' => e = .returned (.bool true) ∧ Nx w w' := by
  go_enter Try.func5, Try.ntmps5
  go_wp2_with fail
  have b0 := Box.new w 36 #[.int .i64 p, .int .i64 b, .int .i64 v, .int .i64 t]
  have hnx0 := (Nx.refl w).alloc (.cells #[.int .i64 p, .int .i64 b, .int .i64 v, .int .i64 t] 36)
  generalize w.alloc (.cells #[.int .i64 p, .int .i64 b, .int .i64 v, .int .i64 t] 36) = W at *
  refine (toFrame_c p b v t _).mono ?_
  rintro e w1 ⟨rfl, hnx1⟩
  go_wp2_with fail
  refine (specFrameOK_c p b v t _).mono ?_
  rintro e w2 ⟨rfl, hnx2⟩
  have b2 := (b0.nx hnx1).nx hnx2
  obtain ⟨c0, c1, c2, c3⟩ := b2.d4
  have hx := (hnx0.trans hnx1).trans hnx2
  clear hnx0 hnx1 hnx2 b0
  go_wp2_with fail
  refine (toFrame_c p b v t _).mono ?_
  rintro e w3 ⟨rfl, hnx3⟩
  go_wp2_with fail
  refine (implFrameOK_c p b v t _).mono ?_
  rintro e w4 ⟨rfl, hnx4⟩
  go_wp2
  go_ret
  exact ⟨rfl, (hx.trans hnx3).trans hnx4⟩
end Go.Proofs.Ytadkaibgjfjdoaa
