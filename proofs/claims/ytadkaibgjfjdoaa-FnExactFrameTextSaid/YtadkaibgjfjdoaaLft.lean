/-
  The walk of the law FnExactFrameText.
  Conditions: none.
-/
import Derived.Test.YtadkaibgjfjdoaaNmt
import Derived.Test.YtadkaibgjfjdoaaLfrm
namespace Go.Proofs.Ytadkaibgjfjdoaa
set_option linter.unusedVariables false
open Go.RowKit
set_option maxHeartbeats 1000000 in
theorem lawFrameText (p b v t : Int) (w : World) : Calls Try.prog 6 #[.agg #[.int .i64 p, .int .i64 b, .int .i64 v, .int .i64 t]] w fun e w' => e = .returned (.bool true) ∧ Nx w w' := by
  obtain ⟨s, Hs⟩ : ∃ s, Hid (frameS p b v t = s) := ⟨_, rfl⟩
  obtain ⟨k, Hk⟩ : ∃ k, Hid (codeB (frameB p b v t) 1 = k) := ⟨_, rfl⟩
  go_enter Try.func6, Try.ntmps6
  go_wp2_with fail
  have b0 := Box.new w 36 #[.int .i64 p, .int .i64 b, .int .i64 v, .int .i64 t]
  have hnx0 := (Nx.refl w).alloc (.cells #[.int .i64 p, .int .i64 b, .int .i64 v, .int .i64 t] 36)
  generalize w.alloc (.cells #[.int .i64 p, .int .i64 b, .int .i64 v, .int .i64 t] 36) = W at *
  refine (toFrame_c p b v t _).mono ?_
  rintro e w1 ⟨rfl, hnx1⟩
  go_wp2_with fail
  refine (specFrameText_c p b v t _).mono ?_
  rintro e w2 ⟨rfl, hnx2⟩
  rw [Hs.out, Hk.out]
  have b2 := (b0.nx hnx1).nx hnx2
  obtain ⟨c0, c1, c2, c3⟩ := b2.d4
  have hx := (hnx0.trans hnx1).trans hnx2
  clear hnx0 hnx1 hnx2 b0
  go_wp2_with fail
  refine (toFrame_c p b v t _).mono ?_
  rintro e w3 ⟨rfl, hnx3⟩
  go_wp2_with fail
  refine (implFrameText_c p b v t _).mono ?_
  rintro e w4 ⟨rfl, hnx4⟩
  rw [Hs.out, Hk.out]
  go_wp2
  go_ret
  exact ⟨rfl, (hx.trans hnx3).trans hnx4⟩
end Go.Proofs.Ytadkaibgjfjdoaa
