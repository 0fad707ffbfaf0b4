/-
  Contracts of the program's ReadFrame, and the walk of the law FnExactReadFrame.
  Conditions: the package's errors are known.
-/
import Derived.Test.YteckhdkghfidiaaDoorRff
namespace Go.Proofs.YteckhdkghfidiaaDoor
set_option linter.unusedVariables false
open Go.RowKit

set_option maxHeartbeats 1000000 in
theorem textCode_nil (w : World) : Calls Tryd.prog 26 #[.nilIface] w fun e w' => e = .returned (.int .i64 0) ∧ w = w' := by
  go_enter Tryd.func26, Tryd.ntmps26
  go_wp2
  go_ret
  exact ⟨rfl, rfl⟩
set_option maxHeartbeats 1000000 in
theorem textCode_form (w : World) (a0 a1 : Addr) (hE : Er w a0 a1) : Calls Tryd.prog 26 #[.iface 150 (.pointer (some a0))] w fun e w' => e = .returned (.int .i64 3) ∧ w = w' := by
  obtain ⟨_, c1, hne, ⟨ca, ta, h0⟩, cb, tb, h1⟩ := hE
  have HE := Lib.hid (And.intro hne (And.intro h0 h1))
  clear hne h0 h1
  go_enter Tryd.func26, Tryd.ntmps26
  go_wp2_with fail
  refine (is_other a0 a1 ca cb ta tb _ HE.out.1 HE.out.2.1 HE.out.2.2).mono ?_
  rintro e w' ⟨rfl, rfl⟩
  go_wp2
  go_ret
  exact ⟨rfl, rfl⟩
set_option maxHeartbeats 1000000 in
theorem textCode_long (w : World) (a0 a1 : Addr) (hE : Er w a0 a1) : Calls Tryd.prog 26 #[.iface 150 (.pointer (some a1))] w fun e w' => e = .returned (.int .i64 2) ∧ w = w' := by
  obtain ⟨_, c1, _⟩ := hE
  go_enter Tryd.func26, Tryd.ntmps26
  go_wp2_with fail
  refine (is_same a1 _).mono ?_
  rintro e w' ⟨rfl, rfl⟩
  go_wp2
  go_ret
  exact ⟨rfl, rfl⟩
end Go.Proofs.YteckhdkghfidiaaDoor
