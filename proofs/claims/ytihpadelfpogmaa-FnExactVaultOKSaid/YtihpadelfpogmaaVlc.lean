/-
  What vaults that are alike have in common.
  Conditions: what is read can be read, and holds at most 1048576 elements of a kind.
-/
import Derived.Test.YtihpadelfpogmaaVlm
import Derived.Test.YtihpadelfpogmaaLch
namespace Go.Proofs.Ytihpadelfpogmaa
set_option linter.unusedVariables false
set_option maxRecDepth 100000
open Go.RowKit

section
variable {gs hs : List SgR} (hv : gs.map SgR.v = hs.map SgR.v)
include hv
theorem retL_v (b : Int) : retL b gs = retL b hs := by
  have : gs.map SgR.t = hs.map SgR.t := by
    have := congrArg (List.map (fun q : Sg4 => q.2.1)) hv
    rw [List.map_map, List.map_map] at this
    exact this
  unfold retL; rw [this]
theorem isRet_v (b n : Int) : isRet b gs n = isRet b hs n := by unfold isRet; rw [retL_v hv, v_len hv]
theorem ahd_v (b n : Int) : ahd b gs n = ahd b hs n := by unfold ahd; rw [retL_v hv]
theorem stp_v (b p t : Int) (im : List Int) : stp b p t gs im = stp b p t hs im := by
  unfold stp
  rw [ahd_v hv, (v_parts hv (ahd b hs p)).2.2.2, (v_parts hv (ahd b hs p - 1)).2.2.2]
theorem fwK_v (c : List Int) (a : Nat) : ∀ j, fwK c gs a j = fwK c hs a j
  | 0 => rfl
  | j + 1 => by show app pN _ _ = app pN _ _; rw [fwK_v c a j, (v_parts hv (a + j)).2.2.2]
theorem bkK_v (c : List Int) (a : Nat) : ∀ j, bkK c gs a j = bkK c hs a j
  | 0 => rfl
  | j + 1 => by show app pO _ _ = app pO _ _; rw [bkK_v c a j, (v_parts hv (a - 1 - j)).2.2.2]
theorem fitF_v (c : List Int) (a : Nat) : fitF c gs a = fitF c hs a := by
  unfold fitF
  rw [v_len hv]
  congr 1
  funext j
  unfold oldB
  rw [fwK_v hv, (v_parts hv (a + j)).2.2.2]
theorem fitB_v (c : List Int) (a : Nat) : fitB c gs a = fitB c hs a := by
  unfold fitB
  congr 1
  funext j
  unfold newB
  rw [bkK_v hv, (v_parts hv (a - 1 - j)).2.2.2]
theorem plcB_v (b p t : Int) (ms : List Mrk) : plcB b p t gs ms = plcB b p t hs ms := by
  unfold plcB mksR
  rw [isRet_v hv, isRet_v hv]
  congr 2
  congr 1
  funext k
  exact isRet_v hv b _
theorem vltB_v (g b p t : Int) (xs : List Int) (ms : List Mrk) (im : List Int) : vltB g b p t xs ms gs im = vltB g b p t xs ms hs im := by
  unfold vltB
  rw [v_len hv, chainB_v hv, plcB_v hv, stp_v hv, fitF_v hv, fitB_v hv]
theorem cntV_v (b p t : Int) (im : List Int) (n : Int) : cntV b p t gs im n = cntV b p t hs im n := by
  unfold cntV
  rw [stp_v hv, ahd_v hv, fwK_v hv, bkK_v hv]
theorem tipV_v (b : Int) : tipV b gs = tipV b hs := by unfold tipV; rw [v_len hv, atK_v hv]
end
theorem VlS.ok {V V' : Vl} (h : VlS V V') : V.ok = V'.ok := by
  unfold Vl.ok
  rw [h.g, h.b, h.p, h.t, h.xs, h.ms, h.im, vltB_v h.gs]
end Go.Proofs.Ytihpadelfpogmaa
