/-
  The walk of the law FnExactChainOK.
  Conditions: the list that comes in can be read.
-/
import Derived.Test.YtckekkhfjcaclaaChm
import Derived.Test.YtckekkhfjcaclaaOps
namespace Go.Proofs.Ytckekkhfjcaclaa
set_option linter.unusedVariables false
open Go.RowKit
theorem v_parts {gs hs : List SgR} (h : gs.map SgR.v = hs.map SgR.v) (k : Nat) : (gs.getD k sgZ).f = (hs.getD k sgZ).f ∧ (gs.getD k sgZ).t = (hs.getD k sgZ).t ∧ (gs.getD k sgZ).m = (hs.getD k sgZ).m ∧ (gs.getD k sgZ).cs = (hs.getD k sgZ).cs := by
  have := v_at h k
  unfold SgR.v at this
  simp only [Prod.mk.injEq] at this
  exact this
theorem atK_v {gs hs : List SgR} (h : gs.map SgR.v = hs.map SgR.v) (base : Int) : ∀ k, atK base gs k = atK base hs k
  | 0 => rfl
  | k + 1 => (v_parts h k).2.1
theorem tmK_v {gs hs : List SgR} (h : gs.map SgR.v = hs.map SgR.v) : ∀ k, tmK gs k = tmK hs k
  | 0 => rfl
  | k + 1 => (v_parts h k).2.2.1
theorem mpK_v {gs hs : List SgR} (h : gs.map SgR.v = hs.map SgR.v) : ∀ k, mpK gs k = mpK hs k
  | 0 => rfl
  | k + 1 => by
    show noteM (mpK gs k) (gs.getD k sgZ).cs = noteM (mpK hs k) (hs.getD k sgZ).cs
    rw [mpK_v h k, (v_parts h k).2.2.2]
theorem lnk_v {gs hs : List SgR} (h : gs.map SgR.v = hs.map SgR.v) (base : Int) (k : Nat) : lnk base gs k = lnk base hs k := by
  obtain ⟨h1, h2, h3, h4⟩ := v_parts h k
  unfold lnk sgB
  rw [h1, h2, h3, h4, atK_v h, tmK_v h, mpK_v h]
theorem chainB_v {gs hs : List SgR} (h : gs.map SgR.v = hs.map SgR.v) (base : Int) : chainB base gs = chainB base hs := by
  unfold chainB
  rw [v_len h, show lnk base gs = lnk base hs from funext (lnk_v h base)]
theorem v_cs {gs hs : List SgR} (h : gs.map SgR.v = hs.map SgR.v) {n : Nat} (hm : ∀ k, k < hs.length → (hs.getD k sgZ).cs.length ≤ n) : ∀ k, k < gs.length → (gs.getD k sgZ).cs.length ≤ n := fun k hk => by
  rw [(v_parts h k).2.2.2]; exact hm k (by rw [← v_len h]; exact hk)
set_option maxRecDepth 100000 in
set_option maxHeartbeats 4000000 in
theorem lawChainOK (a0 : Int) (A : Option Addr) (c : Nat) (gs : List SgR) (w : World) (hw : (Lit.int .i64 a0).wf = true) (h : Sgs w w.heap.size A gs) (hn : gs.length ≤ 2 ^ 63 - 1) (hm : ∀ k, k < gs.length → (gs.getD k sgZ).cs.length ≤ 2 ^ 63 - 1) :
    Calls Try.prog 11 #[.int .i64 a0, .slice A gs.length c] w fun e w' => e = .returned (.bool true) ∧ Nx w w' := by
  clear hw
  go_enter Try.func11, Try.ntmps11
  go_wp2_with fail
  refine (szSegS_c A c _ gs _ _ h.row (Nat.le_refl _) hn hm (by omega) (by omega)).mono ?_
  rintro e w1 ⟨rfl, hx1⟩
  by_cases hle : (gs.length : Int) + (ssum gs gs.length : Int) ≤ 1048576
  case neg =>
    rw [← szR_no (by omega)]
    go_wp2
    go_ret
    exact ⟨rfl, hx1⟩
  rw [← szR_yes hle]
  have hd1 : decide (1048576 - ((gs.length : Int) + (ssum gs gs.length : Int)) < 0) = false := by simp; omega
  replace hn : gs.length ≤ 1048576 := by omega
  replace hm : ∀ k, k < gs.length → (gs.getD k sgZ).cs.length ≤ 1048576 := fun k hk => by have := ssum_one hk; omega
  clear hle
  go_wp2_with fail
  refine (toSegS_c A c _ gs _ (h.below hx1 (Nat.le_refl _)) hx1.size hn hm).mono ?_
  rintro e w2 ⟨A2, c2, gs2, rfl, hv2, hS2, hx2⟩
  clear hd1
  go_wp2_with fail
  refine (specChainOK_c a0 A2 c2 _ gs2 _ hS2.sgs (Nat.le_refl _) (by rw [v_len hv2]; exact hn) (v_cs hv2 hm)).mono ?_
  rintro e w3 ⟨rfl, hx3⟩
  rw [chainB_v hv2]
  have hX3 := (hx1.trans hx2).trans hx3
  clear hx1 hx2 hx3 hS2
  go_wp2_with fail
  refine (toSegS_c A c _ gs _ (h.below hX3 (Nat.le_refl _)) hX3.size hn hm).mono ?_
  rintro e w4 ⟨A4, c4, gs4, rfl, hv4, hS4, hx4⟩
  go_wp2_with fail
  refine (implChainOK_c a0 A4 c4 _ gs4 _ hS4.sgs (Nat.le_refl _) (by rw [v_len hv4]; exact hn) (v_cs hv4 hm)).mono ?_
  rintro e w5 ⟨rfl, hx5⟩
  rw [chainB_v hv4]
  have hX5 := (hX3.trans hx4).trans hx5
  have hS5 := hS4.nx hx5
  clear hX3 hx4 hx5 hS4
  obtain ⟨q, Hq⟩ : ∃ q, Hid (chainB a0 gs = q) := ⟨_, rfl⟩
  rw [Hq.out]
  have hqq : (q != q) = false := by simp
  go_wp2_with fail
  refine (toSegS_c A c _ gs _ (h.below hX5 (Nat.le_refl _)) hX5.size hn hm).mono ?_
  rintro e w6 ⟨A6, c6, gs6, rfl, hv6, hS6, hx6⟩
  go_wp2_with fail
  refine (eqSegS_c A4 A6 c4 c6 _ gs4 gs6 _ (hS5.nx hx6).sgs hS6.sgs (hv4.trans hv6.symm) (Nat.le_refl _) (by rw [v_len hv4]; exact hn) (v_cs hv4 hm)).mono ?_
  rintro e w7 ⟨rfl, hx7⟩
  go_wp2
  go_ret
  exact ⟨rfl, (hX5.trans hx6).trans hx7⟩
end Go.Proofs.Ytckekkhfjcaclaa
