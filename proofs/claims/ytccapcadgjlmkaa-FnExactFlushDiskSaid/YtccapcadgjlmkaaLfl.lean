/-
  The walk of the law FnExactFlushDisk.
  Conditions: the arguments that come in can be read.
-/
import Derived.Test.YtccapcadgjlmkaaBase
import Derived.Test.YtccapcadgjlmkaaSz
import Derived.Test.YtccapcadgjlmkaaTo
import Derived.Test.YtccapcadgjlmkaaEq
import Derived.Test.YtccapcadgjlmkaaMk
import Derived.Test.YtccapcadgjlmkaaFc
import Derived.Deep.RegionHeld3
namespace Go.Proofs.Ytccapcadgjlmkaa
set_option linter.unusedVariables false
open Go.RowKit

set_option maxRecDepth 100000 in
set_option maxHeartbeats 8000000 in
theorem lawFlushDisk (A A2 : Option Addr) (n c n2 c2 : Nat) (ss : List ByteArray) (ws : List (Int × ByteArray)) (w : World) (h : Strs w w.heap.size A n ss) (h2 : Wrs w w.heap.size A2 n2 ws)
    (hm : AllS ss) (hm2 : AllW ws) (hn : n ≤ 2 ^ 63 - 1) (hn2 : n2 ≤ 2 ^ 63 - 1) :
    Calls Try.prog 5 #[.agg #[.slice A n c, .slice A2 n2 c2]] w fun e w' => e = .returned (.bool true) ∧ Nx w w' := by
  obtain ⟨R1, R2, cd, HP⟩ : ∃ R1 R2 cd, Hid (flP ss ws = ((R1, R2), cd)) := ⟨_, _, _, rfl⟩
  obtain ⟨hR1, hR2⟩ := flP_len HP.out
  go_enter Try.func5, Try.ntmps5
  go_wp2_with fail
  have b0 := Box.new w 55 #[.slice A n c, .slice A2 n2 c2]
  have hnx0 := (Nx.refl w).alloc (.cells #[.slice A n c, .slice A2 n2 c2] 55)
  generalize w.alloc (.cells #[.slice A n c, .slice A2 n2 c2] 55) = W at *
  refine (szDisk_c A A2 n c n2 c2 w.heap.size ss ws _ _ (h.below hnx0 (Nat.le_refl _)) (h2.below hnx0 (Nat.le_refl _)) hnx0.size hm hm2 hn hn2 (by omega) (by omega)).mono ?_
  rintro e w1 ⟨rfl, hnx1⟩
  by_cases hle : costD n n2 ss ws ≤ 1048576
  case neg =>
    rw [← szR_no (by omega)]
    go_wp2
    go_ret
    exact ⟨rfl, hnx0.trans hnx1⟩
  rw [← szR_yes hle]
  have hn' : n ≤ 1048576 := by unfold costD at hle; omega
  have hn2' : n2 ≤ 1048576 := by unfold costD at hle; omega
  have hd : decide (1048576 - costD n n2 ss ws < 0) = false := by simp; omega
  have b1 := b0.nx hnx1
  have c0 := b1.c0
  have c1 := b1.c1
  have hx1 := hnx0.trans hnx1
  clear b0 hnx0 hnx1
  -- the model's answer
  go_wp2_with fail
  refine (toDisk_c A A2 n c n2 c2 w.heap.size ss ws _ (h.below hx1 (Nat.le_refl _)) (h2.below hx1 (Nat.le_refl _)) hx1.size hn' hn2').mono ?_
  rintro e w2 ⟨A3, n3, c3, A4, n4, c4, rfl, hS, hW, hnx2⟩
  obtain rfl : n = n3 := h.1.symm.trans hS.1
  obtain rfl : n2 = n4 := h2.1.symm.trans hW.1
  have b2 := b1.nx hnx2
  have hx2 := hx1.trans hnx2
  clear c0 c1 b1 hx1 hnx2
  go_wp2_with fail
  refine (specFlushDisk_r A3 A4 n c3 n2 c4 _ ss ws _ R1 R2 cd HP.out hS.strs hW.wrs (Nat.le_refl _) hn' hn2').mono ?_
  rintro e w3 ⟨D1, p, d1, D2, q, d2, rfl, dS, dW, hnx3⟩
  obtain rfl : R1.length = p := dS.1
  obtain rfl : R2.length = q := dW.1
  have D := Dk.new (c := d1) (c2 := d2) dS dW
  have hnx4 := hnx3.alloc (.cells #[.slice D1 R1.length d1, .slice D2 R2.length d2] 26)
  have b4 := b2.nx hnx4
  have hx4 := hx2.trans hnx4
  have o0 := hx2.size
  have o1 := hnx3.size
  have c0 := b4.c0
  have c1 := b4.c1
  clear b2 hx2 hnx3 hnx4 dS dW hS hW
  generalize hp : R1.length = p at *
  generalize hq : R2.length = q at *
  have Hp := Lib.hid hp
  have Hq := Lib.hid hq
  clear hp hq
  -- the argument, and the program's answer
  go_wp2_with fail
  generalize w3.alloc (.cells #[.slice D1 p d1, .slice D2 q d2] 26) = w4 at *
  refine (toDisk_c A A2 n c n2 c2 w.heap.size ss ws _ (h.below hx4 (Nat.le_refl _)) (h2.below hx4 (Nat.le_refl _)) hx4.size hn' hn2').mono ?_
  rintro e w5 ⟨X1, p3, x1, X2, p4, x2, rfl, xS, xW, hnx5⟩
  obtain rfl : n = p3 := h.1.symm.trans xS.1
  obtain rfl : n2 = p4 := h2.1.symm.trans xW.1
  have X := Dk.new (c := x1) (c2 := x2) xS xW
  have hnx6 := hnx5.alloc (.cells #[.slice X1 n x1, .slice X2 n2 x2] 26)
  have o2 := D.2.2.lt
  have o3 := hnx5.size
  have D6 := D.nx hnx6
  have b6 := b4.nx hnx6
  have hx6 := hx4.trans hnx6
  clear c0 c1 D b4 hx4 hnx5 hnx6 xS xW
  have c0 := X.c0
  have c1 := X.c1
  go_wp2_with fail
  generalize w5.alloc (.cells #[.slice X1 n x1, .slice X2 n2 x2] 26) = w6 at *
  refine (implFlushDisk_r X1 X2 n x1 n2 x2 _ ss ws _ R1 R2 cd HP.out X.strs X.wrs (Nat.le_refl _) hn' hn2').mono ?_
  rintro e w7 ⟨G1, p5, g1, G2, p6, g2, rfl, gS, gW, hnx7⟩
  obtain rfl : p = p5 := Hp.out.symm.trans gS.1
  obtain rfl : q = p6 := Hq.out.symm.trans gW.1
  have G := Dk.new (c := g1) (c2 := g2) gS gW
  have hnx8 := hnx7.alloc (.cells #[.slice G1 p g1, .slice G2 q g2] 26)
  have o4 := X.2.2.lt
  have o5 := hnx7.size
  have D8 := D6.nx hnx8
  have X8 := X.nx hnx8
  have b8 := b6.nx hnx8
  have hx8 := hx6.trans hnx8
  clear c0 c1 D6 X b6 hx6 hnx7 hnx8 gS gW
  have c0 := G.c0
  have c1 := G.c1
  have e0 := D8.c0
  have e1 := D8.c1
  -- both are alike
  go_wp2_with fail
  generalize w7.alloc (.cells #[.slice G1 p g1, .slice G2 q g2] 26) = w8 at *
  refine (eqDisk_c G1 G2 D1 D2 p g1 d1 q g2 d2 _ R1 R2 _ G.strs D8.strs G.wrs D8.wrs (Nat.le_refl _) (by omega) (by omega)).mono ?_
  rintro e w9 ⟨rfl, hnx9⟩
  have D9 := D8.nx hnx9
  have X9 := X8.nx hnx9
  have G9 := G.nx hnx9
  have b9 := b8.nx hnx9
  have hx9 := hx8.trans hnx9
  have X9S := X9.1.sl
  have X9W := X9.2.1.sl
  have X9B := X9.2.2
  clear c0 c1 e0 e1 D8 X8 G b8 hx8 hnx9 hd
  -- the argument is as it was
  have rw10d : Nx w9 w9.drew := (Nx.refl w9).drew
  have rw10x : Nx w w9.drew := hx9.drew
  have rw10b : Box w9.drew w5.heap.size 26 #[.slice X1 n x1, .slice X2 n2 x2] := X9B
  have rw10a : Box w9.drew w.heap.size 55 #[.slice A n c, .slice A2 n2 c2] := b9
  have rw10S := X9S.nx rw10d
  have rw10W := X9W.nx rw10d
  have rw10c0 := rw10b.c0
  have rw10c1 := rw10b.c1
  have rw10e0 := rw10a.c0
  have rw10e1 := rw10a.c1
  go_wp2_with fail
  go_region_held3 (fun w' => w'.cell? ⟨w5.heap.size, 0, none⟩ = some (.slice X1 n x1) ∧ w'.cell? ⟨w5.heap.size, 1, none⟩ = some (.slice X2 n2 x2) ∧ w'.cell? ⟨w.heap.size, 0, none⟩ = some (.slice A n c) ∧ w'.cell? ⟨w.heap.size, 1, none⟩ = some (.slice A2 n2 c2)) (first | exact ⟨rw10c0, rw10c1, rw10e0, rw10e1⟩ | exact ⟨k0, k1, k2, k3⟩ | exact ⟨l0, l1, l2, l3⟩)
    (first
      | (go_at_call 29; refine (toDisk_c A A2 n c n2 c2 w.heap.size ss ws _ (h.below rw10x (Nat.le_refl _)) (h2.below rw10x (Nat.le_refl _)) rw10x.size hn' hn2').mono ?_; rintro e u1 ⟨AA, nA, cA, AB, nB, cB, rfl, hSA, hWB, hnxA⟩; obtain rfl : n = nA := h.1.symm.trans hSA.1; obtain rfl : n2 = nB := h2.1.symm.trans hWB.1; have k0 := (rw10b.nx hnxA).c0; have k1 := (rw10b.nx hnxA).c1; have k2 := (rw10a.nx hnxA).c0; have k3 := (rw10a.nx hnxA).c1)
      | (go_at_call 30; refine (eqDisk_c X1 X2 AA AB n x1 cA n2 x2 cB _ ss ws _ (rw10S.nx hnxA).strs hSA.strs (rw10W.nx hnxA).wrs hWB.wrs (Nat.le_refl _) hn' hn2').mono ?_; rintro e w10 ⟨rfl, hnxB⟩; have l0 := ((rw10b.nx hnxA).nx hnxB).c0; have l1 := ((rw10b.nx hnxA).nx hnxB).c1; have l2 := ((rw10a.nx hnxA).nx hnxB).c0; have l3 := ((rw10a.nx hnxA).nx hnxB).c1))
  have stw10 : Nx w9 w10 := (rw10d.trans hnxA).trans hnxB
  clear k0 k1 k2 k3 l0 l1 l2 l3 hSA hWB rw10c0 rw10c1 rw10e0 rw10e1 rw10S rw10W rw10b rw10a rw10x rw10d
  have D10 := D9.nx stw10
  have X10 := X9.nx stw10
  have G10 := G9.nx stw10
  have b10 := b9.nx stw10
  have hx10 := hx9.trans stw10
  clear D9 X9 G9 b9 hx9 stw10 hnxA hnxB X9S X9W X9B
  have c0 := X10.c0
  have c1 := X10.c1
  -- what is written into the argument is not seen in the answer
  go_wp2_with fail
  refine (markDisk_c X1 X2 n x1 n2 x2 1 w4.heap.size w5.heap.size ss ws _ X10.1 X10.2.1 (Nat.le_of_lt X10.2.2.lt) hn' hn2' (by omega)).mono ?_
  rintro e w11 ⟨rfl, mS, mW, hr11⟩
  have D11 := D10.rg hr11 (.inl (by omega)) (by omega)
  have G11 := G10.rg hr11 (.inr (by omega)) (by omega)
  have b11 := b10.rg hr11 (.inl (by omega))
  have hx11 := Rg.nx_of hx10 hr11 (by omega)
  clear c0 c1 D10 G10 X10 b10 hx10 hr11 mS mW
  have c0 := G11.c0
  have c1 := G11.c1
  have e0 := D11.c0
  have e1 := D11.c1
  have hk0 : decide ((1 : Int) + n + n2 * 2 < 0) = false := by simp; omega
  go_wp2_with fail
  refine (eqDisk_c G1 G2 D1 D2 p g1 d1 q g2 d2 _ R1 R2 _ G11.strs D11.strs G11.wrs D11.wrs (Nat.le_refl _) (by omega) (by omega)).mono ?_
  rintro e w12 ⟨rfl, hnx12⟩
  have D12 := D11.nx hnx12
  have G12 := G11.nx hnx12
  have b12 := b11.nx hnx12
  have hx12 := hx11.trans hnx12
  clear c0 c1 e0 e1 D11 G11 b11 hx11 hnx12
  have c0 := G12.c0
  have c1 := G12.c1
  -- what is written into the answer stays there
  go_wp2_with fail
  refine (markDisk_c G1 G2 p g1 q g2 1 w6.heap.size w7.heap.size R1 R2 _ G12.1 G12.2.1 (Nat.le_of_lt G12.2.2.lt) (by omega) (by omega) (by omega)).mono ?_
  rintro e w13 ⟨rfl, mS, mW, hr13⟩
  have G13 : Dk w13 w6.heap.size w7.heap.size G1 p g1 G2 q g2 (markS 1 p) (markW (1 + p) q) := ⟨mS, mW, G12.2.2.rg hr13 (.inr (Nat.le_refl _))⟩
  have D13 := D12.rg hr13 (.inl (by omega)) (by omega)
  have b13 := b12.rg hr13 (.inl (by omega))
  have hx13 := Rg.nx_of hx12 hr13 (by omega)
  clear c0 c1 D12 G12 b12 hx12 hr13 mS mW
  have c0 := G13.c0
  have c1 := G13.c1
  go_wp2_with fail
  refine (heldDisk_c G1 G2 p g1 q g2 1 _ _ G13.strs G13.wrs (Nat.le_refl _) (by omega) (by omega) (by omega)).mono ?_
  rintro e w14 ⟨rfl, hnx14⟩
  have D14 := D13.nx hnx14
  have G14 := G13.nx hnx14
  have b14 := b13.nx hnx14
  have hx14 := hx13.trans hnx14
  clear c0 c1 D13 G13 b13 hx13 hnx14
  have hq0 : decide ((1 : Int) + p + q * 2 < 0) = false := by simp; omega
  have c0 := b14.c0
  have c1 := b14.c1
  -- called anew it answers alike
  go_wp2_with fail
  refine (toDisk_c A A2 n c n2 c2 w.heap.size ss ws _ (h.below hx14 (Nat.le_refl _)) (h2.below hx14 (Nat.le_refl _)) hx14.size hn' hn2').mono ?_
  rintro e w15 ⟨Y1, p7, y1, Y2, p8, y2, rfl, yS, yW, hnx15⟩
  obtain rfl : n = p7 := h.1.symm.trans yS.1
  obtain rfl : n2 = p8 := h2.1.symm.trans yW.1
  have D15 := D14.nx hnx15
  have G15 := G14.nx hnx15
  have hx15 := hx14.trans hnx15
  clear c0 c1 D14 G14 b14 hx14 hnx15
  go_wp2_with fail
  refine (implFlushDisk_r Y1 Y2 n y1 n2 y2 _ ss ws _ R1 R2 cd HP.out yS.strs yW.wrs (Nat.le_refl _) hn' hn2').mono ?_
  rintro e w16 ⟨H1, p9, h1, H2, p10, h2_, rfl, zS, zW, hnx16⟩
  obtain rfl : p = p9 := Hp.out.symm.trans zS.1
  obtain rfl : q = p10 := Hq.out.symm.trans zW.1
  have H := Dk.new (c := h1) (c2 := h2_) zS zW
  have hnx17 := hnx16.alloc (.cells #[.slice H1 p h1, .slice H2 q h2_] 26)
  have D17 := D15.nx hnx17
  have G17 := G15.nx hnx17
  have hx17 := hx15.trans hnx17
  clear D15 G15 hx15 hnx16 hnx17 zS zW yS yW
  have c0 := H.c0
  have c1 := H.c1
  have e0 := D17.c0
  have e1 := D17.c1
  go_wp2_with fail
  generalize w16.alloc (.cells #[.slice H1 p h1, .slice H2 q h2_] 26) = w17 at *
  refine (eqDisk_c H1 H2 D1 D2 p h1 d1 q h2_ d2 _ R1 R2 _ H.strs D17.strs H.wrs D17.wrs (Nat.le_refl _) (by omega) (by omega)).mono ?_
  rintro e w18 ⟨rfl, hnx18⟩
  have G18 := G17.nx hnx18
  have hx18 := hx17.trans hnx18
  clear c0 c1 e0 e1 H D17 G17 hx17 hnx18
  have c0 := G18.c0
  have c1 := G18.c1
  go_wp2_with fail
  refine (heldDisk_c G1 G2 p g1 q g2 1 _ _ G18.strs G18.wrs (Nat.le_refl _) (by omega) (by omega) (by omega)).mono ?_
  rintro e w19 ⟨rfl, hnx19⟩
  go_wp2
  go_ret
  exact ⟨rfl, hx18.trans hnx19⟩
end Go.Proofs.Ytccapcadgjlmkaa
