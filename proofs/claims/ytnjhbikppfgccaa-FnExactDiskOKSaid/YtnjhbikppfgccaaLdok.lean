/-
  The walk of the law FnExactDiskOK.
  Conditions: the disk that comes in can be read.
-/
import Derived.Test.YtnjhbikppfgccaaBase
import Derived.Test.YtnjhbikppfgccaaSz
import Derived.Test.YtnjhbikppfgccaaTo
import Derived.Test.YtnjhbikppfgccaaEq
import Derived.Test.YtnjhbikppfgccaaDok
import Derived.Deep.RegionHeld3
import Derived.Deep.DeepCutAuto
import Derived.Outline
namespace Go.Proofs.Ytnjhbikppfgccaa
set_option linter.unusedVariables false
open Go.RowKit

set_option maxHeartbeats 2000000 in
theorem lawDiskOK (A A2 : Option Addr) (n c n2 c2 : Nat) (ss : List ByteArray) (ws : List (Int × ByteArray)) (w : World) (h : Strs w w.heap.size A n ss) (h2 : Wrs w w.heap.size A2 n2 ws)
    (hm : AllS ss) (hm2 : AllW ws) (hn : n ≤ 2 ^ 63 - 1) (hn2 : n2 ≤ 2 ^ 63 - 1) :
    Calls Try.prog 7 #[.agg #[.slice A n c, .slice A2 n2 c2]] w fun e w' => e = .returned (.bool true) ∧ Nx w w' := by
  go_enter Try.func7, Try.ntmps7
  go_wp2_with fail
  have b0 := Box.new w 48 #[.slice A n c, .slice A2 n2 c2]
  have hnx0 := (Nx.refl w).alloc (.cells #[.slice A n c, .slice A2 n2 c2] 48)
  generalize w.alloc (.cells #[.slice A n c, .slice A2 n2 c2] 48) = W at *
  refine (szDisk_c A A2 n c n2 c2 w.heap.size ss ws _ _ (h.below hnx0 (Nat.le_refl _)) (h2.below hnx0 (Nat.le_refl _)) hnx0.size hm hm2 hn hn2 (by omega) (by omega)).mono ?_
  rintro e w1 ⟨rfl, hnx1⟩
  by_cases hle : costD n n2 ss ws ≤ 1048576
  case neg =>
    rw [← szR_no (by omega)]
    go_wp2
    go_ret
    exact ⟨rfl, hnx0.trans hnx1⟩
  rw [← szR_yes hle]
  have hn' : n ≤ 1048576 := by unfold costD at hle; omega
  have hn2' : n2 ≤ 1048576 := by unfold costD at hle; omega
  have hd : decide (1048576 - costD n n2 ss ws < 0) = false := by simp; omega
  have b1 := b0.nx hnx1
  have c0 := b1.c0
  have c1 := b1.c1
  have hx1 := hnx0.trans hnx1
  go_wp2_with fail
  refine (toDisk_c A A2 n c n2 c2 w.heap.size ss ws _ (h.below hx1 (Nat.le_refl _)) (h2.below hx1 (Nat.le_refl _)) hx1.size hn' hn2').mono ?_
  rintro e w2 ⟨A3, n3, c3, A4, n4, c4, rfl, hS, hW, hnx2⟩
  obtain rfl : n = n3 := h.1.symm.trans hS.1
  obtain rfl : n2 = n4 := h2.1.symm.trans hW.1
  go_wp2_with fail
  refine (specDiskOK_c A3 A4 n c3 n2 c4 _ ss ws _ hS.strs hW.wrs (Nat.le_refl _) hn' hn2').mono ?_
  rintro e w3 ⟨rfl, hnx3⟩
  have b3 := (b1.nx hnx2).nx hnx3
  have hx3 := (hx1.trans hnx2).trans hnx3
  clear c0 c1
  have c0 := b3.c0
  have c1 := b3.c1
  go_wp2_with fail
  refine (toDisk_c A A2 n c n2 c2 w.heap.size ss ws _ (h.below hx3 (Nat.le_refl _)) (h2.below hx3 (Nat.le_refl _)) hx3.size hn' hn2').mono ?_
  rintro e w4 ⟨A5, n5, c5, A6, n6, c6, rfl, hS5, hW6, hnx4⟩
  obtain rfl : n = n5 := h.1.symm.trans hS5.1
  obtain rfl : n2 = n6 := h2.1.symm.trans hW6.1
  go_wp2_with fail
  have hnx5 := (Nx.refl w4).alloc (.cells #[.slice A5 n c5, .slice A6 n2 c6] 26)
  have bx := Box.new w4 26 #[.slice A5 n c5, .slice A6 n2 c6]
  have hx5 := (hx3.trans hnx4).trans hnx5
  have b5 := (b3.nx hnx4).nx hnx5
  have hS5' := hS5.nx hnx5
  have hW6' := hW6.nx hnx5
  generalize w4.alloc (.cells #[.slice A5 n c5, .slice A6 n2 c6] 26) = w5 at *
  refine (implDiskOK_c A5 A6 n c5 n2 c6 _ ss ws _ hS5'.strs hW6'.wrs (Nat.le_refl _) hn' hn2').mono ?_
  rintro e w6 ⟨rfl, hnx6⟩
  have bx6 := bx.nx hnx6
  have b6 := b5.nx hnx6
  have hx6 := hx5.trans hnx6
  clear c0 c1
  have c0 := b6.c0
  have c1 := b6.c1
  have d0 := bx6.c0
  have d1 := bx6.c1
  have hS6 := hS5'.nx hnx6
  have hW7 := hW6'.nx hnx6
  clear hS5 hW6 hS5' hW6' bx b5 b3 b1 b0 hS hW hd
  have hb1 := bx6.lt
  have hb0 := b6.lt
  go_wp2_with fail
  have hx7 : Nx w w6.drew := hx6.drew
  have bx7 : Box w6.drew w4.heap.size 26 #[.slice A5 n c5, .slice A6 n2 c6] := bx6
  have b7 : Box w6.drew w.heap.size 48 #[.slice A n c, .slice A2 n2 c2] := b6
  have hS7 : SlS w6.drew w3.heap.size A5 n ss := hS6
  have hW8 : SlW w6.drew w3.heap.size A6 n2 ws := hW7
  go_region_held3 (fun w' => w'.cell? ⟨w4.heap.size, 0, none⟩ = some (.slice A5 n c5) ∧ w'.cell? ⟨w4.heap.size, 1, none⟩ = some (.slice A6 n2 c6) ∧ w'.cell? ⟨w.heap.size, 0, none⟩ = some (.slice A n c) ∧ w'.cell? ⟨w.heap.size, 1, none⟩ = some (.slice A2 n2 c2)) (first | exact ⟨d0, d1, c0, c1⟩ | exact ⟨k0, k1, k2, k3⟩ | exact ⟨l0, l1, l2, l3⟩)
    (first
      | (go_at_call 35; refine (toDisk_c A A2 n c n2 c2 w.heap.size ss ws _ (h.below hx7 (Nat.le_refl _)) (h2.below hx7 (Nat.le_refl _)) hx7.size hn' hn2').mono ?_; rintro e w7 ⟨A7, n7, c7, A8, n8, c8, rfl, hS9, hW9, hnx7⟩; obtain rfl : n = n7 := h.1.symm.trans hS9.1; obtain rfl : n2 = n8 := h2.1.symm.trans hW9.1; have k0 := (bx7.nx hnx7).c0; have k1 := (bx7.nx hnx7).c1; have k2 := (b7.nx hnx7).c0; have k3 := (b7.nx hnx7).c1)
      | (go_at_call 30; refine (eqDisk_c A5 A6 A7 A8 n c5 c7 n2 c6 c8 _ ss ws _ (hS7.nx hnx7).strs hS9.strs (hW8.nx hnx7).wrs hW9.wrs (Nat.le_refl _) hn' hn2').mono ?_; rintro e w8 ⟨rfl, hnx8⟩; have l0 := ((bx7.nx hnx7).nx hnx8).c0; have l1 := ((bx7.nx hnx7).nx hnx8).c1; have l2 := ((b7.nx hnx7).nx hnx8).c0; have l3 := ((b7.nx hnx7).nx hnx8).c1))
  go_wp2
  go_ret
  exact ⟨rfl, (hx7.trans hnx7).trans hnx8⟩
end Go.Proofs.Ytnjhbikppfgccaa
