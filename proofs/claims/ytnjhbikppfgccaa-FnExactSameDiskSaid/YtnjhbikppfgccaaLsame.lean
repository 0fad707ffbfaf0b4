/-
  The walk of the law FnExactSameDisk.
  Conditions: the disks that come in can be read.
-/
import Derived.Test.YtnjhbikppfgccaaBase
import Derived.Test.YtnjhbikppfgccaaSz
import Derived.Test.YtnjhbikppfgccaaTo
import Derived.Test.YtnjhbikppfgccaaEq
import Derived.Test.YtnjhbikppfgccaaSame
import Derived.Deep.RegionHeld3
import Derived.Deep.RegionWith
import Derived.Outline
namespace Go.Proofs.Ytnjhbikppfgccaa
set_option linter.unusedVariables false
open Go.RowKit

set_option maxHeartbeats 4000000 in
theorem lawSameDisk (A A2 : Option Addr) (n c n2 c2 : Nat) (ss : List ByteArray) (ws : List (Int × ByteArray)) (B B2 : Option Addr) (m d m2 d2 : Nat) (tt : List ByteArray) (us : List (Int × ByteArray)) (w : World)
    (h : Strs w w.heap.size A n ss) (h2 : Wrs w w.heap.size A2 n2 ws) (hm : AllS ss) (hm2 : AllW ws) (hn : n ≤ 2 ^ 63 - 1) (hn2 : n2 ≤ 2 ^ 63 - 1)
    (g : Strs w w.heap.size B m tt) (g2 : Wrs w w.heap.size B2 m2 us) (gm : AllS tt) (gm2 : AllW us) (gn : m ≤ 2 ^ 63 - 1) (gn2 : m2 ≤ 2 ^ 63 - 1) :
    Calls Try.prog 12 #[.agg #[.slice A n c, .slice A2 n2 c2], .agg #[.slice B m d, .slice B2 m2 d2]] w fun e w' => e = .returned (.bool true) ∧ Nx w w' := by
  go_enter Try.func12, Try.ntmps12
  go_wp2_with fail
  have b0 := (Box.new w 48 #[.slice A n c, .slice A2 n2 c2]).alloc (.cells #[.slice B m d, .slice B2 m2 d2] 48)
  have a0 := Box.new (w.alloc (.cells #[.slice A n c, .slice A2 n2 c2] 48)) 48 #[.slice B m d, .slice B2 m2 d2]
  have hnx0 := ((Nx.refl w).alloc (.cells #[.slice A n c, .slice A2 n2 c2] 48)).alloc (.cells #[.slice B m d, .slice B2 m2 d2] 48)
  simp only [World.size_alloc] at a0
  generalize ((w.alloc (.cells #[.slice A n c, .slice A2 n2 c2] 48)).alloc (.cells #[.slice B m d, .slice B2 m2 d2] 48)) = W at *
  refine (szDisk_c A A2 n c n2 c2 w.heap.size ss ws _ _ (h.below hnx0 (Nat.le_refl _)) (h2.below hnx0 (Nat.le_refl _)) hnx0.size hm hm2 hn hn2 (by omega) (by omega)).mono ?_
  rintro e w1 ⟨rfl, hnx1⟩
  by_cases hle : costD n n2 ss ws ≤ 1048576
  case neg =>
    rw [← szR_no (by omega)]
    go_wp2
    go_ret
    exact ⟨rfl, hnx0.trans hnx1⟩
  rw [← szR_yes hle]
  have hn' : n ≤ 1048576 := by unfold costD at hle; omega
  have hn2' : n2 ≤ 1048576 := by unfold costD at hle; omega
  have hc0 : 0 ≤ costD n n2 ss ws := by unfold costD; omega
  have hd : decide (1048576 - costD n n2 ss ws < 0) = false := by simp; omega
  have b1 := b0.nx hnx1
  have a1 := a0.nx hnx1
  have hx1 := hnx0.trans hnx1
  have e0 := a1.c0
  have e1 := a1.c1
  clear hnx0 hnx1 b0 a0
  go_wp2_with fail
  refine (szDisk_c B B2 m d m2 d2 w.heap.size tt us _ _ (g.below hx1 (Nat.le_refl _)) (g2.below hx1 (Nat.le_refl _)) hx1.size gm gm2 gn gn2 (by omega) (by omega)).mono ?_
  rintro e w2 ⟨rfl, hnx2⟩
  by_cases hle2 : costD m m2 tt us ≤ 1048576 - costD n n2 ss ws
  case neg =>
    rw [← szR_no (by omega)]
    go_wp2
    go_ret
    exact ⟨rfl, hx1.trans hnx2⟩
  rw [← szR_yes hle2]
  have gn' : m ≤ 1048576 := by unfold costD at hle2 hc0; omega
  have gn2' : m2 ≤ 1048576 := by unfold costD at hle2 hc0; omega
  have hd2 : decide (1048576 - costD n n2 ss ws - costD m m2 tt us < 0) = false := by simp; omega
  have b2 := b1.nx hnx2
  have a2 := a1.nx hnx2
  have hx2 := hx1.trans hnx2
  clear e0 e1 b1 a1 hnx2 hx1 w1
  have rd : Nx w w2.drew := hx2.drew
  have b3 : Box w2.drew w.heap.size 48 #[.slice A n c, .slice A2 n2 c2] := b2
  have a3 : Box w2.drew (w.heap.size + 1) 48 #[.slice B m d, .slice B2 m2 d2] := a2
  have c0 := b3.c0
  have c1 := b3.c1
  have e0 := a3.c0
  have e1 := a3.c1
  go_wp2_with fail
  go_region_held3 (fun w' => w'.cell? ⟨w.heap.size, 0, none⟩ = some (.slice A n c) ∧ w'.cell? ⟨w.heap.size, 1, none⟩ = some (.slice A2 n2 c2) ∧ w'.cell? ⟨w.heap.size + 1, 0, none⟩ = some (.slice B m d) ∧ w'.cell? ⟨w.heap.size + 1, 1, none⟩ = some (.slice B2 m2 d2)) (first | exact ⟨c0, c1, e0, e1⟩ | exact ⟨k0, k1, k2, k3⟩ | exact ⟨l0, l1, l2, l3⟩ | exact ⟨m0, m1, m2_, m3⟩)
    (first
      | (go_at_call_of 35 (Value.agg #[.slice A n c, .slice A2 n2 c2]); refine (toDisk_c A A2 n c n2 c2 w.heap.size ss ws _ (h.below rd (Nat.le_refl _)) (h2.below rd (Nat.le_refl _)) rd.size hn' hn2').mono ?_; rintro e u1 ⟨AA, nA, cA, AB, nB, cB, rfl, hSA, hWB, hnxA⟩; obtain rfl : n = nA := h.1.symm.trans hSA.1; obtain rfl : n2 = nB := h2.1.symm.trans hWB.1; have k0 := (b3.nx hnxA).c0; have k1 := (b3.nx hnxA).c1; have k2 := (a3.nx hnxA).c0; have k3 := (a3.nx hnxA).c1; have rdA := rd.trans hnxA)
      | (go_at_call_of 35 (Value.agg #[.slice B m d, .slice B2 m2 d2]); refine (toDisk_c B B2 m d m2 d2 w.heap.size tt us _ (g.below rdA (Nat.le_refl _)) (g2.below rdA (Nat.le_refl _)) rdA.size gn' gn2').mono ?_; rintro e u2 ⟨AC, nC, cC, AD, nD, cD, rfl, hSC, hWD, hnxC⟩; obtain rfl : m = nC := g.1.symm.trans hSC.1; obtain rfl : m2 = nD := g2.1.symm.trans hWD.1; have l0 := ((b3.nx hnxA).nx hnxC).c0; have l1 := ((b3.nx hnxA).nx hnxC).c1; have l2 := ((a3.nx hnxA).nx hnxC).c0; have l3 := ((a3.nx hnxA).nx hnxC).c1)
      | (go_at_call 42; refine (specSameDisk_c AA AB AC AD n cA n2 cB m cC m2 cD _ ss tt ws us _ (hSA.nx hnxC).strs (hWB.nx hnxC).wrs hSC.strs hWD.wrs (Nat.le_refl _) hn' hn2' gn' gn2').mono ?_; rintro e w3 ⟨rfl, hnxE⟩; have m0 := (((b3.nx hnxA).nx hnxC).nx hnxE).c0; have m1 := (((b3.nx hnxA).nx hnxC).nx hnxE).c1; have m2_ := (((a3.nx hnxA).nx hnxC).nx hnxE).c0; have m3 := (((a3.nx hnxA).nx hnxC).nx hnxE).c1))
  have st3 : Nx w2 w3 := ((((Nx.refl w2).drew).trans hnxA).trans hnxC).trans hnxE
  clear c0 c1 e0 e1 k0 k1 k2 k3 l0 l1 l2 l3 m0 m1 m2_ m3 hSA hWB hSC hWD rd rdA b3 a3
  have b4 := b2.nx st3
  have a4 := a2.nx st3
  have hx4 := hx2.trans st3
  clear b2 a2 hx2 st3
  have c0 := b4.c0
  have c1 := b4.c1
  go_wp2_with fail
  refine (toDisk_c A A2 n c n2 c2 w.heap.size ss ws _ (h.below hx4 (Nat.le_refl _)) (h2.below hx4 (Nat.le_refl _)) hx4.size hn' hn2').mono ?_
  rintro e w4 ⟨A5, n5, c5, A6, n6, c6, rfl, hS5, hW6, hnx4⟩
  obtain rfl : n = n5 := h.1.symm.trans hS5.1
  obtain rfl : n2 = n6 := h2.1.symm.trans hW6.1
  clear c0 c1
  have bx := Box.new w4 26 #[.slice A5 n c5, .slice A6 n2 c6]
  have hnx5 := hnx4.alloc (.cells #[.slice A5 n c5, .slice A6 n2 c6] 26)
  have hS5' := hS5.nx ((Nx.refl w4).alloc (.cells #[.slice A5 n c5, .slice A6 n2 c6] 26))
  have hW6' := hW6.nx ((Nx.refl w4).alloc (.cells #[.slice A5 n c5, .slice A6 n2 c6] 26))
  have b5 := b4.nx hnx5
  have a5 := a4.nx hnx5
  have hx5 := hx4.trans hnx5
  have e0 := a5.c0
  have e1 := a5.c1
  go_wp2_with fail
  generalize w4.alloc (.cells #[.slice A5 n c5, .slice A6 n2 c6] 26) = w5 at *
  clear b4 a4 hx4 hnx4 hnx5 hS5 hW6
  refine (toDisk_c B B2 m d m2 d2 w.heap.size tt us _ (g.below hx5 (Nat.le_refl _)) (g2.below hx5 (Nat.le_refl _)) hx5.size gn' gn2').mono ?_
  rintro e w6 ⟨B5, m5, d5, B6, m6, d6, rfl, gS5, gW6, hnx6⟩
  obtain rfl : m = m5 := g.1.symm.trans gS5.1
  obtain rfl : m2 = m6 := g2.1.symm.trans gW6.1
  clear e0 e1
  have ax := Box.new w6 26 #[.slice B5 m d5, .slice B6 m2 d6]
  have hnx7 := hnx6.alloc (.cells #[.slice B5 m d5, .slice B6 m2 d6] 26)
  have gS5' := gS5.nx ((Nx.refl w6).alloc (.cells #[.slice B5 m d5, .slice B6 m2 d6] 26))
  have gW6' := gW6.nx ((Nx.refl w6).alloc (.cells #[.slice B5 m d5, .slice B6 m2 d6] 26))
  have b7 := b5.nx hnx7
  have a7 := a5.nx hnx7
  have bx7 := bx.nx hnx7
  have hx7 := hx5.trans hnx7
  have hS7 := hS5'.nx hnx7
  have hW7 := hW6'.nx hnx7
  have c0 := bx7.c0
  have c1 := bx7.c1
  have e0 := ax.c0
  have e1 := ax.c1
  go_wp2_with fail
  generalize w6.alloc (.cells #[.slice B5 m d5, .slice B6 m2 d6] 26) = w7 at *
  clear b5 a5 bx hx5 hnx6 hnx7 gS5 gW6 hS5' hW6'
  refine (implSameDisk_c A5 A6 B5 B6 n c5 n2 c6 m d5 m2 d6 _ ss tt ws us _ hS7.strs hW7.wrs gS5'.strs gW6'.wrs (Nat.le_refl _) hn' hn2' gn' gn2').mono ?_
  rintro e w8 ⟨rfl, hnx8⟩
  clear c0 c1 e0 e1
  have b8 := b7.nx hnx8
  have a8 := a7.nx hnx8
  have bx8 := bx7.nx hnx8
  have ax8 := ax.nx hnx8
  have hx8 := hx7.trans hnx8
  have hS8 := hS7.nx hnx8
  have hW8 := hW7.nx hnx8
  have gS8 := gS5'.nx hnx8
  have gW8 := gW6'.nx hnx8
  clear b7 a7 bx7 ax hx7 hS7 hW7 gS5' gW6' hnx8 hd hd2
  have rw9d : Nx w8 w8.drew := (Nx.refl w8).drew
  have rw9x : Nx w w8.drew := hx8.drew
  have rw9b : Box w8.drew w4.heap.size 26 #[.slice A5 n c5, .slice A6 n2 c6] := bx8
  have rw9a : Box w8.drew w.heap.size 48 #[.slice A n c, .slice A2 n2 c2] := b8
  have rw9S := hS8.nx rw9d
  have rw9W := hW8.nx rw9d
  have rw9c0 := rw9b.c0
  have rw9c1 := rw9b.c1
  have rw9e0 := rw9a.c0
  have rw9e1 := rw9a.c1
  go_wp2_with fail
  go_region_held3 (fun w' => w'.cell? ⟨w4.heap.size, 0, none⟩ = some (.slice A5 n c5) ∧ w'.cell? ⟨w4.heap.size, 1, none⟩ = some (.slice A6 n2 c6) ∧ w'.cell? ⟨w.heap.size, 0, none⟩ = some (.slice A n c) ∧ w'.cell? ⟨w.heap.size, 1, none⟩ = some (.slice A2 n2 c2)) (first | exact ⟨rw9c0, rw9c1, rw9e0, rw9e1⟩ | exact ⟨k0, k1, k2, k3⟩ | exact ⟨l0, l1, l2, l3⟩)
    (first
      | (go_at_call 35; refine (toDisk_c A A2 n c n2 c2 w.heap.size ss ws _ (h.below rw9x (Nat.le_refl _)) (h2.below rw9x (Nat.le_refl _)) rw9x.size hn' hn2').mono ?_; rintro e u1 ⟨AA, nA, cA, AB, nB, cB, rfl, hSA, hWB, hnxA⟩; obtain rfl : n = nA := h.1.symm.trans hSA.1; obtain rfl : n2 = nB := h2.1.symm.trans hWB.1; have k0 := (rw9b.nx hnxA).c0; have k1 := (rw9b.nx hnxA).c1; have k2 := (rw9a.nx hnxA).c0; have k3 := (rw9a.nx hnxA).c1)
      | (go_at_call 30; refine (eqDisk_c A5 A6 AA AB n c5 cA n2 c6 cB _ ss ws _ (rw9S.nx hnxA).strs hSA.strs (rw9W.nx hnxA).wrs hWB.wrs (Nat.le_refl _) hn' hn2').mono ?_; rintro e w9 ⟨rfl, hnxB⟩; have l0 := ((rw9b.nx hnxA).nx hnxB).c0; have l1 := ((rw9b.nx hnxA).nx hnxB).c1; have l2 := ((rw9a.nx hnxA).nx hnxB).c0; have l3 := ((rw9a.nx hnxA).nx hnxB).c1))
  have stw9 : Nx w8 w9 := (rw9d.trans hnxA).trans hnxB
  clear k0 k1 k2 k3 l0 l1 l2 l3 hSA hWB rw9c0 rw9c1 rw9e0 rw9e1 rw9S rw9W rw9b rw9a rw9x rw9d
  have a9 := a8.nx stw9
  have ax9 := ax8.nx stw9
  have hx9 := hx8.trans stw9
  have gS9 := gS8.nx stw9
  have gW9 := gW8.nx stw9
  clear b8 a8 bx8 ax8 hx8 hS8 hW8 gS8 gW8 stw9 hnxA hnxB hnxC hnxE
  have rw10d : Nx w9 w9.drew := (Nx.refl w9).drew
  have rw10x : Nx w w9.drew := hx9.drew
  have rw10b : Box w9.drew w6.heap.size 26 #[.slice B5 m d5, .slice B6 m2 d6] := ax9
  have rw10a : Box w9.drew (w.heap.size + 1) 48 #[.slice B m d, .slice B2 m2 d2] := a9
  have rw10S := gS9.nx rw10d
  have rw10W := gW9.nx rw10d
  have rw10c0 := rw10b.c0
  have rw10c1 := rw10b.c1
  have rw10e0 := rw10a.c0
  have rw10e1 := rw10a.c1
  go_wp2_with fail
  go_region_held3 (fun w' => w'.cell? ⟨w6.heap.size, 0, none⟩ = some (.slice B5 m d5) ∧ w'.cell? ⟨w6.heap.size, 1, none⟩ = some (.slice B6 m2 d6) ∧ w'.cell? ⟨(w.heap.size + 1), 0, none⟩ = some (.slice B m d) ∧ w'.cell? ⟨(w.heap.size + 1), 1, none⟩ = some (.slice B2 m2 d2)) (first | exact ⟨rw10c0, rw10c1, rw10e0, rw10e1⟩ | exact ⟨k0, k1, k2, k3⟩ | exact ⟨l0, l1, l2, l3⟩)
    (first
      | (go_at_call 35; refine (toDisk_c B B2 m d m2 d2 w.heap.size tt us _ (g.below rw10x (Nat.le_refl _)) (g2.below rw10x (Nat.le_refl _)) rw10x.size gn' gn2').mono ?_; rintro e u1 ⟨AA, nA, cA, AB, nB, cB, rfl, hSA, hWB, hnxA⟩; obtain rfl : m = nA := g.1.symm.trans hSA.1; obtain rfl : m2 = nB := g2.1.symm.trans hWB.1; have k0 := (rw10b.nx hnxA).c0; have k1 := (rw10b.nx hnxA).c1; have k2 := (rw10a.nx hnxA).c0; have k3 := (rw10a.nx hnxA).c1)
      | (go_at_call 30; refine (eqDisk_c B5 B6 AA AB m d5 cA m2 d6 cB _ tt us _ (rw10S.nx hnxA).strs hSA.strs (rw10W.nx hnxA).wrs hWB.wrs (Nat.le_refl _) gn' gn2').mono ?_; rintro e w10 ⟨rfl, hnxB⟩; have l0 := ((rw10b.nx hnxA).nx hnxB).c0; have l1 := ((rw10b.nx hnxA).nx hnxB).c1; have l2 := ((rw10a.nx hnxA).nx hnxB).c0; have l3 := ((rw10a.nx hnxA).nx hnxB).c1))
  have stw10 : Nx w9 w10 := (rw10d.trans hnxA).trans hnxB
  clear k0 k1 k2 k3 l0 l1 l2 l3 hSA hWB rw10c0 rw10c1 rw10e0 rw10e1 rw10S rw10W rw10b rw10a rw10x rw10d
  go_wp2
  go_ret
  exact ⟨rfl, hx9.trans stw10⟩
end Go.Proofs.Ytnjhbikppfgccaa
