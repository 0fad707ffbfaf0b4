/-
  The walk of the law FnExactSuperText.
  Conditions: the super that comes in can be read; the library's table of powers of ten holds them.
-/
import Derived.Test.YteckhdkghfidiaaDoorSti
namespace Go.Proofs.YteckhdkghfidiaaDoor
set_option linter.unusedVariables false
set_option maxRecDepth 100000
open Go.RowKit

set_option maxHeartbeats 4000000 in
theorem lawSuperText (g b p t : Int) (A A2 : Option Addr) (c c2 : Nat) (xs : List Int) (ms : List Mrk) (w : World) (ht : Tab w) (h : Ins w w.heap.size A xs) (h2 : Mks w w.heap.size A2 ms) (hm : AllM ms) (hn : xs.length ≤ 2 ^ 63 - 1) (hn2 : ms.length ≤ 2 ^ 63 - 1) :
    Calls Tryd.prog 3 #[.agg #[.int .i64 g, .int .i64 b, .int .i64 p, .int .i64 t, .slice A xs.length c, .slice A2 ms.length c2]] w fun e w' => e = .returned (.bool true) ∧ Nx w w' := by
  have HT := Lib.hid ht
  clear ht
  obtain ⟨sT, Hs⟩ : ∃ s, Hid (supS g b p t xs ms = s) := ⟨_, rfl⟩
  obtain ⟨cd, Hk⟩ : ∃ k, Hid (codeB (superB g b p t xs ms) 1 = k) := ⟨_, rfl⟩
  go_enter Tryd.func3, Tryd.ntmps3
  go_wp2_with fail
  have b0 := Box.new w 25 #[.int .i64 g, .int .i64 b, .int .i64 p, .int .i64 t, .slice A xs.length c, .slice A2 ms.length c2]
  have hx0 := (Nx.refl w).alloc (.cells #[.int .i64 g, .int .i64 b, .int .i64 p, .int .i64 t, .slice A xs.length c, .slice A2 ms.length c2] 25)
  generalize w.alloc (.cells #[.int .i64 g, .int .i64 b, .int .i64 p, .int .i64 t, .slice A xs.length c, .slice A2 ms.length c2] 25) = W at *
  refine (szSuper_c g b p t A A2 c c2 w.heap.size xs ms _ _ (h2.below hx0 (Nat.le_refl _)) hx0.size hm hn hn2 (by omega) (by omega)).mono ?_
  rintro e w1 ⟨rfl, hnx1⟩
  by_cases hle : costU xs ms ≤ 1048576
  case neg =>
    rw [← szR_no (by omega)]
    go_wp2
    go_ret
    exact ⟨rfl, hx0.trans hnx1⟩
  rw [← szR_yes hle]
  have hn' : xs.length ≤ 1048576 := by unfold costU at hle; omega
  have hn2' : ms.length ≤ 1048576 := by unfold costU at hle; omega
  have hd : decide (1048576 - costU xs ms < 0) = false := by simp; omega
  have b1 := b0.nx hnx1
  obtain ⟨d0, d1, d2, d3, d4, d5⟩ := b1.d6
  have hx1 := hx0.trans hnx1
  clear b0 hx0 hnx1
  go_wp2_with fail
  refine (toSuper_c g b p t A A2 c c2 w.heap.size xs ms _ (h.below hx1 (Nat.le_refl _)) (h2.below hx1 (Nat.le_refl _)) hx1.size hn' hn2').mono ?_
  rintro e w2 ⟨A3, c3, A4, c4, rfl, hc3, hS2, hM2, hnx2⟩
  have HC3 := Lib.hid hc3
  clear hc3
  go_wp2_with fail
  refine (specSuperText_c g b p t A3 A4 c3 c4 _ xs ms _ hS2.row hM2.row (Nat.le_refl _) hn' hn2' HC3.out hm).mono ?_
  rintro e w3 ⟨rfl, hnx3⟩
  rw [Hs.out, Hk.out]
  have b3 := (b1.nx hnx2).nx hnx3
  have hx3 := (hx1.trans hnx2).trans hnx3
  clear d0 d1 d2 d3 d4 d5 b1 hx1 hS2 hM2 hnx2 hnx3
  obtain ⟨d0, d1, d2, d3, d4, d5⟩ := b3.d6
  go_wp2_with fail
  refine (toSuper_c g b p t A A2 c c2 w.heap.size xs ms _ (h.below hx3 (Nat.le_refl _)) (h2.below hx3 (Nat.le_refl _)) hx3.size hn' hn2').mono ?_
  rintro e w4 ⟨A5, c5, A6, c6, rfl, hc5, hS3, hM3, hnx4⟩
  have HC5 := Lib.hid hc5
  clear hc5
  go_wp2_with fail
  have bx := Box.new w4 31 #[.int .i64 g, .int .i64 b, .int .i64 p, .int .i64 t, .slice A5 xs.length c5, .slice A6 ms.length c6]
  have b4 := (b3.nx hnx4).alloc (.cells #[.int .i64 g, .int .i64 b, .int .i64 p, .int .i64 t, .slice A5 xs.length c5, .slice A6 ms.length c6] 31)
  have hx4 := (hx3.trans hnx4).alloc (.cells #[.int .i64 g, .int .i64 b, .int .i64 p, .int .i64 t, .slice A5 xs.length c5, .slice A6 ms.length c6] 31)
  have hSx := hS3.nx ((Nx.refl w4).alloc (.cells #[.int .i64 g, .int .i64 b, .int .i64 p, .int .i64 t, .slice A5 xs.length c5, .slice A6 ms.length c6] 31))
  have hMx := hM3.nx ((Nx.refl w4).alloc (.cells #[.int .i64 g, .int .i64 b, .int .i64 p, .int .i64 t, .slice A5 xs.length c5, .slice A6 ms.length c6] 31))
  generalize w4.alloc (.cells #[.int .i64 g, .int .i64 b, .int .i64 p, .int .i64 t, .slice A5 xs.length c5, .slice A6 ms.length c6] 31) = W4 at *
  clear d0 d1 d2 d3 d4 d5 b3 hx3 hS3 hM3 hnx4
  refine (implSuperText_c g b p t A5 A6 c5 c6 _ xs ms _ hSx.row hMx.row (Nat.le_refl _) hn' hn2' HC5.out hm (HT.out.nx hx4)).mono ?_
  rintro e w5 ⟨rfl, hnx5⟩
  rw [Hs.out, Hk.out]
  replace bx := bx.nx hnx5
  have b5 := b4.nx hnx5
  have hx5 := hx4.trans hnx5
  replace hSx := hSx.nx hnx5
  replace hMx := hMx.nx hnx5
  clear b4 hx4 hnx5
  go_wp2_with fail
  refine wp_region_lex [false, false, true, true, false] (fun w' => (w'.cell? ⟨w4.heap.size, 0, none⟩ = some (.int .i64 g) ∧ w'.cell? ⟨w4.heap.size, 1, none⟩ = some (.int .i64 b) ∧ w'.cell? ⟨w4.heap.size, 2, none⟩ = some (.int .i64 p) ∧ w'.cell? ⟨w4.heap.size, 3, none⟩ = some (.int .i64 t) ∧ w'.cell? ⟨w4.heap.size, 4, none⟩ = some (.slice A5 xs.length c5) ∧ w'.cell? ⟨w4.heap.size, 5, none⟩ = some (.slice A6 ms.length c6)) ∧ (w'.cell? ⟨w.heap.size, 0, none⟩ = some (.int .i64 g) ∧ w'.cell? ⟨w.heap.size, 1, none⟩ = some (.int .i64 b) ∧ w'.cell? ⟨w.heap.size, 2, none⟩ = some (.int .i64 p) ∧ w'.cell? ⟨w.heap.size, 3, none⟩ = some (.int .i64 t) ∧ w'.cell? ⟨w.heap.size, 4, none⟩ = some (.slice A xs.length c) ∧ w'.cell? ⟨w.heap.size, 5, none⟩ = some (.slice A2 ms.length c2))) (by kernel_rfl) (by kernel_rfl) rfl (by kernel_rfl) (fun _ _ d _ _ h => by cases d <;> exact h) (by exact ⟨bx.d6, b5.d6⟩) ?_
  repeat (first | (refine HL.take (v := ?_) (by rfl) ?_ ?_; rotate_left; (· (intro w hSw; (try dsimp only at hSw); go_simp; try with_reducible rfl)); (try simp only [Act.put, List.setIfInBounds_toArray, List.set_cons_zero, List.set_cons_succ])) | (refine HL.skip (by rfl) ?_; (try simp only [Act.put, List.setIfInBounds_toArray, List.set_cons_zero, List.set_cons_succ])))
  refine HL.call (by rfl) (fun K hK => ?_)
  go_simp
  refine (toSuper_c g b p t A A2 c c2 w.heap.size xs ms _ (h.below hx5.drew (Nat.le_refl _)) (h2.below hx5.drew (Nat.le_refl _)) hx5.drew.size hn' hn2').mono ?_; rintro e v1 ⟨A7, c7, A8, c8, rfl, hc7, hS9, hM9, hn9⟩; have bx1 := bx.nx (Nx.drew_r hn9); have bb1 := b5.nx (Nx.drew_r hn9)
  go_wp2_with fail
  refine hK.out _ _ (by exact ⟨bx1.d6, bb1.d6⟩) ?_
  clear hK K
  try simp only [Act.put, List.setIfInBounds_toArray, List.set_cons_zero, List.set_cons_succ]
  refine HL.call (by rfl) (fun K hK => ?_)
  go_simp
  refine (eqSuper_c g b p t A5 A6 A7 A8 c5 c6 c7 c8 _ xs ms _ (hSx.nx (Nx.drew_r hn9)).row (hMx.nx (Nx.drew_r hn9)).row hS9.row hM9.row (Nat.le_refl _) hn' hn2').mono ?_; rintro e v2 ⟨rfl, hn10⟩; have bx2 := bx1.nx hn10; have bb2 := bb1.nx hn10
  go_wp2_with fail
  refine hK.out _ _ (by exact ⟨bx2.d6, bb2.d6⟩) ?_
  clear hK K
  try simp only [Act.put, List.setIfInBounds_toArray, List.set_cons_zero, List.set_cons_succ]
  repeat (first | (refine HL.take (v := ?_) (by rfl) ?_ ?_; rotate_left; (· (intro w hSw; (try dsimp only at hSw); go_simp; try with_reducible rfl)); (try simp only [Act.put, List.setIfInBounds_toArray, List.set_cons_zero, List.set_cons_succ])) | (refine HL.skip (by rfl) ?_; (try simp only [Act.put, List.setIfInBounds_toArray, List.set_cons_zero, List.set_cons_succ])))
  refine HL.done ?_
  go_wp2
  go_ret
  exact ⟨rfl, (hx5.drew.trans hn9).trans hn10⟩
end Go.Proofs.YteckhdkghfidiaaDoor
