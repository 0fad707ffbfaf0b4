/-
  The walk of the law FnExactFreeSectors.
  Conditions: the super that comes in can be read.
-/
import Derived.Test.YtccapcadgjlmkaaFre
import Derived.Test.YtccapcadgjlmkaaMku
namespace Go.Proofs.Ytccapcadgjlmkaa
set_option linter.unusedVariables false
set_option maxRecDepth 100000
open Go.RowKit

set_option maxHeartbeats 8000000 in
theorem lawFreeSectors (g b p t : Int) (A A2 : Option Addr) (c c2 : Nat) (xs : List Int) (ms : List Mrk) (w : World) (h : Ins w w.heap.size A xs) (h2 : Mks w w.heap.size A2 ms) (hm : AllM ms) (hn : xs.length ≤ 2 ^ 63 - 1) (hn2 : ms.length ≤ 2 ^ 63 - 1) :
    Calls Try.prog 7 #[.agg #[.int .i64 g, .int .i64 b, .int .i64 p, .int .i64 t, .slice A xs.length c, .slice A2 ms.length c2]] w fun e w' => e = .returned (.bool true) ∧ Nx w w' := by
  obtain ⟨ys, Hy⟩ : ∃ y, Hid (frL (superB g b p t xs ms) xs = y) := ⟨_, rfl⟩
  obtain ⟨cd, Hc⟩ : ∃ y, Hid (frC (superB g b p t xs ms) = y) := ⟨_, rfl⟩
  have hy : ys.length ≤ 1048576 := by rw [← Hy.out]; exact Nat.le_trans (frL_len _ _) (by omega)
  go_enter Try.func7, Try.ntmps7
  go_wp2_with fail
  have bD := Box.new w 62 #[.int .i64 g, .int .i64 b, .int .i64 p, .int .i64 t, .slice A xs.length c, .slice A2 ms.length c2]
  have hX := (Nx.refl w).alloc (.cells #[.int .i64 g, .int .i64 b, .int .i64 p, .int .i64 t, .slice A xs.length c, .slice A2 ms.length c2] 62)
  generalize w.alloc (.cells #[.int .i64 g, .int .i64 b, .int .i64 p, .int .i64 t, .slice A xs.length c, .slice A2 ms.length c2] 62) = W at *
  have zb := bD.lt
  refine (szSuper_c g b p t A A2 c c2 w.heap.size xs ms _ _ (h2.below hX (Nat.le_refl _)) hX.size hm hn hn2 (by omega) (by omega)).mono ?_
  rintro e w1 ⟨rfl, hx1⟩
  by_cases hle : costU xs ms ≤ 1048576
  case neg =>
    rw [← szR_no (by omega)]
    go_wp2
    go_ret
    exact ⟨rfl, hX.trans hx1⟩
  rw [← szR_yes hle]
  have hn' : xs.length ≤ 1048576 := by unfold costU at hle; omega
  have hn2' : ms.length ≤ 1048576 := by unfold costU at hle; omega
  have hd1 : decide (1048576 - costU xs ms < 0) = false := by simp; omega
  have zhx1 := hx1.size; replace bD := bD.nx hx1; replace hX := hX.trans hx1
  clear hx1
  obtain ⟨d0, d1, d2, d3, d4, d5⟩ := bD.d6
  go_wp2_with fail
  refine (toSuper_c g b p t A A2 c c2 w.heap.size xs ms _ (h.below hX (Nat.le_refl _)) (h2.below hX (Nat.le_refl _)) hX.size hn' hn2').mono ?_
  rintro e w2 ⟨A3, c3, A4, c4, rfl, hcc3, hS3, hM3, hx2⟩
  have zhx2 := hx2.size; replace bD := bD.nx hx2; replace hX := hX.trans hx2
  clear d0 d1 d2 d3 d4 d5
  have HCc3 := Lib.hid hcc3
  clear hcc3
  go_wp2_with fail
  refine (specFree_c g b p t A3 A4 c3 c4 _ xs ms _ hS3.row hM3.row (Nat.le_refl _) hn' hn2' HCc3.out hm).mono ?_
  intro e w3 hR
  rw [Hy.out, Hc.out] at hR
  obtain ⟨A5, c5, rfl, hc5, hS5, hx3⟩ := hR
  clear hc5
  replace hS5 := hS5.sr
  have zhx3 := hx3.size; replace bD := bD.nx hx3; replace hX := hX.trans hx3
  clear hS3 hM3
  obtain ⟨d0, d1, d2, d3, d4, d5⟩ := bD.d6
  go_wp2_with fail
  refine (toSuper_c g b p t A A2 c c2 w.heap.size xs ms _ (h.below hX (Nat.le_refl _)) (h2.below hX (Nat.le_refl _)) hX.size hn' hn2').mono ?_
  rintro e w4 ⟨A6, c6, A7, c7, rfl, hcc6, hS6, hM6, hx4⟩
  have zhx4 := hx4.size; replace bD := bD.nx hx4; replace hS5 := hS5.nx hx4; replace hX := hX.trans hx4
  clear d0 d1 d2 d3 d4 d5
  have HCc6 := Lib.hid hcc6
  clear hcc6
  replace hS6 := hS6.sr
  replace hM6 := hM6.sr
  go_wp2_with fail
  have bx := Box.new w4 45 #[.int .i64 g, .int .i64 b, .int .i64 p, .int .i64 t, .slice A6 xs.length c6, .slice A7 ms.length c7]
  have hxa := (Nx.refl w4).alloc (.cells #[.int .i64 g, .int .i64 b, .int .i64 p, .int .i64 t, .slice A6 xs.length c6, .slice A7 ms.length c7] 45)
  have zW : w4.heap.size < (w4.alloc (.cells #[.int .i64 g, .int .i64 b, .int .i64 p, .int .i64 t, .slice A6 xs.length c6, .slice A7 ms.length c7] 45)).heap.size := by simp
  have zhxa := hxa.size; replace bD := bD.nx hxa; replace hS5 := hS5.nx hxa; replace hS6 := hS6.nx hxa; replace hM6 := hM6.nx hxa; replace hX := hX.trans hxa
  clear hxa
  generalize w4.alloc (.cells #[.int .i64 g, .int .i64 b, .int .i64 p, .int .i64 t, .slice A6 xs.length c6, .slice A7 ms.length c7] 45) = W4 at *
  refine (implFree_c g b p t A6 A7 c6 c7 _ xs ms _ hS6.sl.row hM6.sl.row (Nat.le_refl _) hn' hn2' HCc6.out hm).mono ?_
  intro e w5 hR
  rw [Hy.out, Hc.out] at hR
  obtain ⟨A8, c8, rfl, hc8, hS8, hx5⟩ := hR
  clear hc8
  replace hS8 := hS8.sr
  have zhx5 := hx5.size; replace bD := bD.nx hx5; replace hS5 := hS5.nx hx5; replace hS6 := hS6.nx hx5; replace hM6 := hM6.nx hx5; replace bx := bx.nx hx5; replace hX := hX.trans hx5
  go_wp2_with fail
  refine (eqIntS_c A8 A5 c8 c5 _ ys _ hS8.sl.row hS5.sl.row (Nat.le_refl _) hy).mono ?_
  rintro e w7 ⟨rfl, hx7⟩
  have zhx7 := hx7.size; replace bD := bD.nx hx7; replace hS5 := hS5.nx hx7; replace hS6 := hS6.nx hx7; replace hM6 := hM6.nx hx7; replace bx := bx.nx hx7; replace hS8 := hS8.nx hx7; replace hX := hX.trans hx7
  replace hX := hX.drew
  replace bD : Box w7.drew w.heap.size 62 #[.int .i64 g, .int .i64 b, .int .i64 p, .int .i64 t, .slice A xs.length c, .slice A2 ms.length c2] := bD
  replace bx : Box w7.drew w4.heap.size 45 #[.int .i64 g, .int .i64 b, .int .i64 p, .int .i64 t, .slice A6 xs.length c6, .slice A7 ms.length c7] := bx
  replace hS5 : Sr w7.drew w2.heap.size w3.heap.size A5 3 ys.length (inAt ys) := hS5
  replace hS6 : Sr w7.drew w3.heap.size w4.heap.size A6 3 xs.length (inAt xs) := hS6
  replace hM6 : Sr w7.drew w3.heap.size w4.heap.size A7 94 (ms.length * 2) (mrAt ms) := hM6
  replace hS8 : Sr w7.drew W4.heap.size w5.heap.size A8 3 ys.length (inAt ys) := hS8
  have zd2 : w7.heap.size ≤ w7.drew.heap.size := Nat.le_refl _
  go_wp2_with fail
  refine wp_region_lex [false, false, true, true, false] (fun w' => (w'.cell? ⟨w4.heap.size, 0, none⟩ = some (.int .i64 g) ∧ w'.cell? ⟨w4.heap.size, 1, none⟩ = some (.int .i64 b) ∧ w'.cell? ⟨w4.heap.size, 2, none⟩ = some (.int .i64 p) ∧ w'.cell? ⟨w4.heap.size, 3, none⟩ = some (.int .i64 t) ∧ w'.cell? ⟨w4.heap.size, 4, none⟩ = some (.slice A6 xs.length c6) ∧ w'.cell? ⟨w4.heap.size, 5, none⟩ = some (.slice A7 ms.length c7)) ∧ (w'.cell? ⟨w.heap.size, 0, none⟩ = some (.int .i64 g) ∧ w'.cell? ⟨w.heap.size, 1, none⟩ = some (.int .i64 b) ∧ w'.cell? ⟨w.heap.size, 2, none⟩ = some (.int .i64 p) ∧ w'.cell? ⟨w.heap.size, 3, none⟩ = some (.int .i64 t) ∧ w'.cell? ⟨w.heap.size, 4, none⟩ = some (.slice A xs.length c) ∧ w'.cell? ⟨w.heap.size, 5, none⟩ = some (.slice A2 ms.length c2))) (by kernel_rfl) (by kernel_rfl) rfl (by kernel_rfl) (fun _ _ d _ _ h => by cases d <;> exact h) (by exact ⟨bx.d6, bD.d6⟩) ?_
  repeat (first | (refine HL.take (v := ?_) (by rfl) ?_ ?_; rotate_left; (· (intro w hSw; (try dsimp only at hSw); go_simp; try with_reducible rfl)); (try simp only [Act.put, List.setIfInBounds_toArray, List.set_cons_zero, List.set_cons_succ])) | (refine HL.skip (by rfl) ?_; (try simp only [Act.put, List.setIfInBounds_toArray, List.set_cons_zero, List.set_cons_succ])))
  refine HL.call (by rfl) (fun K hK => ?_)
  go_simp
  refine (toSuper_c g b p t A A2 c c2 w.heap.size xs ms _ (h.below hX (Nat.le_refl _)) (h2.below hX (Nat.le_refl _)) hX.size hn' hn2').mono ?_; rintro e v4 ⟨A10, c10, A11, c11, rfl, hc10, hS10, hM10, hv4⟩; have zhv4 := hv4.size; replace bD := bD.nx hv4; replace hS5 := hS5.nx hv4; replace hS6 := hS6.nx hv4; replace hM6 := hM6.nx hv4; replace bx := bx.nx hv4; replace hS8 := hS8.nx hv4; replace hX := hX.trans hv4
  go_wp2_with fail
  refine hK.out _ _ (by exact ⟨bx.d6, bD.d6⟩) ?_
  clear hK K
  try simp only [Act.put, List.setIfInBounds_toArray, List.set_cons_zero, List.set_cons_succ]
  refine HL.call (by rfl) (fun K hK => ?_)
  go_simp
  refine (eqSuper_c g b p t A6 A7 A10 A11 c6 c7 c10 c11 _ xs ms _ hS6.sl.row hM6.sl.row hS10.row hM10.row (Nat.le_refl _) hn' hn2').mono ?_; rintro e v5 ⟨rfl, hv5⟩; have zhv5 := hv5.size; replace bD := bD.nx hv5; replace hS5 := hS5.nx hv5; replace hS6 := hS6.nx hv5; replace hM6 := hM6.nx hv5; replace bx := bx.nx hv5; replace hS8 := hS8.nx hv5; replace hX := hX.trans hv5
  go_wp2_with fail
  refine hK.out _ _ (by exact ⟨bx.d6, bD.d6⟩) ?_
  clear hK K
  try simp only [Act.put, List.setIfInBounds_toArray, List.set_cons_zero, List.set_cons_succ]
  repeat (first | (refine HL.take (v := ?_) (by rfl) ?_ ?_; rotate_left; (· (intro w hSw; (try dsimp only at hSw); go_simp; try with_reducible rfl)); (try simp only [Act.put, List.setIfInBounds_toArray, List.set_cons_zero, List.set_cons_succ])) | (refine HL.skip (by rfl) ?_; (try simp only [Act.put, List.setIfInBounds_toArray, List.set_cons_zero, List.set_cons_succ])))
  refine HL.done ?_
  clear hS10 hM10
  obtain ⟨d0, d1, d2, d3, d4, d5⟩ := bx.d6
  go_wp2_with fail
  refine (markSuper_c g b p t A6 A7 xs.length c6 ms.length c7 1 _ _ _ _ _ hS6 hM6 (by omega) hn' hn2' (by omega)).mono ?_
  rintro e wc ⟨rfl, hS6b, hM6b, hr1⟩
  clear d0 d1 d2 d3 d4 d5
  have zhr1 := hr1.size; replace bD := bD.rg hr1 (by omega); replace hS5 := hS5.rg hr1 (by omega); replace bx := bx.rg hr1 (by omega); replace hS8 := hS8.rg hr1 (by omega); replace hX := Rg.nx_of hX hr1 (by omega)
  clear hS6 hS6b hM6 hM6b
  obtain ⟨q1, Hq1⟩ : ∃ q, Hid (1 + xs.length + ms.length * 2 = q) := ⟨_, rfl⟩
  rw [Hq1.out]
  have hd2 : decide ((q1 : Int) < 0) = false := by simp
  go_wp2_with fail
  refine (eqIntS_c A8 A5 c8 c5 _ ys _ hS8.sl.row hS5.sl.row (Nat.le_refl _) hy).mono ?_
  rintro e we ⟨rfl, hxe⟩
  have zhxe := hxe.size; replace bD := bD.nx hxe; replace hS5 := hS5.nx hxe; replace bx := bx.nx hxe; replace hS8 := hS8.nx hxe; replace hX := hX.trans hxe
  go_wp2_with fail
  refine (markIntS_c A8 ys.length c8 1 _ _ _ _ hS8 hy (by omega)).mono ?_
  rintro e wf ⟨rfl, hS8b, hr3⟩
  have zhr3 := hr3.size; replace bD := bD.rg hr3 (by omega); replace hS5 := hS5.rg hr3 (by omega); replace bx := bx.rg hr3 (by omega); replace hX := Rg.nx_of hX hr3 (by omega)
  clear hS8
  obtain ⟨q3, Hq3⟩ : ∃ q, Hid (1 + ys.length = q) := ⟨_, rfl⟩
  have hd3 : decide ((q3 : Int) < 0) = false := by simp
  rw [Hq3.out]
  go_wp2_with fail
  refine (heldIntS_c A8 ys.length c8 1 _ _ hS8b.sl.row hy (by omega)).mono ?_
  rintro e w' ⟨rfl, rfl⟩
  rw [Hq3.out]
  obtain ⟨d0, d1, d2, d3, d4, d5⟩ := bD.d6
  go_wp2_with fail
  refine (toSuper_c g b p t A A2 c c2 w.heap.size xs ms _ (h.below hX (Nat.le_refl _)) (h2.below hX (Nat.le_refl _)) hX.size hn' hn2').mono ?_
  rintro e u2 ⟨A13, c13, A14, c14, rfl, hcc13, hS13, hM13, hu2⟩
  have zhu2 := hu2.size; replace bD := bD.nx hu2; replace hS5 := hS5.nx hu2; replace bx := bx.nx hu2; replace hS8b := hS8b.nx hu2; replace hX := hX.trans hu2
  clear d0 d1 d2 d3 d4 d5
  have HCc13 := Lib.hid hcc13
  clear hcc13
  go_wp2_with fail
  refine (implFree_c g b p t A13 A14 c13 c14 _ xs ms _ hS13.row hM13.row (Nat.le_refl _) hn' hn2' HCc13.out hm).mono ?_
  intro e u3 hR
  rw [Hy.out, Hc.out] at hR
  obtain ⟨A15, c15, rfl, hc15, hS15, hu3⟩ := hR
  clear hc15
  have zhu3 := hu3.size; replace bD := bD.nx hu3; replace hS5 := hS5.nx hu3; replace bx := bx.nx hu3; replace hS8b := hS8b.nx hu3; replace hX := hX.trans hu3
  go_wp2_with fail
  refine (eqIntS_c A15 A5 c15 c5 _ ys _ hS15.row hS5.sl.row (Nat.le_refl _) hy).mono ?_
  rintro e wg ⟨rfl, hxg⟩
  have zhxg := hxg.size; replace bD := bD.nx hxg; replace hS5 := hS5.nx hxg; replace bx := bx.nx hxg; replace hS8b := hS8b.nx hxg; replace hX := hX.trans hxg
  go_wp2_with fail
  refine (heldIntS_c A8 ys.length c8 1 _ _ hS8b.sl.row hy (by omega)).mono ?_
  rintro e w' ⟨rfl, rfl⟩
  rw [Hq3.out]
  go_wp2
  go_ret
  exact ⟨rfl, hX⟩
end Go.Proofs.Ytccapcadgjlmkaa
