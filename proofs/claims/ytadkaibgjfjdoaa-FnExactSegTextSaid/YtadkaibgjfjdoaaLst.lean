/-
  The walk of the law FnExactSegText.
  Conditions: the segment that comes in can be read.
-/
import Derived.Test.YtadkaibgjfjdoaaSgx
import Derived.Test.YtadkaibgjfjdoaaSge
import Derived.Test.YtadkaibgjfjdoaaSgt
namespace Go.Proofs.Ytadkaibgjfjdoaa
set_option linter.unusedVariables false
open Go.RowKit

set_option maxRecDepth 100000 in
set_option maxHeartbeats 4000000 in
theorem lawSegText (f t m : Int) (A : Option Addr) (c : Nat) (cs : List Chg) (w : World) (h : Chs w w.heap.size A cs) (hn : cs.length ≤ 2 ^ 63 - 1) :
    Calls Try.prog 4 #[.agg #[.int .i64 f, .int .i64 t, .int .i64 m, .slice A cs.length c]] w fun e w' => e = .returned (.bool true) ∧ Nx w w' := by
  obtain ⟨s, Hs⟩ : ∃ s, Hid (segS f t m cs = s) := ⟨_, rfl⟩
  obtain ⟨cd, Hk⟩ : ∃ k, Hid (codeB (segB f t m cs) 1 = k) := ⟨_, rfl⟩
  go_enter Try.func4, Try.ntmps4
  go_wp2_with fail
  have b0 := Box.new w 24 #[.int .i64 f, .int .i64 t, .int .i64 m, .slice A cs.length c]
  have hx0 := (Nx.refl w).alloc (.cells #[.int .i64 f, .int .i64 t, .int .i64 m, .slice A cs.length c] 24)
  generalize w.alloc (.cells #[.int .i64 f, .int .i64 t, .int .i64 m, .slice A cs.length c] 24) = W at *
  refine (szSeg_c f t m A cs.length c _ _ hn (by omega) (by omega)).mono ?_
  rintro e w1 ⟨rfl, hnx1⟩
  by_cases hle : (cs.length : Int) ≤ 1048576
  case neg =>
    rw [← szR_no (by omega)]
    go_wp2
    go_ret
    exact ⟨rfl, hx0.trans hnx1⟩
  rw [← szR_yes hle]
  have hn' : cs.length ≤ 1048576 := by omega
  have hd : decide (1048576 - (cs.length : Int) < 0) = false := by simp; omega
  have b1 := b0.nx hnx1
  obtain ⟨c0, c1, c2, c3⟩ := b1.d4
  have hx1 := hx0.trans hnx1
  clear b0 hx0 hnx1
  go_wp2_with fail
  refine (toSeg_c f t m A c w.heap.size cs _ (h.below hx1 (Nat.le_refl _)) hx1.size hn').mono ?_
  rintro e w2 ⟨A2, k2, rfl, hS2, hnx2⟩
  go_wp2_with fail
  refine (specSegText_c f t m A2 k2 _ cs _ hS2.row (Nat.le_refl _) hn').mono ?_
  rintro e w3 ⟨rfl, hnx3⟩
  rw [Hs.out, Hk.out]
  have b3 := (b1.nx hnx2).nx hnx3
  have hx3 := (hx1.trans hnx2).trans hnx3
  clear c0 c1 c2 c3 b1 hx1 hS2 hnx2 hnx3
  obtain ⟨c0, c1, c2, c3⟩ := b3.d4
  go_wp2_with fail
  refine (toSeg_c f t m A c w.heap.size cs _ (h.below hx3 (Nat.le_refl _)) hx3.size hn').mono ?_
  rintro e w4 ⟨A3, k3, rfl, hS3, hnx4⟩
  go_wp2_with fail
  have bx := Box.new w4 29 #[.int .i64 f, .int .i64 t, .int .i64 m, .slice A3 cs.length k3]
  have b4 := (b3.nx hnx4).alloc (.cells #[.int .i64 f, .int .i64 t, .int .i64 m, .slice A3 cs.length k3] 29)
  have hx4 := (hx3.trans hnx4).alloc (.cells #[.int .i64 f, .int .i64 t, .int .i64 m, .slice A3 cs.length k3] 29)
  have hSx := hS3.nx ((Nx.refl w4).alloc (.cells #[.int .i64 f, .int .i64 t, .int .i64 m, .slice A3 cs.length k3] 29))
  generalize w4.alloc (.cells #[.int .i64 f, .int .i64 t, .int .i64 m, .slice A3 cs.length k3] 29) = W4 at *
  clear c0 c1 c2 c3 b3 hx3 hS3 hnx4
  refine (implSegText_c f t m A3 k3 _ cs _ hSx.row (Nat.le_refl _) hn').mono ?_
  rintro e w5 ⟨rfl, hnx5⟩
  rw [Hs.out, Hk.out]
  replace bx := bx.nx hnx5
  have b5 := b4.nx hnx5
  have hx5 := hx4.trans hnx5
  replace hSx := hSx.nx hnx5
  clear b4 hx4 hnx5
  go_wp2_with fail
  refine wp_region_lex [false, false, true, true, false] (fun w' => (w'.cell? ⟨w4.heap.size, 0, none⟩ = some (.int .i64 f) ∧ w'.cell? ⟨w4.heap.size, 1, none⟩ = some (.int .i64 t) ∧ w'.cell? ⟨w4.heap.size, 2, none⟩ = some (.int .i64 m) ∧ w'.cell? ⟨w4.heap.size, 3, none⟩ = some (.slice A3 cs.length k3)) ∧ (w'.cell? ⟨w.heap.size, 0, none⟩ = some (.int .i64 f) ∧ w'.cell? ⟨w.heap.size, 1, none⟩ = some (.int .i64 t) ∧ w'.cell? ⟨w.heap.size, 2, none⟩ = some (.int .i64 m) ∧ w'.cell? ⟨w.heap.size, 3, none⟩ = some (.slice A cs.length c))) (by kernel_rfl) (by kernel_rfl) rfl (by kernel_rfl) (fun _ _ d _ _ h => by cases d <;> exact h) (by exact ⟨bx.d4, b5.d4⟩) ?_
  repeat (first | (refine HL.take (v := ?_) (by rfl) ?_ ?_; rotate_left; (· (intro w hSw; (try dsimp only at hSw); go_simp; try with_reducible rfl)); (try simp only [Act.put, List.setIfInBounds_toArray, List.set_cons_zero, List.set_cons_succ])) | (refine HL.skip (by rfl) ?_; (try simp only [Act.put, List.setIfInBounds_toArray, List.set_cons_zero, List.set_cons_succ])))
  refine HL.call (by rfl) (fun K hK => ?_)
  go_simp
  refine (toSeg_c f t m A c w.heap.size cs _ (h.below hx5.drew (Nat.le_refl _)) hx5.drew.size hn').mono ?_; rintro e v1 ⟨A9, k9, rfl, hS9, hn9⟩; have bx1 := bx.nx (Nx.drew_r hn9); have bb1 := b5.nx (Nx.drew_r hn9)
  go_wp2_with fail
  refine hK.out _ _ (by exact ⟨bx1.d4, bb1.d4⟩) ?_
  clear hK K
  try simp only [Act.put, List.setIfInBounds_toArray, List.set_cons_zero, List.set_cons_succ]
  refine HL.call (by rfl) (fun K hK => ?_)
  go_simp
  refine (eqSeg_c f t m A3 A9 k3 k9 _ cs _ (hSx.nx (Nx.drew_r hn9)).row hS9.row (Nat.le_refl _) hn').mono ?_; rintro e v2 ⟨rfl, hn10⟩; have bx2 := bx1.nx hn10; have bb2 := bb1.nx hn10
  go_wp2_with fail
  refine hK.out _ _ (by exact ⟨bx2.d4, bb2.d4⟩) ?_
  clear hK K
  try simp only [Act.put, List.setIfInBounds_toArray, List.set_cons_zero, List.set_cons_succ]
  repeat (first | (refine HL.take (v := ?_) (by rfl) ?_ ?_; rotate_left; (· (intro w hSw; (try dsimp only at hSw); go_simp; try with_reducible rfl)); (try simp only [Act.put, List.setIfInBounds_toArray, List.set_cons_zero, List.set_cons_succ])) | (refine HL.skip (by rfl) ?_; (try simp only [Act.put, List.setIfInBounds_toArray, List.set_cons_zero, List.set_cons_succ])))
  refine HL.done ?_
  go_wp2
  go_ret
  exact ⟨rfl, (hx5.drew.trans hn9).trans hn10⟩
end Go.Proofs.Ytadkaibgjfjdoaa
