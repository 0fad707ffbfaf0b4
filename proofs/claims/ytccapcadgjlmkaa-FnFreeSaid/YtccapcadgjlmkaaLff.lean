/-
  The walk of the law FnFree.
  Conditions: the bytes that come in can be read.
-/
import Derived.Test.YtccapcadgjlmkaaSud
import Derived.Test.YtccapcadgjlmkaaFrv
import Derived.Test.YtccapcadgjlmkaaOp8
namespace Go.Proofs.Ytccapcadgjlmkaa
set_option linter.unusedVariables false
set_option maxRecDepth 100000
open Go.RowKit

set_option maxHeartbeats 1000000 in
theorem sameIntsU_c (A A2 : Option Addr) (c c2 B : Nat) (xs : List Int) (w : World) (h : Ins w B A xs) (h2 : Ins w B A2 xs) (hB : B ≤ w.heap.size) (hn : xs.length ≤ 1048576) :
    Calls Try.prog 24 #[.slice A xs.length c, .slice A2 xs.length c2] w fun e w' => e = .returned (.bool true) ∧ Nx w w' := by
  go_enter Try.func24, Try.ntmps24
  go_wp2
  go_loopw [5] (fun i wr => ∃ k : Nat, k ≤ xs.length ∧ i = .int .i64 k ∧ Nx w wr) (fun i _ => xs.length - (intOf i).toNat)
  case atStart => exact ⟨0, Nat.zero_le _, rfl, Nx.refl _⟩
  case round =>
    obtain ⟨k, hk, rfl, hnx⟩ := hrel
    by_cases hlt : k < xs.length
    · obtain ⟨b, off, rfl, hb, hc⟩ := (h.below hnx hB).at_ hlt
      obtain ⟨b2, off2, rfl, hb2, hc2⟩ := (h2.below hnx hB).at_ hlt
      generalize xs.getD k 0 = s at hc hc2
      go_wp2
      go_quiet (fail)
      go_wp2
      go_roundw
      case rel => exact ⟨k + 1, by omega, by go_num, hnx.drewN _⟩
      case measure => simp [intOf]; omega
    · go_wp2
      go_ret
      exact ⟨rfl, hnx⟩
theorem mergeF {G F : Nat → Nat → Option Addr → Nat → World → Prop} {R : Prop} (main : (∀ a b c d W, F a b c d W → G a b c d W) → R) (key : ∀ a b c d W, F a b c d W → G a b c d W) : R := main key
set_option maxHeartbeats 2000000 in
theorem superDrawn_c (A : Option Addr) (n c : Nat) (ys : List Nat) (w : World) (h : U8s w w.heap.size A n ys) (hn : n ≤ 1048576) :
    Calls Try.prog 21 #[.slice A n c] w fun e w' => ∃ (q0 q1 q2 q3 : Int) (A1 : Option Addr) (c1 : Nat) (xs : List Int) (A2 : Option Addr) (c2 : Nat) (ms : List Mrk),
      e = .returned (.agg #[.int .i64 q0, .int .i64 q1, .int .i64 q2, .int .i64 q3, .slice A1 xs.length c1, .slice A2 ms.length c2]) ∧ superB q0 q1 q2 q3 xs ms = true ∧ xs.length ≤ 5 ∧ xs.length ≤ c1 ∧ AllM ms ∧ SlI w' w.heap.size A1 xs ∧ SlM w' w.heap.size A2 ms ∧ Nx w w' := by
  go_enter Try.func21, Try.ntmps21
  go_wp2_with fail
  have b0 := Box.new w 45 #[.int .i64 0, .int .i64 0, .int .i64 0, .int .i64 0, .slice none 0 0, .slice none 0 0]
  have hx0 := (Nx.refl w).alloc (.cells #[.int .i64 0, .int .i64 0, .int .i64 0, .int .i64 0, .slice none 0 0, .slice none 0 0] 45)
  have u0 := h.below hx0 (Nat.le_refl _)
  generalize w.alloc (.cells #[.int .i64 0, .int .i64 0, .int .i64 0, .int .i64 0, .slice none 0 0, .slice none 0 0] 45) = W at *
  have hz := b0.lt
  refine (l00Source_c A n c _ hn).mono ?_
  rintro e w1 ⟨rfl, s1, hnx1⟩
  have u1 := u0.below hnx1 (by omega)
  have hz1 := hnx1.size
  go_wp2_with fail
  refine (super_c W.heap.size A n c w.heap.size 0 ys _ ⟨0, n % 1000, by omega, by omega, s1⟩ u1 (by omega) hn (by omega)).mono ?_
  rintro e w2 ⟨q0, q1, q2, q3, A1, c1, xs, A2, c2, ms, rfl, hok, hl5, hc, ham, hS, hM, _, r2⟩
  have HOK := Lib.hid hok
  have HC := Lib.hid hc
  have HAM := Lib.hid ham
  clear hok hc ham
  have b2 := (b0.nx hnx1).rg r2 (.inl hz)
  have hx2 := Rg.nx_of (hx0.trans hnx1) r2 (by omega)
  have hgl : w.heap.size < w1.heap.size := by omega
  clear u0 u1 b0 hx0 hnx1 r2 s1
  obtain ⟨y0, y1, y2, y3, y4, y5⟩ := b2.d6
  have f0 := b2.frozen 0
  have f1 := b2.frozen 1
  have f2 := b2.frozen 2
  have f3 := b2.frozen 3
  have f4 := b2.frozen 4
  have f5 := b2.frozen 5
  go_wp2
  have qq := ((((((b2).set 0 (.int .i64 q0)).set 1 (.int .i64 q1)).set 2 (.int .i64 q2)).set 3 (.int .i64 q3)).set 4 (.slice A1 xs.length c1)).set 5 (.slice A2 ms.length c2)
  have hSf := ((((((hS.far (p := ⟨w.heap.size, 0, none⟩) hgl (.int .i64 q0)).far (p := ⟨w.heap.size, 1, none⟩) hgl (.int .i64 q1)).far (p := ⟨w.heap.size, 2, none⟩) hgl (.int .i64 q2)).far (p := ⟨w.heap.size, 3, none⟩) hgl (.int .i64 q3)).far (p := ⟨w.heap.size, 4, none⟩) hgl (.slice A1 xs.length c1)).far (p := ⟨w.heap.size, 5, none⟩) hgl (.slice A2 ms.length c2))
  have hMf := ((((((hM.far (p := ⟨w.heap.size, 0, none⟩) hgl (.int .i64 q0)).far (p := ⟨w.heap.size, 1, none⟩) hgl (.int .i64 q1)).far (p := ⟨w.heap.size, 2, none⟩) hgl (.int .i64 q2)).far (p := ⟨w.heap.size, 3, none⟩) hgl (.int .i64 q3)).far (p := ⟨w.heap.size, 4, none⟩) hgl (.slice A1 xs.length c1)).far (p := ⟨w.heap.size, 5, none⟩) hgl (.slice A2 ms.length c2))
  have hnf := ((((((hx2.setCell (p := ⟨w.heap.size, 0, none⟩) (Nat.le_refl _) (.int .i64 q0)).setCell (p := ⟨w.heap.size, 1, none⟩) (Nat.le_refl _) (.int .i64 q1)).setCell (p := ⟨w.heap.size, 2, none⟩) (Nat.le_refl _) (.int .i64 q2)).setCell (p := ⟨w.heap.size, 3, none⟩) (Nat.le_refl _) (.int .i64 q3)).setCell (p := ⟨w.heap.size, 4, none⟩) (Nat.le_refl _) (.slice A1 xs.length c1)).setCell (p := ⟨w.heap.size, 5, none⟩) (Nat.le_refl _) (.slice A2 ms.length c2))
  generalize ((((((w2.setCell ⟨w.heap.size, 0, none⟩ (.int .i64 q0)).setCell ⟨w.heap.size, 1, none⟩ (.int .i64 q1)).setCell ⟨w.heap.size, 2, none⟩ (.int .i64 q2)).setCell ⟨w.heap.size, 3, none⟩ (.int .i64 q3)).setCell ⟨w.heap.size, 4, none⟩ (.slice A1 xs.length c1)).setCell ⟨w.heap.size, 5, none⟩ (.slice A2 ms.length c2)) = Wf at *
  have g0' := qq.cell 0
  have g1' := qq.cell 1
  have g2' := qq.cell 2
  have g3' := qq.cell 3
  have g4' := qq.cell 4
  have g5' := qq.cell 5
  simp at g0' g1' g2' g3' g4' g5'
  exact bodyPost_ret (v := .agg #[.int .i64 q0, .int .i64 q1, .int .i64 q2, .int .i64 q3, .slice A1 xs.length c1, .slice A2 ms.length c2]) (by simp [results, Try.results21, go_sem, g0', g1', g2', g3', g4', g5']) rfl ⟨q0, q1, q2, q3, A1, c1, xs, A2, c2, ms, rfl, HOK.out, hl5, HC.out, HAM.out, hSf.low (by omega), hMf.low (by omega), hnf⟩
set_option maxHeartbeats 8000000 in
theorem lawFree (A : Option Addr) (n c : Nat) (ys : List Nat) (w : World) (h : U8s w w.heap.size A n ys) (hn9 : n ≤ 2 ^ 63 - 1) :
    Calls Try.prog 4 #[.slice A n c] w fun e w' => e = .returned (.bool true) ∧ Nx w w' := by
  by_cases hn : n ≤ 1048576
  case neg =>
    have hd : decide (1048576 < (n : Int)) = true := by simp; omega
    go_enter Try.func4, Try.ntmps4
    go_wp2
    go_ret
    exact ⟨rfl, Nx.refl _⟩
  have hd : decide (1048576 < (n : Int)) = false := by simp; omega
  go_enter Try.func4, Try.ntmps4
  go_wp2_with fail
  clear hd
  refine (superDrawn_c A n c ys _ h hn).mono ?_
  rintro e w1 ⟨q0, q1, q2, q3, A1, c1, xs, A2, c2, ms, rfl, hok, hl5, hc1, ham, hS1, hM1, hX⟩
  have HOK := Lib.hid hok
  have HC := Lib.hid hc1
  have HAM := Lib.hid ham
  have hml : ms.length ≤ 1048576 := by
    have h6 : msB ms = true := by unfold superB at hok; simp only [Bool.and_eq_true] at hok; exact hok.2
    have := (msB_yes h6).1
    omega
  clear hok hc1 ham h
  go_wp2_with fail
  have bX := Box.new w1 45 #[.int .i64 q0, .int .i64 q1, .int .i64 q2, .int .i64 q3, .slice A1 xs.length c1, .slice A2 ms.length c2]
  have hxa := (Nx.refl w1).alloc (.cells #[.int .i64 q0, .int .i64 q1, .int .i64 q2, .int .i64 q3, .slice A1 xs.length c1, .slice A2 ms.length c2] 45)
  have zX : w1.heap.size < (w1.alloc (.cells #[.int .i64 q0, .int .i64 q1, .int .i64 q2, .int .i64 q3, .slice A1 xs.length c1, .slice A2 ms.length c2] 45)).heap.size := by simp
  have hwX : w.heap.size ≤ w1.heap.size := hX.size
  replace hS1 := hS1.nx hxa
  replace hM1 := hM1.nx hxa
  replace hX := hX.trans hxa
  clear hxa
  generalize w1.alloc (.cells #[.int .i64 q0, .int .i64 q1, .int .i64 q2, .int .i64 q3, .slice A1 xs.length c1, .slice A2 ms.length c2] 45) = W at *
  generalize w1.heap.size = X at *
  refine (implFree_c q0 q1 q2 q3 A1 A2 c1 c2 _ xs ms _ hS1.row hM1.row (Nat.le_refl _) (by omega) hml HC.out HAM.out).mono ?_
  intro e w2 hR
  rw [HOK.out] at hR
  obtain ⟨A8, c8, rfl, _, hS8, hx2⟩ := hR
  replace bX := bX.nx hx2
  replace hS1 := hS1.nx hx2
  replace hM1 := hM1.nx hx2
  replace hX := hX.trans hx2
  have hz2 := hx2.size
  clear hx2
  obtain ⟨F, HFF⟩ : ∃ F, Hid (freeTo xs 54 = F) := ⟨_, rfl⟩
  rw [show frL true xs = F by unfold frL; rw [if_pos rfl]; exact HFF.out] at hS8 ⊢
  rw [show frC true = 0 from rfl]
  have hFl : F.length ≤ 54 := by rw [← HFF.out]; exact freeTo_len _ _
  obtain ⟨d0, d1, d2, d3, d4, d5⟩ := bX.d6
  go_wp2_with fail
  refine (specFree_c q0 q1 q2 q3 A1 A2 c1 c2 _ xs ms _ hS1.row hM1.row (Nat.le_refl _) (by omega) hml HC.out HAM.out).mono ?_
  intro e w3 hR
  rw [HOK.out] at hR
  obtain ⟨A5, c5, rfl, _, hS5, hx3⟩ := hR
  rw [show frL true xs = F by unfold frL; rw [if_pos rfl]; exact HFF.out] at hS5 ⊢
  rw [show frC true = 0 from rfl]
  replace bX := bX.nx hx3
  replace hS1 := hS1.nx hx3
  replace hM1 := hM1.nx hx3
  replace hS8 := hS8.nx hx3
  replace hX := hX.trans hx3
  clear hx3 d0 d1 d2 d3 d4 d5
  go_wp2_with fail
  refine (sameIntsU_c A8 A5 c8 c5 _ F _ hS8.row hS5.row (Nat.le_refl _) (by omega)).mono ?_
  rintro e w4 ⟨rfl, hx4⟩
  replace bX := bX.nx hx4
  replace hS1 := hS1.nx hx4
  replace hM1 := hM1.nx hx4
  replace hS8 := hS8.nx hx4
  replace hX := hX.trans hx4
  clear hx4 hS5
  obtain ⟨d0, d1, d2, d3, d4, d5⟩ := bX.d6
  go_wp2_with fail
  refine (implSuperOK_c q0 q1 q2 q3 A1 A2 c1 c2 _ xs ms _ hS1.row hM1.row (Nat.le_refl _) (by omega) hml HC.out HAM.out).mono ?_
  rintro e w5 ⟨rfl, hx5⟩
  rw [HOK.out]
  replace bX := bX.nx hx5
  replace hS1 := hS1.nx hx5
  replace hM1 := hM1.nx hx5
  replace hS8 := hS8.nx hx5
  replace hX := hX.trans hx5
  clear hx5 d0 d1 d2 d3 d4 d5
  go_wp2
  go_loopw [8] (fun i wr => ∃ k : Nat, k ≤ 54 ∧ i = .int .i64 ((k : Int) + 10) ∧ Nx w5 wr) (fun i _ => 64 - (intOf i).toNat)
  case atStart => exact ⟨0, by omega, rfl, Nx.refl _⟩
  case round =>
    obtain ⟨k, hk, rfl, hnx⟩ := hrel
    by_cases hlt : k < 54
    · obtain ⟨q, Hq⟩ : ∃ q, Hid ((k : Int) + 10 = q) := ⟨_, rfl⟩
      have hdq : decide (q < 64) = true := by have := Hq.out; simp; omega
      have hq0 : 0 ≤ q := by have := Hq.out; omega
      have hq1 : q < 64 := by have := Hq.out; omega
      rw [Hq.out]
      have hxd : Nx w5 wr.drew := hnx.drew
      obtain ⟨_, _, _, _, d4, _⟩ := (bX.nx hxd).d6
      have hfh : hasB F F.length q = !hasB xs xs.length q := by rw [← HFF.out, ← Hq.out]; exact free_has hlt
      cases ht : hasB xs xs.length q with
      | true =>
        rw [ht] at hfh
        have HT := Lib.hid ht
        have HF := Lib.hid hfh
        clear ht hfh
        go_wp2_with fail
        refine wp_region_plan (.t 0 (.t 1 (.t 3 (.t 4 (.t 5 (.c 2 (.c 6 (.t 7 .e)))))))) (fun w' => w'.cell? ⟨X, 4, none⟩ = some (.slice A1 xs.length c1)) (by kernel_rfl) (by kernel_rfl) rfl (by kernel_rfl) (fun _ _ d _ _ h => by cases d <;> exact h) (by exact d4) ?_
        simp only [psOf, List.getD_cons_zero, List.getD_cons_succ]
        repeat (first | (refine HP.take (v := ?_) (by rfl) ?_ ?_; rotate_left; (· (intro w hSw; (try dsimp only at hSw); go_simp; try with_reducible rfl)); (try simp only [Act.put, List.setIfInBounds_toArray, List.set_cons_zero, List.set_cons_succ])) | (refine HP.skip (by rfl) ?_; (try simp only [Act.put, List.setIfInBounds_toArray, List.set_cons_zero, List.set_cons_succ])))
        refine HP.call ?_
        refine CallStep.mk (by rfl) (fun K hK => ?_)
        go_simp
        refine (within_c A8 (F).length c8 _ (F) q _ ((hS8.nx hxd).row) (Nat.le_refl _) (by omega)).mono ?_; rintro e w' ⟨rfl, rfl⟩; rw [HF.out]
        go_wp2_with fail
        refine hK.out _ _ (by exact d4) ?_
        clear hK K
        try simp only [Act.put, List.setIfInBounds_toArray, List.set_cons_zero, List.set_cons_succ]
        refine HP.call ?_
        refine CallStep.mk (by rfl) (fun K hK => ?_)
        go_simp
        refine (within_c A1 (xs).length c1 _ (xs) q _ ((hS1.nx hxd).row) (Nat.le_refl _) (by omega)).mono ?_; rintro e w' ⟨rfl, rfl⟩; rw [HT.out]
        go_wp2_with fail
        refine hK.out _ _ (by exact d4) ?_
        clear hK K
        try simp only [Act.put, List.setIfInBounds_toArray, List.set_cons_zero, List.set_cons_succ]
        repeat (first | (refine HP.take (v := ?_) (by rfl) ?_ ?_; rotate_left; (· (intro w hSw; (try dsimp only at hSw); go_simp; try with_reducible rfl)); (try simp only [Act.put, List.setIfInBounds_toArray, List.set_cons_zero, List.set_cons_succ])) | (refine HP.skip (by rfl) ?_; (try simp only [Act.put, List.setIfInBounds_toArray, List.set_cons_zero, List.set_cons_succ])))
        refine HP.done ?_
        go_wp2
        go_roundw
        case rel => exact ⟨k + 1, by omega, by have := Hq.out; go_num, hxd⟩
        case measure => have := Hq.out; simp [intOf]; omega
      | false =>
        rw [ht] at hfh
        have HT := Lib.hid ht
        have HF := Lib.hid hfh
        clear ht hfh
        go_wp2_with fail
        refine wp_region_plan (.t 0 (.t 1 (.t 3 (.t 4 (.t 5 (.c 2 (.c 6 (.t 7 .e)))))))) (fun w' => w'.cell? ⟨X, 4, none⟩ = some (.slice A1 xs.length c1)) (by kernel_rfl) (by kernel_rfl) rfl (by kernel_rfl) (fun _ _ d _ _ h => by cases d <;> exact h) (by exact d4) ?_
        simp only [psOf, List.getD_cons_zero, List.getD_cons_succ]
        repeat (first | (refine HP.take (v := ?_) (by rfl) ?_ ?_; rotate_left; (· (intro w hSw; (try dsimp only at hSw); go_simp; try with_reducible rfl)); (try simp only [Act.put, List.setIfInBounds_toArray, List.set_cons_zero, List.set_cons_succ])) | (refine HP.skip (by rfl) ?_; (try simp only [Act.put, List.setIfInBounds_toArray, List.set_cons_zero, List.set_cons_succ])))
        refine HP.call ?_
        refine CallStep.mk (by rfl) (fun K hK => ?_)
        go_simp
        refine (within_c A8 (F).length c8 _ (F) q _ ((hS8.nx hxd).row) (Nat.le_refl _) (by omega)).mono ?_; rintro e w' ⟨rfl, rfl⟩; rw [HF.out]
        go_wp2_with fail
        refine hK.out _ _ (by exact d4) ?_
        clear hK K
        try simp only [Act.put, List.setIfInBounds_toArray, List.set_cons_zero, List.set_cons_succ]
        refine HP.call ?_
        refine CallStep.mk (by rfl) (fun K hK => ?_)
        go_simp
        refine (within_c A1 (xs).length c1 _ (xs) q _ ((hS1.nx hxd).row) (Nat.le_refl _) (by omega)).mono ?_; rintro e w' ⟨rfl, rfl⟩; rw [HT.out]
        go_wp2_with fail
        refine hK.out _ _ (by exact d4) ?_
        clear hK K
        try simp only [Act.put, List.setIfInBounds_toArray, List.set_cons_zero, List.set_cons_succ]
        repeat (first | (refine HP.take (v := ?_) (by rfl) ?_ ?_; rotate_left; (· (intro w hSw; (try dsimp only at hSw); go_simp; try with_reducible rfl)); (try simp only [Act.put, List.setIfInBounds_toArray, List.set_cons_zero, List.set_cons_succ])) | (refine HP.skip (by rfl) ?_; (try simp only [Act.put, List.setIfInBounds_toArray, List.set_cons_zero, List.set_cons_succ])))
        refine HP.done ?_
        go_wp2
        go_roundw
        case rel => exact ⟨k + 1, by omega, by have := Hq.out; go_num, hxd⟩
        case measure => have := Hq.out; simp [intOf]; omega
    obtain rfl : k = 54 := by omega
    have hdl : decide (((54 : Nat) : Int) + 10 < 64) = false := by decide
    obtain ⟨f, fs, hff⟩ := free_some hl5
    rw [HFF.out] at hff
    subst hff
    replace bX := bX.nx hnx
    replace hS1 := hS1.nx hnx
    replace hM1 := hM1.nx hnx
    replace hS8 := hS8.nx hnx
    replace hX := hX.trans hnx
    obtain ⟨g8, rfl, hg8, hO8⟩ := hS8 (by simp)
    have hF0 : 0 < (f :: fs).length := by simp
    obtain ⟨V, hV⟩ : ∃ x, x = wr := ⟨_, rfl⟩
    subst hV
    have hXg : X < g8 := by omega
    have hcl1 : (0 : Int) < ((f :: fs).length : Int) := by simp
    go_wp2_with fail
    refine mergeF (F := (fun gE gD A9 k9 W => RowI W V.heap.size (.slice A9 xs.length k9) xs ∧ Box W gD 3 #[.int .i64 f, .int .i64 f] ∧ Nx V W)) (G := ?_) (fun key => ?_) ?_
    rotate_left
    · have hN : Nx V V.drew := (Nx.refl V).drew
      have hd0 : V.drew.cell? ⟨g8, 0, none⟩ = some (.int .i64 f) := hO8.cell (i := 0) hF0
      refine wp_region_plan (.t 1 (.t 4 (.t 5 (.t 6 (.t 7 (.t 8 (.t 9 (.d 0 (.b 2 (.b 3 (.c 10 (.c 11 (.t 12 (.c 13 .e)))) 10 (.c 3 (.c 11 (.t 12 (.c 13 .e))))) 10 (.c 2 (.c 3 (.c 11 (.t 12 (.c 13 .e)))))) 2 (.b 0 (.b 3 (.c 10 (.c 11 (.t 12 (.c 13 .e)))) 10 (.c 3 (.c 11 (.t 12 (.c 13 .e))))) 10 (.c 0 (.c 3 (.c 11 (.t 12 (.c 13 .e)))))) 10 (.b 0 (.c 2 (.c 3 (.c 11 (.t 12 (.c 13 .e))))) 2 (.c 0 (.c 3 (.c 11 (.t 12 (.c 13 .e)))))))))))))) (fun w' => w'.cell? ⟨g8, 0, none⟩ = some (.int .i64 f)) (by kernel_rfl) (by kernel_rfl) rfl (by kernel_rfl) (fun _ _ d _ _ h => by cases d <;> exact h) (by exact hd0) ?_
      simp only [psOf, List.getD_cons_zero, List.getD_cons_succ]
      change HP _ _ _ _ _ _ V.drew
      generalize V.drew = D0 at hN hd0 ⊢
      repeat (first | (refine HP.take (v := ?_) (by rfl) ?_ ?_; rotate_left; (· (intro w hSw; (try dsimp only at hSw); go_simp; try with_reducible rfl)); (try simp only [Act.put, List.setIfInBounds_toArray, List.set_cons_zero, List.set_cons_succ])) | (refine HP.skip (by rfl) ?_; (try simp only [Act.put, List.setIfInBounds_toArray, List.set_cons_zero, List.set_cons_succ])))
      refine HP.three ?_ ?_ ?_
      · have hE := RowI.new D0 (B := V.heap.size) hN.size
        have hxE := (Nx.refl D0).alloc (.cells #[] 3)
        replace hN := hN.trans hxE
        refine CallStep.mk (by rfl) (fun K hK => ?_)
        go_simp
        refine hK.out _ _ (by exact ((hO8.nx hN).cell (i := 0) hF0)) ?_
        clear hK K
        try simp only [Act.put, List.setIfInBounds_toArray, List.set_cons_zero, List.set_cons_succ]
        change HP _ _ _ _ _ _ (D0.alloc (.cells #[] 3))
        generalize D0.alloc (.cells #[] 3) = w1_ at *
        generalize D0.heap.size = gE at *
        clear hxE
        refine HP.both ?_ ?_
        · obtain ⟨_, _, _, _, l2, _⟩ := (bX.nx hN).d6
          refine CallStep.mk (by rfl) (fun K hK => ?_)
          go_simp
          refine hK.out _ _ (by exact ((hO8.nx hN).cell (i := 0) hF0)) ?_
          clear hK K
          try simp only [Act.put, List.setIfInBounds_toArray, List.set_cons_zero, List.set_cons_succ]
          refine HP.both ?_ ?_
          · refine CallStep.mk (by rfl) (fun K hK => ?_)
            refine wp_addAllI _ _ rfl V.heap.size gE A1 c1 xs rfl rfl hE (hS1.nx hN).row (by omega) hN.size ?_
            intro A9 k9 w3_ hR hgr hoth
            replace hN := hgr.nx _ hN (Nat.le_refl _)
            refine hK.out _ _ (by exact ((hO8.nx hN).cell (i := 0) hF0)) ?_
            clear hK K
            try simp only [Act.put, List.setIfInBounds_toArray, List.set_cons_zero, List.set_cons_succ]
            clear hE hgr hoth
            refine HP.call ?_
            have bD := Box.new w3_ 3 #[.int .i64 f, .int .i64 f]
            have hxD := (Nx.refl w3_).alloc (.cells #[.int .i64 f, .int .i64 f] 3)
            replace hR := hR.nx hxD
            replace hN := hN.trans hxD
            refine CallStep.mk (by rfl) (fun K hK => ?_)
            go_simp
            refine hK.out _ _ (by exact ((hO8.nx hN).cell (i := 0) hF0)) ?_
            clear hK K
            try simp only [Act.put, List.setIfInBounds_toArray, List.set_cons_zero, List.set_cons_succ]
            change HP _ _ _ _ _ _ (w3_.alloc (.cells #[.int .i64 f, .int .i64 f] 3))
            generalize w3_.alloc (.cells #[.int .i64 f, .int .i64 f] 3) = w4_ at *
            generalize w3_.heap.size = gD at *
            clear hxD
            exact key gE gD A9 k9 w4_ ⟨hR, bD, hN⟩
          · have bD := Box.new w1_ 3 #[.int .i64 f, .int .i64 f]
            have hxD := (Nx.refl w1_).alloc (.cells #[.int .i64 f, .int .i64 f] 3)
            have hne : w1_.heap.size ≠ gE := by have := (World.ownsRow.lt hE gE rfl).2; omega
            replace hE := hE.nx hxD
            replace hN := hN.trans hxD
            refine CallStep.mk (by rfl) (fun K hK => ?_)
            go_simp
            refine hK.out _ _ (by exact ((hO8.nx hN).cell (i := 0) hF0)) ?_
            clear hK K
            try simp only [Act.put, List.setIfInBounds_toArray, List.set_cons_zero, List.set_cons_succ]
            change HP _ _ _ _ _ _ (w1_.alloc (.cells #[.int .i64 f, .int .i64 f] 3))
            generalize w1_.alloc (.cells #[.int .i64 f, .int .i64 f] 3) = w5_ at *
            generalize w1_.heap.size = gD at *
            clear hxD
            refine HP.call ?_
            refine CallStep.mk (by rfl) (fun K hK => ?_)
            refine wp_addAllI _ _ rfl V.heap.size gE A1 c1 xs rfl rfl hE (hS1.nx hN).row (by omega) hN.size ?_
            intro A9 k9 w6_ hR hgr hoth
            replace bD : Box w6_ gD 3 #[.int .i64 f, .int .i64 f] := (hoth gD bD.lt hne).trans bD
            replace hN := hgr.nx _ hN (Nat.le_refl _)
            refine hK.out _ _ (by exact ((hO8.nx hN).cell (i := 0) hF0)) ?_
            clear hK K
            try simp only [Act.put, List.setIfInBounds_toArray, List.set_cons_zero, List.set_cons_succ]
            clear hE hgr hoth
            exact key gE gD A9 k9 w6_ ⟨hR, bD, hN⟩
        · have bD := Box.new w1_ 3 #[.int .i64 f, .int .i64 f]
          have hxD := (Nx.refl w1_).alloc (.cells #[.int .i64 f, .int .i64 f] 3)
          have hne : w1_.heap.size ≠ gE := by have := (World.ownsRow.lt hE gE rfl).2; omega
          replace hE := hE.nx hxD
          replace hN := hN.trans hxD
          refine CallStep.mk (by rfl) (fun K hK => ?_)
          go_simp
          refine hK.out _ _ (by exact ((hO8.nx hN).cell (i := 0) hF0)) ?_
          clear hK K
          try simp only [Act.put, List.setIfInBounds_toArray, List.set_cons_zero, List.set_cons_succ]
          change HP _ _ _ _ _ _ (w1_.alloc (.cells #[.int .i64 f, .int .i64 f] 3))
          generalize w1_.alloc (.cells #[.int .i64 f, .int .i64 f] 3) = w7_ at *
          generalize w1_.heap.size = gD at *
          clear hxD
          refine HP.call ?_
          obtain ⟨_, _, _, _, l8, _⟩ := (bX.nx hN).d6
          refine CallStep.mk (by rfl) (fun K hK => ?_)
          go_simp
          refine hK.out _ _ (by exact ((hO8.nx hN).cell (i := 0) hF0)) ?_
          clear hK K
          try simp only [Act.put, List.setIfInBounds_toArray, List.set_cons_zero, List.set_cons_succ]
          refine HP.call ?_
          refine CallStep.mk (by rfl) (fun K hK => ?_)
          refine wp_addAllI _ _ rfl V.heap.size gE A1 c1 xs rfl rfl hE (hS1.nx hN).row (by omega) hN.size ?_
          intro A9 k9 w9_ hR hgr hoth
          replace bD : Box w9_ gD 3 #[.int .i64 f, .int .i64 f] := (hoth gD bD.lt hne).trans bD
          replace hN := hgr.nx _ hN (Nat.le_refl _)
          refine hK.out _ _ (by exact ((hO8.nx hN).cell (i := 0) hF0)) ?_
          clear hK K
          try simp only [Act.put, List.setIfInBounds_toArray, List.set_cons_zero, List.set_cons_succ]
          clear hE hgr hoth
          exact key gE gD A9 k9 w9_ ⟨hR, bD, hN⟩
      · obtain ⟨_, _, _, _, l10, _⟩ := (bX.nx hN).d6
        refine CallStep.mk (by rfl) (fun K hK => ?_)
        go_simp
        refine hK.out _ _ (by exact ((hO8.nx hN).cell (i := 0) hF0)) ?_
        clear hK K
        try simp only [Act.put, List.setIfInBounds_toArray, List.set_cons_zero, List.set_cons_succ]
        refine HP.both ?_ ?_
        · have hE := RowI.new D0 (B := V.heap.size) hN.size
          have hxE := (Nx.refl D0).alloc (.cells #[] 3)
          replace hN := hN.trans hxE
          refine CallStep.mk (by rfl) (fun K hK => ?_)
          go_simp
          refine hK.out _ _ (by exact ((hO8.nx hN).cell (i := 0) hF0)) ?_
          clear hK K
          try simp only [Act.put, List.setIfInBounds_toArray, List.set_cons_zero, List.set_cons_succ]
          change HP _ _ _ _ _ _ (D0.alloc (.cells #[] 3))
          generalize D0.alloc (.cells #[] 3) = w11_ at *
          generalize D0.heap.size = gE at *
          clear hxE
          refine HP.both ?_ ?_
          · refine CallStep.mk (by rfl) (fun K hK => ?_)
            refine wp_addAllI _ _ rfl V.heap.size gE A1 c1 xs rfl rfl hE (hS1.nx hN).row (by omega) hN.size ?_
            intro A9 k9 w12_ hR hgr hoth
            replace hN := hgr.nx _ hN (Nat.le_refl _)
            refine hK.out _ _ (by exact ((hO8.nx hN).cell (i := 0) hF0)) ?_
            clear hK K
            try simp only [Act.put, List.setIfInBounds_toArray, List.set_cons_zero, List.set_cons_succ]
            clear hE hgr hoth
            refine HP.call ?_
            have bD := Box.new w12_ 3 #[.int .i64 f, .int .i64 f]
            have hxD := (Nx.refl w12_).alloc (.cells #[.int .i64 f, .int .i64 f] 3)
            replace hR := hR.nx hxD
            replace hN := hN.trans hxD
            refine CallStep.mk (by rfl) (fun K hK => ?_)
            go_simp
            refine hK.out _ _ (by exact ((hO8.nx hN).cell (i := 0) hF0)) ?_
            clear hK K
            try simp only [Act.put, List.setIfInBounds_toArray, List.set_cons_zero, List.set_cons_succ]
            change HP _ _ _ _ _ _ (w12_.alloc (.cells #[.int .i64 f, .int .i64 f] 3))
            generalize w12_.alloc (.cells #[.int .i64 f, .int .i64 f] 3) = w13_ at *
            generalize w12_.heap.size = gD at *
            clear hxD
            exact key gE gD A9 k9 w13_ ⟨hR, bD, hN⟩
          · have bD := Box.new w11_ 3 #[.int .i64 f, .int .i64 f]
            have hxD := (Nx.refl w11_).alloc (.cells #[.int .i64 f, .int .i64 f] 3)
            have hne : w11_.heap.size ≠ gE := by have := (World.ownsRow.lt hE gE rfl).2; omega
            replace hE := hE.nx hxD
            replace hN := hN.trans hxD
            refine CallStep.mk (by rfl) (fun K hK => ?_)
            go_simp
            refine hK.out _ _ (by exact ((hO8.nx hN).cell (i := 0) hF0)) ?_
            clear hK K
            try simp only [Act.put, List.setIfInBounds_toArray, List.set_cons_zero, List.set_cons_succ]
            change HP _ _ _ _ _ _ (w11_.alloc (.cells #[.int .i64 f, .int .i64 f] 3))
            generalize w11_.alloc (.cells #[.int .i64 f, .int .i64 f] 3) = w14_ at *
            generalize w11_.heap.size = gD at *
            clear hxD
            refine HP.call ?_
            refine CallStep.mk (by rfl) (fun K hK => ?_)
            refine wp_addAllI _ _ rfl V.heap.size gE A1 c1 xs rfl rfl hE (hS1.nx hN).row (by omega) hN.size ?_
            intro A9 k9 w15_ hR hgr hoth
            replace bD : Box w15_ gD 3 #[.int .i64 f, .int .i64 f] := (hoth gD bD.lt hne).trans bD
            replace hN := hgr.nx _ hN (Nat.le_refl _)
            refine hK.out _ _ (by exact ((hO8.nx hN).cell (i := 0) hF0)) ?_
            clear hK K
            try simp only [Act.put, List.setIfInBounds_toArray, List.set_cons_zero, List.set_cons_succ]
            clear hE hgr hoth
            exact key gE gD A9 k9 w15_ ⟨hR, bD, hN⟩
        · have bD := Box.new D0 3 #[.int .i64 f, .int .i64 f]
          have hxD := (Nx.refl D0).alloc (.cells #[.int .i64 f, .int .i64 f] 3)
          replace hN := hN.trans hxD
          refine CallStep.mk (by rfl) (fun K hK => ?_)
          go_simp
          refine hK.out _ _ (by exact ((hO8.nx hN).cell (i := 0) hF0)) ?_
          clear hK K
          try simp only [Act.put, List.setIfInBounds_toArray, List.set_cons_zero, List.set_cons_succ]
          change HP _ _ _ _ _ _ (D0.alloc (.cells #[.int .i64 f, .int .i64 f] 3))
          generalize D0.alloc (.cells #[.int .i64 f, .int .i64 f] 3) = w16_ at *
          generalize D0.heap.size = gD at *
          clear hxD
          refine HP.call ?_
          have hE := RowI.new w16_ (B := V.heap.size) hN.size
          have hxE := (Nx.refl w16_).alloc (.cells #[] 3)
          have hne : gD ≠ w16_.heap.size := by have := bD.lt; omega
          replace bD := bD.nx hxE
          replace hN := hN.trans hxE
          refine CallStep.mk (by rfl) (fun K hK => ?_)
          go_simp
          refine hK.out _ _ (by exact ((hO8.nx hN).cell (i := 0) hF0)) ?_
          clear hK K
          try simp only [Act.put, List.setIfInBounds_toArray, List.set_cons_zero, List.set_cons_succ]
          change HP _ _ _ _ _ _ (w16_.alloc (.cells #[] 3))
          generalize w16_.alloc (.cells #[] 3) = w17_ at *
          generalize w16_.heap.size = gE at *
          clear hxE
          refine HP.call ?_
          refine CallStep.mk (by rfl) (fun K hK => ?_)
          refine wp_addAllI _ _ rfl V.heap.size gE A1 c1 xs rfl rfl hE (hS1.nx hN).row (by omega) hN.size ?_
          intro A9 k9 w18_ hR hgr hoth
          replace bD : Box w18_ gD 3 #[.int .i64 f, .int .i64 f] := (hoth gD bD.lt hne).trans bD
          replace hN := hgr.nx _ hN (Nat.le_refl _)
          refine hK.out _ _ (by exact ((hO8.nx hN).cell (i := 0) hF0)) ?_
          clear hK K
          try simp only [Act.put, List.setIfInBounds_toArray, List.set_cons_zero, List.set_cons_succ]
          clear hE hgr hoth
          exact key gE gD A9 k9 w18_ ⟨hR, bD, hN⟩
      · have bD := Box.new D0 3 #[.int .i64 f, .int .i64 f]
        have hxD := (Nx.refl D0).alloc (.cells #[.int .i64 f, .int .i64 f] 3)
        replace hN := hN.trans hxD
        refine CallStep.mk (by rfl) (fun K hK => ?_)
        go_simp
        refine hK.out _ _ (by exact ((hO8.nx hN).cell (i := 0) hF0)) ?_
        clear hK K
        try simp only [Act.put, List.setIfInBounds_toArray, List.set_cons_zero, List.set_cons_succ]
        change HP _ _ _ _ _ _ (D0.alloc (.cells #[.int .i64 f, .int .i64 f] 3))
        generalize D0.alloc (.cells #[.int .i64 f, .int .i64 f] 3) = w19_ at *
        generalize D0.heap.size = gD at *
        clear hxD
        refine HP.both ?_ ?_
        · have hE := RowI.new w19_ (B := V.heap.size) hN.size
          have hxE := (Nx.refl w19_).alloc (.cells #[] 3)
          have hne : gD ≠ w19_.heap.size := by have := bD.lt; omega
          replace bD := bD.nx hxE
          replace hN := hN.trans hxE
          refine CallStep.mk (by rfl) (fun K hK => ?_)
          go_simp
          refine hK.out _ _ (by exact ((hO8.nx hN).cell (i := 0) hF0)) ?_
          clear hK K
          try simp only [Act.put, List.setIfInBounds_toArray, List.set_cons_zero, List.set_cons_succ]
          change HP _ _ _ _ _ _ (w19_.alloc (.cells #[] 3))
          generalize w19_.alloc (.cells #[] 3) = w20_ at *
          generalize w19_.heap.size = gE at *
          clear hxE
          refine HP.call ?_
          obtain ⟨_, _, _, _, l21, _⟩ := (bX.nx hN).d6
          refine CallStep.mk (by rfl) (fun K hK => ?_)
          go_simp
          refine hK.out _ _ (by exact ((hO8.nx hN).cell (i := 0) hF0)) ?_
          clear hK K
          try simp only [Act.put, List.setIfInBounds_toArray, List.set_cons_zero, List.set_cons_succ]
          refine HP.call ?_
          refine CallStep.mk (by rfl) (fun K hK => ?_)
          refine wp_addAllI _ _ rfl V.heap.size gE A1 c1 xs rfl rfl hE (hS1.nx hN).row (by omega) hN.size ?_
          intro A9 k9 w22_ hR hgr hoth
          replace bD : Box w22_ gD 3 #[.int .i64 f, .int .i64 f] := (hoth gD bD.lt hne).trans bD
          replace hN := hgr.nx _ hN (Nat.le_refl _)
          refine hK.out _ _ (by exact ((hO8.nx hN).cell (i := 0) hF0)) ?_
          clear hK K
          try simp only [Act.put, List.setIfInBounds_toArray, List.set_cons_zero, List.set_cons_succ]
          clear hE hgr hoth
          exact key gE gD A9 k9 w22_ ⟨hR, bD, hN⟩
        · obtain ⟨_, _, _, _, l23, _⟩ := (bX.nx hN).d6
          refine CallStep.mk (by rfl) (fun K hK => ?_)
          go_simp
          refine hK.out _ _ (by exact ((hO8.nx hN).cell (i := 0) hF0)) ?_
          clear hK K
          try simp only [Act.put, List.setIfInBounds_toArray, List.set_cons_zero, List.set_cons_succ]
          refine HP.call ?_
          have hE := RowI.new w19_ (B := V.heap.size) hN.size
          have hxE := (Nx.refl w19_).alloc (.cells #[] 3)
          have hne : gD ≠ w19_.heap.size := by have := bD.lt; omega
          replace bD := bD.nx hxE
          replace hN := hN.trans hxE
          refine CallStep.mk (by rfl) (fun K hK => ?_)
          go_simp
          refine hK.out _ _ (by exact ((hO8.nx hN).cell (i := 0) hF0)) ?_
          clear hK K
          try simp only [Act.put, List.setIfInBounds_toArray, List.set_cons_zero, List.set_cons_succ]
          change HP _ _ _ _ _ _ (w19_.alloc (.cells #[] 3))
          generalize w19_.alloc (.cells #[] 3) = w24_ at *
          generalize w19_.heap.size = gE at *
          clear hxE
          refine HP.call ?_
          refine CallStep.mk (by rfl) (fun K hK => ?_)
          refine wp_addAllI _ _ rfl V.heap.size gE A1 c1 xs rfl rfl hE (hS1.nx hN).row (by omega) hN.size ?_
          intro A9 k9 w25_ hR hgr hoth
          replace bD : Box w25_ gD 3 #[.int .i64 f, .int .i64 f] := (hoth gD bD.lt hne).trans bD
          replace hN := hgr.nx _ hN (Nat.le_refl _)
          refine hK.out _ _ (by exact ((hO8.nx hN).cell (i := 0) hF0)) ?_
          clear hK K
          try simp only [Act.put, List.setIfInBounds_toArray, List.set_cons_zero, List.set_cons_succ]
          clear hE hgr hoth
          exact key gE gD A9 k9 w25_ ⟨hR, bD, hN⟩
    rintro gE gD A9 k9 W9 ⟨hR, bD, hN⟩
    refine HP.call ?_
    refine CallStep.mk (by rfl) (fun K hK => ?_)
    refine wp_add2I _ _ rfl V.heap.size gD _ xs f f rfl rfl hR bD (by omega) hN.size ?_
    intro A7 c7 w13 hR9 hG9
    replace hN := hG9.nx _ hN (Nat.le_refl _)
    refine hK.out _ _ (by exact ((hO8.nx hN).cell (i := 0) hF0)) ?_
    clear hK K
    try simp only [Act.put, List.setIfInBounds_toArray, List.set_cons_zero, List.set_cons_succ]
    repeat (first | (refine HP.take (v := ?_) (by rfl) ?_ ?_; rotate_left; (· (intro w hSw; (try dsimp only at hSw); go_simp; try with_reducible rfl)); (try simp only [Act.put, List.setIfInBounds_toArray, List.set_cons_zero, List.set_cons_succ])) | (refine HP.skip (by rfl) ?_; (try simp only [Act.put, List.setIfInBounds_toArray, List.set_cons_zero, List.set_cons_succ])))
    have b13 := bX.nx hN
    have hl13 := b13.lt
    obtain ⟨_, _, _, _, y4, _⟩ := b13.d6
    have g4 := b13.frozen 4
    refine HP.call ?_
    refine CallStep.mk (by rfl) (fun K hK => ?_)
    go_simp
    refine hK.out _ _ (by exact ((hO8.nx hN).far (p := ⟨X, 4, none⟩) (by simp; omega) (.slice A7 (xs.length + 2) c7)).cell (i := 0) hF0) ?_
    clear hK K
    try simp only [Act.put, List.setIfInBounds_toArray, List.set_cons_zero, List.set_cons_succ]
    refine HP.done ?_
    have bs13 := b13.set 4 (.slice A7 (xs.length + 2) c7)
    simp only [List.setIfInBounds_toArray, List.set_cons_zero, List.set_cons_succ] at bs13
    have hRf := hR9.far (p := ⟨X, 4, none⟩) b13 (by decide) (.slice A7 (xs.length + 2) c7)
    have hMf := (hM1.nx hN).far_ty (p := ⟨X, 4, none⟩) b13 (by decide) (.slice A7 (xs.length + 2) c7)
    have hXf := (hX.trans hN).setCell (p := ⟨X, 4, none⟩) (by simp; omega) (.slice A7 (xs.length + 2) c7)
    clear y4 g4
    change Exit.then _ _ _ _ (w13.setCell ⟨X, 4, none⟩ (.slice A7 (xs.length + 2) c7))
    generalize w13.setCell ⟨X, 4, none⟩ (.slice A7 (xs.length + 2) c7) = Wz at *
    obtain ⟨A7', c7', he7, hc7, hS7⟩ := hRf.slc
    have e7 : (xs ++ [f, f]).length = xs.length + 2 := by simp
    rw [e7] at he7
    obtain ⟨rfl, rfl⟩ : A7 = A7' ∧ c7 = c7' := by simpa using he7
    clear he7
    obtain ⟨d0, d1, d2, d3, d4, d5⟩ := bs13.d6
    have HNO := Lib.hid (show superB q0 q1 q2 q3 (xs ++ [f, f]) ms = false from superB_no (by rw [tb_twice]; simp))
    have HC7 := Lib.hid hc7
    clear hc7
    go_wp2_with fail
    rw [← e7]
    refine (implSuperOK_c q0 q1 q2 q3 A7 A2 c7 c2 _ (xs ++ [f, f]) ms _ hS7.row hMf.row (Nat.le_refl _) (by rw [e7]; omega) hml HC7.out HAM.out).mono ?_
    rintro e w20 ⟨rfl, hx20⟩
    rw [HNO.out]
    go_wp2
    go_ret
    exact ⟨rfl, hXf.trans hx20⟩
end Go.Proofs.Ytccapcadgjlmkaa
