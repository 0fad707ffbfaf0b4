/-
  Texts of the proof, put together in their order: Lff, Mpc, Cgs, Mrg, Mgi, Mgs.
  Conditions: those of each.
-/
import Derived.Test.YtjefjngheolmkaaMw6
import Derived.Maps.Own
/- The walk of the law FnFree. Conditions: the bytes that come in can be read. -/
namespace Go.Proofs.Ytjefjngheolmkaa
set_option linter.unusedVariables false
set_option maxRecDepth 100000
open Go.RowKit

set_option maxHeartbeats 1000000 in
theorem sameIntsU_c (A A2 : Option Addr) (c c2 B : Nat) (xs : List Int) (w : World) (h : Ins w B A xs) (h2 : Ins w B A2 xs) (hB : B ≤ w.heap.size) (hn : xs.length ≤ 1048576) :
    Calls Try.prog 31 #[.slice A xs.length c, .slice A2 xs.length c2] w fun e w' => e = .returned (.bool true) ∧ Nx w w' := by
  go_enter Try.func31, Try.ntmps31
  go_wp2
  go_loopw [5] (fun i wr => ∃ k : Nat, k ≤ xs.length ∧ i = .int .i64 k ∧ Nx w wr) (fun i _ => xs.length - (intOf i).toNat)
  case atStart => exact ⟨0, Nat.zero_le _, rfl, Nx.refl _⟩
  case round =>
    obtain ⟨k, hk, rfl, hnx⟩ := hrel
    by_cases hlt : k < xs.length
    · obtain ⟨b, off, rfl, hb, hc⟩ := (h.below hnx hB).at_ hlt
      obtain ⟨b2, off2, rfl, hb2, hc2⟩ := (h2.below hnx hB).at_ hlt
      generalize xs.getD k 0 = s at hc hc2
      go_wp2
      go_quiet (fail)
      go_wp2
      go_roundw
      case rel => exact ⟨k + 1, by omega, by go_num, hnx.drewN _⟩
      case measure => simp [intOf]; omega
    · go_wp2
      go_ret
      exact ⟨rfl, hnx⟩
theorem mergeF {G F : Nat → Nat → Option Addr → Nat → World → Prop} {R : Prop} (main : (∀ a b c d W, F a b c d W → G a b c d W) → R) (key : ∀ a b c d W, F a b c d W → G a b c d W) : R := main key
set_option maxHeartbeats 2000000 in
theorem superDrawn_c (A : Option Addr) (n c : Nat) (ys : List Nat) (w : World) (h : U8s w w.heap.size A n ys) (hn : n ≤ 1048576) :
    Calls Try.prog 30 #[.slice A n c] w fun e w' => ∃ (q0 q1 q2 q3 : Int) (A1 : Option Addr) (c1 : Nat) (xs : List Int) (A2 : Option Addr) (c2 : Nat) (ms : List Mrk),
      e = .returned (.agg #[.int .i64 q0, .int .i64 q1, .int .i64 q2, .int .i64 q3, .slice A1 xs.length c1, .slice A2 ms.length c2]) ∧ superB q0 q1 q2 q3 xs ms = true ∧ xs.length ≤ 5 ∧ xs.length ≤ c1 ∧ AllM ms ∧ SlI w' w.heap.size A1 xs ∧ SlM w' w.heap.size A2 ms ∧ Nx w w' := by
  go_enter Try.func30, Try.ntmps30
  go_wp2_with fail
  have b0 := Box.new w 54 #[.int .i64 0, .int .i64 0, .int .i64 0, .int .i64 0, .slice none 0 0, .slice none 0 0]
  have hx0 := (Nx.refl w).alloc (.cells #[.int .i64 0, .int .i64 0, .int .i64 0, .int .i64 0, .slice none 0 0, .slice none 0 0] 54)
  have u0 := h.below hx0 (Nat.le_refl _)
  generalize w.alloc (.cells #[.int .i64 0, .int .i64 0, .int .i64 0, .int .i64 0, .slice none 0 0, .slice none 0 0] 54) = W at *
  have hz := b0.lt
  refine (l00Source_c A n c _ hn).mono ?_
  rintro e w1 ⟨rfl, s1, hnx1⟩
  have u1 := u0.below hnx1 (by omega)
  have hz1 := hnx1.size
  go_wp2_with fail
  refine (super_c W.heap.size A n c w.heap.size 0 ys _ ⟨0, n % 1000, by omega, by omega, s1⟩ u1 (by omega) hn (by omega)).mono ?_
  rintro e w2 ⟨q0, q1, q2, q3, A1, c1, xs, A2, c2, ms, rfl, hok, hl5, hc, ham, hS, hM, _, r2⟩
  have HOK := Lib.hid hok
  have HC := Lib.hid hc
  have HAM := Lib.hid ham
  clear hok hc ham
  have b2 := (b0.nx hnx1).rg r2 (.inl hz)
  have hx2 := Rg.nx_of (hx0.trans hnx1) r2 (by omega)
  have hgl : w.heap.size < w1.heap.size := by omega
  clear u0 u1 b0 hx0 hnx1 r2 s1
  obtain ⟨y0, y1, y2, y3, y4, y5⟩ := b2.d6
  have f0 := b2.frozen 0
  have f1 := b2.frozen 1
  have f2 := b2.frozen 2
  have f3 := b2.frozen 3
  have f4 := b2.frozen 4
  have f5 := b2.frozen 5
  go_wp2
  have qq := ((((((b2).set 0 (.int .i64 q0)).set 1 (.int .i64 q1)).set 2 (.int .i64 q2)).set 3 (.int .i64 q3)).set 4 (.slice A1 xs.length c1)).set 5 (.slice A2 ms.length c2)
  have hSf := ((((((hS.far (p := ⟨w.heap.size, 0, none⟩) hgl (.int .i64 q0)).far (p := ⟨w.heap.size, 1, none⟩) hgl (.int .i64 q1)).far (p := ⟨w.heap.size, 2, none⟩) hgl (.int .i64 q2)).far (p := ⟨w.heap.size, 3, none⟩) hgl (.int .i64 q3)).far (p := ⟨w.heap.size, 4, none⟩) hgl (.slice A1 xs.length c1)).far (p := ⟨w.heap.size, 5, none⟩) hgl (.slice A2 ms.length c2))
  have hMf := ((((((hM.far (p := ⟨w.heap.size, 0, none⟩) hgl (.int .i64 q0)).far (p := ⟨w.heap.size, 1, none⟩) hgl (.int .i64 q1)).far (p := ⟨w.heap.size, 2, none⟩) hgl (.int .i64 q2)).far (p := ⟨w.heap.size, 3, none⟩) hgl (.int .i64 q3)).far (p := ⟨w.heap.size, 4, none⟩) hgl (.slice A1 xs.length c1)).far (p := ⟨w.heap.size, 5, none⟩) hgl (.slice A2 ms.length c2))
  have hnf := ((((((hx2.setCell (p := ⟨w.heap.size, 0, none⟩) (Nat.le_refl _) (.int .i64 q0)).setCell (p := ⟨w.heap.size, 1, none⟩) (Nat.le_refl _) (.int .i64 q1)).setCell (p := ⟨w.heap.size, 2, none⟩) (Nat.le_refl _) (.int .i64 q2)).setCell (p := ⟨w.heap.size, 3, none⟩) (Nat.le_refl _) (.int .i64 q3)).setCell (p := ⟨w.heap.size, 4, none⟩) (Nat.le_refl _) (.slice A1 xs.length c1)).setCell (p := ⟨w.heap.size, 5, none⟩) (Nat.le_refl _) (.slice A2 ms.length c2))
  generalize ((((((w2.setCell ⟨w.heap.size, 0, none⟩ (.int .i64 q0)).setCell ⟨w.heap.size, 1, none⟩ (.int .i64 q1)).setCell ⟨w.heap.size, 2, none⟩ (.int .i64 q2)).setCell ⟨w.heap.size, 3, none⟩ (.int .i64 q3)).setCell ⟨w.heap.size, 4, none⟩ (.slice A1 xs.length c1)).setCell ⟨w.heap.size, 5, none⟩ (.slice A2 ms.length c2)) = Wf at *
  have g0' := qq.cell 0
  have g1' := qq.cell 1
  have g2' := qq.cell 2
  have g3' := qq.cell 3
  have g4' := qq.cell 4
  have g5' := qq.cell 5
  simp at g0' g1' g2' g3' g4' g5'
  exact bodyPost_ret (v := .agg #[.int .i64 q0, .int .i64 q1, .int .i64 q2, .int .i64 q3, .slice A1 xs.length c1, .slice A2 ms.length c2]) (by simp [results, Try.results30, go_sem, g0', g1', g2', g3', g4', g5']) rfl ⟨q0, q1, q2, q3, A1, c1, xs, A2, c2, ms, rfl, HOK.out, hl5, HC.out, HAM.out, hSf.low (by omega), hMf.low (by omega), hnf⟩
set_option maxHeartbeats 8000000 in
theorem lawFree (A : Option Addr) (n c : Nat) (ys : List Nat) (w : World) (h : U8s w w.heap.size A n ys) (hn9 : n ≤ 2 ^ 63 - 1) :
    Calls Try.prog 6 #[.slice A n c] w fun e w' => e = .returned (.bool true) ∧ Nx w w' := by
  by_cases hn : n ≤ 1048576
  case neg =>
    have hd : decide (1048576 < (n : Int)) = true := by simp; omega
    go_enter Try.func6, Try.ntmps6
    go_wp2
    go_ret
    exact ⟨rfl, Nx.refl _⟩
  have hd : decide (1048576 < (n : Int)) = false := by simp; omega
  go_enter Try.func6, Try.ntmps6
  go_wp2_with fail
  clear hd
  refine (superDrawn_c A n c ys _ h hn).mono ?_
  rintro e w1 ⟨q0, q1, q2, q3, A1, c1, xs, A2, c2, ms, rfl, hok, hl5, hc1, ham, hS1, hM1, hX⟩
  have HOK := Lib.hid hok
  have HC := Lib.hid hc1
  have HAM := Lib.hid ham
  have hml : ms.length ≤ 1048576 := by
    have h6 : msB ms = true := by unfold superB at hok; simp only [Bool.and_eq_true] at hok; exact hok.2
    have := (msB_yes h6).1
    omega
  clear hok hc1 ham h
  go_wp2_with fail
  have bX := Box.new w1 54 #[.int .i64 q0, .int .i64 q1, .int .i64 q2, .int .i64 q3, .slice A1 xs.length c1, .slice A2 ms.length c2]
  have hxa := (Nx.refl w1).alloc (.cells #[.int .i64 q0, .int .i64 q1, .int .i64 q2, .int .i64 q3, .slice A1 xs.length c1, .slice A2 ms.length c2] 54)
  have zX : w1.heap.size < (w1.alloc (.cells #[.int .i64 q0, .int .i64 q1, .int .i64 q2, .int .i64 q3, .slice A1 xs.length c1, .slice A2 ms.length c2] 54)).heap.size := by simp
  have hwX : w.heap.size ≤ w1.heap.size := hX.size
  replace hS1 := hS1.nx hxa
  replace hM1 := hM1.nx hxa
  replace hX := hX.trans hxa
  clear hxa
  generalize w1.alloc (.cells #[.int .i64 q0, .int .i64 q1, .int .i64 q2, .int .i64 q3, .slice A1 xs.length c1, .slice A2 ms.length c2] 54) = W at *
  generalize w1.heap.size = X at *
  refine (implFree_c q0 q1 q2 q3 A1 A2 c1 c2 _ xs ms _ hS1.row hM1.row (Nat.le_refl _) (by omega) hml HC.out HAM.out).mono ?_
  intro e w2 hR
  rw [HOK.out] at hR
  obtain ⟨A8, c8, rfl, _, hS8, hx2⟩ := hR
  replace bX := bX.nx hx2
  replace hS1 := hS1.nx hx2
  replace hM1 := hM1.nx hx2
  replace hX := hX.trans hx2
  have hz2 := hx2.size
  clear hx2
  obtain ⟨F, HFF⟩ : ∃ F, Hid (freeTo xs 54 = F) := ⟨_, rfl⟩
  rw [show frL true xs = F by unfold frL; rw [if_pos rfl]; exact HFF.out] at hS8 ⊢
  rw [show frCd true = 0 from rfl]
  have hFl : F.length ≤ 54 := by rw [← HFF.out]; exact freeTo_len _ _
  obtain ⟨d0, d1, d2, d3, d4, d5⟩ := bX.d6
  go_wp2_with fail
  refine (specFree_c q0 q1 q2 q3 A1 A2 c1 c2 _ xs ms _ hS1.row hM1.row (Nat.le_refl _) (by omega) hml HC.out HAM.out).mono ?_
  intro e w3 hR
  rw [HOK.out] at hR
  obtain ⟨A5, c5, rfl, _, hS5, hx3⟩ := hR
  rw [show frL true xs = F by unfold frL; rw [if_pos rfl]; exact HFF.out] at hS5 ⊢
  rw [show frCd true = 0 from rfl]
  replace bX := bX.nx hx3
  replace hS1 := hS1.nx hx3
  replace hM1 := hM1.nx hx3
  replace hS8 := hS8.nx hx3
  replace hX := hX.trans hx3
  clear hx3 d0 d1 d2 d3 d4 d5
  go_wp2_with fail
  refine (sameIntsU_c A8 A5 c8 c5 _ F _ hS8.row hS5.row (Nat.le_refl _) (by omega)).mono ?_
  rintro e w4 ⟨rfl, hx4⟩
  replace bX := bX.nx hx4
  replace hS1 := hS1.nx hx4
  replace hM1 := hM1.nx hx4
  replace hS8 := hS8.nx hx4
  replace hX := hX.trans hx4
  clear hx4 hS5
  obtain ⟨d0, d1, d2, d3, d4, d5⟩ := bX.d6
  go_wp2_with fail
  refine (implSuperOK_c q0 q1 q2 q3 A1 A2 c1 c2 _ xs ms _ hS1.row hM1.row (Nat.le_refl _) (by omega) hml HC.out HAM.out).mono ?_
  rintro e w5 ⟨rfl, hx5⟩
  rw [HOK.out]
  replace bX := bX.nx hx5
  replace hS1 := hS1.nx hx5
  replace hM1 := hM1.nx hx5
  replace hS8 := hS8.nx hx5
  replace hX := hX.trans hx5
  clear hx5 d0 d1 d2 d3 d4 d5
  go_wp2
  go_loopw [8] (fun i wr => ∃ k : Nat, k ≤ 54 ∧ i = .int .i64 ((k : Int) + 10) ∧ Nx w5 wr) (fun i _ => 64 - (intOf i).toNat)
  case atStart => exact ⟨0, by omega, rfl, Nx.refl _⟩
  case round =>
    obtain ⟨k, hk, rfl, hnx⟩ := hrel
    by_cases hlt : k < 54
    · obtain ⟨q, Hq⟩ : ∃ q, Hid ((k : Int) + 10 = q) := ⟨_, rfl⟩
      have hdq : decide (q < 64) = true := by have := Hq.out; simp; omega
      have hq0 : 0 ≤ q := by have := Hq.out; omega
      have hq1 : q < 64 := by have := Hq.out; omega
      rw [Hq.out]
      have hxd : Nx w5 wr.drew := hnx.drew
      obtain ⟨_, _, _, _, d4, _⟩ := (bX.nx hxd).d6
      have hfh : hasB F F.length q = !hasB xs xs.length q := by rw [← HFF.out, ← Hq.out]; exact free_has hlt
      cases ht : hasB xs xs.length q with
      | true =>
        rw [ht] at hfh
        have HT := Lib.hid ht
        have HF := Lib.hid hfh
        clear ht hfh
        go_wp2_with fail
        refine wp_region_plan (.t 0 (.t 1 (.t 3 (.t 4 (.t 5 (.c 2 (.c 6 (.t 7 .e)))))))) (fun w' => w'.cell? ⟨X, 4, none⟩ = some (.slice A1 xs.length c1)) (by kernel_rfl) (by kernel_rfl) rfl (by kernel_rfl) (fun _ _ d _ _ h => by cases d <;> exact h) (by exact d4) ?_
        simp only [psOf, List.getD_cons_zero, List.getD_cons_succ]
        repeat (first | (refine HP.take (v := ?_) (by rfl) ?_ ?_; rotate_left; (· (intro w hSw; (try dsimp only at hSw); go_simp; try with_reducible rfl)); (try simp only [Act.put, List.setIfInBounds_toArray, List.set_cons_zero, List.set_cons_succ])) | (refine HP.skip (by rfl) ?_; (try simp only [Act.put, List.setIfInBounds_toArray, List.set_cons_zero, List.set_cons_succ])))
        refine HP.call ?_
        refine CallStep.mk (by rfl) (fun K hK => ?_)
        go_simp
        refine (within_c A8 (F).length c8 _ (F) q _ ((hS8.nx hxd).row) (Nat.le_refl _) (by omega)).mono ?_; rintro e w' ⟨rfl, rfl⟩; rw [HF.out]
        go_wp2_with fail
        refine hK.out _ _ (by exact d4) ?_
        clear hK K
        try simp only [Act.put, List.setIfInBounds_toArray, List.set_cons_zero, List.set_cons_succ]
        refine HP.call ?_
        refine CallStep.mk (by rfl) (fun K hK => ?_)
        go_simp
        refine (within_c A1 (xs).length c1 _ (xs) q _ ((hS1.nx hxd).row) (Nat.le_refl _) (by omega)).mono ?_; rintro e w' ⟨rfl, rfl⟩; rw [HT.out]
        go_wp2_with fail
        refine hK.out _ _ (by exact d4) ?_
        clear hK K
        try simp only [Act.put, List.setIfInBounds_toArray, List.set_cons_zero, List.set_cons_succ]
        repeat (first | (refine HP.take (v := ?_) (by rfl) ?_ ?_; rotate_left; (· (intro w hSw; (try dsimp only at hSw); go_simp; try with_reducible rfl)); (try simp only [Act.put, List.setIfInBounds_toArray, List.set_cons_zero, List.set_cons_succ])) | (refine HP.skip (by rfl) ?_; (try simp only [Act.put, List.setIfInBounds_toArray, List.set_cons_zero, List.set_cons_succ])))
        refine HP.done ?_
        go_wp2
        go_roundw
        case rel => exact ⟨k + 1, by omega, by have := Hq.out; go_num, hxd⟩
        case measure => have := Hq.out; simp [intOf]; omega
      | false =>
        rw [ht] at hfh
        have HT := Lib.hid ht
        have HF := Lib.hid hfh
        clear ht hfh
        go_wp2_with fail
        refine wp_region_plan (.t 0 (.t 1 (.t 3 (.t 4 (.t 5 (.c 2 (.c 6 (.t 7 .e)))))))) (fun w' => w'.cell? ⟨X, 4, none⟩ = some (.slice A1 xs.length c1)) (by kernel_rfl) (by kernel_rfl) rfl (by kernel_rfl) (fun _ _ d _ _ h => by cases d <;> exact h) (by exact d4) ?_
        simp only [psOf, List.getD_cons_zero, List.getD_cons_succ]
        repeat (first | (refine HP.take (v := ?_) (by rfl) ?_ ?_; rotate_left; (· (intro w hSw; (try dsimp only at hSw); go_simp; try with_reducible rfl)); (try simp only [Act.put, List.setIfInBounds_toArray, List.set_cons_zero, List.set_cons_succ])) | (refine HP.skip (by rfl) ?_; (try simp only [Act.put, List.setIfInBounds_toArray, List.set_cons_zero, List.set_cons_succ])))
        refine HP.call ?_
        refine CallStep.mk (by rfl) (fun K hK => ?_)
        go_simp
        refine (within_c A8 (F).length c8 _ (F) q _ ((hS8.nx hxd).row) (Nat.le_refl _) (by omega)).mono ?_; rintro e w' ⟨rfl, rfl⟩; rw [HF.out]
        go_wp2_with fail
        refine hK.out _ _ (by exact d4) ?_
        clear hK K
        try simp only [Act.put, List.setIfInBounds_toArray, List.set_cons_zero, List.set_cons_succ]
        refine HP.call ?_
        refine CallStep.mk (by rfl) (fun K hK => ?_)
        go_simp
        refine (within_c A1 (xs).length c1 _ (xs) q _ ((hS1.nx hxd).row) (Nat.le_refl _) (by omega)).mono ?_; rintro e w' ⟨rfl, rfl⟩; rw [HT.out]
        go_wp2_with fail
        refine hK.out _ _ (by exact d4) ?_
        clear hK K
        try simp only [Act.put, List.setIfInBounds_toArray, List.set_cons_zero, List.set_cons_succ]
        repeat (first | (refine HP.take (v := ?_) (by rfl) ?_ ?_; rotate_left; (· (intro w hSw; (try dsimp only at hSw); go_simp; try with_reducible rfl)); (try simp only [Act.put, List.setIfInBounds_toArray, List.set_cons_zero, List.set_cons_succ])) | (refine HP.skip (by rfl) ?_; (try simp only [Act.put, List.setIfInBounds_toArray, List.set_cons_zero, List.set_cons_succ])))
        refine HP.done ?_
        go_wp2
        go_roundw
        case rel => exact ⟨k + 1, by omega, by have := Hq.out; go_num, hxd⟩
        case measure => have := Hq.out; simp [intOf]; omega
    obtain rfl : k = 54 := by omega
    have hdl : decide (((54 : Nat) : Int) + 10 < 64) = false := by decide
    obtain ⟨f, fs, hff⟩ := free_some hl5
    rw [HFF.out] at hff
    subst hff
    replace bX := bX.nx hnx
    replace hS1 := hS1.nx hnx
    replace hM1 := hM1.nx hnx
    replace hS8 := hS8.nx hnx
    replace hX := hX.trans hnx
    obtain ⟨g8, rfl, hg8, hO8⟩ := hS8 (by simp)
    have hF0 : 0 < (f :: fs).length := by simp
    obtain ⟨V, hV⟩ : ∃ x, x = wr := ⟨_, rfl⟩
    subst hV
    have hXg : X < g8 := by omega
    have hcl1 : (0 : Int) < ((f :: fs).length : Int) := by simp
    go_wp2_with fail
    refine mergeF (F := (fun gE gD A9 k9 W => RowI W V.heap.size (.slice A9 xs.length k9) xs ∧ Box W gD 3 #[.int .i64 f, .int .i64 f] ∧ Nx V W)) (G := ?_) (fun key => ?_) ?_
    rotate_left
    · have hN : Nx V V.drew := (Nx.refl V).drew
      have hd0 : V.drew.cell? ⟨g8, 0, none⟩ = some (.int .i64 f) := hO8.cell (i := 0) hF0
      refine wp_region_plan (.t 1 (.t 4 (.t 5 (.t 6 (.t 7 (.t 8 (.t 9 (.d 0 (.b 2 (.b 3 (.c 10 (.c 11 (.t 12 (.c 13 .e)))) 10 (.c 3 (.c 11 (.t 12 (.c 13 .e))))) 10 (.c 2 (.c 3 (.c 11 (.t 12 (.c 13 .e)))))) 2 (.b 0 (.b 3 (.c 10 (.c 11 (.t 12 (.c 13 .e)))) 10 (.c 3 (.c 11 (.t 12 (.c 13 .e))))) 10 (.c 0 (.c 3 (.c 11 (.t 12 (.c 13 .e)))))) 10 (.b 0 (.c 2 (.c 3 (.c 11 (.t 12 (.c 13 .e))))) 2 (.c 0 (.c 3 (.c 11 (.t 12 (.c 13 .e)))))))))))))) (fun w' => w'.cell? ⟨g8, 0, none⟩ = some (.int .i64 f)) (by kernel_rfl) (by kernel_rfl) rfl (by kernel_rfl) (fun _ _ d _ _ h => by cases d <;> exact h) (by exact hd0) ?_
      simp only [psOf, List.getD_cons_zero, List.getD_cons_succ]
      change HP _ _ _ _ _ _ V.drew
      generalize V.drew = D0 at hN hd0 ⊢
      repeat (first | (refine HP.take (v := ?_) (by rfl) ?_ ?_; rotate_left; (· (intro w hSw; (try dsimp only at hSw); go_simp; try with_reducible rfl)); (try simp only [Act.put, List.setIfInBounds_toArray, List.set_cons_zero, List.set_cons_succ])) | (refine HP.skip (by rfl) ?_; (try simp only [Act.put, List.setIfInBounds_toArray, List.set_cons_zero, List.set_cons_succ])))
      refine HP.three ?_ ?_ ?_
      · have hE := RowI.new D0 (B := V.heap.size) hN.size
        have hxE := (Nx.refl D0).alloc (.cells #[] 3)
        replace hN := hN.trans hxE
        refine CallStep.mk (by rfl) (fun K hK => ?_)
        go_simp
        refine hK.out _ _ (by exact ((hO8.nx hN).cell (i := 0) hF0)) ?_
        clear hK K
        try simp only [Act.put, List.setIfInBounds_toArray, List.set_cons_zero, List.set_cons_succ]
        change HP _ _ _ _ _ _ (D0.alloc (.cells #[] 3))
        generalize D0.alloc (.cells #[] 3) = w1_ at *
        generalize D0.heap.size = gE at *
        clear hxE
        refine HP.both ?_ ?_
        · obtain ⟨_, _, _, _, l2, _⟩ := (bX.nx hN).d6
          refine CallStep.mk (by rfl) (fun K hK => ?_)
          go_simp
          refine hK.out _ _ (by exact ((hO8.nx hN).cell (i := 0) hF0)) ?_
          clear hK K
          try simp only [Act.put, List.setIfInBounds_toArray, List.set_cons_zero, List.set_cons_succ]
          refine HP.both ?_ ?_
          · refine CallStep.mk (by rfl) (fun K hK => ?_)
            refine wp_addAllI _ _ rfl V.heap.size gE A1 c1 xs rfl rfl hE (hS1.nx hN).row (by omega) hN.size ?_
            intro A9 k9 w3_ hR hgr hoth
            replace hN := hgr.nx _ hN (Nat.le_refl _)
            refine hK.out _ _ (by exact ((hO8.nx hN).cell (i := 0) hF0)) ?_
            clear hK K
            try simp only [Act.put, List.setIfInBounds_toArray, List.set_cons_zero, List.set_cons_succ]
            clear hE hgr hoth
            refine HP.call ?_
            have bD := Box.new w3_ 3 #[.int .i64 f, .int .i64 f]
            have hxD := (Nx.refl w3_).alloc (.cells #[.int .i64 f, .int .i64 f] 3)
            replace hR := hR.nx hxD
            replace hN := hN.trans hxD
            refine CallStep.mk (by rfl) (fun K hK => ?_)
            go_simp
            refine hK.out _ _ (by exact ((hO8.nx hN).cell (i := 0) hF0)) ?_
            clear hK K
            try simp only [Act.put, List.setIfInBounds_toArray, List.set_cons_zero, List.set_cons_succ]
            change HP _ _ _ _ _ _ (w3_.alloc (.cells #[.int .i64 f, .int .i64 f] 3))
            generalize w3_.alloc (.cells #[.int .i64 f, .int .i64 f] 3) = w4_ at *
            generalize w3_.heap.size = gD at *
            clear hxD
            exact key gE gD A9 k9 w4_ ⟨hR, bD, hN⟩
          · have bD := Box.new w1_ 3 #[.int .i64 f, .int .i64 f]
            have hxD := (Nx.refl w1_).alloc (.cells #[.int .i64 f, .int .i64 f] 3)
            have hne : w1_.heap.size ≠ gE := by have := (World.ownsRow.lt hE gE rfl).2; omega
            replace hE := hE.nx hxD
            replace hN := hN.trans hxD
            refine CallStep.mk (by rfl) (fun K hK => ?_)
            go_simp
            refine hK.out _ _ (by exact ((hO8.nx hN).cell (i := 0) hF0)) ?_
            clear hK K
            try simp only [Act.put, List.setIfInBounds_toArray, List.set_cons_zero, List.set_cons_succ]
            change HP _ _ _ _ _ _ (w1_.alloc (.cells #[.int .i64 f, .int .i64 f] 3))
            generalize w1_.alloc (.cells #[.int .i64 f, .int .i64 f] 3) = w5_ at *
            generalize w1_.heap.size = gD at *
            clear hxD
            refine HP.call ?_
            refine CallStep.mk (by rfl) (fun K hK => ?_)
            refine wp_addAllI _ _ rfl V.heap.size gE A1 c1 xs rfl rfl hE (hS1.nx hN).row (by omega) hN.size ?_
            intro A9 k9 w6_ hR hgr hoth
            replace bD : Box w6_ gD 3 #[.int .i64 f, .int .i64 f] := (hoth gD bD.lt hne).trans bD
            replace hN := hgr.nx _ hN (Nat.le_refl _)
            refine hK.out _ _ (by exact ((hO8.nx hN).cell (i := 0) hF0)) ?_
            clear hK K
            try simp only [Act.put, List.setIfInBounds_toArray, List.set_cons_zero, List.set_cons_succ]
            clear hE hgr hoth
            exact key gE gD A9 k9 w6_ ⟨hR, bD, hN⟩
        · have bD := Box.new w1_ 3 #[.int .i64 f, .int .i64 f]
          have hxD := (Nx.refl w1_).alloc (.cells #[.int .i64 f, .int .i64 f] 3)
          have hne : w1_.heap.size ≠ gE := by have := (World.ownsRow.lt hE gE rfl).2; omega
          replace hE := hE.nx hxD
          replace hN := hN.trans hxD
          refine CallStep.mk (by rfl) (fun K hK => ?_)
          go_simp
          refine hK.out _ _ (by exact ((hO8.nx hN).cell (i := 0) hF0)) ?_
          clear hK K
          try simp only [Act.put, List.setIfInBounds_toArray, List.set_cons_zero, List.set_cons_succ]
          change HP _ _ _ _ _ _ (w1_.alloc (.cells #[.int .i64 f, .int .i64 f] 3))
          generalize w1_.alloc (.cells #[.int .i64 f, .int .i64 f] 3) = w7_ at *
          generalize w1_.heap.size = gD at *
          clear hxD
          refine HP.call ?_
          obtain ⟨_, _, _, _, l8, _⟩ := (bX.nx hN).d6
          refine CallStep.mk (by rfl) (fun K hK => ?_)
          go_simp
          refine hK.out _ _ (by exact ((hO8.nx hN).cell (i := 0) hF0)) ?_
          clear hK K
          try simp only [Act.put, List.setIfInBounds_toArray, List.set_cons_zero, List.set_cons_succ]
          refine HP.call ?_
          refine CallStep.mk (by rfl) (fun K hK => ?_)
          refine wp_addAllI _ _ rfl V.heap.size gE A1 c1 xs rfl rfl hE (hS1.nx hN).row (by omega) hN.size ?_
          intro A9 k9 w9_ hR hgr hoth
          replace bD : Box w9_ gD 3 #[.int .i64 f, .int .i64 f] := (hoth gD bD.lt hne).trans bD
          replace hN := hgr.nx _ hN (Nat.le_refl _)
          refine hK.out _ _ (by exact ((hO8.nx hN).cell (i := 0) hF0)) ?_
          clear hK K
          try simp only [Act.put, List.setIfInBounds_toArray, List.set_cons_zero, List.set_cons_succ]
          clear hE hgr hoth
          exact key gE gD A9 k9 w9_ ⟨hR, bD, hN⟩
      · obtain ⟨_, _, _, _, l10, _⟩ := (bX.nx hN).d6
        refine CallStep.mk (by rfl) (fun K hK => ?_)
        go_simp
        refine hK.out _ _ (by exact ((hO8.nx hN).cell (i := 0) hF0)) ?_
        clear hK K
        try simp only [Act.put, List.setIfInBounds_toArray, List.set_cons_zero, List.set_cons_succ]
        refine HP.both ?_ ?_
        · have hE := RowI.new D0 (B := V.heap.size) hN.size
          have hxE := (Nx.refl D0).alloc (.cells #[] 3)
          replace hN := hN.trans hxE
          refine CallStep.mk (by rfl) (fun K hK => ?_)
          go_simp
          refine hK.out _ _ (by exact ((hO8.nx hN).cell (i := 0) hF0)) ?_
          clear hK K
          try simp only [Act.put, List.setIfInBounds_toArray, List.set_cons_zero, List.set_cons_succ]
          change HP _ _ _ _ _ _ (D0.alloc (.cells #[] 3))
          generalize D0.alloc (.cells #[] 3) = w11_ at *
          generalize D0.heap.size = gE at *
          clear hxE
          refine HP.both ?_ ?_
          · refine CallStep.mk (by rfl) (fun K hK => ?_)
            refine wp_addAllI _ _ rfl V.heap.size gE A1 c1 xs rfl rfl hE (hS1.nx hN).row (by omega) hN.size ?_
            intro A9 k9 w12_ hR hgr hoth
            replace hN := hgr.nx _ hN (Nat.le_refl _)
            refine hK.out _ _ (by exact ((hO8.nx hN).cell (i := 0) hF0)) ?_
            clear hK K
            try simp only [Act.put, List.setIfInBounds_toArray, List.set_cons_zero, List.set_cons_succ]
            clear hE hgr hoth
            refine HP.call ?_
            have bD := Box.new w12_ 3 #[.int .i64 f, .int .i64 f]
            have hxD := (Nx.refl w12_).alloc (.cells #[.int .i64 f, .int .i64 f] 3)
            replace hR := hR.nx hxD
            replace hN := hN.trans hxD
            refine CallStep.mk (by rfl) (fun K hK => ?_)
            go_simp
            refine hK.out _ _ (by exact ((hO8.nx hN).cell (i := 0) hF0)) ?_
            clear hK K
            try simp only [Act.put, List.setIfInBounds_toArray, List.set_cons_zero, List.set_cons_succ]
            change HP _ _ _ _ _ _ (w12_.alloc (.cells #[.int .i64 f, .int .i64 f] 3))
            generalize w12_.alloc (.cells #[.int .i64 f, .int .i64 f] 3) = w13_ at *
            generalize w12_.heap.size = gD at *
            clear hxD
            exact key gE gD A9 k9 w13_ ⟨hR, bD, hN⟩
          · have bD := Box.new w11_ 3 #[.int .i64 f, .int .i64 f]
            have hxD := (Nx.refl w11_).alloc (.cells #[.int .i64 f, .int .i64 f] 3)
            have hne : w11_.heap.size ≠ gE := by have := (World.ownsRow.lt hE gE rfl).2; omega
            replace hE := hE.nx hxD
            replace hN := hN.trans hxD
            refine CallStep.mk (by rfl) (fun K hK => ?_)
            go_simp
            refine hK.out _ _ (by exact ((hO8.nx hN).cell (i := 0) hF0)) ?_
            clear hK K
            try simp only [Act.put, List.setIfInBounds_toArray, List.set_cons_zero, List.set_cons_succ]
            change HP _ _ _ _ _ _ (w11_.alloc (.cells #[.int .i64 f, .int .i64 f] 3))
            generalize w11_.alloc (.cells #[.int .i64 f, .int .i64 f] 3) = w14_ at *
            generalize w11_.heap.size = gD at *
            clear hxD
            refine HP.call ?_
            refine CallStep.mk (by rfl) (fun K hK => ?_)
            refine wp_addAllI _ _ rfl V.heap.size gE A1 c1 xs rfl rfl hE (hS1.nx hN).row (by omega) hN.size ?_
            intro A9 k9 w15_ hR hgr hoth
            replace bD : Box w15_ gD 3 #[.int .i64 f, .int .i64 f] := (hoth gD bD.lt hne).trans bD
            replace hN := hgr.nx _ hN (Nat.le_refl _)
            refine hK.out _ _ (by exact ((hO8.nx hN).cell (i := 0) hF0)) ?_
            clear hK K
            try simp only [Act.put, List.setIfInBounds_toArray, List.set_cons_zero, List.set_cons_succ]
            clear hE hgr hoth
            exact key gE gD A9 k9 w15_ ⟨hR, bD, hN⟩
        · have bD := Box.new D0 3 #[.int .i64 f, .int .i64 f]
          have hxD := (Nx.refl D0).alloc (.cells #[.int .i64 f, .int .i64 f] 3)
          replace hN := hN.trans hxD
          refine CallStep.mk (by rfl) (fun K hK => ?_)
          go_simp
          refine hK.out _ _ (by exact ((hO8.nx hN).cell (i := 0) hF0)) ?_
          clear hK K
          try simp only [Act.put, List.setIfInBounds_toArray, List.set_cons_zero, List.set_cons_succ]
          change HP _ _ _ _ _ _ (D0.alloc (.cells #[.int .i64 f, .int .i64 f] 3))
          generalize D0.alloc (.cells #[.int .i64 f, .int .i64 f] 3) = w16_ at *
          generalize D0.heap.size = gD at *
          clear hxD
          refine HP.call ?_
          have hE := RowI.new w16_ (B := V.heap.size) hN.size
          have hxE := (Nx.refl w16_).alloc (.cells #[] 3)
          have hne : gD ≠ w16_.heap.size := by have := bD.lt; omega
          replace bD := bD.nx hxE
          replace hN := hN.trans hxE
          refine CallStep.mk (by rfl) (fun K hK => ?_)
          go_simp
          refine hK.out _ _ (by exact ((hO8.nx hN).cell (i := 0) hF0)) ?_
          clear hK K
          try simp only [Act.put, List.setIfInBounds_toArray, List.set_cons_zero, List.set_cons_succ]
          change HP _ _ _ _ _ _ (w16_.alloc (.cells #[] 3))
          generalize w16_.alloc (.cells #[] 3) = w17_ at *
          generalize w16_.heap.size = gE at *
          clear hxE
          refine HP.call ?_
          refine CallStep.mk (by rfl) (fun K hK => ?_)
          refine wp_addAllI _ _ rfl V.heap.size gE A1 c1 xs rfl rfl hE (hS1.nx hN).row (by omega) hN.size ?_
          intro A9 k9 w18_ hR hgr hoth
          replace bD : Box w18_ gD 3 #[.int .i64 f, .int .i64 f] := (hoth gD bD.lt hne).trans bD
          replace hN := hgr.nx _ hN (Nat.le_refl _)
          refine hK.out _ _ (by exact ((hO8.nx hN).cell (i := 0) hF0)) ?_
          clear hK K
          try simp only [Act.put, List.setIfInBounds_toArray, List.set_cons_zero, List.set_cons_succ]
          clear hE hgr hoth
          exact key gE gD A9 k9 w18_ ⟨hR, bD, hN⟩
      · have bD := Box.new D0 3 #[.int .i64 f, .int .i64 f]
        have hxD := (Nx.refl D0).alloc (.cells #[.int .i64 f, .int .i64 f] 3)
        replace hN := hN.trans hxD
        refine CallStep.mk (by rfl) (fun K hK => ?_)
        go_simp
        refine hK.out _ _ (by exact ((hO8.nx hN).cell (i := 0) hF0)) ?_
        clear hK K
        try simp only [Act.put, List.setIfInBounds_toArray, List.set_cons_zero, List.set_cons_succ]
        change HP _ _ _ _ _ _ (D0.alloc (.cells #[.int .i64 f, .int .i64 f] 3))
        generalize D0.alloc (.cells #[.int .i64 f, .int .i64 f] 3) = w19_ at *
        generalize D0.heap.size = gD at *
        clear hxD
        refine HP.both ?_ ?_
        · have hE := RowI.new w19_ (B := V.heap.size) hN.size
          have hxE := (Nx.refl w19_).alloc (.cells #[] 3)
          have hne : gD ≠ w19_.heap.size := by have := bD.lt; omega
          replace bD := bD.nx hxE
          replace hN := hN.trans hxE
          refine CallStep.mk (by rfl) (fun K hK => ?_)
          go_simp
          refine hK.out _ _ (by exact ((hO8.nx hN).cell (i := 0) hF0)) ?_
          clear hK K
          try simp only [Act.put, List.setIfInBounds_toArray, List.set_cons_zero, List.set_cons_succ]
          change HP _ _ _ _ _ _ (w19_.alloc (.cells #[] 3))
          generalize w19_.alloc (.cells #[] 3) = w20_ at *
          generalize w19_.heap.size = gE at *
          clear hxE
          refine HP.call ?_
          obtain ⟨_, _, _, _, l21, _⟩ := (bX.nx hN).d6
          refine CallStep.mk (by rfl) (fun K hK => ?_)
          go_simp
          refine hK.out _ _ (by exact ((hO8.nx hN).cell (i := 0) hF0)) ?_
          clear hK K
          try simp only [Act.put, List.setIfInBounds_toArray, List.set_cons_zero, List.set_cons_succ]
          refine HP.call ?_
          refine CallStep.mk (by rfl) (fun K hK => ?_)
          refine wp_addAllI _ _ rfl V.heap.size gE A1 c1 xs rfl rfl hE (hS1.nx hN).row (by omega) hN.size ?_
          intro A9 k9 w22_ hR hgr hoth
          replace bD : Box w22_ gD 3 #[.int .i64 f, .int .i64 f] := (hoth gD bD.lt hne).trans bD
          replace hN := hgr.nx _ hN (Nat.le_refl _)
          refine hK.out _ _ (by exact ((hO8.nx hN).cell (i := 0) hF0)) ?_
          clear hK K
          try simp only [Act.put, List.setIfInBounds_toArray, List.set_cons_zero, List.set_cons_succ]
          clear hE hgr hoth
          exact key gE gD A9 k9 w22_ ⟨hR, bD, hN⟩
        · obtain ⟨_, _, _, _, l23, _⟩ := (bX.nx hN).d6
          refine CallStep.mk (by rfl) (fun K hK => ?_)
          go_simp
          refine hK.out _ _ (by exact ((hO8.nx hN).cell (i := 0) hF0)) ?_
          clear hK K
          try simp only [Act.put, List.setIfInBounds_toArray, List.set_cons_zero, List.set_cons_succ]
          refine HP.call ?_
          have hE := RowI.new w19_ (B := V.heap.size) hN.size
          have hxE := (Nx.refl w19_).alloc (.cells #[] 3)
          have hne : gD ≠ w19_.heap.size := by have := bD.lt; omega
          replace bD := bD.nx hxE
          replace hN := hN.trans hxE
          refine CallStep.mk (by rfl) (fun K hK => ?_)
          go_simp
          refine hK.out _ _ (by exact ((hO8.nx hN).cell (i := 0) hF0)) ?_
          clear hK K
          try simp only [Act.put, List.setIfInBounds_toArray, List.set_cons_zero, List.set_cons_succ]
          change HP _ _ _ _ _ _ (w19_.alloc (.cells #[] 3))
          generalize w19_.alloc (.cells #[] 3) = w24_ at *
          generalize w19_.heap.size = gE at *
          clear hxE
          refine HP.call ?_
          refine CallStep.mk (by rfl) (fun K hK => ?_)
          refine wp_addAllI _ _ rfl V.heap.size gE A1 c1 xs rfl rfl hE (hS1.nx hN).row (by omega) hN.size ?_
          intro A9 k9 w25_ hR hgr hoth
          replace bD : Box w25_ gD 3 #[.int .i64 f, .int .i64 f] := (hoth gD bD.lt hne).trans bD
          replace hN := hgr.nx _ hN (Nat.le_refl _)
          refine hK.out _ _ (by exact ((hO8.nx hN).cell (i := 0) hF0)) ?_
          clear hK K
          try simp only [Act.put, List.setIfInBounds_toArray, List.set_cons_zero, List.set_cons_succ]
          clear hE hgr hoth
          exact key gE gD A9 k9 w25_ ⟨hR, bD, hN⟩
    rintro gE gD A9 k9 W9 ⟨hR, bD, hN⟩
    refine HP.call ?_
    refine CallStep.mk (by rfl) (fun K hK => ?_)
    refine wp_add2I _ _ rfl V.heap.size gD _ xs f f rfl rfl hR bD (by omega) hN.size ?_
    intro A7 c7 w13 hR9 hG9
    replace hN := hG9.nx _ hN (Nat.le_refl _)
    refine hK.out _ _ (by exact ((hO8.nx hN).cell (i := 0) hF0)) ?_
    clear hK K
    try simp only [Act.put, List.setIfInBounds_toArray, List.set_cons_zero, List.set_cons_succ]
    repeat (first | (refine HP.take (v := ?_) (by rfl) ?_ ?_; rotate_left; (· (intro w hSw; (try dsimp only at hSw); go_simp; try with_reducible rfl)); (try simp only [Act.put, List.setIfInBounds_toArray, List.set_cons_zero, List.set_cons_succ])) | (refine HP.skip (by rfl) ?_; (try simp only [Act.put, List.setIfInBounds_toArray, List.set_cons_zero, List.set_cons_succ])))
    have b13 := bX.nx hN
    have hl13 := b13.lt
    obtain ⟨_, _, _, _, y4, _⟩ := b13.d6
    have g4 := b13.frozen 4
    refine HP.call ?_
    refine CallStep.mk (by rfl) (fun K hK => ?_)
    go_simp
    refine hK.out _ _ (by exact ((hO8.nx hN).far (p := ⟨X, 4, none⟩) (by simp; omega) (.slice A7 (xs.length + 2) c7)).cell (i := 0) hF0) ?_
    clear hK K
    try simp only [Act.put, List.setIfInBounds_toArray, List.set_cons_zero, List.set_cons_succ]
    refine HP.done ?_
    have bs13 := b13.set 4 (.slice A7 (xs.length + 2) c7)
    simp only [List.setIfInBounds_toArray, List.set_cons_zero, List.set_cons_succ] at bs13
    have hRf := hR9.far (p := ⟨X, 4, none⟩) b13 (by decide) (.slice A7 (xs.length + 2) c7)
    have hMf := (hM1.nx hN).far_ty (p := ⟨X, 4, none⟩) b13 (by decide) (.slice A7 (xs.length + 2) c7)
    have hXf := (hX.trans hN).setCell (p := ⟨X, 4, none⟩) (by simp; omega) (.slice A7 (xs.length + 2) c7)
    clear y4 g4
    change Exit.then _ _ _ _ (w13.setCell ⟨X, 4, none⟩ (.slice A7 (xs.length + 2) c7))
    generalize w13.setCell ⟨X, 4, none⟩ (.slice A7 (xs.length + 2) c7) = Wz at *
    obtain ⟨A7', c7', he7, hc7, hS7⟩ := hRf.slc
    have e7 : (xs ++ [f, f]).length = xs.length + 2 := by simp
    rw [e7] at he7
    obtain ⟨rfl, rfl⟩ : A7 = A7' ∧ c7 = c7' := by simpa using he7
    clear he7
    obtain ⟨d0, d1, d2, d3, d4, d5⟩ := bs13.d6
    have HNO := Lib.hid (show superB q0 q1 q2 q3 (xs ++ [f, f]) ms = false from superB_no (by rw [tb_twice]; simp))
    have HC7 := Lib.hid hc7
    clear hc7
    go_wp2_with fail
    rw [← e7]
    refine (implSuperOK_c q0 q1 q2 q3 A7 A2 c7 c2 _ (xs ++ [f, f]) ms _ hS7.row hMf.row (Nat.le_refl _) (by rw [e7]; omega) hml HC7.out HAM.out).mono ?_
    rintro e w20 ⟨rfl, hx20⟩
    rw [HNO.out]
    go_wp2
    go_ret
    exact ⟨rfl, hXf.trans hx20⟩
end Go.Proofs.Ytjefjngheolmkaa
/- Words on maps from ints to changes that the call itself has made: made, looked up, stored into. Conditions: none. -/
namespace Go.Proofs.Ytjefjngheolmkaa
set_option linter.unusedVariables false
set_option maxRecDepth 100000
open Go.RowKit Go.ChangeMaps Go.MapKept Go.WideShapes

def vC (c : Chg) : Value := .agg #[.int .i64 c.1, .int .i64 c.2.1, .int .i64 c.2.2]
/-- The entries of a map, each key once, are what M says. -/
structure Ent (es : List MapEntry) (M : Int → Option Chg) : Prop where
  has : ∀ e ∈ es, ∃ k c, e.key = .int .i64 k ∧ (Lit.int .i64 k).wf = true ∧ e.val = vC c ∧ M k = some c
  all : ∀ k c, M k = some c → ∃ e ∈ es, e.key = .int .i64 k
  one : ∀ (i j : Nat) (x y : MapEntry), es[i]? = some x → es[j]? = some y → x.key = y.key → i = j
/-- Block b is a map from ints to changes. -/
def MapC (w : World) (b : Nat) (M : Int → Option Chg) : Prop := ∃ es clock, w.heap[b]? = some (.map es clock) ∧ Ent es.toList M
section
variable {w w' : World} {b : Nat} {M : Int → Option Chg}
theorem MapC.lt (h : MapC w b M) : b < w.heap.size := by
  obtain ⟨es, clock, hb, _⟩ := h
  exact (Array.getElem?_eq_some_iff.1 hb).1
theorem MapC.nx (h : MapC w b M) (hb : Nx w w') : MapC w' b M := by
  have hlt := h.lt
  obtain ⟨es, clock, h1, h2⟩ := h
  exact ⟨es, clock, (hb.block b hlt).trans h1, h2⟩
theorem MapC.rg {lo hi : Nat} (h : MapC w b M) (hb : Rg lo hi w w') (hg : b < lo ∨ hi ≤ b) : MapC w' b M := by
  have hlt := h.lt
  obtain ⟨es, clock, h1, h2⟩ := h
  exact ⟨es, clock, (hb.block b hlt hg).trans h1, h2⟩
theorem MapC.alloc (h : MapC w b M) (o : Obj) : MapC (w.alloc o) b M := h.nx ((Nx.refl w).alloc o)
theorem MapC.far (h : MapC w b M) {p : Addr} (hp : b ≠ p.block) (v : Value) : MapC (w.setCell p v) b M := by
  obtain ⟨es, clock, h1, h2⟩ := h
  exact ⟨es, clock, (Below.heap_setCell w p v b hp).trans h1, h2⟩
theorem MapC.made (w : World) : MapC (w.alloc (.map #[] 0)) w.heap.size (fun _ => none) :=
  ⟨#[], 0, (MapKept.heap_alloc w _).1, ⟨by simp, by simp, by simp⟩⟩
end
theorem keyI : Maps.Keyed Try.prog 3 := Maps.int_keyed Try.underlying3
theorem keyI_mk {k : Int} (hw : (Lit.int .i64 k).wf = true) : keyOf Try.prog 3 (.int .i64 k) = some (.int .i64 k) := Maps.keyOf_int_mk Try.underlying3 hw
theorem zeroC (w : World) : (zeroValue 75).run Try.prog w = .ok (vC chZ) w := by
  have h : (Try.prog.info? 75).bind (fun i => i.zero) = some (vC chZ) := by kernel_rfl
  cases hi : Try.prog.info? 75 with
  | none => rw [hi] at h; cases h
  | some i =>
    rw [hi] at h
    simp only [Option.bind_some] at h
    simp [zeroValue, typeInfo, hi, h, go_sem]
theorem Ent.keys {es : List MapEntry} {M : Int → Option Chg} (h : Ent es M) : ∀ e ∈ es, ∃ l, keyOf Try.prog 3 e.key = some l := fun e he => by
  obtain ⟨k, c, hk, hw, _⟩ := h.has e he
  exact ⟨_, by rw [hk]; exact keyI_mk hw⟩
theorem MapC.look {w : World} {b : Nat} {M : Int → Option Chg} (h : MapC w b M) {k : Int} (hw : (Lit.int .i64 k).wf = true) :
    (Instr.lookup 105 (.map (some b)) (.int .i64 k) true).run Try.prog w = .ok (.tuple #[vC ((M k).getD chZ), .bool (M k).isSome]) w := by
  obtain ⟨es, clock, hb, he⟩ := h
  rcases keyI.find w (keyI_mk hw) es.toList he.keys with ⟨h1, h2⟩ | ⟨j, e0, h1, h2, h3⟩
  · have hM : M k = none := by
      cases hM : M k with
      | none => rfl
      | some c =>
        obtain ⟨e, hm, hk⟩ := he.all k c hM
        exact absurd hk (h2 e hm)
    simp [Instr.lookup, run_underlying Try.underlying105, MapKept.run_getObj_map hb, keyI.check w _ (keyI_mk hw), h1, Result.andThen, hM]
    rfl
  · obtain ⟨k', c, hk, _, hv, hM⟩ := he.has e0 (List.mem_of_getElem? h2)
    rw [h3] at hk
    injection hk with _ hk
    subst hk
    simp [Instr.lookup, run_underlying Try.underlying105, MapKept.run_getObj_map hb, keyI.check w _ (keyI_mk hw), h1, Result.andThen, hM, hv]
theorem MapC.put {w : World} {b : Nat} {M : Int → Option Chg} (h : MapC w b M) {k : Int} (hw : (Lit.int .i64 k).wf = true) (c : Chg) :
    ∃ w', (Instr.mapUpdate 105 (.map (some b)) (.int .i64 k) (vC c)).run Try.prog w = .ok () w' ∧ MapC w' b (fun x => if x = k then some c else M x) ∧ Rg b (b + 1) w w' := by
  obtain ⟨es, clock, hb, he⟩ := h
  have hrg : ∀ es' clock', Rg b (b + 1) w (setBlock w b (.map es' clock')) := fun es' clock' => ⟨rfl, rfl, rfl, by simp [setBlock], fun i _ hi => heap_setBlock_other hb _ (by omega)⟩
  rcases keyI.find w (keyI_mk hw) es.toList he.keys with ⟨h1, h2⟩ | ⟨j, e0, h1, h2, h3⟩
  · refine ⟨setBlock w b (.map (es.push ⟨.int .i64 k, vC c, clock⟩) (clock + 1)), ?_, ⟨_, _, heap_setBlock_same hb _, ?_⟩, hrg _ _⟩
    · simp [Instr.mapUpdate, run_underlying Try.underlying105, MapKept.run_getObj_map hb, keyI.check w false (keyI_mk hw), h1, MapKept.run_setObj_map _ hb, Result.andThen, setBlock]
    · rw [Array.toList_push]
      refine ⟨fun e hm => ?_, fun x d hx => ?_, fun i j x y hx hy hxy => ?_⟩
      · rcases List.mem_append.1 hm with hm | hm
        · obtain ⟨k', c', hk, hw', hv, hM⟩ := he.has e hm
          refine ⟨k', c', hk, hw', hv, ?_⟩
          have : k' ≠ k := fun e1 => h2 e hm (by rw [hk, e1])
          simp [this, hM]
        · simp only [List.mem_singleton] at hm
          subst hm
          exact ⟨k, c, rfl, hw, rfl, by simp⟩
      · by_cases hxk : x = k
        · exact ⟨⟨.int .i64 k, vC c, clock⟩, by simp, by rw [hxk]⟩
        · simp only [if_neg hxk] at hx
          obtain ⟨e, hm, hk⟩ := he.all x d hx
          exact ⟨e, by simp [hm], hk⟩
      · have hlen : ∀ (i : Nat) (x : MapEntry), (es.toList ++ [⟨.int .i64 k, vC c, clock⟩])[i]? = some x → (i < es.toList.length ∧ es.toList[i]? = some x) ∨ (i = es.toList.length ∧ x.key = .int .i64 k) := by
          intro i x hx
          rcases Nat.lt_or_ge i es.toList.length with hl | hl
          · rw [List.getElem?_append_left hl] at hx
            exact .inl ⟨hl, hx⟩
          · rw [List.getElem?_append_right hl] at hx
            have hi : i - es.toList.length = 0 := by
              have := (List.getElem?_eq_some_iff.1 hx).1
              simpa using this
            rw [hi] at hx
            simp only [List.getElem?_cons_zero, Option.some.injEq] at hx
            exact .inr ⟨by omega, by rw [← hx]⟩
        rcases hlen i x hx with ⟨hi, hx⟩ | ⟨hi, hx⟩ <;> rcases hlen j y hy with ⟨hj, hy⟩ | ⟨hj, hy⟩
        · exact he.one i j x y hx hy hxy
        · exact absurd (hxy.trans hy) (h2 x (List.mem_of_getElem? hx))
        · exact absurd (hxy.symm.trans hx) (h2 y (List.mem_of_getElem? hy))
        · omega
  · have hj : es[j]? = some e0 := by simpa using h2
    have hlist : (es.modify j (fun e' => { e' with key := .int .i64 k, val := vC c })).toList = es.toList.set j { e0 with key := .int .i64 k, val := vC c } := by rw [Array.toList_modify, modify_eq_set _ _ _ _ h2]
    have hjl : j < es.toList.length := (List.getElem?_eq_some_iff.1 h2).1
    have hget : ∀ (i : Nat) (x : MapEntry), (es.toList.set j { e0 with key := .int .i64 k, val := vC c })[i]? = some x → (i = j ∧ x = { e0 with key := .int .i64 k, val := vC c }) ∨ (i ≠ j ∧ es.toList[i]? = some x ∧ x.key ≠ .int .i64 k) := by
      intro i x hx
      rw [List.getElem?_set] at hx
      by_cases hij : j = i
      · rw [if_pos hij, if_pos hjl] at hx
        exact .inl ⟨hij.symm, (Option.some.inj hx).symm⟩
      · rw [if_neg hij] at hx
        exact .inr ⟨fun e => hij e.symm, hx, fun e => hij (he.one j i e0 x h2 hx (by rw [h3, e]))⟩
    refine ⟨setBlock w b (.map (es.modify j (fun e' => { e' with key := .int .i64 k, val := vC c })) clock), ?_, ⟨_, _, heap_setBlock_same hb _, ?_⟩, hrg _ _⟩
    · simp [Instr.mapUpdate, run_underlying Try.underlying105, MapKept.run_getObj_map hb, keyI.check w false (keyI_mk hw), h1, hj, h3, keyI.stays w (keyI_mk hw), MapKept.run_setObj_map _ hb, Result.andThen, setBlock]
    · rw [hlist]
      refine ⟨fun e hm => ?_, fun x d hx => ?_, fun i i' x y hx hy hxy => ?_⟩
      · obtain ⟨i, hi⟩ := List.mem_iff_getElem?.1 hm
        rcases hget i e hi with ⟨_, rfl⟩ | ⟨_, hi, hne⟩
        · exact ⟨k, c, rfl, hw, rfl, by simp⟩
        · obtain ⟨k', c', hk, hw', hv, hM⟩ := he.has e (List.mem_of_getElem? hi)
          refine ⟨k', c', hk, hw', hv, ?_⟩
          have : k' ≠ k := fun e1 => hne (by rw [hk, e1])
          simp [this, hM]
      · by_cases hxk : x = k
        · exact ⟨{ e0 with key := .int .i64 k, val := vC c }, List.mem_iff_getElem?.2 ⟨j, by rw [List.getElem?_set, if_pos rfl, if_pos hjl]⟩, by rw [hxk]⟩
        · simp only [if_neg hxk] at hx
          obtain ⟨e, hm, hk⟩ := he.all x d hx
          obtain ⟨i, hi⟩ := List.mem_iff_getElem?.1 hm
          refine ⟨e, List.mem_iff_getElem?.2 ⟨i, ?_⟩, hk⟩
          have hij : j ≠ i := by
            rintro rfl
            rw [h2] at hi
            cases hi
            rw [h3] at hk
            injection hk with _ hk
            exact hxk hk.symm
          rw [List.getElem?_set, if_neg hij]
          exact hi
      · rcases hget i x hx with ⟨hi, hx⟩ | ⟨hi, hx, hnx⟩ <;> rcases hget i' y hy with ⟨hi', hy⟩ | ⟨hi', hy, hny⟩
        · omega
        · exact absurd (by rw [← hxy, hx]) hny
        · exact absurd (by rw [hxy, hy]) hnx
        · exact he.one i i' x y hx hy hxy
/-- A store into such a map at the operation, for the walk. -/
theorem wpList_put {w : World} {ops : Array Oper} {rest : List Oper} {o : Oper} {a : Act} {Q : Exit → Act → World → Prop}
    (hg : o.guard = none) (m x v : Operand) (hop : o.op = Op.mapUpdate 105 m x v) (b : Nat) (M : Int → Option Chg) (k : Int) (c : Chg)
    (hm : a.eval m = .map (some b)) (hown : MapC w b M) (hx : a.eval x = .int .i64 k) (hv : a.eval v = vC c) (hw : (Lit.int .i64 k).wf = true)
    (hK : ∀ w', MapC w' b (fun x => if x = k then some c else M x) → Rg b (b + 1) w w' → wpList Try.prog ops Q rest (a.put o.dst undef) w') :
    wpList Try.prog ops Q (o :: rest) a w := by
  refine wpList_plain hg fun K' hK' => ?_
  obtain ⟨w', hrun, r1, r2⟩ := hown.put hw c
  unfold Oper.wp
  simp [execOp, hop, hm, hx, hv, hrun, Result.andThen]
  exact hK' _ _ (hK w' r1 r2)
end Go.Proofs.Ytjefjngheolmkaa
/- Rows of changes of the call's own that grow by one; what two lists of changes put together are. Conditions: those of each theorem. -/
namespace Go.Proofs.Ytjefjngheolmkaa
set_option linter.unusedVariables false
set_option maxRecDepth 100000
open Go.RowKit

def cV (cs : List Chg) : List Value := cs.flatMap fun c => [.int .i64 c.1, .int .i64 c.2.1, .int .i64 c.2.2]
theorem cV_len : ∀ cs : List Chg, (cV cs).length = cs.length * 3
  | [] => rfl
  | c :: cs => by
    show ([_, _, _] ++ cV cs).length = _
    rw [List.length_append, cV_len cs, List.length_cons]
    simp only [List.length_cons, List.length_nil]; omega
theorem cV_snoc (cs : List Chg) (c : Chg) : cV (cs ++ [c]) = cV cs ++ [.int .i64 c.1, .int .i64 c.2.1, .int .i64 c.2.2] := by
  unfold cV; rw [List.flatMap_append]; simp
theorem cV_get : ∀ (cs : List Chg) (i : Nat), i < cs.length * 3 → (cV cs)[i]? = some (chAt cs i)
  | [], i, h => by simp at h
  | c :: cs, i, h => by
    show ([_, _, _] ++ cV cs)[i]? = _
    by_cases hi : i < 3
    · rw [List.getElem?_append_left (by simpa using hi)]
      match i, hi with
      | 0, _ => rfl
      | 1, _ => rfl
      | 2, _ => rfl
    · rw [List.getElem?_append_right (by simpa using hi)]
      show (cV cs)[i - 3]? = _
      rw [cV_get cs (i - 3) (by simp at h; omega)]
      have e1 : (i - 3) % 3 = i % 3 := by omega
      have e2 : i / 3 = (i - 3) / 3 + 1 := by omega
      unfold chAt
      rw [e1, e2, List.getD_cons_succ]
/-- A row of changes of the call's own, from block B on. -/
def RowC (w : World) (B : Nat) (v : Value) (cs : List Chg) : Prop := w.ownsRow B 75 3 v cs.length (cV cs)
theorem RowC.nil (w : World) (B : Nat) : RowC w B (.slice none 0 0) [] := World.ownsRow_nil w B _ 3
theorem RowC.new (w : World) {B : Nat} (hB : B ≤ w.heap.size) : RowC (w.alloc (.cells #[] 75)) B (.slice (some ⟨w.heap.size, 0, none⟩) 0 0) [] :=
  ⟨rfl, .inr ⟨_, 0, #[], rfl, hB, heap_alloc_new w _, by simp, by unfold maxLen; omega, rfl, rfl⟩⟩
theorem RowC.sl {w : World} {B : Nat} {v : Value} {cs : List Chg} (h : RowC w B v cs) : ∃ A c, v = .slice A cs.length c ∧ Sl w B A 75 (cs.length * 3) (chAt cs) := by
  rcases h.2 with ⟨rfl, h0⟩ | ⟨g, cap, cur, rfl, hb, hg, hnc, _, hcs, htk⟩
  · exact ⟨none, 0, by rw [h0], fun hn => by omega⟩
  · refine ⟨_, cap, rfl, Sl.own ⟨cur, hg, by have := Nat.mul_le_mul_right 3 hnc; omega, fun i hi => ?_⟩ hb⟩
    have h1 : (cur.toList.take (cs.length * 3))[i]? = some (chAt cs i) := by rw [htk]; exact cV_get cs i hi
    rw [List.getElem?_take_of_lt hi] at h1
    simpa using h1
theorem RowC.nx {w w' : World} {B : Nat} {v : Value} {cs : List Chg} (h : RowC w B v cs) (hb : Nx w w') : RowC w' B v cs := by
  refine h.kept (row := none) ⟨hb.os, hb.tape, hb.output, hb.size, fun i hi _ => hb.block i hi⟩ ?_
  cases hv : v.ownBlock with
  | none => exact .inl rfl
  | some g => exact .inr (by simp)
theorem RowC.ne {w : World} {B g : Nat} {v : Value} {cs : List Chg} {t : TypeId} {xs : Array Value} (h : RowC w B v cs) (hb : Box w g t xs) (ht : t ≠ 75) : some g ≠ v.ownBlock := by
  intro he
  rcases h.2 with ⟨rfl, _⟩ | ⟨g', cap, cur, rfl, _, hg, _⟩
  · simp [Value.ownBlock] at he
  · obtain rfl : g = g' := by simpa [Value.ownBlock] using he
    unfold Box at hb
    rw [hg] at hb
    injection hb with hb
    injection hb with _ hb
    exact ht hb.symm
theorem RowC.neM {w : World} {B b : Nat} {v : Value} {cs : List Chg} {M : Int → Option Chg} (h : RowC w B v cs) (hb : MapC w b M) : some b ≠ v.ownBlock := by
  intro he
  rcases h.2 with ⟨rfl, _⟩ | ⟨g', cap, cur, rfl, _, hg, _⟩
  · simp [Value.ownBlock] at he
  · obtain rfl : b = g' := by simpa [Value.ownBlock] using he
    obtain ⟨es, clock, hm, _⟩ := hb
    rw [hg] at hm
    cases hm
theorem RowC.far {w : World} {B g i : Nat} {v u : Value} {cs : List Chg} {t : TypeId} {xs : Array Value} (h : RowC w B v cs) (hb : Box w g t xs) (ht : t ≠ 75) : RowC (w.setCell ⟨g, i, none⟩ u) B v cs :=
  World.ownsRow.kept (row := some g) h ⟨rfl, rfl, rfl, by simp [World.setCell], fun k hk hn => Below.heap_setCell _ _ _ _ (fun e => hn (by rw [e]))⟩ (.inr (fun e => h.ne hb ht e.symm))
theorem RowC.farLow {w : World} {B g i : Nat} {v u : Value} {cs : List Chg} (h : RowC w B v cs) (hg : g < B) : RowC (w.setCell ⟨g, i, none⟩ u) B v cs := by
  refine World.ownsRow.kept (row := some g) h ⟨rfl, rfl, rfl, by simp [World.setCell], fun k hk hn => Below.heap_setCell _ _ _ _ (fun e => hn (by rw [e]))⟩ (.inr fun e => ?_)
  have := (World.ownsRow.lt h g e).1
  omega
theorem RowC.rg {w w' : World} {B lo hi : Nat} {v : Value} {cs : List Chg} (h : RowC w B v cs) (hr : Rg lo hi w w') (hh : hi ≤ B) : RowC w' B v cs := by
  rcases h.2 with ⟨rfl, h0⟩ | ⟨g, cap, cur, rfl, hb, hg, r⟩
  · exact ⟨h.1, .inl ⟨rfl, h0⟩⟩
  · have hlt := (World.ownsRow.lt h g rfl).2
    exact ⟨h.1, .inr ⟨g, cap, cur, rfl, hb, (hr.block g hlt (.inr (by omega))).trans hg, r⟩⟩
theorem info_chgC : (Try.prog.info? 75).map (fun i => (i.zero, i.size, i.bytes)) = some (some (.agg #[.int .i64 0, .int .i64 0, .int .i64 0]), 3, 24) := by kernel_rfl
/-- What an append of one change leaves as it is. -/
structure Grew (B : Nat) (w w' : World) : Prop where
  nx : ∀ a, Nx a w → a.heap.size ≤ B → Nx a w'
  box : ∀ g t xs, t ≠ 75 → Box w g t xs → Box w' g t xs
  map : ∀ b M, MapC w b M → MapC w' b M
  size : w.heap.size ≤ w'.heap.size
/-- append of one change at the operation, for the walk. -/
theorem wpList_addC {w : World} {ops : Array Oper} {rest : List Oper} {o : Oper} {a : Act} {Q : Exit → Act → World → Prop}
    (hgd : o.guard = none) (s x : Operand) (ho : o.op = .call { callee := .builtin .append, args := #[s, x], argTypes := #[28, 28] })
    (B gd : Nat) (v : Value) (cs : List Chg) (x0 x1 x2 : Int) (hs : a.eval s = v) (hx : a.eval x = .slice (some ⟨gd, 0, none⟩) 1 1) (hown : RowC w B v cs) (hbx : Box w gd 75 #[.int .i64 x0, .int .i64 x1, .int .i64 x2])
    (hl : cs.length ≤ 1048576) (hB : B ≤ w.heap.size)
    (hK : ∀ A' k' w', RowC w' B (.slice A' (cs.length + 1) k') (cs ++ [(x0, x1, x2)]) → Grew B w w' → wpList Try.prog ops Q rest (a.put o.dst (.slice A' (cs.length + 1) k')) w') :
    wpList Try.prog ops Q (o :: rest) a w := by
  obtain ⟨i0, hi0, hz0, hz1, hz2⟩ := info_parts info_chgC
  refine wpList_append_own w hgd s x 28 ho B 75 i0 _ 3 24 Try.underlying28 hi0 hz0 hz1 hz2 rfl (by omega) v cs.length _ hs hown ⟨gd, 0, none⟩ 1 1 [.int .i64 x0, .int .i64 x1, .int .i64 x2] hx rfl (fun j u hj => ?_) (fun u hu => by simp only [List.mem_cons, List.not_mem_nil, or_false] at hu; rcases hu with rfl | rfl | rfl <;> rfl) (by unfold maxLen; omega) (by omega) hB ?_
  · rw [addr_add', Nat.zero_add, hbx.cell j]
    rw [← hj]
    rcases j with _ | _ | _ | j <;> simp
  · intro v' w' hw' hg' _
    have hr : RowC w' B v' (cs ++ [(x0, x1, x2)]) := by
      unfold RowC
      rw [cV_snoc, List.length_append]
      exact hw'
    obtain ⟨A', k', rfl, _⟩ := hr.sl
    rw [List.length_append] at hr ⊢
    refine hK A' k' w' hr ⟨fun b hb hbB => Below.grown hb hg' hb.size (fun k hk => Nat.le_trans hbB (World.ownsRow.lt hown k hk).1), fun g t xs ht hbg => hbg.grown hg' (hown.ne hbg ht), fun b M hm => ?_, hg'.size⟩
    have hlt := hm.lt
    have hne := hown.neM hm
    obtain ⟨es, clock, h1, h2⟩ := hm
    exact ⟨es, clock, (hg'.block b hlt hne).trans h1, h2⟩
end Go.Proofs.Ytjefjngheolmkaa
/- What segments put together are; contracts of the program's noteIn, risingChanges and mergedChanges. Conditions: the changes can be read; their blocks are blocks. -/
namespace Go.Proofs.Ytjefjngheolmkaa
set_option linter.unusedVariables false
set_option maxRecDepth 100000
open Go.RowKit

/-- A map with changes noted in it. -/
def noteM (M : Int → Option Chg) (cs : List Chg) : Int → Option Chg := fun k => cs.foldl (fun o c => if c.1 = k then some c else o) (M k)
/-- .. put together: what is new last, and was old first. -/
def mgM (M : Int → Option Chg) (cs : List Chg) : Int → Option Chg := fun k => cs.foldl (fun o c => if c.1 = k then some (c.1, c.2.1, (o.getD c).2.2) else o) (M k)
def noM : Int → Option Chg := fun _ => none
def risM (M : Int → Option Chg) (k : Nat) : List Chg := (List.range k).filterMap fun (j : Nat) => M (j : Int)
def mrgC (l1 l2 : List Chg) : List Chg := risM (mgM (noteM noM l1) l2) 8
theorem noteM_succ (M : Int → Option Chg) (cs : List Chg) {k : Nat} (hk : k < cs.length) : noteM M (cs.take (k + 1)) = fun x => if x = (cs.getD k chZ).1 then some (cs.getD k chZ) else noteM M (cs.take k) x := by
  funext x
  unfold noteM
  rw [List.take_succ_eq_append_getElem hk, List.foldl_append, List.getD_eq_getElem?_getD, List.getElem?_eq_getElem hk]
  show (if cs[k].1 = x then _ else _) = if x = cs[k].1 then _ else _
  by_cases h : cs[k].1 = x
  · rw [if_pos h, if_pos h.symm]; rfl
  · rw [if_neg h, if_neg (fun e => h e.symm)]
theorem mgM_succ (M : Int → Option Chg) (cs : List Chg) {k : Nat} (hk : k < cs.length) : mgM M (cs.take (k + 1)) = fun x => if x = (cs.getD k chZ).1 then some ((cs.getD k chZ).1, (cs.getD k chZ).2.1, ((mgM M (cs.take k) (cs.getD k chZ).1).getD (cs.getD k chZ)).2.2) else mgM M (cs.take k) x := by
  funext x
  unfold mgM
  rw [List.take_succ_eq_append_getElem hk, List.foldl_append, List.getD_eq_getElem?_getD, List.getElem?_eq_getElem hk]
  show (if cs[k].1 = x then _ else _) = if x = cs[k].1 then _ else _
  by_cases h : cs[k].1 = x
  · subst h; rw [if_pos rfl, if_pos rfl]; rfl
  · rw [if_neg h, if_neg (fun e => h e.symm)]
theorem risM_succ (M : Int → Option Chg) (k : Nat) : risM M (k + 1) = risM M k ++ (M (k : Int)).toList := by
  unfold risM
  rw [List.range_succ, List.filterMap_append]
  cases h : M (k : Int) <;> simp [h]
theorem risM_len (M : Int → Option Chg) (k : Nat) : (risM M k).length ≤ k := by
  unfold risM
  exact Nat.le_trans (List.length_filterMap_le _ _) (by simp)
theorem wf_small {q : Int} (h0 : 0 ≤ q) (h1 : q ≤ 7) : (Lit.int .i64 q).wf = true := by
  obtain ⟨n, rfl⟩ : ∃ n : Nat, q = n := ⟨q.toNat, by omega⟩
  have : n = 0 ∨ n = 1 ∨ n = 2 ∨ n = 3 ∨ n = 4 ∨ n = 5 ∨ n = 6 ∨ n = 7 := by omega
  rcases this with rfl | rfl | rfl | rfl | rfl | rfl | rfl | rfl <;> decide
/-- The changes of a row lie ahead of a block. -/
theorem Chs.rg {w w' : World} {B lo hi : Nat} {A : Option Addr} {cs : List Chg} (h : Chs w B A cs) (hr : Rg lo hi w w') (hB : B ≤ lo) (hl : lo ≤ w.heap.size) : Chs w' B A cs := h.below (hr.below hl) hB
theorem Rg.alloc {lo hi : Nat} {a w : World} (h : Rg lo hi a w) (o : Obj) : Rg lo hi a (w.alloc o) := h.trans (Rg.of_nx ((Nx.refl w).alloc o))

set_option maxRecDepth 100000 in
set_option maxHeartbeats 2000000 in
theorem noteIn_c (f t m : Int) (A : Option Addr) (c B b : Nat) (cs : List Chg) (M : Int → Option Chg) (w : World) (h : Chs w B A cs) (hm : MapC w b M) (hB : B ≤ b) (hok : chsB cs = true) :
    Calls Try.prog 85 #[.agg #[.int .i64 f, .int .i64 t, .int .i64 m, .slice A cs.length c], .map (some b)] w fun e w' => e = .returned (.tuple #[]) ∧ MapC w' b (noteM M cs) ∧ Rg b (b + 1) w w' := by
  have hl8 := chsB_len hok
  have hto := chsB_to hok
  have hbw := hm.lt
  clear hok
  go_enter Try.func85, Try.ntmps85
  go_wp2_with fail
  have hm0 := hm.alloc (.cells #[.int .i64 f, .int .i64 t, .int .i64 m, .slice A cs.length c] 30)
  have hr0 : Rg b (b + 1) w (w.alloc (.cells #[.int .i64 f, .int .i64 t, .int .i64 m, .slice A cs.length c] 30)) := Rg.of_nx ((Nx.refl w).alloc _)
  generalize w.alloc (.cells #[.int .i64 f, .int .i64 t, .int .i64 m, .slice A cs.length c] 30) = W at *
  go_loopw [9] (fun i wr => ∃ k : Nat, k ≤ cs.length ∧ i = .int .i64 k ∧ MapC wr b (noteM M (cs.take k)) ∧ Rg b (b + 1) w wr) (fun i _ => cs.length - (intOf i).toNat)
  case atStart => exact ⟨0, Nat.zero_le _, rfl, hm0, hr0⟩
  case round =>
    obtain ⟨k, hk, rfl, hmr, hrg⟩ := hrel
    clear hm0 hr0
    by_cases hlt : k < cs.length
    · obtain ⟨b', off, rfl, hb, k0, k1, k2⟩ := (h.rg hrg hB (Nat.le_of_lt hbw)).at_ hlt
      obtain ⟨hr0, hr1⟩ := hto.rise k hlt
      have HS := Lib.hid (noteM_succ M cs hlt)
      obtain ⟨⟨q0, q1, q2⟩, Hq⟩ : ∃ q, Hid (cs.getD k chZ = q) := ⟨_, rfl⟩
      rw [Hq.out] at k0 k1 k2 hr0 hr1
      have hwf := wf_small (q := q0) (by simp only at hr0; omega) hr1
      have hma := hmr.alloc (.cells #[.int .i64 q0, .int .i64 q1, .int .i64 q2] 75)
      go_wp2_with (at_mapUpdate; refine wpList_put rfl _ _ _ rfl b _ q0 (q0, q1, q2) rfl hma rfl rfl hwf ?_)
      intro w1 hm1 hr2
      go_wp2
      go_roundw
      case rel => exact ⟨k + 1, by omega, by go_num, by rw [HS.out, Hq.out]; exact hm1, (hrg.alloc _).trans hr2⟩
      case measure => simp [intOf]; omega
    · obtain rfl : k = cs.length := by omega
      rw [List.take_length] at hmr
      go_wp2
      exact bodyPost_end (v := .tuple #[]) (by simp [results, Try.results85, go_sem]) rfl ⟨rfl, hmr, hrg⟩

def RetCg (w : World) (cs : List Chg) (e : Ending) (w' : World) : Prop := ∃ (A : Option Addr) (c : Nat), e = .returned (.slice A cs.length c) ∧ Sl w' w.heap.size A 75 (cs.length * 3) (chAt cs) ∧ Nx w w'
set_option maxRecDepth 100000 in
set_option maxHeartbeats 2000000 in
theorem risingChanges_c (b : Nat) (M : Int → Option Chg) (w : World) (hm : MapC w b M) :
    Calls Try.prog 114 #[.map (some b)] w (RetCg w (risM M 8)) := by
  have hbw := hm.lt
  go_enter Try.func114, Try.ntmps114
  go_wp2_with fail
  go_loopw [3, 4, 7] (fun v _ i wr => ∃ k : Nat, k ≤ 8 ∧ i = .int .i64 k ∧ (∃ u, u = v ∧ RowC wr w.heap.size u (risM M k)) ∧ Nx w wr) (fun _ _ i _ => 8 - (intOf i).toNat)
  case atStart => exact ⟨0, by omega, rfl, ⟨_, rfl, RowC.nil _ _⟩, Nx.refl _⟩
  case round =>
    obtain ⟨k, hk, rfl, ⟨u, rfl, hrow⟩, hnx⟩ := hrel
    by_cases hlt : k < 8
    · have hmr := hm.nx hnx
      have hwf := wf_small (q := (k : Int)) (by omega) (by omega)
      have HS := Lib.hid (risM_succ M k)
      have hlk := hmr.look hwf
      have hlen := risM_len M k
      cases hMk : M (k : Int) with
      | none =>
        rw [hMk] at hlk HS
        have hlk' : (Instr.lookup 105 (.map (some b)) (.int .i64 (k : Int)) true).run Try.prog wr = .ok (.tuple #[.agg #[.int .i64 0, .int .i64 0, .int .i64 0], .bool false]) wr := hlk
        have HM := Lib.hid hMk
        clear hlk hMk
        go_wp2
        go_roundw
        case rel => exact ⟨k + 1, by omega, by go_num, ⟨_, rfl, by rw [HS.out]; simpa using hrow.nx ((Nx.refl wr).alloc _)⟩, hnx.alloc _⟩
        case measure => simp [intOf]; omega
      | some q =>
        obtain ⟨q0, q1, q2⟩ := q
        rw [hMk] at hlk HS
        have hlk' : (Instr.lookup 105 (.map (some b)) (.int .i64 (k : Int)) true).run Try.prog wr = .ok (.tuple #[.agg #[.int .i64 q0, .int .i64 q1, .int .i64 q2], .bool true]) wr := hlk
        have HM := Lib.hid hMk
        clear hlk hMk
        have hx1 := ((Nx.refl wr).alloc (.cells #[.int .i64 q0, .int .i64 q1, .int .i64 q2] 75)).alloc (.cells #[.int .i64 q0, .int .i64 q1, .int .i64 q2] 75)
        have hrow1 := hrow.nx hx1
        have hbx := Box.new (wr.alloc (.cells #[.int .i64 q0, .int .i64 q1, .int .i64 q2] 75)) 75 #[.int .i64 q0, .int .i64 q1, .int .i64 q2]
        simp only [World.size_alloc] at hbx
        have HR := Lib.hid hrow1
        have HB := Lib.hid hbx
        have HX := Lib.hid hx1
        have HN := Lib.hid hnx
        clear hrow1 hbx hx1 hrow
        go_wp2_with (at_builtin; refine wpList_addC rfl _ _ rfl w.heap.size (wr.heap.size + 1) _ (risM M k) q0 q1 q2 rfl rfl HR.out HB.out (by omega) (Nat.le_trans hnx.size HX.out.size) ?_)
        intro A' k' w2 hrow2 hgr
        go_wp2
        go_roundw
        case rel => exact ⟨k + 1, by omega, by go_num, ⟨_, rfl, by rw [HS.out]; exact hrow2⟩, hgr.nx _ (HN.out.trans HX.out) (Nat.le_refl _)⟩
        case measure => simp [intOf]; omega
    · obtain rfl : k = 8 := by omega
      obtain ⟨A9, c9, rfl, hS⟩ := hrow.sl
      go_wp2
      go_ret
      exact ⟨A9, c9, rfl, hS, hnx⟩

def gV (A : Option Addr) (f t m : Int) (n c : Nat) : Array Value := #[.int .i64 f, .int .i64 t, .int .i64 m, .slice A n c]
set_option maxRecDepth 100000 in
set_option maxHeartbeats 4000000 in
theorem mergedChanges_c (f t m : Int) (A : Option Addr) (c : Nat) (l1 : List Chg) (f2 t2 m2 : Int) (A2 : Option Addr) (c2 : Nat) (l2 : List Chg) (B : Nat) (w : World) (h1 : Chs w B A l1) (h2 : Chs w B A2 l2) (hB : B ≤ w.heap.size) (hok1 : chsB l1 = true) (hok2 : chsB l2 = true) :
    Calls Try.prog 87 #[.agg #[.int .i64 f, .int .i64 t, .int .i64 m, .slice A l1.length c], .agg #[.int .i64 f2, .int .i64 t2, .int .i64 m2, .slice A2 l2.length c2]] w (RetCg w (mrgC l1 l2)) := by
  have hl1 := chsB_len hok1
  have hl8 := chsB_len hok2
  have hto := chsB_to hok2
  have hmm := @run_makeMap Try.prog
  have b1 := ((Box.new w 30 #[.int .i64 f, .int .i64 t, .int .i64 m, .slice A l1.length c]).alloc (.cells #[.int .i64 f2, .int .i64 t2, .int .i64 m2, .slice A2 l2.length c2] 30)).alloc (.map #[] 0)
  have b2 := (Box.new (w.alloc (.cells #[.int .i64 f, .int .i64 t, .int .i64 m, .slice A l1.length c] 30)) 30 #[.int .i64 f2, .int .i64 t2, .int .i64 m2, .slice A2 l2.length c2]).alloc (.map #[] 0)
  have hm0 := MapC.made ((w.alloc (.cells #[.int .i64 f, .int .i64 t, .int .i64 m, .slice A l1.length c] 30)).alloc (.cells #[.int .i64 f2, .int .i64 t2, .int .i64 m2, .slice A2 l2.length c2] 30))
  have hx0 := (((Nx.refl w).alloc (.cells #[.int .i64 f, .int .i64 t, .int .i64 m, .slice A l1.length c] 30)).alloc (.cells #[.int .i64 f2, .int .i64 t2, .int .i64 m2, .slice A2 l2.length c2] 30)).alloc (.map #[] 0)
  simp only [World.size_alloc] at b2 hm0
  go_enter Try.func87, Try.ntmps87
  go_wp2_with fail
  generalize (((w.alloc (.cells #[.int .i64 f, .int .i64 t, .int .i64 m, .slice A l1.length c] 30)).alloc (.cells #[.int .i64 f2, .int .i64 t2, .int .i64 m2, .slice A2 l2.length c2] 30)).alloc (.map #[] 0)) = W at *
  refine (noteIn_c f t m A c B (w.heap.size + 1 + 1) l1 _ _ (h1.below hx0 hB) hm0 (by omega) hok1).mono ?_
  rintro e w1 ⟨rfl, hm1, hr1⟩
  have hX1 := Rg.nx_of hx0 hr1 (by omega)
  have b21 := b2.rg hr1 (by omega)
  obtain ⟨k0, k1, k2, k3⟩ := b21.d4
  clear hmm b1 b2 hm0 hx0 hr1 b21
  go_wp2_with fail
  go_loopw [17] (fun i wr => ∃ k : Nat, k ≤ l2.length ∧ i = .int .i64 k ∧ MapC wr (w.heap.size + 1 + 1) (mgM (noteM noM l1) (l2.take k)) ∧ Nx w wr) (fun i _ => l2.length - (intOf i).toNat)
  case atStart => exact ⟨0, Nat.zero_le _, rfl, hm1, hX1⟩
  case round =>
    obtain ⟨k, hk, rfl, hmr, hnx⟩ := hrel
    clear hm1 hX1 k0 k1 k2 k3
    by_cases hlt : k < l2.length
    · obtain ⟨b', off, rfl, hb, k0, k1, k2⟩ := (h2.below hnx hB).at_ hlt
      obtain ⟨hr0, hr1⟩ := hto.rise k hlt
      have HS := Lib.hid (mgM_succ (noteM noM l1) l2 hlt)
      obtain ⟨⟨q0, q1, q2⟩, Hq⟩ : ∃ q, Hid (l2.getD k chZ = q) := ⟨_, rfl⟩
      rw [Hq.out] at k0 k1 k2 hr0 hr1
      have hwf := wf_small (q := q0) (by simp only at hr0; omega) hr1
      have hma := hmr.alloc (.cells #[.int .i64 q0, .int .i64 q1, .int .i64 q2] 75)
      have hlk := hma.look hwf
      cases hMk : mgM (noteM noM l1) (l2.take k) q0 with
      | none =>
        rw [hMk] at hlk
        have hlk' : (Instr.lookup 105 (.map (some (w.heap.size + 1 + 1))) (.int .i64 q0) true).run Try.prog (wr.alloc (.cells #[.int .i64 q0, .int .i64 q1, .int .i64 q2] 75)) = .ok (.tuple #[.agg #[.int .i64 0, .int .i64 0, .int .i64 0], .bool false]) (wr.alloc (.cells #[.int .i64 q0, .int .i64 q1, .int .i64 q2] 75)) := hlk
        have HM := Lib.hid hMk
        clear hlk hMk
        have hmb := hma.alloc (.cells #[.int .i64 0, .int .i64 0, .int .i64 0] 75)
        go_wp2_with (at_mapUpdate; refine wpList_put rfl _ _ _ rfl (w.heap.size + 1 + 1) _ q0 (q0, q1, q2) rfl hmb rfl rfl hwf ?_)
        intro w2 hm2 hr2
        go_wp2
        go_roundw
        case rel => exact ⟨k + 1, by omega, by go_num, by rw [HS.out, Hq.out, HM.out]; exact hm2, Rg.nx_of ((hnx.alloc _).alloc _) hr2 (by omega)⟩
        case measure => simp [intOf]; omega
      | some p =>
        obtain ⟨p0, p1, p2⟩ := p
        rw [hMk] at hlk
        have hlk' : (Instr.lookup 105 (.map (some (w.heap.size + 1 + 1))) (.int .i64 q0) true).run Try.prog (wr.alloc (.cells #[.int .i64 q0, .int .i64 q1, .int .i64 q2] 75)) = .ok (.tuple #[.agg #[.int .i64 p0, .int .i64 p1, .int .i64 p2], .bool true]) (wr.alloc (.cells #[.int .i64 q0, .int .i64 q1, .int .i64 q2] 75)) := hlk
        have HM := Lib.hid hMk
        clear hlk hMk
        have hmb := (hmr.alloc (.cells #[.int .i64 q0, .int .i64 q1, .int .i64 p2] 75)).alloc (.cells #[.int .i64 p0, .int .i64 p1, .int .i64 p2] 75)
        go_wp2_with (at_mapUpdate; refine wpList_put rfl _ _ _ rfl (w.heap.size + 1 + 1) _ q0 (q0, q1, p2) rfl hmb rfl rfl hwf ?_)
        intro w2 hm2 hr2
        go_wp2
        go_roundw
        case rel => exact ⟨k + 1, by omega, by go_num, by rw [HS.out, Hq.out, HM.out]; exact hm2, Rg.nx_of ((hnx.alloc _).alloc _) hr2 (by omega)⟩
        case measure => simp [intOf]; omega
    · obtain rfl : k = l2.length := by omega
      rw [List.take_length] at hmr
      go_wp2_with fail
      refine (risingChanges_c _ _ _ hmr).mono ?_
      rintro e w2 ⟨A9, c9, rfl, hS9, hx9⟩
      obtain ⟨r, Hr⟩ : ∃ r, Hid (mrgC l1 l2 = r) := ⟨_, rfl⟩
      have HS9 : Hid (Sl w2 wr.heap.size A9 75 (r.length * 3) (chAt r)) := by rw [← Hr.out]; exact hS9
      clear hS9
      rw [show risM (mgM (noteM noM l1) l2) 8 = r from Hr.out]
      go_wp2
      go_ret
      exact ⟨A9, c9, by rw [Hr.out]; rfl, by rw [Hr.out]; exact HS9.out.low hnx.size, hnx.trans hx9⟩
end Go.Proofs.Ytjefjngheolmkaa
/- Contract of MergeSegs, as the program has it. Conditions: the segments can be read, and have at most 1048576 changes. -/
namespace Go.Proofs.Ytjefjngheolmkaa
set_option linter.unusedVariables false
set_option maxRecDepth 100000
open Go.RowKit

def mgB (f t m : Int) (l1 : List Chg) (f2 t2 m2 : Int) (l2 : List Chg) : Bool := segB f t m l1 && segB f2 t2 m2 l2
def mgCd (f t m : Int) (l1 : List Chg) (f2 t2 m2 : Int) (l2 : List Chg) : Int := if mgB f t m l1 f2 t2 m2 l2 then (if t = f2 then 0 else 17) else 1
def mgSg (f t m : Int) (l1 : List Chg) (f2 t2 m2 : Int) (l2 : List Chg) : Sg4 := if mgB f t m l1 f2 t2 m2 l2 && decide (t = f2) then (f, t2, m2, mrgC l1 l2) else zSg
theorem mg_bad {f t m : Int} {l1 : List Chg} {f2 t2 m2 : Int} {l2 : List Chg} (h : mgB f t m l1 f2 t2 m2 l2 = false) : mgCd f t m l1 f2 t2 m2 l2 = 1 ∧ mgSg f t m l1 f2 t2 m2 l2 = zSg := by
  unfold mgCd mgSg; rw [h]; exact ⟨rfl, rfl⟩
theorem mg_gap {f t m : Int} {l1 : List Chg} {f2 t2 m2 : Int} {l2 : List Chg} (h : mgB f t m l1 f2 t2 m2 l2 = true) (hg : ¬ t = f2) : mgCd f t m l1 f2 t2 m2 l2 = 17 ∧ mgSg f t m l1 f2 t2 m2 l2 = zSg := by
  unfold mgCd mgSg; rw [h]; simp [hg]
theorem mg_yes {f t m : Int} {l1 : List Chg} {f2 t2 m2 : Int} {l2 : List Chg} (h : mgB f t m l1 f2 t2 m2 l2 = true) (hg : t = f2) : mgCd f t m l1 f2 t2 m2 l2 = 0 ∧ mgSg f t m l1 f2 t2 m2 l2 = (f, t2, m2, mrgC l1 l2) := by
  unfold mgCd mgSg; rw [h]; simp [hg]
theorem segB_chs {f t m : Int} {cs : List Chg} (h : segB f t m cs = true) : chsB cs = true := by
  unfold segB at h
  simp only [Bool.and_eq_true] at h
  exact h.2

set_option maxRecDepth 100000 in
set_option maxHeartbeats 8000000 in
theorem implMergeSegs_c (f t m : Int) (A : Option Addr) (c : Nat) (l1 : List Chg) (f2 t2 m2 : Int) (A2 : Option Addr) (c2 : Nat) (l2 : List Chg) (B : Nat) (w : World) (h1 : Chs w B A l1) (h2 : Chs w B A2 l2) (hB : B ≤ w.heap.size) (hn1 : l1.length ≤ 1048576) (hn2 : l2.length ≤ 1048576) :
    Calls Try.prog 42 #[.agg #[.int .i64 f, .int .i64 t, .int .i64 m, .slice A l1.length c], .agg #[.int .i64 f2, .int .i64 t2, .int .i64 m2, .slice A2 l2.length c2]] w (RetSC w (mgSg f t m l1 f2 t2 m2 l2) (mgCd f t m l1 f2 t2 m2 l2)) := by
  have bA0 := ((Box.new w 30 #[.int .i64 f, .int .i64 t, .int .i64 m, .slice A l1.length c]).alloc (.cells #[.int .i64 f2, .int .i64 t2, .int .i64 m2, .slice A2 l2.length c2] 30)).alloc (.cells #[.int .i64 0, .int .i64 0, .int .i64 0, .slice none 0 0] 30)
  have bB0 := (Box.new (w.alloc (.cells #[.int .i64 f, .int .i64 t, .int .i64 m, .slice A l1.length c] 30)) 30 #[.int .i64 f2, .int .i64 t2, .int .i64 m2, .slice A2 l2.length c2]).alloc (.cells #[.int .i64 0, .int .i64 0, .int .i64 0, .slice none 0 0] 30)
  have bR0 := Box.new ((w.alloc (.cells #[.int .i64 f, .int .i64 t, .int .i64 m, .slice A l1.length c] 30)).alloc (.cells #[.int .i64 f2, .int .i64 t2, .int .i64 m2, .slice A2 l2.length c2] 30)) 30 #[.int .i64 0, .int .i64 0, .int .i64 0, .slice none 0 0]
  have hx0 := (((Nx.refl w).alloc (.cells #[.int .i64 f, .int .i64 t, .int .i64 m, .slice A l1.length c] 30)).alloc (.cells #[.int .i64 f2, .int .i64 t2, .int .i64 m2, .slice A2 l2.length c2] 30)).alloc (.cells #[.int .i64 0, .int .i64 0, .int .i64 0, .slice none 0 0] 30)
  simp only [World.size_alloc] at bB0 bR0
  cases hs1 : segB f t m l1
  · have HS1 := Lib.hid hs1
    have HR := Lib.hid (mg_bad (f := f) (t := t) (m := m) (l1 := l1) (f2 := f2) (t2 := t2) (m2 := m2) (l2 := l2) (by unfold mgB; rw [hs1]; rfl))
    clear hs1
    go_enter Try.func42, Try.ntmps42
    go_wp2_with fail
    generalize ((w.alloc (.cells #[.int .i64 f, .int .i64 t, .int .i64 m, .slice A l1.length c] 30)).alloc (.cells #[.int .i64 f2, .int .i64 t2, .int .i64 m2, .slice A2 l2.length c2] 30)).alloc (.cells #[.int .i64 0, .int .i64 0, .int .i64 0, .slice none 0 0] 30) = W at *
    refine (segRight_c f t m A c B l1 _ (h1.below hx0 hB) (Nat.le_trans hB hx0.size) hn1).mono ?_
    rintro e w1 ⟨rfl, hx1⟩
    rw [HS1.out]
    have bR := bR0.nx hx1
    have hX := hx0.trans hx1
    obtain ⟨rc0, rc1, rc2, rc3⟩ := bR.d4
    have rf0 := bR.frozen 0
    have rf1 := bR.frozen 1
    have rf2 := bR.frozen 2
    have rf3 := bR.frozen 3
    have rlt := bR.lt
    go_wp2
    have rq := (put4_box bR (.int .i64 0) (.int .i64 0) (.int .i64 0) (.slice none 0 0))
    have hnf := (put4_nx (g := (w.heap.size + 1 + 1)) hX (by omega) (.int .i64 0) (.int .i64 0) (.int .i64 0) (.slice none 0 0))
    unfold put4 at rq hnf
    generalize ((((w1.setCell ⟨(w.heap.size + 1 + 1), 0, none⟩ (.int .i64 0)).setCell ⟨(w.heap.size + 1 + 1), 1, none⟩ (.int .i64 0)).setCell ⟨(w.heap.size + 1 + 1), 2, none⟩ (.int .i64 0)).setCell ⟨(w.heap.size + 1 + 1), 3, none⟩ (.slice none 0 0)) = Wf at *
    obtain ⟨rg0, rg1, rg2, rg3⟩ := rq.d4
    exact bodyPost_ret (v := .tuple #[.agg #[.int .i64 0, .int .i64 0, .int .i64 0, .slice none 0 0], .int .i64 1]) (by simp [results, Try.results42, go_sem, rg0, rg1, rg2, rg3]) rfl ⟨none, 0, by rw [HR.out.1, HR.out.2]; rfl, by rw [HR.out.2]; exact Sl.none_ _ _ _ _ _, hnf⟩
  have HS1 := Lib.hid hs1
  cases hs2 : segB f2 t2 m2 l2
  · have HS2 := Lib.hid hs2
    have HR := Lib.hid (mg_bad (f := f) (t := t) (m := m) (l1 := l1) (f2 := f2) (t2 := t2) (m2 := m2) (l2 := l2) (by unfold mgB; rw [hs1, hs2]; rfl))
    clear hs1 hs2
    go_enter Try.func42, Try.ntmps42
    go_wp2_with fail
    generalize ((w.alloc (.cells #[.int .i64 f, .int .i64 t, .int .i64 m, .slice A l1.length c] 30)).alloc (.cells #[.int .i64 f2, .int .i64 t2, .int .i64 m2, .slice A2 l2.length c2] 30)).alloc (.cells #[.int .i64 0, .int .i64 0, .int .i64 0, .slice none 0 0] 30) = W at *
    refine (segRight_c f t m A c B l1 _ (h1.below hx0 hB) (Nat.le_trans hB hx0.size) hn1).mono ?_
    rintro e w0 ⟨rfl, hx1⟩
    rw [HS1.out]
    have hX0 := hx0.trans hx1
    obtain ⟨k0, k1, k2, k3⟩ := (bB0.nx hx1).d4
    go_wp2_with fail
    refine (segRight_c f2 t2 m2 A2 c2 B l2 _ (h2.below hX0 hB) (Nat.le_trans hB hX0.size) hn2).mono ?_
    rintro e w1 ⟨rfl, hx2⟩
    rw [HS2.out]
    have bR := (bR0.nx hx1).nx hx2
    have hX := hX0.trans hx2
    clear k0 k1 k2 k3
    obtain ⟨rc0, rc1, rc2, rc3⟩ := bR.d4
    have rf0 := bR.frozen 0
    have rf1 := bR.frozen 1
    have rf2 := bR.frozen 2
    have rf3 := bR.frozen 3
    have rlt := bR.lt
    go_wp2
    have rq := (put4_box bR (.int .i64 0) (.int .i64 0) (.int .i64 0) (.slice none 0 0))
    have hnf := (put4_nx (g := (w.heap.size + 1 + 1)) hX (by omega) (.int .i64 0) (.int .i64 0) (.int .i64 0) (.slice none 0 0))
    unfold put4 at rq hnf
    generalize ((((w1.setCell ⟨(w.heap.size + 1 + 1), 0, none⟩ (.int .i64 0)).setCell ⟨(w.heap.size + 1 + 1), 1, none⟩ (.int .i64 0)).setCell ⟨(w.heap.size + 1 + 1), 2, none⟩ (.int .i64 0)).setCell ⟨(w.heap.size + 1 + 1), 3, none⟩ (.slice none 0 0)) = Wf at *
    obtain ⟨rg0, rg1, rg2, rg3⟩ := rq.d4
    exact bodyPost_ret (v := .tuple #[.agg #[.int .i64 0, .int .i64 0, .int .i64 0, .slice none 0 0], .int .i64 1]) (by simp [results, Try.results42, go_sem, rg0, rg1, rg2, rg3]) rfl ⟨none, 0, by rw [HR.out.1, HR.out.2]; rfl, by rw [HR.out.2]; exact Sl.none_ _ _ _ _ _, hnf⟩
  have HS2 := Lib.hid hs2
  have hmg : mgB f t m l1 f2 t2 m2 l2 = true := by unfold mgB; rw [hs1, hs2]; rfl
  clear hs1 hs2
  go_enter Try.func42, Try.ntmps42
  go_wp2_with fail
  generalize ((w.alloc (.cells #[.int .i64 f, .int .i64 t, .int .i64 m, .slice A l1.length c] 30)).alloc (.cells #[.int .i64 f2, .int .i64 t2, .int .i64 m2, .slice A2 l2.length c2] 30)).alloc (.cells #[.int .i64 0, .int .i64 0, .int .i64 0, .slice none 0 0] 30) = W at *
  refine (segRight_c f t m A c B l1 _ (h1.below hx0 hB) (Nat.le_trans hB hx0.size) hn1).mono ?_
  rintro e w0 ⟨rfl, hx1⟩
  rw [HS1.out]
  have hX0 := hx0.trans hx1
  obtain ⟨k0, k1, k2, k3⟩ := (bB0.nx hx1).d4
  go_wp2_with fail
  refine (segRight_c f2 t2 m2 A2 c2 B l2 _ (h2.below hX0 hB) (Nat.le_trans hB hX0.size) hn2).mono ?_
  rintro e w1 ⟨rfl, hx2⟩
  rw [HS2.out]
  have bA := (bA0.nx hx1).nx hx2
  have bB := (bB0.nx hx1).nx hx2
  have bR := (bR0.nx hx1).nx hx2
  have hX := hX0.trans hx2
  clear k0 k1 k2 k3 bA0 bB0 bR0 hx0 hx1 hx2 hX0
  obtain ⟨k0, k1, k2, k3⟩ := bA.d4
  obtain ⟨m0, m1, m2', m3⟩ := bB.d4
  by_cases hg : t = f2
  case neg =>
    have HR := Lib.hid (mg_gap hmg hg)
    have hd : (t != f2) = true := by simp [hg]
    clear hmg
    obtain ⟨rc0, rc1, rc2, rc3⟩ := bR.d4
    have rf0 := bR.frozen 0
    have rf1 := bR.frozen 1
    have rf2 := bR.frozen 2
    have rf3 := bR.frozen 3
    have rlt := bR.lt
    go_wp2
    have rq := (put4_box bR (.int .i64 0) (.int .i64 0) (.int .i64 0) (.slice none 0 0))
    have hnf := (put4_nx (g := (w.heap.size + 1 + 1)) hX (by omega) (.int .i64 0) (.int .i64 0) (.int .i64 0) (.slice none 0 0))
    unfold put4 at rq hnf
    generalize ((((w1.setCell ⟨(w.heap.size + 1 + 1), 0, none⟩ (.int .i64 0)).setCell ⟨(w.heap.size + 1 + 1), 1, none⟩ (.int .i64 0)).setCell ⟨(w.heap.size + 1 + 1), 2, none⟩ (.int .i64 0)).setCell ⟨(w.heap.size + 1 + 1), 3, none⟩ (.slice none 0 0)) = Wf at *
    obtain ⟨rg0, rg1, rg2, rg3⟩ := rq.d4
    exact bodyPost_ret (v := .tuple #[.agg #[.int .i64 0, .int .i64 0, .int .i64 0, .slice none 0 0], .int .i64 17]) (by simp [results, Try.results42, go_sem, rg0, rg1, rg2, rg3]) rfl ⟨none, 0, by rw [HR.out.1, HR.out.2]; rfl, by rw [HR.out.2]; exact Sl.none_ _ _ _ _ _, hnf⟩
  have HR := Lib.hid (mg_yes hmg hg)
  have hd : (t != f2) = false := by simp [hg]
  obtain ⟨r, Hr⟩ : ∃ r, Hid (mrgC l1 l2 = r) := ⟨_, rfl⟩
  rw [Hr.out] at HR
  have HG := Lib.hid hg
  clear hmg hg
  have bAd : Box w1.drew w.heap.size 30 #[.int .i64 f, .int .i64 t, .int .i64 m, .slice A l1.length c] := bA
  have bBd : Box w1.drew (w.heap.size + 1) 30 #[.int .i64 f2, .int .i64 t2, .int .i64 m2, .slice A2 l2.length c2] := bB
  have bRd : Box w1.drew (w.heap.size + 1 + 1) 30 #[.int .i64 0, .int .i64 0, .int .i64 0, .slice none 0 0] := bR
  go_wp2_with fail
  refine wp_region_lex [false, false, false, false, false, false, false, false, true, false, true, false] (fun w' => (w'.cell? ⟨w.heap.size, 0, none⟩ = some (.int .i64 f) ∧ w'.cell? ⟨w.heap.size, 1, none⟩ = some (.int .i64 t) ∧ w'.cell? ⟨w.heap.size, 2, none⟩ = some (.int .i64 m) ∧ w'.cell? ⟨w.heap.size, 3, none⟩ = some (.slice A l1.length c)) ∧ (w'.cell? ⟨(w.heap.size + 1), 0, none⟩ = some (.int .i64 f2) ∧ w'.cell? ⟨(w.heap.size + 1), 1, none⟩ = some (.int .i64 t2) ∧ w'.cell? ⟨(w.heap.size + 1), 2, none⟩ = some (.int .i64 m2) ∧ w'.cell? ⟨(w.heap.size + 1), 3, none⟩ = some (.slice A2 l2.length c2))) (by kernel_rfl) (by kernel_rfl) rfl (by kernel_rfl) (fun _ _ d _ _ h => by cases d <;> exact h) (by exact ⟨bAd.d4, bBd.d4⟩) ?_
  repeat (first | (refine HL.take (v := ?_) (by rfl) ?_ ?_; rotate_left; (· (intro w hSw; (try dsimp only at hSw); go_simp; try with_reducible rfl)); (try simp only [Act.put, List.setIfInBounds_toArray, List.set_cons_zero, List.set_cons_succ])) | (refine HL.skip (by rfl) ?_; (try simp only [Act.put, List.setIfInBounds_toArray, List.set_cons_zero, List.set_cons_succ])))
  refine HL.call (by rfl) (fun K hK => ?_)
  go_simp
  refine (mergedChanges_c f t m A c l1 f2 t2 m2 A2 c2 l2 B _ (h1.below hX.drew hB) (h2.below hX.drew hB) (Nat.le_trans hB hX.drew.size) (segB_chs HS1.out) (segB_chs HS2.out)).mono ?_; intro e w3 hR9; unfold RetCg at hR9; rw [Hr.out] at hR9; obtain ⟨A9, c9, rfl, hS9, hx9⟩ := hR9; have bA9 := bAd.nx hx9; have bB9 := bBd.nx hx9; have bR9 := bRd.nx hx9; have hX9 := hX.drew.trans hx9; have zl : w.heap.size + 1 + 1 < w1.drew.heap.size := bRd.lt
  go_wp2_with fail
  refine hK.out _ _ (by exact ⟨bA9.d4, bB9.d4⟩) ?_
  clear hK K
  try simp only [Act.put, List.setIfInBounds_toArray, List.set_cons_zero, List.set_cons_succ]
  repeat (first | (refine HL.take (v := ?_) (by rfl) ?_ ?_; rotate_left; (· (intro w hSw; (try dsimp only at hSw); go_simp; try with_reducible rfl)); (try simp only [Act.put, List.setIfInBounds_toArray, List.set_cons_zero, List.set_cons_succ])) | (refine HL.skip (by rfl) ?_; (try simp only [Act.put, List.setIfInBounds_toArray, List.set_cons_zero, List.set_cons_succ])))
  obtain ⟨rc0, rc1, rc2, rc3⟩ := bR9.d4
  have rf0 := bR9.frozen 0
  have rf1 := bR9.frozen 1
  have rf2 := bR9.frozen 2
  have rf3 := bR9.frozen 3
  have rlt := bR9.lt
  refine HL.call (by rfl) (fun K hK => ?_)
  go_simp
  refine hK.out _ _ (by exact ⟨((((bA9.far (p := ⟨(w.heap.size + 1 + 1), 0, none⟩) (by simp <;> omega) (.int .i64 f)).far (p := ⟨(w.heap.size + 1 + 1), 1, none⟩) (by simp <;> omega) (.int .i64 t2)).far (p := ⟨(w.heap.size + 1 + 1), 2, none⟩) (by simp <;> omega) (.int .i64 m2)).far (p := ⟨(w.heap.size + 1 + 1), 3, none⟩) (by simp <;> omega) (.slice A9 r.length c9)).d4, ((((bB9.far (p := ⟨(w.heap.size + 1 + 1), 0, none⟩) (by simp <;> omega) (.int .i64 f)).far (p := ⟨(w.heap.size + 1 + 1), 1, none⟩) (by simp <;> omega) (.int .i64 t2)).far (p := ⟨(w.heap.size + 1 + 1), 2, none⟩) (by simp <;> omega) (.int .i64 m2)).far (p := ⟨(w.heap.size + 1 + 1), 3, none⟩) (by simp <;> omega) (.slice A9 r.length c9)).d4⟩) ?_
  clear hK K
  try simp only [Act.put, List.setIfInBounds_toArray, List.set_cons_zero, List.set_cons_succ]
  repeat (first | (refine HL.take (v := ?_) (by rfl) ?_ ?_; rotate_left; (· (intro w hSw; (try dsimp only at hSw); go_simp; try with_reducible rfl)); (try simp only [Act.put, List.setIfInBounds_toArray, List.set_cons_zero, List.set_cons_succ])) | (refine HL.skip (by rfl) ?_; (try simp only [Act.put, List.setIfInBounds_toArray, List.set_cons_zero, List.set_cons_succ])))
  refine HL.done ?_
  go_wp2
  have rq := (put4_box bR9 (.int .i64 f) (.int .i64 t2) (.int .i64 m2) (.slice A9 r.length c9))
  have hnf := (put4_nx (g := (w.heap.size + 1 + 1)) hX9 (by omega) (.int .i64 f) (.int .i64 t2) (.int .i64 m2) (.slice A9 r.length c9))
  unfold put4 at rq hnf
  have hSf := (((((hS9.low (lo' := w.heap.size + 1 + 1 + 1) (by omega)).far (p := ⟨(w.heap.size + 1 + 1), 0, none⟩) (by simp) (.int .i64 f)).far (p := ⟨(w.heap.size + 1 + 1), 1, none⟩) (by simp) (.int .i64 t2)).far (p := ⟨(w.heap.size + 1 + 1), 2, none⟩) (by simp) (.int .i64 m2)).far (p := ⟨(w.heap.size + 1 + 1), 3, none⟩) (by simp) (.slice A9 r.length c9))
  replace hSf := hSf.low (lo' := w.heap.size) (by omega)
  generalize ((((w3.setCell ⟨(w.heap.size + 1 + 1), 0, none⟩ (.int .i64 f)).setCell ⟨(w.heap.size + 1 + 1), 1, none⟩ (.int .i64 t2)).setCell ⟨(w.heap.size + 1 + 1), 2, none⟩ (.int .i64 m2)).setCell ⟨(w.heap.size + 1 + 1), 3, none⟩ (.slice A9 r.length c9)) = Wf at *
  obtain ⟨rg0, rg1, rg2, rg3⟩ := rq.d4
  exact bodyPost_ret (v := .tuple #[.agg #[.int .i64 f, .int .i64 t2, .int .i64 m2, .slice A9 r.length c9], .int .i64 0]) (by simp [results, Try.results42, go_sem, rg0, rg1, rg2, rg3]) rfl ⟨A9, c9, by rw [HR.out.1, HR.out.2], by rw [HR.out.2]; exact hSf, hnf⟩
end Go.Proofs.Ytjefjngheolmkaa
/- Contract of the model's l03Merge. Conditions: the changes can be read; their blocks are blocks. -/
namespace Go.Proofs.Ytjefjngheolmkaa
set_option linter.unusedVariables false
set_option maxRecDepth 100000
open Go.RowKit

/-- How the model holds what may not be there. -/
def enc : Option Chg → Chg
  | none => (-1, 0, 0)
  | some c => c
def KeyOK (M : Int → Option Chg) : Prop := ∀ k p, M k = some p → p.1 = k
theorem noM_key : KeyOK noM := fun k p h => by cases h
theorem noteM_key {M : Int → Option Chg} (hM : KeyOK M) : ∀ cs, KeyOK (noteM M cs) := by
  intro cs
  induction cs generalizing M with
  | nil => exact hM
  | cons c cs ih =>
    have h2 : KeyOK (fun k => if c.1 = k then some c else M k) := fun k p h => by
      by_cases e : c.1 = k
      · simp only [e, if_true] at h; injection h with h; subst h; exact e
      · simp only [e, if_false] at h; exact hM k p h
    exact ih h2
theorem mgM_key {M : Int → Option Chg} (hM : KeyOK M) : ∀ cs, KeyOK (mgM M cs) := by
  intro cs
  induction cs generalizing M with
  | nil => exact hM
  | cons c cs ih =>
    have h2 : KeyOK (fun k => if c.1 = k then some (c.1, c.2.1, ((M k).getD c).2.2) else M k) := fun k p h => by
      by_cases e : c.1 = k
      · simp only [e, if_true] at h; injection h with h; subst h; rfl
      · simp only [e, if_false] at h; exact hM k p h
    exact ih h2
theorem enc_note {M : Int → Option Chg} {cs : List Chg} {i : Nat} (hi : i < cs.length) (k : Int) {q : Chg} (hq : cs.getD i chZ = q) : enc (noteM M (cs.take (i + 1)) k) = if q.1 = k then q else enc (noteM M (cs.take i) k) := by
  rw [noteM_succ M cs hi, hq]
  by_cases e : q.1 = k
  · simp [e, enc]
  · have e' : ¬ k = q.1 := fun h => e h.symm
    simp [e, e']
theorem enc_mg {M : Int → Option Chg} {cs : List Chg} {i : Nat} (hi : i < cs.length) (k : Int) {q : Chg} (hq : cs.getD i chZ = q) : enc (mgM M (cs.take (i + 1)) k) = if q.1 = k then (q.1, q.2.1, ((mgM M (cs.take i) k).getD q).2.2) else enc (mgM M (cs.take i) k) := by
  rw [mgM_succ M cs hi, hq]
  by_cases e : q.1 = k
  · subst e; simp [enc]
  · have e' : ¬ k = q.1 := fun h => e h.symm
    simp [e, e']

set_option maxRecDepth 100000 in
set_option maxHeartbeats 8000000 in
theorem l03Merge_c (f t m : Int) (A : Option Addr) (c : Nat) (l1 : List Chg) (f2 t2 m2 : Int) (A2 : Option Addr) (c2 : Nat) (l2 : List Chg) (B : Nat) (w : World) (h1 : Chs w B A l1) (h2 : Chs w B A2 l2) (hB : B ≤ w.heap.size) (hok1 : chsB l1 = true) (hok2 : chsB l2 = true) :
    Calls Try.prog 88 #[.agg #[.int .i64 f, .int .i64 t, .int .i64 m, .slice A l1.length c], .agg #[.int .i64 f2, .int .i64 t2, .int .i64 m2, .slice A2 l2.length c2]] w (RetG w f t2 m2 (mrgC l1 l2)) := by
  have hl1 := chsB_len hok1
  have hl2 := chsB_len hok2
  have bA0 := ((((Box.new w 30 #[.int .i64 f, .int .i64 t, .int .i64 m, .slice A l1.length c]).alloc (.cells #[.int .i64 f2, .int .i64 t2, .int .i64 m2, .slice A2 l2.length c2] 30)).alloc (.cells #[.int .i64 0, .int .i64 0, .int .i64 0, .slice none 0 0] 30)).alloc (.cells #[] 75)).alloc (.cells #[.int .i64 f, .int .i64 t2, .int .i64 m2, .slice (some ⟨w.heap.size + 1 + 1 + 1, 0, none⟩) 0 0] 30)
  have bB0 := (((Box.new (w.alloc (.cells #[.int .i64 f, .int .i64 t, .int .i64 m, .slice A l1.length c] 30)) 30 #[.int .i64 f2, .int .i64 t2, .int .i64 m2, .slice A2 l2.length c2]).alloc (.cells #[.int .i64 0, .int .i64 0, .int .i64 0, .slice none 0 0] 30)).alloc (.cells #[] 75)).alloc (.cells #[.int .i64 f, .int .i64 t2, .int .i64 m2, .slice (some ⟨w.heap.size + 1 + 1 + 1, 0, none⟩) 0 0] 30)
  have bR0 := ((Box.new ((w.alloc (.cells #[.int .i64 f, .int .i64 t, .int .i64 m, .slice A l1.length c] 30)).alloc (.cells #[.int .i64 f2, .int .i64 t2, .int .i64 m2, .slice A2 l2.length c2] 30)) 30 #[.int .i64 0, .int .i64 0, .int .i64 0, .slice none 0 0]).alloc (.cells #[] 75)).alloc (.cells #[.int .i64 f, .int .i64 t2, .int .i64 m2, .slice (some ⟨w.heap.size + 1 + 1 + 1, 0, none⟩) 0 0] 30)
  have hw0 := (RowC.new (((w.alloc (.cells #[.int .i64 f, .int .i64 t, .int .i64 m, .slice A l1.length c] 30)).alloc (.cells #[.int .i64 f2, .int .i64 t2, .int .i64 m2, .slice A2 l2.length c2] 30)).alloc (.cells #[.int .i64 0, .int .i64 0, .int .i64 0, .slice none 0 0] 30)) (Nat.le_refl _)).nx ((Nx.refl _).alloc (.cells #[.int .i64 f, .int .i64 t2, .int .i64 m2, .slice (some ⟨w.heap.size + 1 + 1 + 1, 0, none⟩) 0 0] 30))
  have bE0 := Box.new ((((w.alloc (.cells #[.int .i64 f, .int .i64 t, .int .i64 m, .slice A l1.length c] 30)).alloc (.cells #[.int .i64 f2, .int .i64 t2, .int .i64 m2, .slice A2 l2.length c2] 30)).alloc (.cells #[.int .i64 0, .int .i64 0, .int .i64 0, .slice none 0 0] 30)).alloc (.cells #[] 75)) 30 #[.int .i64 f, .int .i64 t2, .int .i64 m2, .slice (some ⟨w.heap.size + 1 + 1 + 1, 0, none⟩) 0 0]
  have hx0 := (((((Nx.refl w).alloc (.cells #[.int .i64 f, .int .i64 t, .int .i64 m, .slice A l1.length c] 30)).alloc (.cells #[.int .i64 f2, .int .i64 t2, .int .i64 m2, .slice A2 l2.length c2] 30)).alloc (.cells #[.int .i64 0, .int .i64 0, .int .i64 0, .slice none 0 0] 30)).alloc (.cells #[] 75)).alloc (.cells #[.int .i64 f, .int .i64 t2, .int .i64 m2, .slice (some ⟨w.heap.size + 1 + 1 + 1, 0, none⟩) 0 0] 30)
  simp only [World.size_alloc] at bB0 bR0 hw0 bE0
  go_enter Try.func88, Try.ntmps88
  go_wp2_with fail
  generalize ((((w.alloc (.cells #[.int .i64 f, .int .i64 t, .int .i64 m, .slice A l1.length c] 30)).alloc (.cells #[.int .i64 f2, .int .i64 t2, .int .i64 m2, .slice A2 l2.length c2] 30)).alloc (.cells #[.int .i64 0, .int .i64 0, .int .i64 0, .slice none 0 0] 30)).alloc (.cells #[] 75)).alloc (.cells #[.int .i64 f, .int .i64 t2, .int .i64 m2, .slice (some ⟨w.heap.size + 1 + 1 + 1, 0, none⟩) 0 0] 30) = W at *
  obtain ⟨M, HM⟩ : ∃ M, Hid (mgM (noteM noM l1) l2 = M) := ⟨_, rfl⟩
  go_loopw [6] (fun i wr => ∃ k : Nat, k ≤ 8 ∧ i = .int .i64 k ∧ (∃ v, Box wr (w.heap.size + 1 + 1 + 1 + 1) 30 #[.int .i64 f, .int .i64 t2, .int .i64 m2, v] ∧ RowC wr (w.heap.size + 1 + 1 + 1) v (risM M k)) ∧ Box wr w.heap.size 30 #[.int .i64 f, .int .i64 t, .int .i64 m, .slice A l1.length c] ∧ Box wr (w.heap.size + 1) 30 #[.int .i64 f2, .int .i64 t2, .int .i64 m2, .slice A2 l2.length c2] ∧ Box wr (w.heap.size + 1 + 1) 30 #[.int .i64 0, .int .i64 0, .int .i64 0, .slice none 0 0] ∧ Nx w wr) (fun i _ => 8 - (intOf i).toNat)
  case atStart => exact ⟨0, by omega, rfl, ⟨_, bE0, hw0⟩, bA0, bB0, bR0, hx0⟩
  case round =>
    obtain ⟨k, hk, rfl, ⟨v, bE, hrow⟩, bA, bB, bR, hnx⟩ := hrel
    clear bE0 hw0 bA0 bB0 bR0 hx0
    by_cases hk8 : k < 8
    case neg =>
      obtain rfl : k = 8 := by omega
      obtain ⟨A9, c9, rfl, hS9⟩ := hrow.sl
      obtain ⟨e0, e1, e2, e3⟩ := bE.d4
      have HX := Lib.hid hnx
      obtain ⟨r, Hr⟩ : ∃ r, Hid (mrgC l1 l2 = r) := ⟨_, rfl⟩
      have hrr : risM M 8 = r := by rw [← Hr.out, ← HM.out]; rfl
      rw [hrr] at hS9 e3
      clear hrr
      obtain ⟨rc0, rc1, rc2, rc3⟩ := bR.d4
      have rf0 := bR.frozen 0
      have rf1 := bR.frozen 1
      have rf2 := bR.frozen 2
      have rf3 := bR.frozen 3
      have rlt := bR.lt
      go_wp2
      have rq := (put4_box bR (.int .i64 f) (.int .i64 t2) (.int .i64 m2) (.slice A9 r.length c9))
      have hnf := (put4_nx (g := (w.heap.size + 1 + 1)) HX.out (by omega) (.int .i64 f) (.int .i64 t2) (.int .i64 m2) (.slice A9 r.length c9))
      unfold put4 at rq hnf
      have hSf := (((((hS9.low (lo' := w.heap.size + 1 + 1 + 1) (Nat.le_refl _)).far (p := ⟨(w.heap.size + 1 + 1), 0, none⟩) (by simp) (.int .i64 f)).far (p := ⟨(w.heap.size + 1 + 1), 1, none⟩) (by simp) (.int .i64 t2)).far (p := ⟨(w.heap.size + 1 + 1), 2, none⟩) (by simp) (.int .i64 m2)).far (p := ⟨(w.heap.size + 1 + 1), 3, none⟩) (by simp) (.slice A9 r.length c9))
      replace hSf := hSf.low (lo' := w.heap.size) (by omega)
      generalize ((((wr.setCell ⟨(w.heap.size + 1 + 1), 0, none⟩ (.int .i64 f)).setCell ⟨(w.heap.size + 1 + 1), 1, none⟩ (.int .i64 t2)).setCell ⟨(w.heap.size + 1 + 1), 2, none⟩ (.int .i64 m2)).setCell ⟨(w.heap.size + 1 + 1), 3, none⟩ (.slice A9 r.length c9)) = Wf at *
      obtain ⟨rg0, rg1, rg2, rg3⟩ := rq.d4
      exact bodyPost_ret (v := .agg #[.int .i64 f, .int .i64 t2, .int .i64 m2, .slice A9 r.length c9]) (by simp [results, Try.results88, go_sem, rg0, rg1, rg2, rg3]) rfl ⟨A9, c9, by rw [Hr.out], by rw [Hr.out]; exact hSf, hnf⟩
    rename World => wz
    have hkd : decide ((k : Int) < 8) = true := by simp; omega
    go_wp2_with fail
    have hxo := (Nx.refl wz).alloc (.cells #[.int .i64 (-1), .int .i64 0, .int .i64 0] 75)
    have bO := Box.new wz 75 #[.int .i64 (-1), .int .i64 0, .int .i64 0]
    generalize wz.alloc (.cells #[.int .i64 (-1), .int .i64 0, .int .i64 0] 75) = Wo at *
    go_loopw [8] (fun i ws => ∃ (j : Nat) (p0 p1 p2 : Int), j ≤ l1.length ∧ i = .int .i64 j ∧ Hid (enc (noteM noM (l1.take j) (k : Int)) = (p0, p1, p2)) ∧ Box ws wz.heap.size 75 #[.int .i64 p0, .int .i64 p1, .int .i64 p2] ∧ Nx wz ws) (fun i _ => l1.length - (intOf i).toNat)
    case atStart => exact ⟨0, -1, 0, 0, Nat.zero_le _, rfl, Lib.hid rfl, bO, hxo⟩
    case round =>
      obtain ⟨j, p0, p1, p2, hj, rfl, HP, bP, hxs⟩ := hrel
      clear bO hxo
      obtain ⟨_, _, _, a3⟩ := (bA.nx hxs).d4
      by_cases hjl : j < l1.length
      · obtain ⟨b', off, rfl, hb, k0, k1, k2⟩ := (h1.below (hnx.trans hxs) hB).at_ hjl
        obtain ⟨⟨q0, q1, q2⟩, Hq⟩ : ∃ q, Hid (l1.getD j chZ = q) := ⟨_, rfl⟩
        have HN := Lib.hid (enc_note (M := noM) hjl (k : Int) Hq.out)
        rw [Hq.out] at k0 k1 k2
        by_cases hqk : q0 = (k : Int)
        · have hqd : (q0 == (k : Int)) = true := by simp [hqk]
          obtain ⟨o0, o1, o2⟩ := bP.d3
          have g0 := bP.frozen 0
          have g1 := bP.frozen 1
          have g2 := bP.frozen 2
          have HQK := Lib.hid hqk
          clear hqk
          go_wp2
          go_roundw
          case rel => exact ⟨j + 1, q0, q1, q2, by omega, by go_num, Lib.hid (by rw [HN.out, if_pos HQK.out]), ((bP.set 0 (.int .i64 q0)).set 1 (.int .i64 q1)).set 2 (.int .i64 q2), ((hxs.setCell (p := ⟨wz.heap.size, 0, none⟩) (Nat.le_refl _) _).setCell (p := ⟨wz.heap.size, 1, none⟩) (Nat.le_refl _) _).setCell (p := ⟨wz.heap.size, 2, none⟩) (Nat.le_refl _) _⟩
          case measure => simp [intOf]; omega
        · have hqd : (q0 == (k : Int)) = false := by simp [hqk]
          have HQK := Lib.hid hqk
          clear hqk
          go_wp2
          go_roundw
          case rel => exact ⟨j + 1, p0, p1, p2, by omega, by go_num, Lib.hid (by rw [HN.out, if_neg HQK.out, HP.out]), bP, hxs⟩
          case measure => simp [intOf]; omega
      · obtain rfl : j = l1.length := by omega
        rw [List.take_length] at HP
        rename World => ws1
        go_wp2_with fail
        go_loopw [9] (fun i ws => ∃ (j : Nat) (p0 p1 p2 : Int), j ≤ l2.length ∧ i = .int .i64 j ∧ Hid (enc (mgM (noteM noM l1) (l2.take j) (k : Int)) = (p0, p1, p2)) ∧ Box ws wz.heap.size 75 #[.int .i64 p0, .int .i64 p1, .int .i64 p2] ∧ Nx wz ws) (fun i _ => l2.length - (intOf i).toNat)
        case atStart => exact ⟨0, p0, p1, p2, Nat.zero_le _, rfl, HP, bP, hxs⟩
        case round =>
          clear a3 bP hxs HP p0 p1 p2
          obtain ⟨j, p0, p1, p2, hj2, rfl, HP, bP, hxs⟩ := hrel
          obtain ⟨_, _, _, a3⟩ := (bB.nx hxs).d4
          obtain ⟨o0, o1, o2⟩ := bP.d3
          have g0 := bP.frozen 0
          have g1 := bP.frozen 1
          have g2 := bP.frozen 2
          have hz9 : w.heap.size + 1 + 1 + 1 + 1 < wz.heap.size := bE.lt
          have n1 : ¬ w.heap.size + 1 = wz.heap.size := by omega
          by_cases hjl2 : j < l2.length
          · obtain ⟨b', off, rfl, hb, k0, k1, k2⟩ := (h2.below (hnx.trans hxs) hB).at_ hjl2
            have n2 : ¬ b' = wz.heap.size := by omega
            obtain ⟨⟨q0, q1, q2⟩, Hq⟩ : ∃ q, Hid (l2.getD j chZ = q) := ⟨_, rfl⟩
            have HN := Lib.hid (enc_mg (M := noteM noM l1) hjl2 (k : Int) Hq.out)
            rw [Hq.out] at k0 k1 k2
            by_cases hqk : q0 = (k : Int)
            · have hqd : (q0 != (k : Int)) = false := by simp [hqk]
              have HQK := Lib.hid hqk
              clear hqk
              cases hMk : mgM (noteM noM l1) (l2.take j) (k : Int) with
              | none =>
                rw [hMk] at HP HN
                obtain ⟨rfl, rfl, rfl⟩ : p0 = -1 ∧ p1 = 0 ∧ p2 = 0 := by have := HP.out; simp [enc] at this; omega
                clear hMk
                go_wp2
                go_roundw
                case rel => exact ⟨j + 1, q0, q1, q2, by omega, by go_num, Lib.hid (by rw [HN.out, if_pos HQK.out]; rfl), (((bP.set 0 (.int .i64 q0)).set 1 (.int .i64 q1)).set 2 (.int .i64 q2)).set 1 (.int .i64 q1), (((hxs.setCell (p := ⟨wz.heap.size, 0, none⟩) (Nat.le_refl _) _).setCell (p := ⟨wz.heap.size, 1, none⟩) (Nat.le_refl _) _).setCell (p := ⟨wz.heap.size, 2, none⟩) (Nat.le_refl _) _).setCell (p := ⟨wz.heap.size, 1, none⟩) (Nat.le_refl _) _⟩
                case measure => simp [intOf]; omega
              | some p =>
                have hp1 := mgM_key (noteM_key noM_key l1) _ _ _ hMk
                rw [hMk] at HP HN
                obtain rfl : p = (p0, p1, p2) := HP.out
                simp only at hp1
                have hlt0 : decide (p0 < 0) = false := by simp; omega
                have HP1 := Lib.hid hp1
                clear hMk hp1
                go_wp2
                go_roundw
                case rel => exact ⟨j + 1, p0, q1, p2, by omega, by go_num, Lib.hid (by rw [HN.out, if_pos HQK.out, HP1.out, HQK.out]; rfl), bP.set 1 (.int .i64 q1), hxs.setCell (p := ⟨wz.heap.size, 1, none⟩) (Nat.le_refl _) _⟩
                case measure => simp [intOf]; omega
            · have hqd : (q0 != (k : Int)) = true := by simp [hqk]
              have HQK := Lib.hid hqk
              clear hqk
              go_wp2
              go_roundw
              case rel => exact ⟨j + 1, p0, p1, p2, by omega, by go_num, Lib.hid (by rw [HN.out, if_neg HQK.out, HP.out]), bP, hxs⟩
              case measure => simp [intOf]; omega
          · obtain rfl : j = l2.length := by omega
            rw [List.take_length] at HP
            rw [HM.out] at HP
            have HS := Lib.hid (risM_succ M k)
            have hxx := hnx.trans hxs
            cases hMk : M (k : Int) with
            | none =>
              rw [hMk] at HP HS
              obtain ⟨rfl, rfl, rfl⟩ : p0 = -1 ∧ p1 = 0 ∧ p2 = 0 := by have := HP.out; simp [enc] at this; omega
              clear hMk
              go_wp2
              go_roundw
              case rel => exact ⟨k + 1, by omega, by go_num, ⟨v, bE.nx hxs, by rw [HS.out]; simpa using hrow.nx hxs⟩, bA.nx hxs, bB.nx hxs, bR.nx hxs, hxx⟩
              case measure => simp [intOf]; omega
            | some p =>
              have hp1 : p.1 = (k : Int) := by rw [← HM.out] at hMk; exact mgM_key (noteM_key noM_key l1) _ _ _ hMk
              rw [hMk] at HP HS
              obtain rfl : p = (p0, p1, p2) := HP.out
              simp only at hp1
              have hlt0 : decide (0 ≤ p0) = true := by simp; omega
              clear hMk hp1
              have bE1 := bE.nx hxs
              obtain ⟨_, _, _, e3⟩ := bE1.d4
              have hlen := risM_len M k
              have HR := Lib.hid ((hrow.nx hxs).nx ((Nx.refl _).alloc (.cells #[.int .i64 p0, .int .i64 p1, .int .i64 p2] 75)))
              have HB := Lib.hid (Box.new wr 75 #[.int .i64 p0, .int .i64 p1, .int .i64 p2])
              have HX := Lib.hid (hxs.alloc (.cells #[.int .i64 p0, .int .i64 p1, .int .i64 p2] 75))
              have HN := Lib.hid hnx
              go_wp2_with (at_builtin; refine wpList_addC rfl _ _ rfl (w.heap.size + 1 + 1 + 1) wr.heap.size v (risM M k) p0 p1 p2 rfl rfl HR.out HB.out (by omega) (by have := HX.out.size; omega) ?_)
              intro A' k' w2 hrow2 hgr
              have bE2 := hgr.box _ _ _ (by decide) (bE1.alloc (.cells #[.int .i64 p0, .int .i64 p1, .int .i64 p2] 75))
              have bA2 := hgr.box _ _ _ (by decide) ((bA.nx hxs).alloc (.cells #[.int .i64 p0, .int .i64 p1, .int .i64 p2] 75))
              have bB2 := hgr.box _ _ _ (by decide) ((bB.nx hxs).alloc (.cells #[.int .i64 p0, .int .i64 p1, .int .i64 p2] 75))
              have bR2 := hgr.box _ _ _ (by decide) ((bR.nx hxs).alloc (.cells #[.int .i64 p0, .int .i64 p1, .int .i64 p2] 75))
              have hx2 := hgr.nx w (HN.out.trans HX.out) (by omega)
              clear e3
              obtain ⟨_, _, _, e3⟩ := bE2.d4
              have ef3 := bE2.frozen 3
              go_wp2
              go_roundw
              case rel => exact ⟨k + 1, by omega, by go_num, ⟨_, bE2.set 3 (.slice A' ((risM M k).length + 1) k'), by rw [HS.out]; exact hrow2.far bE2 (by decide)⟩, bA2.far (by simp <;> omega) _, bB2.far (by simp <;> omega) _, bR2.far (by simp <;> omega) _, hx2.setCell (p := ⟨w.heap.size + 1 + 1 + 1 + 1, 3, none⟩) (by simp <;> omega) _⟩
              case measure => simp [intOf]; omega
end Go.Proofs.Ytjefjngheolmkaa
