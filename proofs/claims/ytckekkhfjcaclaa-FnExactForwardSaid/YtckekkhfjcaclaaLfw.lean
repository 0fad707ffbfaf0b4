/-
  The walks of the laws FnExactForward and FnExactBackward.
  Conditions: the list and the segment that come in can be read.
-/
import Derived.Test.YtckekkhfjcaclaaFws
import Derived.Test.YtckekkhfjcaclaaOpi
import Derived.Test.YtckekkhfjcaclaaSge
import Derived.Test.YtckekkhfjcaclaaSgt
import Derived.Test.YtckekkhfjcaclaaMkg
namespace Go.Proofs.Ytckekkhfjcaclaa
set_option linter.unusedVariables false
open Go.RowKit
theorem fwV_len {p : Chg → Int} {xs : List Int} {ok : Bool} {cs : List Chg} (h : xs.length ≤ 1048576) : (fwV p xs ok cs).length ≤ 1048576 := by
  unfold fwV
  split
  · rw [app_len]; exact h
  · simp
set_option maxHeartbeats 1000000 in
theorem markSegK_c (f t m : Int) (A : Option Addr) (n c k lo hi : Nat) (F : Nat → Value) (w : World) (h : Sr w lo hi A 45 (n * 3) F) (hi' : hi ≤ w.heap.size) (hn : n ≤ 1048576) (hk : k ≤ 1048577) :
    Calls Try.prog 34 #[.agg #[.int .i64 f, .int .i64 t, .int .i64 m, .slice A n c], .int .i64 k] w fun e w' => e = .returned (.int .i64 ((k + n * 3 : Nat) : Int)) ∧ Rg lo hi w w' := by
  have hx0 := (Nx.refl w).alloc (.cells #[.int .i64 f, .int .i64 t, .int .i64 m, .slice A n c] 31)
  go_enter Try.func34, Try.ntmps34
  go_wp2_with fail
  refine (markChangeS_c A n c k lo hi F _ (h.nx hx0) hn (by omega)).mono ?_
  rintro e w1 ⟨rfl, hs, hr⟩
  obtain ⟨q, Hq⟩ : ∃ q, Hid (k + n * 3 = q) := ⟨_, rfl⟩
  rw [Hq.out]
  go_wp2
  go_ret
  exact ⟨by rw [Hq.out]; rfl, (Rg.of_nx hx0).trans hr⟩

set_option maxRecDepth 100000 in
set_option maxHeartbeats 8000000 in
theorem lawForward (A2 : Option Addr) (c2 : Nat) (xs : List Int) (f t m : Int) (A : Option Addr) (c : Nat) (cs : List Chg) (w : World) (h : Ins w w.heap.size A2 xs) (hw : ∀ k, k < xs.length → (Lit.int .i64 (xs.getD k 0)).wf = true) (hn : xs.length ≤ 2 ^ 63 - 1) (hg : Chs w w.heap.size A cs) (hn2 : cs.length ≤ 2 ^ 63 - 1) :
    Calls Try.prog 7 #[.slice A2 xs.length c2, .agg #[.int .i64 f, .int .i64 t, .int .i64 m, .slice A cs.length c]] w fun e w' => e = .returned (.bool true) ∧ Nx w w' := by
  clear hw hn
  by_cases hl : xs.length ≤ 1048576
  case neg =>
    have hd : decide (1048576 < (xs.length : Int)) = true := by simp; omega
    go_enter Try.func7, Try.ntmps7
    go_wp2
    go_ret
    exact ⟨rfl, (Nx.refl _).alloc _⟩
  have hd : decide (1048576 < (xs.length : Int)) = false := by simp; omega
  obtain ⟨ys, Hy⟩ : ∃ y, Hid (fwV pN xs (segB f t m cs) cs = y) := ⟨_, rfl⟩
  obtain ⟨cd, Hc⟩ : ∃ y, Hid (askC xs (segB f t m cs) = y) := ⟨_, rfl⟩
  have hy : ys.length ≤ 1048576 := by rw [← Hy.out]; exact fwV_len hl
  go_enter Try.func7, Try.ntmps7
  go_wp2_with fail
  have bL := Box.new w 49 #[.int .i64 f, .int .i64 t, .int .i64 m, .slice A cs.length c]
  have hX := (Nx.refl w).alloc (.cells #[.int .i64 f, .int .i64 t, .int .i64 m, .slice A cs.length c] 49)
  generalize w.alloc (.cells #[.int .i64 f, .int .i64 t, .int .i64 m, .slice A cs.length c] 49) = W at *
  have zb := bL.lt
  refine (szSeg_c f t m A cs.length c _ _ hn2 (by omega) (by omega)).mono ?_
  rintro e w1 ⟨rfl, hx1⟩
  by_cases hle : (cs.length : Int) ≤ 1048576
  case neg =>
    rw [← szR_no (by omega)]
    go_wp2
    go_ret
    exact ⟨rfl, hX.trans hx1⟩
  rw [← szR_yes hle]
  have hn3 : cs.length ≤ 1048576 := by omega
  have hd1 : decide (1048576 - (cs.length : Int) < 0) = false := by simp; omega
  have zhx1 := hx1.size; replace bL := bL.nx hx1; replace hX := hX.trans hx1
  clear hx1
  replace hX := hX.drew
  have zd1 : w1.heap.size ≤ w1.drew.heap.size := Nat.le_refl _
  have bD : Box w1.drew w.heap.size 49 #[.int .i64 f, .int .i64 t, .int .i64 m, .slice A cs.length c] := bL
  clear bL
  go_wp2_with fail
  refine wp_region_plan (.t 0 (.t 2 (.c 1 (.c 3 (.c 4 (.t 5 (.t 6 (.t 7 (.t 8 (.t 9 .e)))))))))) (fun w' => (w'.cell? ⟨w.heap.size, 0, none⟩ = some (.int .i64 f) ∧ w'.cell? ⟨w.heap.size, 1, none⟩ = some (.int .i64 t) ∧ w'.cell? ⟨w.heap.size, 2, none⟩ = some (.int .i64 m) ∧ w'.cell? ⟨w.heap.size, 3, none⟩ = some (.slice A cs.length c))) (by kernel_rfl) (by kernel_rfl) rfl (by kernel_rfl) (fun _ _ d _ _ h => by cases d <;> exact h) (by exact bD.d4) ?_
  simp only [psOf, List.getD_cons_zero, List.getD_cons_succ]
  repeat (first | (refine HP.take (v := ?_) (by rfl) ?_ ?_; rotate_left; (· (intro w hSw; (try dsimp only at hSw); go_simp; try with_reducible rfl)); (try simp only [Act.put, List.setIfInBounds_toArray, List.set_cons_zero, List.set_cons_succ])) | (refine HP.skip (by rfl) ?_; (try simp only [Act.put, List.setIfInBounds_toArray, List.set_cons_zero, List.set_cons_succ])))
  refine HP.call ?_
  refine CallStep.mk (by rfl) (fun K hK => ?_)
  go_simp
  refine (toIntS_c A2 c2 w.heap.size xs _ (h.below hX (Nat.le_refl _)) hX.size hl).mono ?_; rintro e v1 ⟨A3, c3, rfl, hS3, hv1⟩; have zhv1 := hv1.size; replace bD := bD.nx hv1; replace hX := hX.trans hv1
  go_wp2_with fail
  refine hK.out _ _ (by exact bD.d4) ?_
  clear hK K
  try simp only [Act.put, List.setIfInBounds_toArray, List.set_cons_zero, List.set_cons_succ]
  refine HP.call ?_
  refine CallStep.mk (by rfl) (fun K hK => ?_)
  go_simp
  refine (toSeg_c f t m A c w.heap.size cs _ (hg.below hX (Nat.le_refl _)) hX.size hn3).mono ?_; rintro e v2 ⟨A4, c4, rfl, hS4, hv2⟩; replace hS3 := hS3.nx hv2; have zhv2 := hv2.size; replace bD := bD.nx hv2; replace hX := hX.trans hv2
  go_wp2_with fail
  refine hK.out _ _ (by exact bD.d4) ?_
  clear hK K
  try simp only [Act.put, List.setIfInBounds_toArray, List.set_cons_zero, List.set_cons_succ]
  refine HP.call ?_
  refine CallStep.mk (by rfl) (fun K hK => ?_)
  go_simp
  refine (specForward_c A3 c3 _ xs f t m A4 c4 cs _ hS3.row hS4.row (Nat.le_refl _) hl hn3).mono ?_; intro e v3 hR; rw [Hy.out, Hc.out] at hR; obtain ⟨A5, c5, rfl, hS5, hv3⟩ := hR; replace hS5 := hS5.sr; have zhv3 := hv3.size; replace bD := bD.nx hv3; replace hX := hX.trans hv3
  go_wp2_with fail
  refine hK.out _ _ (by exact bD.d4) ?_
  clear hK K
  try simp only [Act.put, List.setIfInBounds_toArray, List.set_cons_zero, List.set_cons_succ]
  repeat (first | (refine HP.take (v := ?_) (by rfl) ?_ ?_; rotate_left; (· (intro w hSw; (try dsimp only at hSw); go_simp; try with_reducible rfl)); (try simp only [Act.put, List.setIfInBounds_toArray, List.set_cons_zero, List.set_cons_succ])) | (refine HP.skip (by rfl) ?_; (try simp only [Act.put, List.setIfInBounds_toArray, List.set_cons_zero, List.set_cons_succ])))
  refine HP.done ?_
  clear hv1 hv2 hv3 hS3 hS4
  go_wp2_with fail
  refine (toIntS_c A2 c2 w.heap.size xs _ (h.below hX (Nat.le_refl _)) hX.size hl).mono ?_
  rintro e w4 ⟨A6, c6, rfl, hS6, hx4⟩
  replace hS6 := hS6.sr
  have zhx4 := hx4.size; replace bD := bD.nx hx4; replace hS5 := hS5.nx hx4; replace hX := hX.trans hx4
  obtain ⟨l0, l1, l2, l3⟩ := bD.d4
  go_wp2_with fail
  refine (toSeg_c f t m A c w.heap.size cs _ (hg.below hX (Nat.le_refl _)) hX.size hn3).mono ?_
  rintro e w5 ⟨A7, c7, rfl, hS7, hx5⟩
  replace hS7 := hS7.sr
  have zhx5 := hx5.size; replace bD := bD.nx hx5; replace hS5 := hS5.nx hx5; replace hS6 := hS6.nx hx5; replace hX := hX.trans hx5
  clear l0 l1 l2 l3
  go_wp2_with fail
  have bx := Box.new w5 31 #[.int .i64 f, .int .i64 t, .int .i64 m, .slice A7 cs.length c7]
  have hxa := (Nx.refl w5).alloc (.cells #[.int .i64 f, .int .i64 t, .int .i64 m, .slice A7 cs.length c7] 31)
  have zW : w5.heap.size < (w5.alloc (.cells #[.int .i64 f, .int .i64 t, .int .i64 m, .slice A7 cs.length c7] 31)).heap.size := by simp
  have zhxa := hxa.size; replace bD := bD.nx hxa; replace hS5 := hS5.nx hxa; replace hS6 := hS6.nx hxa; replace hS7 := hS7.nx hxa; replace hX := hX.trans hxa
  clear hxa
  generalize w5.alloc (.cells #[.int .i64 f, .int .i64 t, .int .i64 m, .slice A7 cs.length c7] 31) = W5 at *
  refine (implForward_c A6 c6 _ xs f t m A7 c7 cs _ hS6.sl.row hS7.sl.row (Nat.le_refl _) hl hn3).mono ?_
  intro e w6 hR
  rw [Hy.out, Hc.out] at hR
  obtain ⟨A8, c8, rfl, hS8, hx6⟩ := hR
  replace hS8 := hS8.sr
  have zhx6 := hx6.size; replace bD := bD.nx hx6; replace hS5 := hS5.nx hx6; replace hS6 := hS6.nx hx6; replace hS7 := hS7.nx hx6; replace bx := bx.nx hx6; replace hX := hX.trans hx6
  go_wp2_with fail
  refine (eqIntS_c A8 A5 c8 c5 _ ys _ hS8.sl.row hS5.sl.row (Nat.le_refl _) hy).mono ?_
  rintro e w7 ⟨rfl, hx7⟩
  have zhx7 := hx7.size; replace bD := bD.nx hx7; replace hS5 := hS5.nx hx7; replace hS6 := hS6.nx hx7; replace hS7 := hS7.nx hx7; replace bx := bx.nx hx7; replace hS8 := hS8.nx hx7; replace hX := hX.trans hx7
  go_wp2_with fail
  refine (toIntS_c A2 c2 w.heap.size xs _ (h.below hX (Nat.le_refl _)) hX.size hl).mono ?_
  rintro e w8 ⟨A9, c9, rfl, hS9, hx8⟩
  have zhx8 := hx8.size; replace bD := bD.nx hx8; replace hS5 := hS5.nx hx8; replace hS6 := hS6.nx hx8; replace hS7 := hS7.nx hx8; replace bx := bx.nx hx8; replace hS8 := hS8.nx hx8; replace hX := hX.trans hx8
  go_wp2_with fail
  refine (eqIntS_c A6 A9 c6 c9 _ xs _ hS6.sl.row hS9.row (Nat.le_refl _) hl).mono ?_
  rintro e w9 ⟨rfl, hx9⟩
  have zhx9 := hx9.size; replace bD := bD.nx hx9; replace hS5 := hS5.nx hx9; replace hS6 := hS6.nx hx9; replace hS7 := hS7.nx hx9; replace bx := bx.nx hx9; replace hS8 := hS8.nx hx9; replace hX := hX.trans hx9
  clear hS9
  replace hX := hX.drew
  have zd2 : w9.heap.size ≤ w9.drew.heap.size := Nat.le_refl _
  replace bD : Box w9.drew w.heap.size 49 #[.int .i64 f, .int .i64 t, .int .i64 m, .slice A cs.length c] := bD
  replace bx : Box w9.drew w5.heap.size 31 #[.int .i64 f, .int .i64 t, .int .i64 m, .slice A7 cs.length c7] := bx
  replace hS5 : Sr w9.drew v2.heap.size v3.heap.size A5 3 ys.length (inAt ys) := hS5
  replace hS6 : Sr w9.drew v3.heap.size w4.heap.size A6 3 xs.length (inAt xs) := hS6
  replace hS7 : Sr w9.drew w4.heap.size w5.heap.size A7 45 (cs.length * 3) (chAt cs) := hS7
  replace hS8 : Sr w9.drew W5.heap.size w6.heap.size A8 3 ys.length (inAt ys) := hS8
  go_wp2_with fail
  refine wp_region_lex [false, false, true, true, false] (fun w' => (w'.cell? ⟨w5.heap.size, 0, none⟩ = some (.int .i64 f) ∧ w'.cell? ⟨w5.heap.size, 1, none⟩ = some (.int .i64 t) ∧ w'.cell? ⟨w5.heap.size, 2, none⟩ = some (.int .i64 m) ∧ w'.cell? ⟨w5.heap.size, 3, none⟩ = some (.slice A7 cs.length c7)) ∧ (w'.cell? ⟨w.heap.size, 0, none⟩ = some (.int .i64 f) ∧ w'.cell? ⟨w.heap.size, 1, none⟩ = some (.int .i64 t) ∧ w'.cell? ⟨w.heap.size, 2, none⟩ = some (.int .i64 m) ∧ w'.cell? ⟨w.heap.size, 3, none⟩ = some (.slice A cs.length c))) (by kernel_rfl) (by kernel_rfl) rfl (by kernel_rfl) (fun _ _ d _ _ h => by cases d <;> exact h) (by exact ⟨bx.d4, bD.d4⟩) ?_
  repeat (first | (refine HL.take (v := ?_) (by rfl) ?_ ?_; rotate_left; (· (intro w hSw; (try dsimp only at hSw); go_simp; try with_reducible rfl)); (try simp only [Act.put, List.setIfInBounds_toArray, List.set_cons_zero, List.set_cons_succ])) | (refine HL.skip (by rfl) ?_; (try simp only [Act.put, List.setIfInBounds_toArray, List.set_cons_zero, List.set_cons_succ])))
  refine HL.call (by rfl) (fun K hK => ?_)
  go_simp
  refine (toSeg_c f t m A c w.heap.size cs _ (hg.below hX (Nat.le_refl _)) hX.size hn3).mono ?_; rintro e v4 ⟨A10, c10, rfl, hS10, hv4⟩; have zhv4 := hv4.size; replace bD := bD.nx hv4; replace hS5 := hS5.nx hv4; replace hS6 := hS6.nx hv4; replace hS7 := hS7.nx hv4; replace bx := bx.nx hv4; replace hS8 := hS8.nx hv4; replace hX := hX.trans hv4
  go_wp2_with fail
  refine hK.out _ _ (by exact ⟨bx.d4, bD.d4⟩) ?_
  clear hK K
  try simp only [Act.put, List.setIfInBounds_toArray, List.set_cons_zero, List.set_cons_succ]
  refine HL.call (by rfl) (fun K hK => ?_)
  go_simp
  refine (eqSeg_c f t m A7 A10 c7 c10 _ cs _ hS7.sl.row hS10.row (Nat.le_refl _) hn3).mono ?_; rintro e v5 ⟨rfl, hv5⟩; have zhv5 := hv5.size; replace bD := bD.nx hv5; replace hS5 := hS5.nx hv5; replace hS6 := hS6.nx hv5; replace hS7 := hS7.nx hv5; replace bx := bx.nx hv5; replace hS8 := hS8.nx hv5; replace hX := hX.trans hv5
  go_wp2_with fail
  refine hK.out _ _ (by exact ⟨bx.d4, bD.d4⟩) ?_
  clear hK K
  try simp only [Act.put, List.setIfInBounds_toArray, List.set_cons_zero, List.set_cons_succ]
  repeat (first | (refine HL.take (v := ?_) (by rfl) ?_ ?_; rotate_left; (· (intro w hSw; (try dsimp only at hSw); go_simp; try with_reducible rfl)); (try simp only [Act.put, List.setIfInBounds_toArray, List.set_cons_zero, List.set_cons_succ])) | (refine HL.skip (by rfl) ?_; (try simp only [Act.put, List.setIfInBounds_toArray, List.set_cons_zero, List.set_cons_succ])))
  refine HL.done ?_
  clear hS10
  go_wp2_with fail
  refine (markIntS_c A6 xs.length c6 1 _ _ _ _ hS6 hl (by omega)).mono ?_
  rintro e wc ⟨rfl, hS6b, hr1⟩
  have zhr1 := hr1.size; replace bD := bD.rg hr1 (by omega); replace hS5 := hS5.rg hr1 (by omega); replace hS7 := hS7.rg hr1 (by omega); replace bx := bx.rg hr1 (by omega); replace hS8 := hS8.rg hr1 (by omega); replace hX := Rg.nx_of hX hr1 (by omega)
  clear hS6 hS6b
  obtain ⟨q1, Hq1⟩ : ∃ q, Hid (1 + xs.length = q) := ⟨_, rfl⟩
  have hq1 : q1 ≤ 1048577 := by have := Hq1.out; omega
  rw [Hq1.out]
  obtain ⟨l0, l1, l2, l3⟩ := bx.d4
  go_wp2_with fail
  refine (markSegK_c f t m A7 cs.length c7 q1 _ _ _ _ hS7 (by omega) hn3 hq1).mono ?_
  rintro e wd ⟨rfl, hr2⟩
  clear l0 l1 l2 l3
  have zhr2 := hr2.size; replace bD := bD.rg hr2 (by omega); replace hS5 := hS5.rg hr2 (by omega); replace bx := bx.rg hr2 (by omega); replace hS8 := hS8.rg hr2 (by omega); replace hX := Rg.nx_of hX hr2 (by omega)
  clear hS7
  obtain ⟨q2, Hq2⟩ : ∃ q, Hid (q1 + cs.length * 3 = q) := ⟨_, rfl⟩
  rw [Hq2.out]
  have hd2 : decide ((q2 : Int) < 0) = false := by simp
  go_wp2_with fail
  refine (eqIntS_c A8 A5 c8 c5 _ ys _ hS8.sl.row hS5.sl.row (Nat.le_refl _) hy).mono ?_
  rintro e we ⟨rfl, hxe⟩
  have zhxe := hxe.size; replace bD := bD.nx hxe; replace hS5 := hS5.nx hxe; replace bx := bx.nx hxe; replace hS8 := hS8.nx hxe; replace hX := hX.trans hxe
  go_wp2_with fail
  refine (markIntS_c A8 ys.length c8 1 _ _ _ _ hS8 hy (by omega)).mono ?_
  rintro e wf ⟨rfl, hS8b, hr3⟩
  have zhr3 := hr3.size; replace bD := bD.rg hr3 (by omega); replace hS5 := hS5.rg hr3 (by omega); replace bx := bx.rg hr3 (by omega); replace hX := Rg.nx_of hX hr3 (by omega)
  clear hS8
  obtain ⟨q3, Hq3⟩ : ∃ q, Hid (1 + ys.length = q) := ⟨_, rfl⟩
  have hd3 : decide ((q3 : Int) < 0) = false := by simp
  rw [Hq3.out]
  go_wp2_with fail
  refine (heldIntS_c A8 ys.length c8 1 _ _ hS8b.sl.row hy (by omega)).mono ?_
  rintro e w' ⟨rfl, rfl⟩
  rw [Hq3.out]
  replace hX := hX.drew
  replace bD : Box wf.drew w.heap.size 49 #[.int .i64 f, .int .i64 t, .int .i64 m, .slice A cs.length c] := bD
  replace bx : Box wf.drew w5.heap.size 31 #[.int .i64 f, .int .i64 t, .int .i64 m, .slice A7 cs.length c7] := bx
  replace hS5 : Sr wf.drew v2.heap.size v3.heap.size A5 3 ys.length (inAt ys) := hS5
  replace hS8b : Sr wf.drew W5.heap.size w6.heap.size A8 3 ys.length (mkAt 1) := hS8b
  go_wp2_with fail
  refine wp_region_plan (.t 0 (.t 2 (.c 1 (.c 3 (.c 4 (.t 5 (.t 6 (.t 7 (.t 8 (.t 9 .e)))))))))) (fun w' => (w'.cell? ⟨w.heap.size, 0, none⟩ = some (.int .i64 f) ∧ w'.cell? ⟨w.heap.size, 1, none⟩ = some (.int .i64 t) ∧ w'.cell? ⟨w.heap.size, 2, none⟩ = some (.int .i64 m) ∧ w'.cell? ⟨w.heap.size, 3, none⟩ = some (.slice A cs.length c))) (by kernel_rfl) (by kernel_rfl) rfl (by kernel_rfl) (fun _ _ d _ _ h => by cases d <;> exact h) (by exact bD.d4) ?_
  simp only [psOf, List.getD_cons_zero, List.getD_cons_succ]
  repeat (first | (refine HP.take (v := ?_) (by rfl) ?_ ?_; rotate_left; (· (intro w hSw; (try dsimp only at hSw); go_simp; try with_reducible rfl)); (try simp only [Act.put, List.setIfInBounds_toArray, List.set_cons_zero, List.set_cons_succ])) | (refine HP.skip (by rfl) ?_; (try simp only [Act.put, List.setIfInBounds_toArray, List.set_cons_zero, List.set_cons_succ])))
  refine HP.call ?_
  refine CallStep.mk (by rfl) (fun K hK => ?_)
  go_simp
  refine (toIntS_c A2 c2 w.heap.size xs _ (h.below hX (Nat.le_refl _)) hX.size hl).mono ?_; rintro e u1 ⟨A13, c13, rfl, hS13, hu1⟩; have zhu1 := hu1.size; replace bD := bD.nx hu1; replace hS5 := hS5.nx hu1; replace bx := bx.nx hu1; replace hS8b := hS8b.nx hu1; replace hX := hX.trans hu1
  go_wp2_with fail
  refine hK.out _ _ (by exact bD.d4) ?_
  clear hK K
  try simp only [Act.put, List.setIfInBounds_toArray, List.set_cons_zero, List.set_cons_succ]
  refine HP.call ?_
  refine CallStep.mk (by rfl) (fun K hK => ?_)
  go_simp
  refine (toSeg_c f t m A c w.heap.size cs _ (hg.below hX (Nat.le_refl _)) hX.size hn3).mono ?_; rintro e u2 ⟨A14, c14, rfl, hS14, hu2⟩; replace hS13 := hS13.nx hu2; have zhu2 := hu2.size; replace bD := bD.nx hu2; replace hS5 := hS5.nx hu2; replace bx := bx.nx hu2; replace hS8b := hS8b.nx hu2; replace hX := hX.trans hu2
  go_wp2_with fail
  refine hK.out _ _ (by exact bD.d4) ?_
  clear hK K
  try simp only [Act.put, List.setIfInBounds_toArray, List.set_cons_zero, List.set_cons_succ]
  refine HP.call ?_
  refine CallStep.mk (by rfl) (fun K hK => ?_)
  go_simp
  refine (implForward_c A13 c13 _ xs f t m A14 c14 cs _ hS13.row hS14.row (Nat.le_refl _) hl hn3).mono ?_; intro e u3 hR; rw [Hy.out, Hc.out] at hR; obtain ⟨A15, c15, rfl, hS15, hu3⟩ := hR; have zhu3 := hu3.size; replace bD := bD.nx hu3; replace hS5 := hS5.nx hu3; replace bx := bx.nx hu3; replace hS8b := hS8b.nx hu3; replace hX := hX.trans hu3
  go_wp2_with fail
  refine hK.out _ _ (by exact bD.d4) ?_
  clear hK K
  try simp only [Act.put, List.setIfInBounds_toArray, List.set_cons_zero, List.set_cons_succ]
  repeat (first | (refine HP.take (v := ?_) (by rfl) ?_ ?_; rotate_left; (· (intro w hSw; (try dsimp only at hSw); go_simp; try with_reducible rfl)); (try simp only [Act.put, List.setIfInBounds_toArray, List.set_cons_zero, List.set_cons_succ])) | (refine HP.skip (by rfl) ?_; (try simp only [Act.put, List.setIfInBounds_toArray, List.set_cons_zero, List.set_cons_succ])))
  refine HP.done ?_
  go_wp2_with fail
  refine (eqIntS_c A15 A5 c15 c5 _ ys _ hS15.row hS5.sl.row (Nat.le_refl _) hy).mono ?_
  rintro e wg ⟨rfl, hxg⟩
  have zhxg := hxg.size; replace bD := bD.nx hxg; replace hS5 := hS5.nx hxg; replace bx := bx.nx hxg; replace hS8b := hS8b.nx hxg; replace hX := hX.trans hxg
  go_wp2_with fail
  refine (heldIntS_c A8 ys.length c8 1 _ _ hS8b.sl.row hy (by omega)).mono ?_
  rintro e w' ⟨rfl, rfl⟩
  rw [Hq3.out]
  go_wp2
  go_ret
  exact ⟨rfl, hX⟩

set_option maxRecDepth 100000 in
set_option maxHeartbeats 8000000 in
theorem lawBackward (A2 : Option Addr) (c2 : Nat) (xs : List Int) (f t m : Int) (A : Option Addr) (c : Nat) (cs : List Chg) (w : World) (h : Ins w w.heap.size A2 xs) (hw : ∀ k, k < xs.length → (Lit.int .i64 (xs.getD k 0)).wf = true) (hn : xs.length ≤ 2 ^ 63 - 1) (hg : Chs w w.heap.size A cs) (hn2 : cs.length ≤ 2 ^ 63 - 1) :
    Calls Try.prog 8 #[.slice A2 xs.length c2, .agg #[.int .i64 f, .int .i64 t, .int .i64 m, .slice A cs.length c]] w fun e w' => e = .returned (.bool true) ∧ Nx w w' := by
  clear hw hn
  by_cases hl : xs.length ≤ 1048576
  case neg =>
    have hd : decide (1048576 < (xs.length : Int)) = true := by simp; omega
    go_enter Try.func8, Try.ntmps8
    go_wp2
    go_ret
    exact ⟨rfl, (Nx.refl _).alloc _⟩
  have hd : decide (1048576 < (xs.length : Int)) = false := by simp; omega
  obtain ⟨ys, Hy⟩ : ∃ y, Hid (fwV pO xs (segB f t m cs) cs = y) := ⟨_, rfl⟩
  obtain ⟨cd, Hc⟩ : ∃ y, Hid (askC xs (segB f t m cs) = y) := ⟨_, rfl⟩
  have hy : ys.length ≤ 1048576 := by rw [← Hy.out]; exact fwV_len hl
  go_enter Try.func8, Try.ntmps8
  go_wp2_with fail
  have bL := Box.new w 49 #[.int .i64 f, .int .i64 t, .int .i64 m, .slice A cs.length c]
  have hX := (Nx.refl w).alloc (.cells #[.int .i64 f, .int .i64 t, .int .i64 m, .slice A cs.length c] 49)
  generalize w.alloc (.cells #[.int .i64 f, .int .i64 t, .int .i64 m, .slice A cs.length c] 49) = W at *
  have zb := bL.lt
  refine (szSeg_c f t m A cs.length c _ _ hn2 (by omega) (by omega)).mono ?_
  rintro e w1 ⟨rfl, hx1⟩
  by_cases hle : (cs.length : Int) ≤ 1048576
  case neg =>
    rw [← szR_no (by omega)]
    go_wp2
    go_ret
    exact ⟨rfl, hX.trans hx1⟩
  rw [← szR_yes hle]
  have hn3 : cs.length ≤ 1048576 := by omega
  have hd1 : decide (1048576 - (cs.length : Int) < 0) = false := by simp; omega
  have zhx1 := hx1.size; replace bL := bL.nx hx1; replace hX := hX.trans hx1
  clear hx1
  replace hX := hX.drew
  have zd1 : w1.heap.size ≤ w1.drew.heap.size := Nat.le_refl _
  have bD : Box w1.drew w.heap.size 49 #[.int .i64 f, .int .i64 t, .int .i64 m, .slice A cs.length c] := bL
  clear bL
  go_wp2_with fail
  refine wp_region_plan (.t 0 (.t 2 (.c 1 (.c 3 (.c 4 (.t 5 (.t 6 (.t 7 (.t 8 (.t 9 .e)))))))))) (fun w' => (w'.cell? ⟨w.heap.size, 0, none⟩ = some (.int .i64 f) ∧ w'.cell? ⟨w.heap.size, 1, none⟩ = some (.int .i64 t) ∧ w'.cell? ⟨w.heap.size, 2, none⟩ = some (.int .i64 m) ∧ w'.cell? ⟨w.heap.size, 3, none⟩ = some (.slice A cs.length c))) (by kernel_rfl) (by kernel_rfl) rfl (by kernel_rfl) (fun _ _ d _ _ h => by cases d <;> exact h) (by exact bD.d4) ?_
  simp only [psOf, List.getD_cons_zero, List.getD_cons_succ]
  repeat (first | (refine HP.take (v := ?_) (by rfl) ?_ ?_; rotate_left; (· (intro w hSw; (try dsimp only at hSw); go_simp; try with_reducible rfl)); (try simp only [Act.put, List.setIfInBounds_toArray, List.set_cons_zero, List.set_cons_succ])) | (refine HP.skip (by rfl) ?_; (try simp only [Act.put, List.setIfInBounds_toArray, List.set_cons_zero, List.set_cons_succ])))
  refine HP.call ?_
  refine CallStep.mk (by rfl) (fun K hK => ?_)
  go_simp
  refine (toIntS_c A2 c2 w.heap.size xs _ (h.below hX (Nat.le_refl _)) hX.size hl).mono ?_; rintro e v1 ⟨A3, c3, rfl, hS3, hv1⟩; have zhv1 := hv1.size; replace bD := bD.nx hv1; replace hX := hX.trans hv1
  go_wp2_with fail
  refine hK.out _ _ (by exact bD.d4) ?_
  clear hK K
  try simp only [Act.put, List.setIfInBounds_toArray, List.set_cons_zero, List.set_cons_succ]
  refine HP.call ?_
  refine CallStep.mk (by rfl) (fun K hK => ?_)
  go_simp
  refine (toSeg_c f t m A c w.heap.size cs _ (hg.below hX (Nat.le_refl _)) hX.size hn3).mono ?_; rintro e v2 ⟨A4, c4, rfl, hS4, hv2⟩; replace hS3 := hS3.nx hv2; have zhv2 := hv2.size; replace bD := bD.nx hv2; replace hX := hX.trans hv2
  go_wp2_with fail
  refine hK.out _ _ (by exact bD.d4) ?_
  clear hK K
  try simp only [Act.put, List.setIfInBounds_toArray, List.set_cons_zero, List.set_cons_succ]
  refine HP.call ?_
  refine CallStep.mk (by rfl) (fun K hK => ?_)
  go_simp
  refine (specBackward_c A3 c3 _ xs f t m A4 c4 cs _ hS3.row hS4.row (Nat.le_refl _) hl hn3).mono ?_; intro e v3 hR; rw [Hy.out, Hc.out] at hR; obtain ⟨A5, c5, rfl, hS5, hv3⟩ := hR; replace hS5 := hS5.sr; have zhv3 := hv3.size; replace bD := bD.nx hv3; replace hX := hX.trans hv3
  go_wp2_with fail
  refine hK.out _ _ (by exact bD.d4) ?_
  clear hK K
  try simp only [Act.put, List.setIfInBounds_toArray, List.set_cons_zero, List.set_cons_succ]
  repeat (first | (refine HP.take (v := ?_) (by rfl) ?_ ?_; rotate_left; (· (intro w hSw; (try dsimp only at hSw); go_simp; try with_reducible rfl)); (try simp only [Act.put, List.setIfInBounds_toArray, List.set_cons_zero, List.set_cons_succ])) | (refine HP.skip (by rfl) ?_; (try simp only [Act.put, List.setIfInBounds_toArray, List.set_cons_zero, List.set_cons_succ])))
  refine HP.done ?_
  clear hv1 hv2 hv3 hS3 hS4
  go_wp2_with fail
  refine (toIntS_c A2 c2 w.heap.size xs _ (h.below hX (Nat.le_refl _)) hX.size hl).mono ?_
  rintro e w4 ⟨A6, c6, rfl, hS6, hx4⟩
  replace hS6 := hS6.sr
  have zhx4 := hx4.size; replace bD := bD.nx hx4; replace hS5 := hS5.nx hx4; replace hX := hX.trans hx4
  obtain ⟨l0, l1, l2, l3⟩ := bD.d4
  go_wp2_with fail
  refine (toSeg_c f t m A c w.heap.size cs _ (hg.below hX (Nat.le_refl _)) hX.size hn3).mono ?_
  rintro e w5 ⟨A7, c7, rfl, hS7, hx5⟩
  replace hS7 := hS7.sr
  have zhx5 := hx5.size; replace bD := bD.nx hx5; replace hS5 := hS5.nx hx5; replace hS6 := hS6.nx hx5; replace hX := hX.trans hx5
  clear l0 l1 l2 l3
  go_wp2_with fail
  have bx := Box.new w5 31 #[.int .i64 f, .int .i64 t, .int .i64 m, .slice A7 cs.length c7]
  have hxa := (Nx.refl w5).alloc (.cells #[.int .i64 f, .int .i64 t, .int .i64 m, .slice A7 cs.length c7] 31)
  have zW : w5.heap.size < (w5.alloc (.cells #[.int .i64 f, .int .i64 t, .int .i64 m, .slice A7 cs.length c7] 31)).heap.size := by simp
  have zhxa := hxa.size; replace bD := bD.nx hxa; replace hS5 := hS5.nx hxa; replace hS6 := hS6.nx hxa; replace hS7 := hS7.nx hxa; replace hX := hX.trans hxa
  clear hxa
  generalize w5.alloc (.cells #[.int .i64 f, .int .i64 t, .int .i64 m, .slice A7 cs.length c7] 31) = W5 at *
  refine (implBackward_c A6 c6 _ xs f t m A7 c7 cs _ hS6.sl.row hS7.sl.row (Nat.le_refl _) hl hn3).mono ?_
  intro e w6 hR
  rw [Hy.out, Hc.out] at hR
  obtain ⟨A8, c8, rfl, hS8, hx6⟩ := hR
  replace hS8 := hS8.sr
  have zhx6 := hx6.size; replace bD := bD.nx hx6; replace hS5 := hS5.nx hx6; replace hS6 := hS6.nx hx6; replace hS7 := hS7.nx hx6; replace bx := bx.nx hx6; replace hX := hX.trans hx6
  go_wp2_with fail
  refine (eqIntS_c A8 A5 c8 c5 _ ys _ hS8.sl.row hS5.sl.row (Nat.le_refl _) hy).mono ?_
  rintro e w7 ⟨rfl, hx7⟩
  have zhx7 := hx7.size; replace bD := bD.nx hx7; replace hS5 := hS5.nx hx7; replace hS6 := hS6.nx hx7; replace hS7 := hS7.nx hx7; replace bx := bx.nx hx7; replace hS8 := hS8.nx hx7; replace hX := hX.trans hx7
  go_wp2_with fail
  refine (toIntS_c A2 c2 w.heap.size xs _ (h.below hX (Nat.le_refl _)) hX.size hl).mono ?_
  rintro e w8 ⟨A9, c9, rfl, hS9, hx8⟩
  have zhx8 := hx8.size; replace bD := bD.nx hx8; replace hS5 := hS5.nx hx8; replace hS6 := hS6.nx hx8; replace hS7 := hS7.nx hx8; replace bx := bx.nx hx8; replace hS8 := hS8.nx hx8; replace hX := hX.trans hx8
  go_wp2_with fail
  refine (eqIntS_c A6 A9 c6 c9 _ xs _ hS6.sl.row hS9.row (Nat.le_refl _) hl).mono ?_
  rintro e w9 ⟨rfl, hx9⟩
  have zhx9 := hx9.size; replace bD := bD.nx hx9; replace hS5 := hS5.nx hx9; replace hS6 := hS6.nx hx9; replace hS7 := hS7.nx hx9; replace bx := bx.nx hx9; replace hS8 := hS8.nx hx9; replace hX := hX.trans hx9
  clear hS9
  replace hX := hX.drew
  have zd2 : w9.heap.size ≤ w9.drew.heap.size := Nat.le_refl _
  replace bD : Box w9.drew w.heap.size 49 #[.int .i64 f, .int .i64 t, .int .i64 m, .slice A cs.length c] := bD
  replace bx : Box w9.drew w5.heap.size 31 #[.int .i64 f, .int .i64 t, .int .i64 m, .slice A7 cs.length c7] := bx
  replace hS5 : Sr w9.drew v2.heap.size v3.heap.size A5 3 ys.length (inAt ys) := hS5
  replace hS6 : Sr w9.drew v3.heap.size w4.heap.size A6 3 xs.length (inAt xs) := hS6
  replace hS7 : Sr w9.drew w4.heap.size w5.heap.size A7 45 (cs.length * 3) (chAt cs) := hS7
  replace hS8 : Sr w9.drew W5.heap.size w6.heap.size A8 3 ys.length (inAt ys) := hS8
  go_wp2_with fail
  refine wp_region_lex [false, false, true, true, false] (fun w' => (w'.cell? ⟨w5.heap.size, 0, none⟩ = some (.int .i64 f) ∧ w'.cell? ⟨w5.heap.size, 1, none⟩ = some (.int .i64 t) ∧ w'.cell? ⟨w5.heap.size, 2, none⟩ = some (.int .i64 m) ∧ w'.cell? ⟨w5.heap.size, 3, none⟩ = some (.slice A7 cs.length c7)) ∧ (w'.cell? ⟨w.heap.size, 0, none⟩ = some (.int .i64 f) ∧ w'.cell? ⟨w.heap.size, 1, none⟩ = some (.int .i64 t) ∧ w'.cell? ⟨w.heap.size, 2, none⟩ = some (.int .i64 m) ∧ w'.cell? ⟨w.heap.size, 3, none⟩ = some (.slice A cs.length c))) (by kernel_rfl) (by kernel_rfl) rfl (by kernel_rfl) (fun _ _ d _ _ h => by cases d <;> exact h) (by exact ⟨bx.d4, bD.d4⟩) ?_
  repeat (first | (refine HL.take (v := ?_) (by rfl) ?_ ?_; rotate_left; (· (intro w hSw; (try dsimp only at hSw); go_simp; try with_reducible rfl)); (try simp only [Act.put, List.setIfInBounds_toArray, List.set_cons_zero, List.set_cons_succ])) | (refine HL.skip (by rfl) ?_; (try simp only [Act.put, List.setIfInBounds_toArray, List.set_cons_zero, List.set_cons_succ])))
  refine HL.call (by rfl) (fun K hK => ?_)
  go_simp
  refine (toSeg_c f t m A c w.heap.size cs _ (hg.below hX (Nat.le_refl _)) hX.size hn3).mono ?_; rintro e v4 ⟨A10, c10, rfl, hS10, hv4⟩; have zhv4 := hv4.size; replace bD := bD.nx hv4; replace hS5 := hS5.nx hv4; replace hS6 := hS6.nx hv4; replace hS7 := hS7.nx hv4; replace bx := bx.nx hv4; replace hS8 := hS8.nx hv4; replace hX := hX.trans hv4
  go_wp2_with fail
  refine hK.out _ _ (by exact ⟨bx.d4, bD.d4⟩) ?_
  clear hK K
  try simp only [Act.put, List.setIfInBounds_toArray, List.set_cons_zero, List.set_cons_succ]
  refine HL.call (by rfl) (fun K hK => ?_)
  go_simp
  refine (eqSeg_c f t m A7 A10 c7 c10 _ cs _ hS7.sl.row hS10.row (Nat.le_refl _) hn3).mono ?_; rintro e v5 ⟨rfl, hv5⟩; have zhv5 := hv5.size; replace bD := bD.nx hv5; replace hS5 := hS5.nx hv5; replace hS6 := hS6.nx hv5; replace hS7 := hS7.nx hv5; replace bx := bx.nx hv5; replace hS8 := hS8.nx hv5; replace hX := hX.trans hv5
  go_wp2_with fail
  refine hK.out _ _ (by exact ⟨bx.d4, bD.d4⟩) ?_
  clear hK K
  try simp only [Act.put, List.setIfInBounds_toArray, List.set_cons_zero, List.set_cons_succ]
  repeat (first | (refine HL.take (v := ?_) (by rfl) ?_ ?_; rotate_left; (· (intro w hSw; (try dsimp only at hSw); go_simp; try with_reducible rfl)); (try simp only [Act.put, List.setIfInBounds_toArray, List.set_cons_zero, List.set_cons_succ])) | (refine HL.skip (by rfl) ?_; (try simp only [Act.put, List.setIfInBounds_toArray, List.set_cons_zero, List.set_cons_succ])))
  refine HL.done ?_
  clear hS10
  go_wp2_with fail
  refine (markIntS_c A6 xs.length c6 1 _ _ _ _ hS6 hl (by omega)).mono ?_
  rintro e wc ⟨rfl, hS6b, hr1⟩
  have zhr1 := hr1.size; replace bD := bD.rg hr1 (by omega); replace hS5 := hS5.rg hr1 (by omega); replace hS7 := hS7.rg hr1 (by omega); replace bx := bx.rg hr1 (by omega); replace hS8 := hS8.rg hr1 (by omega); replace hX := Rg.nx_of hX hr1 (by omega)
  clear hS6 hS6b
  obtain ⟨q1, Hq1⟩ : ∃ q, Hid (1 + xs.length = q) := ⟨_, rfl⟩
  have hq1 : q1 ≤ 1048577 := by have := Hq1.out; omega
  rw [Hq1.out]
  obtain ⟨l0, l1, l2, l3⟩ := bx.d4
  go_wp2_with fail
  refine (markSegK_c f t m A7 cs.length c7 q1 _ _ _ _ hS7 (by omega) hn3 hq1).mono ?_
  rintro e wd ⟨rfl, hr2⟩
  clear l0 l1 l2 l3
  have zhr2 := hr2.size; replace bD := bD.rg hr2 (by omega); replace hS5 := hS5.rg hr2 (by omega); replace bx := bx.rg hr2 (by omega); replace hS8 := hS8.rg hr2 (by omega); replace hX := Rg.nx_of hX hr2 (by omega)
  clear hS7
  obtain ⟨q2, Hq2⟩ : ∃ q, Hid (q1 + cs.length * 3 = q) := ⟨_, rfl⟩
  rw [Hq2.out]
  have hd2 : decide ((q2 : Int) < 0) = false := by simp
  go_wp2_with fail
  refine (eqIntS_c A8 A5 c8 c5 _ ys _ hS8.sl.row hS5.sl.row (Nat.le_refl _) hy).mono ?_
  rintro e we ⟨rfl, hxe⟩
  have zhxe := hxe.size; replace bD := bD.nx hxe; replace hS5 := hS5.nx hxe; replace bx := bx.nx hxe; replace hS8 := hS8.nx hxe; replace hX := hX.trans hxe
  go_wp2_with fail
  refine (markIntS_c A8 ys.length c8 1 _ _ _ _ hS8 hy (by omega)).mono ?_
  rintro e wf ⟨rfl, hS8b, hr3⟩
  have zhr3 := hr3.size; replace bD := bD.rg hr3 (by omega); replace hS5 := hS5.rg hr3 (by omega); replace bx := bx.rg hr3 (by omega); replace hX := Rg.nx_of hX hr3 (by omega)
  clear hS8
  obtain ⟨q3, Hq3⟩ : ∃ q, Hid (1 + ys.length = q) := ⟨_, rfl⟩
  have hd3 : decide ((q3 : Int) < 0) = false := by simp
  rw [Hq3.out]
  go_wp2_with fail
  refine (heldIntS_c A8 ys.length c8 1 _ _ hS8b.sl.row hy (by omega)).mono ?_
  rintro e w' ⟨rfl, rfl⟩
  rw [Hq3.out]
  replace hX := hX.drew
  replace bD : Box wf.drew w.heap.size 49 #[.int .i64 f, .int .i64 t, .int .i64 m, .slice A cs.length c] := bD
  replace bx : Box wf.drew w5.heap.size 31 #[.int .i64 f, .int .i64 t, .int .i64 m, .slice A7 cs.length c7] := bx
  replace hS5 : Sr wf.drew v2.heap.size v3.heap.size A5 3 ys.length (inAt ys) := hS5
  replace hS8b : Sr wf.drew W5.heap.size w6.heap.size A8 3 ys.length (mkAt 1) := hS8b
  go_wp2_with fail
  refine wp_region_plan (.t 0 (.t 2 (.c 1 (.c 3 (.c 4 (.t 5 (.t 6 (.t 7 (.t 8 (.t 9 .e)))))))))) (fun w' => (w'.cell? ⟨w.heap.size, 0, none⟩ = some (.int .i64 f) ∧ w'.cell? ⟨w.heap.size, 1, none⟩ = some (.int .i64 t) ∧ w'.cell? ⟨w.heap.size, 2, none⟩ = some (.int .i64 m) ∧ w'.cell? ⟨w.heap.size, 3, none⟩ = some (.slice A cs.length c))) (by kernel_rfl) (by kernel_rfl) rfl (by kernel_rfl) (fun _ _ d _ _ h => by cases d <;> exact h) (by exact bD.d4) ?_
  simp only [psOf, List.getD_cons_zero, List.getD_cons_succ]
  repeat (first | (refine HP.take (v := ?_) (by rfl) ?_ ?_; rotate_left; (· (intro w hSw; (try dsimp only at hSw); go_simp; try with_reducible rfl)); (try simp only [Act.put, List.setIfInBounds_toArray, List.set_cons_zero, List.set_cons_succ])) | (refine HP.skip (by rfl) ?_; (try simp only [Act.put, List.setIfInBounds_toArray, List.set_cons_zero, List.set_cons_succ])))
  refine HP.call ?_
  refine CallStep.mk (by rfl) (fun K hK => ?_)
  go_simp
  refine (toIntS_c A2 c2 w.heap.size xs _ (h.below hX (Nat.le_refl _)) hX.size hl).mono ?_; rintro e u1 ⟨A13, c13, rfl, hS13, hu1⟩; have zhu1 := hu1.size; replace bD := bD.nx hu1; replace hS5 := hS5.nx hu1; replace bx := bx.nx hu1; replace hS8b := hS8b.nx hu1; replace hX := hX.trans hu1
  go_wp2_with fail
  refine hK.out _ _ (by exact bD.d4) ?_
  clear hK K
  try simp only [Act.put, List.setIfInBounds_toArray, List.set_cons_zero, List.set_cons_succ]
  refine HP.call ?_
  refine CallStep.mk (by rfl) (fun K hK => ?_)
  go_simp
  refine (toSeg_c f t m A c w.heap.size cs _ (hg.below hX (Nat.le_refl _)) hX.size hn3).mono ?_; rintro e u2 ⟨A14, c14, rfl, hS14, hu2⟩; replace hS13 := hS13.nx hu2; have zhu2 := hu2.size; replace bD := bD.nx hu2; replace hS5 := hS5.nx hu2; replace bx := bx.nx hu2; replace hS8b := hS8b.nx hu2; replace hX := hX.trans hu2
  go_wp2_with fail
  refine hK.out _ _ (by exact bD.d4) ?_
  clear hK K
  try simp only [Act.put, List.setIfInBounds_toArray, List.set_cons_zero, List.set_cons_succ]
  refine HP.call ?_
  refine CallStep.mk (by rfl) (fun K hK => ?_)
  go_simp
  refine (implBackward_c A13 c13 _ xs f t m A14 c14 cs _ hS13.row hS14.row (Nat.le_refl _) hl hn3).mono ?_; intro e u3 hR; rw [Hy.out, Hc.out] at hR; obtain ⟨A15, c15, rfl, hS15, hu3⟩ := hR; have zhu3 := hu3.size; replace bD := bD.nx hu3; replace hS5 := hS5.nx hu3; replace bx := bx.nx hu3; replace hS8b := hS8b.nx hu3; replace hX := hX.trans hu3
  go_wp2_with fail
  refine hK.out _ _ (by exact bD.d4) ?_
  clear hK K
  try simp only [Act.put, List.setIfInBounds_toArray, List.set_cons_zero, List.set_cons_succ]
  repeat (first | (refine HP.take (v := ?_) (by rfl) ?_ ?_; rotate_left; (· (intro w hSw; (try dsimp only at hSw); go_simp; try with_reducible rfl)); (try simp only [Act.put, List.setIfInBounds_toArray, List.set_cons_zero, List.set_cons_succ])) | (refine HP.skip (by rfl) ?_; (try simp only [Act.put, List.setIfInBounds_toArray, List.set_cons_zero, List.set_cons_succ])))
  refine HP.done ?_
  go_wp2_with fail
  refine (eqIntS_c A15 A5 c15 c5 _ ys _ hS15.row hS5.sl.row (Nat.le_refl _) hy).mono ?_
  rintro e wg ⟨rfl, hxg⟩
  have zhxg := hxg.size; replace bD := bD.nx hxg; replace hS5 := hS5.nx hxg; replace bx := bx.nx hxg; replace hS8b := hS8b.nx hxg; replace hX := hX.trans hxg
  go_wp2_with fail
  refine (heldIntS_c A8 ys.length c8 1 _ _ hS8b.sl.row hy (by omega)).mono ?_
  rintro e w' ⟨rfl, rfl⟩
  rw [Hq3.out]
  go_wp2
  go_ret
  exact ⟨rfl, hX⟩
end Go.Proofs.Ytckekkhfjcaclaa
