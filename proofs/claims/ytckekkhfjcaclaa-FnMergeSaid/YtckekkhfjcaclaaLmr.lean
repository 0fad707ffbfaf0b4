/-
  The walk of the law FnMerge.
  Conditions: the bytes that come in can be read.
-/
import Derived.Test.YtckekkhfjcaclaaMgv
namespace Go.Proofs.Ytckekkhfjcaclaa
set_option linter.unusedVariables false
open Go.RowKit
theorem Sl.get {w : World} {lo gy : Nat} {ys : List Int} (h : SlI w lo (some ⟨gy, 0, none⟩) ys) {k : Nat} (hk : k < ys.length) : w.cell? ⟨gy, k, none⟩ = some (.int .i64 (ys.getD k 0)) := by
  obtain ⟨g, e, _, ho⟩ := h (by omega)
  cases e
  exact ho.cell hk
theorem sameInts8_c (A A2 : Option Addr) (c c2 B : Nat) (xs : List Int) (w : World) (hl : xs.length = 8) (h : Ins w B A xs) (h2 : Ins w B A2 xs) (hB : B ≤ w.heap.size) :
    Calls Try.prog 17 #[.slice A 8 c, .slice A2 8 c2] w fun e w' => e = .returned (.bool true) ∧ Nx w w' := by
  have := sameInts_c A A2 c c2 B xs w h h2 hB (by omega)
  rw [hl] at this
  exact this
set_option maxRecDepth 100000 in
set_option maxHeartbeats 8000000 in
theorem lawMerge (A1 : Option Addr) (n1 c1 : Nat) (ys1 : List Nat) (A2 : Option Addr) (n2 c2 : Nat) (ys2 : List Nat) (w : World) (h1 : U8s w w.heap.size A1 n1 ys1) (hn1 : n1 ≤ 2 ^ 63 - 1) (h2 : U8s w w.heap.size A2 n2 ys2) (hn2 : n2 ≤ 2 ^ 63 - 1) :
    Calls Try.prog 4 #[.slice A1 n1 c1, .slice A2 n2 c2] w fun e w' => e = .returned (.bool true) ∧ Nx w w' := by
  by_cases hb1 : n1 ≤ 1048576
  case neg =>
    have d1 : decide (1048576 < (n1 : Int)) = true := by simp; omega
    go_enter Try.func4, Try.ntmps4
    go_wp2
    go_ret
    exact ⟨rfl, Nx.refl _⟩
  have d1 : decide (1048576 < (n1 : Int)) = false := by simp; omega
  by_cases hb2 : n2 ≤ 1048576
  case neg =>
    have d2 : decide (1048576 < (n2 : Int)) = true := by simp; omega
    go_enter Try.func4, Try.ntmps4
    go_wp2
    go_ret
    exact ⟨rfl, Nx.refl _⟩
  have d2 : decide (1048576 < (n2 : Int)) = false := by simp; omega
  go_enter Try.func4, Try.ntmps4
  go_wp2_with fail
  have hX := Nx.refl w
  refine (contentDrawn_c A1 n1 c1 ys1 _ ((h1.below hX (Nat.le_refl _)).more hX.size) hb1).mono ?_
  rintro e w1 ⟨Ac, cc, xs, rfl, hl8, hsm, hC, hx1⟩
  have zhx1 := hx1.size; replace hX := hX.trans hx1; clear hx1
  have hcont := hsm.cont hl8
  have HL8 := Lib.hid hl8
  clear hl8 hsm d1 d2
  go_wp2_with fail
  refine (frameDrawnN_c A1 n1 c1 ys1 _ ((h1.below hX (Nat.le_refl _)).more hX.size) hb1).mono ?_
  rintro e w2 ⟨p, b, v, t, rfl, hf, hx2⟩
  have zhx2 := hx2.size; replace hC := hC.nx hx2; replace hX := hX.trans hx2; clear hx2
  go_wp2_with fail
  have bF := Box.new w2 37 #[.int .i64 (p : Int), .int .i64 (b : Int), .int .i64 (v : Int), .int .i64 (t : Int)]
  have hxa := (Nx.refl w2).alloc (.cells #[.int .i64 (p : Int), .int .i64 (b : Int), .int .i64 (v : Int), .int .i64 (t : Int)] 37)
  have zhxa := hxa.size; replace hC := hC.nx hxa; replace hX := hX.trans hxa; clear hxa
  generalize w2.alloc (.cells #[.int .i64 (p : Int), .int .i64 (b : Int), .int .i64 (v : Int), .int .i64 (t : Int)] 37) = W2 at *
  refine (frameDrawnN_c A2 n2 c2 ys2 _ ((h2.below hX (Nat.le_refl _)).more hX.size) hb2).mono ?_
  rintro e w3 ⟨p2, b2, v2, t2, rfl, hf2, hx3⟩
  have zhx3 := hx3.size; replace hC := hC.nx hx3; replace bF := bF.nx hx3; replace hX := hX.trans hx3; clear hx3
  obtain ⟨fc0, fc1, fc2, fc3⟩ := bF.d4
  have fcl := bF.lt
  go_wp2_with fail
  have bH := Box.new w3 37 #[.int .i64 ((p : Int) + 1), .int .i64 (b2 : Int), .int .i64 (v2 : Int), .int .i64 (t2 : Int)]
  have hxa := (Nx.refl w3).alloc (.cells #[.int .i64 ((p : Int) + 1), .int .i64 (b2 : Int), .int .i64 (v2 : Int), .int .i64 (t2 : Int)] 37)
  have zhxa := hxa.size; replace hC := hC.nx hxa; replace bF := bF.nx hxa; replace hX := hX.trans hxa; clear hxa
  generalize w3.alloc (.cells #[.int .i64 ((p : Int) + 1), .int .i64 (b2 : Int), .int .i64 (v2 : Int), .int .i64 (t2 : Int)] 37) = W3 at *
  clear fc0 fc1 fc2 fc3 fcl
  obtain ⟨o, o2, x1, y1, qs, MVh⟩ := mv hcont hf hf2.2.2
  have MV := Lib.hid MVh
  clear hf hf2 MVh
  refine (segOf_yes Ac cc _ xs p b v t _ hC.row (Nat.le_refl _) hcont MV.out.f1).mono ?_
  rintro e w4 ⟨A3, c3, rfl, hS3, hx4⟩
  rw [Int.toNat_natCast, MV.out.o_] at hS3
  have zhx4 := hx4.size; replace hC := hC.nx hx4; replace bF := bF.nx hx4; replace bH := bH.nx hx4; replace hX := hX.trans hx4; clear hx4
  go_wp2_with fail
  have bP := Box.new w4 31 #[.int .i64 ((p : Int) - 1), .int .i64 (p : Int), .int .i64 (t : Int), .slice A3 1 c3]
  have hxa := (Nx.refl w4).alloc (.cells #[.int .i64 ((p : Int) - 1), .int .i64 (p : Int), .int .i64 (t : Int), .slice A3 1 c3] 31)
  have zhxa := hxa.size; replace hC := hC.nx hxa; replace bF := bF.nx hxa; replace bH := bH.nx hxa; replace hS3 := hS3.nx hxa; replace hX := hX.trans hxa; clear hxa
  generalize w4.alloc (.cells #[.int .i64 ((p : Int) - 1), .int .i64 (p : Int), .int .i64 (t : Int), .slice A3 1 c3] 31) = W4 at *
  refine (forward_yes Ac cc _ xs _ _ _ A3 c3 1 [((b : Int), (v : Int), o)] _ rfl hC.row hS3.row (Nat.le_refl _) hcont MV.out.s1).mono ?_
  rintro e w5 ⟨A4, c4, rfl, hS4, hx5⟩
  rw [MV.out.e1] at hS4
  have zhx5 := hx5.size; replace hC := hC.nx hx5; replace bF := bF.nx hx5; replace bH := bH.nx hx5; replace hS3 := hS3.nx hx5; replace bP := bP.nx hx5; replace hX := hX.trans hx5; clear hx5
  obtain ⟨hc0, hc1, hc2, hc3⟩ := bH.d4
  have hcl := bH.lt
  go_wp2_with fail
  refine (segOf_yes A4 c4 _ x1 _ b2 v2 t2 _ hS4.row (Nat.le_refl _) MV.out.c1 MV.out.f2).mono ?_
  rintro e w6 ⟨A5, c5, rfl, hS5, hx6⟩
  rw [Int.toNat_natCast, MV.out.o2_] at hS5
  rw [show (p : Int) + 1 - 1 = (p : Int) by omega]
  have zhx6 := hx6.size; replace hC := hC.nx hx6; replace bF := bF.nx hx6; replace bH := bH.nx hx6; replace hS3 := hS3.nx hx6; replace bP := bP.nx hx6; replace hS4 := hS4.nx hx6; replace hX := hX.trans hx6; clear hx6
  clear hc0 hc1 hc2 hc3 hcl
  go_wp2_with fail
  have bQ := Box.new w6 31 #[.int .i64 (p : Int), .int .i64 ((p : Int) + 1), .int .i64 (t2 : Int), .slice A5 1 c5]
  have hxa := (Nx.refl w6).alloc (.cells #[.int .i64 (p : Int), .int .i64 ((p : Int) + 1), .int .i64 (t2 : Int), .slice A5 1 c5] 31)
  have zhxa := hxa.size; replace hC := hC.nx hxa; replace bF := bF.nx hxa; replace bH := bH.nx hxa; replace hS3 := hS3.nx hxa; replace bP := bP.nx hxa; replace hS4 := hS4.nx hxa; replace hS5 := hS5.nx hxa; replace hX := hX.trans hxa; clear hxa
  generalize w6.alloc (.cells #[.int .i64 (p : Int), .int .i64 ((p : Int) + 1), .int .i64 (t2 : Int), .slice A5 1 c5] 31) = W6 at *
  refine (forward_yes A4 c4 _ x1 _ _ _ A5 c5 1 [((b2 : Int), (v2 : Int), o2)] _ rfl hS4.row hS5.row (Nat.le_refl _) MV.out.c1 MV.out.s2).mono ?_
  rintro e w7 ⟨A6, c6, rfl, hS6, hx7⟩
  rw [MV.out.e2] at hS6
  have zhx7 := hx7.size; replace hC := hC.nx hx7; replace bF := bF.nx hx7; replace bH := bH.nx hx7; replace hS3 := hS3.nx hx7; replace bP := bP.nx hx7; replace hS4 := hS4.nx hx7; replace hS5 := hS5.nx hx7; replace bQ := bQ.nx hx7; replace hX := hX.trans hx7; clear hx7
  obtain ⟨pc0, pc1, pc2, pc3⟩ := bP.d4
  have pcl := bP.lt
  obtain ⟨qc0, qc1, qc2, qc3⟩ := bQ.d4
  have qcl := bQ.lt
  go_wp2_with fail
  refine (implMergeSegs_c _ _ _ A3 c3 [((b : Int), (v : Int), o)] _ _ _ A5 c5 [((b2 : Int), (v2 : Int), o2)] _ _ hS3.row hS5.row (Nat.le_refl _) (by simp) (by simp)).mono ?_
  intro e w8 hR
  obtain ⟨A7, c7, rfl, hS7, hx8⟩ := hR.un MV.out.g1 MV.out.g2
  have zhx8 := hx8.size; replace hC := hC.nx hx8; replace bF := bF.nx hx8; replace bH := bH.nx hx8; replace hS3 := hS3.nx hx8; replace bP := bP.nx hx8; replace hS4 := hS4.nx hx8; replace hS5 := hS5.nx hx8; replace bQ := bQ.nx hx8; replace hS6 := hS6.nx hx8; replace hX := hX.trans hx8; clear hx8
  clear pc0 pc1 pc2 pc3 pcl qc0 qc1 qc2 qc3 qcl
  obtain ⟨pc0, pc1, pc2, pc3⟩ := bP.d4
  have pcl := bP.lt
  obtain ⟨qc0, qc1, qc2, qc3⟩ := bQ.d4
  have qcl := bQ.lt
  go_wp2_with fail
  have bM := Box.new w8 31 #[.int .i64 ((p : Int) - 1), .int .i64 ((p : Int) + 1), .int .i64 (t2 : Int), .slice A7 qs.length c7]
  have hxa := (Nx.refl w8).alloc (.cells #[.int .i64 ((p : Int) - 1), .int .i64 ((p : Int) + 1), .int .i64 (t2 : Int), .slice A7 qs.length c7] 31)
  have zhxa := hxa.size; replace hC := hC.nx hxa; replace bF := bF.nx hxa; replace bH := bH.nx hxa; replace hS3 := hS3.nx hxa; replace bP := bP.nx hxa; replace hS4 := hS4.nx hxa; replace hS5 := hS5.nx hxa; replace bQ := bQ.nx hxa; replace hS6 := hS6.nx hxa; replace hS7 := hS7.nx hxa; replace hX := hX.trans hxa; clear hxa
  generalize w8.alloc (.cells #[.int .i64 ((p : Int) - 1), .int .i64 ((p : Int) + 1), .int .i64 (t2 : Int), .slice A7 qs.length c7] 31) = W8 at *
  clear pc0 pc1 pc2 pc3 pcl qc0 qc1 qc2 qc3 qcl
  refine (specMergeSegs_c _ _ _ A3 c3 [((b : Int), (v : Int), o)] _ _ _ A5 c5 [((b2 : Int), (v2 : Int), o2)] _ _ hS3.row hS5.row (Nat.le_refl _) (by simp) (by simp)).mono ?_
  intro e w9 hR
  obtain ⟨A8, c8, rfl, hS8, hx9⟩ := hR.un MV.out.g1 MV.out.g2
  have zhx9 := hx9.size; replace hC := hC.nx hx9; replace bF := bF.nx hx9; replace bH := bH.nx hx9; replace hS3 := hS3.nx hx9; replace bP := bP.nx hx9; replace hS4 := hS4.nx hx9; replace hS5 := hS5.nx hx9; replace bQ := bQ.nx hx9; replace hS6 := hS6.nx hx9; replace hS7 := hS7.nx hx9; replace bM := bM.nx hx9; replace hX := hX.trans hx9; clear hx9
  obtain ⟨mc0, mc1, mc2, mc3⟩ := bM.d4
  have mcl := bM.lt
  go_wp2_with fail
  have bW := Box.new w9 31 #[.int .i64 ((p : Int) - 1), .int .i64 ((p : Int) + 1), .int .i64 (t2 : Int), .slice A8 qs.length c8]
  have hxa := (Nx.refl w9).alloc (.cells #[.int .i64 ((p : Int) - 1), .int .i64 ((p : Int) + 1), .int .i64 (t2 : Int), .slice A8 qs.length c8] 31)
  have zhxa := hxa.size; replace hC := hC.nx hxa; replace bF := bF.nx hxa; replace bH := bH.nx hxa; replace hS3 := hS3.nx hxa; replace bP := bP.nx hxa; replace hS4 := hS4.nx hxa; replace hS5 := hS5.nx hxa; replace bQ := bQ.nx hxa; replace hS6 := hS6.nx hxa; replace hS7 := hS7.nx hxa; replace bM := bM.nx hxa; replace hS8 := hS8.nx hxa; replace hX := hX.trans hxa; clear hxa
  generalize w9.alloc (.cells #[.int .i64 ((p : Int) - 1), .int .i64 ((p : Int) + 1), .int .i64 (t2 : Int), .slice A8 qs.length c8] 31) = W9 at *
  clear mc0 mc1 mc2 mc3 mcl
  refine (forward_yes Ac cc _ xs _ _ _ A7 c7 qs.length qs _ rfl hC.row hS7.row (Nat.le_refl _) hcont MV.out.s3).mono ?_
  rintro e w10 ⟨A9, c9, rfl, hS9, hx10⟩
  rw [MV.out.e3] at hS9
  have zhx10 := hx10.size; replace hC := hC.nx hx10; replace bF := bF.nx hx10; replace bH := bH.nx hx10; replace hS3 := hS3.nx hx10; replace bP := bP.nx hx10; replace hS4 := hS4.nx hx10; replace hS5 := hS5.nx hx10; replace bQ := bQ.nx hx10; replace hS6 := hS6.nx hx10; replace hS7 := hS7.nx hx10; replace bM := bM.nx hx10; replace hS8 := hS8.nx hx10; replace bW := bW.nx hx10; replace hX := hX.trans hx10; clear hx10
  obtain ⟨mc0, mc1, mc2, mc3⟩ := bM.d4
  have mcl := bM.lt
  go_wp2_with fail
  clear mc0 mc1 mc2 mc3 mcl
  refine (backward_yes A6 c6 _ y1 _ _ _ A7 c7 qs.length qs _ rfl hS6.row hS7.row (Nat.le_refl _) MV.out.c2 MV.out.s3).mono ?_
  rintro e w11 ⟨A10, c10, rfl, hS10, hx11⟩
  rw [MV.out.e4] at hS10
  have zhx11 := hx11.size; replace hC := hC.nx hx11; replace bF := bF.nx hx11; replace bH := bH.nx hx11; replace hS3 := hS3.nx hx11; replace bP := bP.nx hx11; replace hS4 := hS4.nx hx11; replace hS5 := hS5.nx hx11; replace bQ := bQ.nx hx11; replace hS6 := hS6.nx hx11; replace hS7 := hS7.nx hx11; replace bM := bM.nx hx11; replace hS8 := hS8.nx hx11; replace bW := bW.nx hx11; replace hS9 := hS9.nx hx11; replace hX := hX.trans hx11; clear hx11
  obtain ⟨pc0, pc1, pc2, pc3⟩ := bP.d4
  have pcl := bP.lt
  obtain ⟨qc0, qc1, qc2, qc3⟩ := bQ.d4
  have qcl := bQ.lt
  go_wp2_with fail
  refine (implMergeSegs_c _ _ _ A5 c5 [((b2 : Int), (v2 : Int), o2)] _ _ _ A3 c3 [((b : Int), (v : Int), o)] _ _ hS5.row hS3.row (Nat.le_refl _) (by simp) (by simp)).mono ?_
  intro e w12 hR
  obtain ⟨A11, c11, rfl, hS11, hx12⟩ := hR.un MV.out.g3 MV.out.g4
  have zhx12 := hx12.size; replace hC := hC.nx hx12; replace bF := bF.nx hx12; replace bH := bH.nx hx12; replace hS3 := hS3.nx hx12; replace bP := bP.nx hx12; replace hS4 := hS4.nx hx12; replace hS5 := hS5.nx hx12; replace bQ := bQ.nx hx12; replace hS6 := hS6.nx hx12; replace hS7 := hS7.nx hx12; replace bM := bM.nx hx12; replace hS8 := hS8.nx hx12; replace bW := bW.nx hx12; replace hS9 := hS9.nx hx12; replace hS10 := hS10.nx hx12; replace hX := hX.trans hx12; clear hx12
  clear pc0 pc1 pc2 pc3 pcl qc0 qc1 qc2 qc3 qcl
  obtain ⟨gy, hgy⟩ : ∃ gy, A6 = some ⟨gy, 0, none⟩ := by obtain ⟨g, e, _⟩ := hS6 (by rw [(contB_yes MV.out.c2).1]; omega); exact ⟨g, e⟩
  subst hgy
  have hb28 : b2 < y1.length := by rw [(contB_yes MV.out.c2).1]; have := (frameB_block MV.out.f2).2.1; omega
  have hb29 : (b2 : Int) < 8 := by rw [(contB_yes MV.out.c2).1] at hb28; omega
  clear bP bQ hS3 hS4 hS5
  go_wp2_with fail
  have bZ := Box.new w12 31 #[.int .i64 0, .int .i64 0, .int .i64 0, .slice A11 0 c11]
  have hxa := (Nx.refl w12).alloc (.cells #[.int .i64 0, .int .i64 0, .int .i64 0, .slice A11 0 c11] 31)
  have zhxa := hxa.size; replace hC := hC.nx hxa; replace bF := bF.nx hxa; replace bH := bH.nx hxa; replace hS6 := hS6.nx hxa; replace hS7 := hS7.nx hxa; replace bM := bM.nx hxa; replace hS8 := hS8.nx hxa; replace bW := bW.nx hxa; replace hS9 := hS9.nx hxa; replace hS10 := hS10.nx hxa; replace hX := hX.trans hxa; clear hxa
  generalize w12.alloc (.cells #[.int .i64 0, .int .i64 0, .int .i64 0, .slice A11 0 c11] 31) = W12 at *
  clear bZ
  have hwp : IntKind.i64.wrap ((p : Int) - 1) = (p : Int) - 1 := IntWalk.i64_in _ (by have := frameB_block MV.out.f1; omega)
  have hxd : Nx W12 W12.drew := (Nx.refl W12).drew
  have zhxd := hxd.size; replace hC := hC.nx hxd; replace bF := bF.nx hxd; replace bH := bH.nx hxd; replace hS6 := hS6.nx hxd; replace hS7 := hS7.nx hxd; replace bM := bM.nx hxd; replace hS8 := hS8.nx hxd; replace bW := bW.nx hxd; replace hS9 := hS9.nx hxd; replace hS10 := hS10.nx hxd; replace hX := hX.trans hxd; clear hxd
  clear zhxd
  refine wp_region_lex [false, false, false, false, false, false, false, false, false, false, false, false, false, true, false, false, false, false, false, false, false, false, true, false, false, false, false, false, false, false, false, true, false, false, false, false, false, false, false, false, false, false, false, false, false, false, false, false, false, false, false, false, false, false, false, false, false, false, false, false, false, false, false] (fun w' => (w'.cell? ⟨w2.heap.size, 0, none⟩ = some (.int .i64 (p : Int)) ∧ w'.cell? ⟨w2.heap.size, 1, none⟩ = some (.int .i64 (b : Int)) ∧ w'.cell? ⟨w2.heap.size, 2, none⟩ = some (.int .i64 (v : Int)) ∧ w'.cell? ⟨w2.heap.size, 3, none⟩ = some (.int .i64 (t : Int))) ∧ (w'.cell? ⟨w3.heap.size, 0, none⟩ = some (.int .i64 ((p : Int) + 1)) ∧ w'.cell? ⟨w3.heap.size, 1, none⟩ = some (.int .i64 (b2 : Int)) ∧ w'.cell? ⟨w3.heap.size, 2, none⟩ = some (.int .i64 (v2 : Int)) ∧ w'.cell? ⟨w3.heap.size, 3, none⟩ = some (.int .i64 (t2 : Int))) ∧ (w'.cell? ⟨w8.heap.size, 0, none⟩ = some (.int .i64 ((p : Int) - 1)) ∧ w'.cell? ⟨w8.heap.size, 1, none⟩ = some (.int .i64 ((p : Int) + 1)) ∧ w'.cell? ⟨w8.heap.size, 2, none⟩ = some (.int .i64 (t2 : Int)) ∧ w'.cell? ⟨w8.heap.size, 3, none⟩ = some (.slice A7 qs.length c7)) ∧ (w'.cell? ⟨w9.heap.size, 0, none⟩ = some (.int .i64 ((p : Int) - 1)) ∧ w'.cell? ⟨w9.heap.size, 1, none⟩ = some (.int .i64 ((p : Int) + 1)) ∧ w'.cell? ⟨w9.heap.size, 2, none⟩ = some (.int .i64 (t2 : Int)) ∧ w'.cell? ⟨w9.heap.size, 3, none⟩ = some (.slice A8 qs.length c8)) ∧ w'.cell? ⟨gy, b2, none⟩ = some (.int .i64 (v2 : Int))) (by kernel_rfl) (by kernel_rfl) rfl (by kernel_rfl) (fun _ _ d _ _ h => by cases d <;> exact h) (by exact ⟨bF.d4, bH.d4, bM.d4, bW.d4, (hS6.get hb28).trans (by rw [MV.out.y_])⟩) ?_
  repeat (first | (refine HL.take (v := ?_) (by rfl) ?_ ?_; rotate_left; (· (intro w hSw; (try dsimp only at hSw); go_simp; try with_reducible rfl)); (try simp only [Act.put, List.setIfInBounds_toArray, List.set_cons_zero, List.set_cons_succ])) | (refine HL.skip (by rfl) ?_; (try simp only [Act.put, List.setIfInBounds_toArray, List.set_cons_zero, List.set_cons_succ])))
  refine HL.call (by rfl) (fun K hK => ?_)
  go_simp
  refine (sameSegP_c _ _ _ A7 A8 c7 c8 _ qs _ hS7.row hS8.row (Nat.le_refl _) (by have := MV.out.q8; omega)).mono ?_; rintro e v1 ⟨rfl, hv1⟩; replace hC := hC.nx hv1; replace bF := bF.nx hv1; replace bH := bH.nx hv1; replace hS6 := hS6.nx hv1; replace hS7 := hS7.nx hv1; replace bM := bM.nx hv1; replace hS8 := hS8.nx hv1; replace bW := bW.nx hv1; replace hS9 := hS9.nx hv1; replace hS10 := hS10.nx hv1; replace hX := hX.trans hv1
  go_wp2_with fail
  refine hK.out _ _ (by exact ⟨bF.d4, bH.d4, bM.d4, bW.d4, (hS6.get hb28).trans (by rw [MV.out.y_])⟩) ?_
  clear hK K
  try simp only [Act.put, List.setIfInBounds_toArray, List.set_cons_zero, List.set_cons_succ]
  repeat (first | (refine HL.take (v := ?_) (by rfl) ?_ ?_; rotate_left; (· (intro w hSw; (try dsimp only at hSw); go_simp; try with_reducible rfl)); (try simp only [Act.put, List.setIfInBounds_toArray, List.set_cons_zero, List.set_cons_succ])) | (refine HL.skip (by rfl) ?_; (try simp only [Act.put, List.setIfInBounds_toArray, List.set_cons_zero, List.set_cons_succ])))
  refine HL.call (by rfl) (fun K hK => ?_)
  go_simp
  refine (sameInts8_c A9 _ c9 c6 _ y1 _ (contB_yes MV.out.c2).1 hS9.row hS6.row (Nat.le_refl _)).mono ?_; rintro e v3 ⟨rfl, hv3⟩; replace hC := hC.nx hv3; replace bF := bF.nx hv3; replace bH := bH.nx hv3; replace hS6 := hS6.nx hv3; replace hS7 := hS7.nx hv3; replace bM := bM.nx hv3; replace hS8 := hS8.nx hv3; replace bW := bW.nx hv3; replace hS9 := hS9.nx hv3; replace hS10 := hS10.nx hv3; replace hX := hX.trans hv3
  go_wp2_with fail
  refine hK.out _ _ (by exact ⟨bF.d4, bH.d4, bM.d4, bW.d4, (hS6.get hb28).trans (by rw [MV.out.y_])⟩) ?_
  clear hK K
  try simp only [Act.put, List.setIfInBounds_toArray, List.set_cons_zero, List.set_cons_succ]
  repeat (first | (refine HL.take (v := ?_) (by rfl) ?_ ?_; rotate_left; (· (intro w hSw; (try dsimp only at hSw); go_simp; try with_reducible rfl)); (try simp only [Act.put, List.setIfInBounds_toArray, List.set_cons_zero, List.set_cons_succ])) | (refine HL.skip (by rfl) ?_; (try simp only [Act.put, List.setIfInBounds_toArray, List.set_cons_zero, List.set_cons_succ])))
  refine HL.call (by rfl) (fun K hK => ?_)
  go_simp
  refine (sameInts8_c A10 Ac c10 cc _ xs _ HL8.out hS10.row hC.row (Nat.le_refl _)).mono ?_; rintro e v4 ⟨rfl, hv4⟩; replace hC := hC.nx hv4; replace bF := bF.nx hv4; replace bH := bH.nx hv4; replace hS6 := hS6.nx hv4; replace hS7 := hS7.nx hv4; replace bM := bM.nx hv4; replace hS8 := hS8.nx hv4; replace bW := bW.nx hv4; replace hS9 := hS9.nx hv4; replace hS10 := hS10.nx hv4; replace hX := hX.trans hv4
  go_wp2_with fail
  refine hK.out _ _ (by exact ⟨bF.d4, bH.d4, bM.d4, bW.d4, (hS6.get hb28).trans (by rw [MV.out.y_])⟩) ?_
  clear hK K
  try simp only [Act.put, List.setIfInBounds_toArray, List.set_cons_zero, List.set_cons_succ]
  repeat (first | (refine HL.take (v := ?_) (by rfl) ?_ ?_; rotate_left; (· (intro w hSw; (try dsimp only at hSw); go_simp; try with_reducible rfl)); (try simp only [Act.put, List.setIfInBounds_toArray, List.set_cons_zero, List.set_cons_succ])) | (refine HL.skip (by rfl) ?_; (try simp only [Act.put, List.setIfInBounds_toArray, List.set_cons_zero, List.set_cons_succ])))
  refine HL.done ?_
  go_wp2
  go_ret
  exact ⟨rfl, hX⟩
end Go.Proofs.Ytckekkhfjcaclaa
