/-
  Contracts of the model's l03Of and SegOf.
  Conditions: the list can be read, and holds at most 1048576 elements.
-/
import Derived.Test.YtihpadelfpogmaaSof
import Derived.Test.YtihpadelfpogmaaSgt
namespace Go.Proofs.Ytihpadelfpogmaa
set_option linter.unusedVariables false
set_option maxRecDepth 100000
open Go.RowKit


set_option maxRecDepth 100000 in
set_option maxHeartbeats 4000000 in
theorem l03Of_c (A2 : Option Addr) (c2 B n0 : Nat) (xs : List Int) (p v t : Int) (w : World) (h : Ins w B A2 xs) (hB : B ≤ w.heap.size) (hn0 : n0 < xs.length) (hn8 : xs.length ≤ 1048576) (hp1 : 1 ≤ p) (hp2 : p ≤ 9000000) :
    Calls Try.prog 90 #[.slice A2 xs.length c2, .agg #[.int .i64 p, .int .i64 (n0 : Int), .int .i64 v, .int .i64 t]] w (RetG w (p - 1) p t [((n0 : Int), v, xs.getD n0 0)]) := by
  have bF0 := (Box.new w 58 #[.int .i64 p, .int .i64 (n0 : Int), .int .i64 v, .int .i64 t]).alloc (.cells #[.int .i64 0, .int .i64 0, .int .i64 0, .slice none 0 0] 54)
  have bR0 := Box.new (w.alloc (.cells #[.int .i64 p, .int .i64 (n0 : Int), .int .i64 v, .int .i64 t] 58)) 54 #[.int .i64 0, .int .i64 0, .int .i64 0, .slice none 0 0]
  have hx0 := ((Nx.refl w).alloc (.cells #[.int .i64 p, .int .i64 (n0 : Int), .int .i64 v, .int .i64 t] 58)).alloc (.cells #[.int .i64 0, .int .i64 0, .int .i64 0, .slice none 0 0] 54)
  simp only [World.size_alloc] at bR0
  have hn1 : (n0 : Int) < (xs.length : Int) := by omega
  have hwp : IntKind.i64.wrap (p - 1) = p - 1 := IntWalk.i64_in _ (by omega)
  obtain ⟨o, Ho⟩ : ∃ o, Hid (xs.getD n0 0 = o) := ⟨_, rfl⟩
  go_enter Try.func90, Try.ntmps90
  go_wp2_with fail
  generalize (w.alloc (.cells #[.int .i64 p, .int .i64 (n0 : Int), .int .i64 v, .int .i64 t] 58)).alloc (.cells #[.int .i64 0, .int .i64 0, .int .i64 0, .slice none 0 0] 54) = W at *
  have bF : Box W.drew w.heap.size 58 #[.int .i64 p, .int .i64 (n0 : Int), .int .i64 v, .int .i64 t] := bF0
  have bR : Box W.drew (w.heap.size + 1) 54 #[.int .i64 0, .int .i64 0, .int .i64 0, .slice none 0 0] := bR0
  obtain ⟨g, off, rfl, hgB, hcell0⟩ := (h.below hx0 hB).at_ hn0
  rw [Ho.out] at hcell0
  have hcell : W.drew.cell? ⟨g, off + n0, none⟩ = some (.int .i64 o) := hcell0
  have hgw : g < W.drew.heap.size := by have := hx0.size; show g < W.heap.size; omega
  have hX2 := hx0.drew
  clear bF0 hcell0
  obtain ⟨rc0, rc1, rc2, rc3⟩ := bR0.d4
  have rf0 := bR0.frozen 0
  have rf1 := bR0.frozen 1
  have rf2 := bR0.frozen 2
  have rf3 := bR0.frozen 3
  have rlt := bR0.lt
  refine wp_region_lex [false, false, false, false, false, false, false, false, false, false, false, false, false, false, false, false, false, true, false, true] (fun w' => (w'.cell? ⟨w.heap.size, 0, none⟩ = some (.int .i64 p) ∧ w'.cell? ⟨w.heap.size, 1, none⟩ = some (.int .i64 (n0 : Int)) ∧ w'.cell? ⟨w.heap.size, 2, none⟩ = some (.int .i64 v) ∧ w'.cell? ⟨w.heap.size, 3, none⟩ = some (.int .i64 t)) ∧ w'.cell? ⟨g, off + n0, none⟩ = some (.int .i64 o)) (by kernel_rfl) (by kernel_rfl) rfl (by kernel_rfl) (fun _ _ d _ _ h => by cases d <;> exact h) (by exact ⟨bF.d4, hcell⟩) ?_
  repeat (first | (refine HL.take (v := ?_) (by rfl) ?_ ?_; rotate_left; (· (intro w hSw; (try dsimp only at hSw); go_simp; try with_reducible rfl)); (try simp only [Act.put, List.setIfInBounds_toArray, List.set_cons_zero, List.set_cons_succ])) | (refine HL.skip (by rfl) ?_; (try simp only [Act.put, List.setIfInBounds_toArray, List.set_cons_zero, List.set_cons_succ])))
  refine HL.call (by rfl) (fun K hK => ?_)
  go_simp
  refine hK.out _ _ (by exact ⟨(bF.alloc (.cells #[.int .i64 (n0 : Int), .int .i64 v, .int .i64 o] 84)).d4, (((((Nx.refl W.drew).alloc (.cells #[.int .i64 (n0 : Int), .int .i64 v, .int .i64 o] 84)))).cell (p := ⟨g, off + n0, none⟩) hgw).trans hcell⟩) ?_
  clear hK K
  try simp only [Act.put, List.setIfInBounds_toArray, List.set_cons_zero, List.set_cons_succ]
  repeat (first | (refine HL.take (v := ?_) (by rfl) ?_ ?_; rotate_left; (· (intro w hSw; (try dsimp only at hSw); go_simp; try with_reducible rfl)); (try simp only [Act.put, List.setIfInBounds_toArray, List.set_cons_zero, List.set_cons_succ])) | (refine HL.skip (by rfl) ?_; (try simp only [Act.put, List.setIfInBounds_toArray, List.set_cons_zero, List.set_cons_succ])))
  refine HL.call (by rfl) (fun K hK => ?_)
  go_simp
  refine hK.out _ _ (by exact ⟨(((((bF.far (p := ⟨(w.heap.size + 1), 0, none⟩) (by simp) (.int .i64 (p - 1))).far (p := ⟨(w.heap.size + 1), 1, none⟩) (by simp) (.int .i64 p)).far (p := ⟨(w.heap.size + 1), 2, none⟩) (by simp) (.int .i64 t)).far (p := ⟨(w.heap.size + 1), 3, none⟩) (by simp) (.slice (some ⟨W.heap.size, 0, none⟩) 1 1)).alloc (.cells #[.int .i64 (n0 : Int), .int .i64 v, .int .i64 o] 84)).d4, (((Nx.refl ((((W.drew.setCell ⟨(w.heap.size + 1), 0, none⟩ (.int .i64 (p - 1))).setCell ⟨(w.heap.size + 1), 1, none⟩ (.int .i64 p)).setCell ⟨(w.heap.size + 1), 2, none⟩ (.int .i64 t)).setCell ⟨(w.heap.size + 1), 3, none⟩ (.slice (some ⟨W.heap.size, 0, none⟩) 1 1))).alloc (.cells #[.int .i64 (n0 : Int), .int .i64 v, .int .i64 o] 84)).cell (p := ⟨g, off + n0, none⟩) (by simp [World.setCell]; exact hgw)).trans ((cell_far (((W.drew.setCell ⟨(w.heap.size + 1), 0, none⟩ (.int .i64 (p - 1))).setCell ⟨(w.heap.size + 1), 1, none⟩ (.int .i64 p)).setCell ⟨(w.heap.size + 1), 2, none⟩ (.int .i64 t)) ⟨(w.heap.size + 1), 3, none⟩ ⟨g, off + n0, none⟩ (.slice (some ⟨W.heap.size, 0, none⟩) 1 1) (by simp; omega)).trans ((cell_far ((W.drew.setCell ⟨(w.heap.size + 1), 0, none⟩ (.int .i64 (p - 1))).setCell ⟨(w.heap.size + 1), 1, none⟩ (.int .i64 p)) ⟨(w.heap.size + 1), 2, none⟩ ⟨g, off + n0, none⟩ (.int .i64 t) (by simp; omega)).trans ((cell_far (W.drew.setCell ⟨(w.heap.size + 1), 0, none⟩ (.int .i64 (p - 1))) ⟨(w.heap.size + 1), 1, none⟩ ⟨g, off + n0, none⟩ (.int .i64 p) (by simp; omega)).trans ((cell_far W.drew ⟨(w.heap.size + 1), 0, none⟩ ⟨g, off + n0, none⟩ (.int .i64 (p - 1)) (by simp; omega)).trans hcell))))⟩) ?_
  clear hK K
  try simp only [Act.put, List.setIfInBounds_toArray, List.set_cons_zero, List.set_cons_succ]
  refine HL.done ?_
  go_wp2_with fail
  have rq := (put4_box bR0 (.int .i64 (p - 1)) (.int .i64 p) (.int .i64 t) (.slice (some ⟨W.heap.size, 0, none⟩) 1 1)).alloc (.cells #[.int .i64 (n0 : Int), .int .i64 v, .int .i64 o] 84)
  have hnf := (put4_nx (g := (w.heap.size + 1)) hx0 (by omega) (.int .i64 (p - 1)) (.int .i64 p) (.int .i64 t) (.slice (some ⟨W.heap.size, 0, none⟩) 1 1)).alloc (.cells #[.int .i64 (n0 : Int), .int .i64 v, .int .i64 o] 84)
  unfold put4 at rq hnf
  have hsz3 : ((((W.setCell ⟨(w.heap.size + 1), 0, none⟩ (.int .i64 (p - 1))).setCell ⟨(w.heap.size + 1), 1, none⟩ (.int .i64 p)).setCell ⟨(w.heap.size + 1), 2, none⟩ (.int .i64 t)).setCell ⟨(w.heap.size + 1), 3, none⟩ (.slice (some ⟨W.heap.size, 0, none⟩) 1 1)).heap.size = W.heap.size := by simp [World.setCell]
  have bC3 := Box.new ((((W.setCell ⟨(w.heap.size + 1), 0, none⟩ (.int .i64 (p - 1))).setCell ⟨(w.heap.size + 1), 1, none⟩ (.int .i64 p)).setCell ⟨(w.heap.size + 1), 2, none⟩ (.int .i64 t)).setCell ⟨(w.heap.size + 1), 3, none⟩ (.slice (some ⟨W.heap.size, 0, none⟩) 1 1)) 84 #[.int .i64 (n0 : Int), .int .i64 v, .int .i64 o]
  rw [hsz3] at bC3
  have hlw := hx0.size
  have hSf : Sl _ w.heap.size (some ⟨W.heap.size, 0, none⟩) 84 (1 * 3) (chAt [((n0 : Int), v, xs.getD n0 0)]) := Sl.own (by rw [Ho.out]; exact one_own bC3) (by omega)
  clear hsz3
  generalize (((((W.setCell ⟨(w.heap.size + 1), 0, none⟩ (.int .i64 (p - 1))).setCell ⟨(w.heap.size + 1), 1, none⟩ (.int .i64 p)).setCell ⟨(w.heap.size + 1), 2, none⟩ (.int .i64 t)).setCell ⟨(w.heap.size + 1), 3, none⟩ (.slice (some ⟨W.heap.size, 0, none⟩) 1 1)).alloc (.cells #[.int .i64 (n0 : Int), .int .i64 v, .int .i64 o] 84)) = Wf at *
  obtain ⟨rg0, rg1, rg2, rg3⟩ := rq.d4
  exact bodyPost_ret (v := .agg #[.int .i64 (p - 1), .int .i64 p, .int .i64 t, .slice (some ⟨W.heap.size, 0, none⟩) 1 1]) (by simp [results, Try.results90, go_sem, rg0, rg1, rg2, rg3]) rfl ⟨_, 1, rfl, hSf, hnf.drew⟩

set_option maxRecDepth 100000 in
set_option maxHeartbeats 4000000 in
theorem specSegOf_c (A2 : Option Addr) (c2 B : Nat) (xs : List Int) (p b v t : Int) (w : World) (h : Ins w B A2 xs) (hB : B ≤ w.heap.size) (hn : xs.length ≤ 1048576) :
    Calls Try.prog 31 #[.slice A2 xs.length c2, .agg #[.int .i64 p, .int .i64 b, .int .i64 v, .int .i64 t]] w (RetSC w (sgOf xs p b v t) (askC xs (frameB p b v t))) := by
  have bF0 := (Box.new w 58 #[.int .i64 p, .int .i64 b, .int .i64 v, .int .i64 t]).alloc (.cells #[.int .i64 0, .int .i64 0, .int .i64 0, .slice none 0 0] 54)
  have bR0 := Box.new (w.alloc (.cells #[.int .i64 p, .int .i64 b, .int .i64 v, .int .i64 t] 58)) 54 #[.int .i64 0, .int .i64 0, .int .i64 0, .slice none 0 0]
  have hx0 := ((Nx.refl w).alloc (.cells #[.int .i64 p, .int .i64 b, .int .i64 v, .int .i64 t] 58)).alloc (.cells #[.int .i64 0, .int .i64 0, .int .i64 0, .slice none 0 0] 54)
  simp only [World.size_alloc] at bR0
  by_cases hl : 4096 < xs.length
  · have hd : decide (4096 < (xs.length : Int)) = true := by simp; omega
    have HR := Lib.hid (show askC xs (frameB p b v t) = 2 ∧ sgOf xs p b v t = zSg by
      unfold sgOf; rw [(askC_long hl true).2]; exact ⟨(askC_long hl _).1, rfl⟩)
    go_enter Try.func31, Try.ntmps31
    go_wp2
    exact bodyPost_ret (v := .tuple #[.agg #[.int .i64 0, .int .i64 0, .int .i64 0, .slice none 0 0], .int .i64 2]) (by simp [results, Try.results31, go_sem]) rfl ⟨none, 0, by rw [HR.out.1, HR.out.2]; rfl, by rw [HR.out.2]; exact Sl.none_ _ _ _ _ _, hx0⟩
  have hd : decide (4096 < (xs.length : Int)) = false := by simp; omega
  cases hc : contB xs
  · have HC := Lib.hid hc
    clear hc
    have HR := Lib.hid (show askC xs (frameB p b v t) = 1 ∧ sgOf xs p b v t = zSg by
      unfold askC sgOf; rw [if_neg hl, HC.out]; exact ⟨rfl, rfl⟩)
    go_enter Try.func31, Try.ntmps31
    go_wp2_with fail
    generalize (w.alloc (.cells #[.int .i64 p, .int .i64 b, .int .i64 v, .int .i64 t] 58)).alloc (.cells #[.int .i64 0, .int .i64 0, .int .i64 0, .slice none 0 0] 54) = W at *
    refine (specContentOK_c A2 c2 B xs _ (h.below hx0 hB) (Nat.le_trans hB hx0.size) hn).mono ?_
    rintro e w1 ⟨rfl, hx1⟩
    rw [HC.out]
    have bR := bR0.nx hx1
    have hX := hx0.trans hx1
    obtain ⟨rc0, rc1, rc2, rc3⟩ := bR.d4
    have rf0 := bR.frozen 0
    have rf1 := bR.frozen 1
    have rf2 := bR.frozen 2
    have rf3 := bR.frozen 3
    have rlt := bR.lt
    go_wp2
    have rq := (put4_box bR (.int .i64 0) (.int .i64 0) (.int .i64 0) (.slice none 0 0))
    have hnf := (put4_nx (g := (w.heap.size + 1)) hX (by omega) (.int .i64 0) (.int .i64 0) (.int .i64 0) (.slice none 0 0))
    unfold put4 at rq hnf
    generalize ((((w1.setCell ⟨(w.heap.size + 1), 0, none⟩ (.int .i64 0)).setCell ⟨(w.heap.size + 1), 1, none⟩ (.int .i64 0)).setCell ⟨(w.heap.size + 1), 2, none⟩ (.int .i64 0)).setCell ⟨(w.heap.size + 1), 3, none⟩ (.slice none 0 0)) = Wf at *
    obtain ⟨rg0, rg1, rg2, rg3⟩ := rq.d4
    exact bodyPost_ret (v := .tuple #[.agg #[.int .i64 0, .int .i64 0, .int .i64 0, .slice none 0 0], .int .i64 1]) (by simp [results, Try.results31, go_sem, rg0, rg1, rg2, rg3]) rfl ⟨none, 0, by rw [HR.out.1, HR.out.2]; rfl, by rw [HR.out.2]; exact Sl.none_ _ _ _ _ _, hnf⟩
  have HC := Lib.hid hc
  clear hc
  cases hfb : frameB p b v t
  · have HFB := Lib.hid hfb
    clear hfb
    have HR := Lib.hid (show askC xs (frameB p b v t) = 1 ∧ sgOf xs p b v t = zSg by
      rw [HFB.out]; unfold askC sgOf; rw [if_neg hl, HC.out, HFB.out]; exact ⟨rfl, rfl⟩)
    rw [HFB.out] at HR
    go_enter Try.func31, Try.ntmps31
    go_wp2_with fail
    generalize (w.alloc (.cells #[.int .i64 p, .int .i64 b, .int .i64 v, .int .i64 t] 58)).alloc (.cells #[.int .i64 0, .int .i64 0, .int .i64 0, .slice none 0 0] 54) = W at *
    refine (specContentOK_c A2 c2 B xs _ (h.below hx0 hB) (Nat.le_trans hB hx0.size) hn).mono ?_
    rintro e w1 ⟨rfl, hx1⟩
    rw [HC.out]
    obtain ⟨k0, k1, k2, k3⟩ := (bF0.nx hx1).d4
    go_wp2_with fail
    refine (specFrameOK_c p b v t _).mono ?_
    rintro e w2 ⟨rfl, hx2⟩
    rw [HFB.out]
    have bR := (bR0.nx hx1).nx hx2
    have hX := (hx0.trans hx1).trans hx2
    clear k0 k1 k2 k3
    obtain ⟨rc0, rc1, rc2, rc3⟩ := bR.d4
    have rf0 := bR.frozen 0
    have rf1 := bR.frozen 1
    have rf2 := bR.frozen 2
    have rf3 := bR.frozen 3
    have rlt := bR.lt
    go_wp2
    have rq := (put4_box bR (.int .i64 0) (.int .i64 0) (.int .i64 0) (.slice none 0 0))
    have hnf := (put4_nx (g := (w.heap.size + 1)) hX (by omega) (.int .i64 0) (.int .i64 0) (.int .i64 0) (.slice none 0 0))
    unfold put4 at rq hnf
    generalize ((((w2.setCell ⟨(w.heap.size + 1), 0, none⟩ (.int .i64 0)).setCell ⟨(w.heap.size + 1), 1, none⟩ (.int .i64 0)).setCell ⟨(w.heap.size + 1), 2, none⟩ (.int .i64 0)).setCell ⟨(w.heap.size + 1), 3, none⟩ (.slice none 0 0)) = Wf at *
    obtain ⟨rg0, rg1, rg2, rg3⟩ := rq.d4
    exact bodyPost_ret (v := .tuple #[.agg #[.int .i64 0, .int .i64 0, .int .i64 0, .slice none 0 0], .int .i64 1]) (by simp [results, Try.results31, go_sem, rg0, rg1, rg2, rg3]) rfl ⟨none, 0, by rw [HR.out.1, HR.out.2]; rfl, by rw [HR.out.2]; exact Sl.none_ _ _ _ _ _, hnf⟩
  have HFB := Lib.hid hfb
  obtain ⟨hb0, hb7, hp1, hp2, _, _, _, _⟩ := frameB_block hfb
  clear hfb
  obtain ⟨n0, rfl⟩ : ∃ n : Nat, b = n := ⟨b.toNat, by omega⟩
  have HR := Lib.hid (show askC xs (frameB p n0 v t) = 0 ∧ sgOf xs p n0 v t = ofW xs p n0 v t by
    rw [HFB.out]; unfold askC sgOf; rw [if_neg hl, HC.out, HFB.out]; exact ⟨rfl, rfl⟩)
  rw [HFB.out] at HR
  have hn0 : n0 < xs.length := by have := (contB_yes HC.out).1; omega
  obtain ⟨o, Ho⟩ : ∃ o, Hid (xs.getD n0 0 = o) := ⟨_, rfl⟩
  go_enter Try.func31, Try.ntmps31
  go_wp2_with fail
  generalize (w.alloc (.cells #[.int .i64 p, .int .i64 (n0 : Int), .int .i64 v, .int .i64 t] 58)).alloc (.cells #[.int .i64 0, .int .i64 0, .int .i64 0, .slice none 0 0] 54) = W at *
  refine (specContentOK_c A2 c2 B xs _ (h.below hx0 hB) (Nat.le_trans hB hx0.size) hn).mono ?_
  rintro e w0 ⟨rfl, hx1⟩
  rw [HC.out]
  obtain ⟨k0, k1, k2, k3⟩ := (bF0.nx hx1).d4
  go_wp2_with fail
  refine (specFrameOK_c p n0 v t _).mono ?_
  rintro e w1 ⟨rfl, hx2⟩
  rw [HFB.out]
  have hX1 := (hx0.trans hx1).trans hx2
  clear k0 k1 k2 k3
  obtain ⟨k0, k1, k2, k3⟩ := ((bF0.nx hx1).nx hx2).d4
  go_wp2_with fail
  refine (l03Of_c A2 c2 B n0 xs p v t _ (h.below hX1 hB) (Nat.le_trans hB hX1.size) hn0 hn hp1 (by omega)).mono ?_
  rintro e w2 ⟨A9, c9, rfl, hS9, hx3⟩
  rw [Ho.out] at hS9
  have bR := ((bR0.nx hx1).nx hx2).nx hx3
  have hX := hX1.trans hx3
  have hlR : w.heap.size + 1 < w1.heap.size := ((bR0.nx hx1).nx hx2).lt
  clear k0 k1 k2 k3
  obtain ⟨rc0, rc1, rc2, rc3⟩ := bR.d4
  have rf0 := bR.frozen 0
  have rf1 := bR.frozen 1
  have rf2 := bR.frozen 2
  have rf3 := bR.frozen 3
  have rlt := bR.lt
  go_wp2
  have rq := (put4_box bR (.int .i64 (p - 1)) (.int .i64 p) (.int .i64 t) (.slice A9 1 c9))
  have hnf := (put4_nx (g := (w.heap.size + 1)) hX (by omega) (.int .i64 (p - 1)) (.int .i64 p) (.int .i64 t) (.slice A9 1 c9))
  unfold put4 at rq hnf
  have hSf := (((((hS9.low (lo' := w.heap.size + 2) (by omega)).far (p := ⟨(w.heap.size + 1), 0, none⟩) (by simp) (.int .i64 (p - 1))).far (p := ⟨(w.heap.size + 1), 1, none⟩) (by simp) (.int .i64 p)).far (p := ⟨(w.heap.size + 1), 2, none⟩) (by simp) (.int .i64 t)).far (p := ⟨(w.heap.size + 1), 3, none⟩) (by simp) (.slice A9 1 c9))
  replace hSf := hSf.low (lo' := w.heap.size) (by omega)
  generalize ((((w2.setCell ⟨(w.heap.size + 1), 0, none⟩ (.int .i64 (p - 1))).setCell ⟨(w.heap.size + 1), 1, none⟩ (.int .i64 p)).setCell ⟨(w.heap.size + 1), 2, none⟩ (.int .i64 t)).setCell ⟨(w.heap.size + 1), 3, none⟩ (.slice A9 1 c9)) = Wf at *
  obtain ⟨rg0, rg1, rg2, rg3⟩ := rq.d4
  exact bodyPost_ret (v := .tuple #[.agg #[.int .i64 (p - 1), .int .i64 p, .int .i64 t, .slice A9 1 c9], .int .i64 0]) (by simp [results, Try.results31, go_sem, rg0, rg1, rg2, rg3]) rfl ⟨A9, c9, by rw [HR.out.1, HR.out.2]; unfold ofW; rfl, by rw [HR.out.2]; unfold ofW; rw [Int.toNat_natCast, Ho.out]; exact hSf, hnf⟩
end Go.Proofs.Ytihpadelfpogmaa
