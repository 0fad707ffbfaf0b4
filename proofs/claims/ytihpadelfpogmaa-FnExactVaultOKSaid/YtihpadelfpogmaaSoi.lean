/-
  Contracts of SegOf, as the program has it.
  Conditions: the list can be read, and holds at most 1048576 elements.
-/
import Derived.Test.YtihpadelfpogmaaSof
import Derived.Test.YtihpadelfpogmaaSgt
namespace Go.Proofs.Ytihpadelfpogmaa
set_option linter.unusedVariables false
set_option maxRecDepth 100000
open Go.RowKit


set_option maxRecDepth 100000 in
set_option maxHeartbeats 4000000 in
theorem valuesSegOf_c (xs : List Int) (p v t : Int) (n0 : Nat) (w : World) (h8 : xs.length = 8) (hn0 : n0 < 8) (hp1 : 1 ≤ p) (hp2 : p ≤ 9000000) :
    Calls Try.prog 94 #[vA xs, .agg #[.int .i64 p, .int .i64 (n0 : Int), .int .i64 v, .int .i64 t]] w (RetG w (p - 1) p t [((n0 : Int), v, xs.getD n0 0)]) := by
  unfold vA
  have hwp : IntKind.i64.wrap (p - 1) = p - 1 := IntWalk.i64_in _ (by omega)
  have bA0 : Box (((w.alloc (.cells #[inAt xs 0, inAt xs 1, inAt xs 2, inAt xs 3, inAt xs 4, inAt xs 5, inAt xs 6, inAt xs 7] 99)).alloc (.cells #[.int .i64 p, .int .i64 (n0 : Int), .int .i64 v, .int .i64 t] 58)).alloc (.cells #[.int .i64 0, .int .i64 0, .int .i64 0, .slice none 0 0] 54)) w.heap.size 99 #[inAt xs 0, inAt xs 1, inAt xs 2, inAt xs 3, inAt xs 4, inAt xs 5, inAt xs 6, inAt xs 7] := ((Box.new w _ _).alloc _).alloc _
  have bF0 : Box (((w.alloc (.cells #[inAt xs 0, inAt xs 1, inAt xs 2, inAt xs 3, inAt xs 4, inAt xs 5, inAt xs 6, inAt xs 7] 99)).alloc (.cells #[.int .i64 p, .int .i64 (n0 : Int), .int .i64 v, .int .i64 t] 58)).alloc (.cells #[.int .i64 0, .int .i64 0, .int .i64 0, .slice none 0 0] 54)) (w.heap.size + 1) 58 #[.int .i64 p, .int .i64 (n0 : Int), .int .i64 v, .int .i64 t] := by have := (Box.new (w.alloc (.cells #[inAt xs 0, inAt xs 1, inAt xs 2, inAt xs 3, inAt xs 4, inAt xs 5, inAt xs 6, inAt xs 7] 99)) 58 #[.int .i64 p, .int .i64 (n0 : Int), .int .i64 v, .int .i64 t]).alloc (.cells #[.int .i64 0, .int .i64 0, .int .i64 0, .slice none 0 0] 54); rwa [World.size_alloc] at this
  have bR0 : Box (((w.alloc (.cells #[inAt xs 0, inAt xs 1, inAt xs 2, inAt xs 3, inAt xs 4, inAt xs 5, inAt xs 6, inAt xs 7] 99)).alloc (.cells #[.int .i64 p, .int .i64 (n0 : Int), .int .i64 v, .int .i64 t] 58)).alloc (.cells #[.int .i64 0, .int .i64 0, .int .i64 0, .slice none 0 0] 54)) (w.heap.size + 1 + 1) 54 #[.int .i64 0, .int .i64 0, .int .i64 0, .slice none 0 0] := by have := Box.new ((w.alloc (.cells #[inAt xs 0, inAt xs 1, inAt xs 2, inAt xs 3, inAt xs 4, inAt xs 5, inAt xs 6, inAt xs 7] 99)).alloc (.cells #[.int .i64 p, .int .i64 (n0 : Int), .int .i64 v, .int .i64 t] 58)) 54 #[.int .i64 0, .int .i64 0, .int .i64 0, .slice none 0 0]; rwa [World.size_alloc, World.size_alloc] at this
  have hx0 := (((Nx.refl w).alloc (.cells #[inAt xs 0, inAt xs 1, inAt xs 2, inAt xs 3, inAt xs 4, inAt xs 5, inAt xs 6, inAt xs 7] 99)).alloc (.cells #[.int .i64 p, .int .i64 (n0 : Int), .int .i64 v, .int .i64 t] 58)).alloc (.cells #[.int .i64 0, .int .i64 0, .int .i64 0, .slice none 0 0] 54)
  go_enter Try.func94, Try.ntmps94
  go_wp2_with fail
  generalize (((w.alloc (.cells #[inAt xs 0, inAt xs 1, inAt xs 2, inAt xs 3, inAt xs 4, inAt xs 5, inAt xs 6, inAt xs 7] 99)).alloc (.cells #[.int .i64 p, .int .i64 (n0 : Int), .int .i64 v, .int .i64 t] 58)).alloc (.cells #[.int .i64 0, .int .i64 0, .int .i64 0, .slice none 0 0] 54)) = W at *
  obtain ⟨gF, HgF⟩ : ∃ g, Hid (w.heap.size + 1 = g) := ⟨_, rfl⟩
  obtain ⟨gR, HgR⟩ : ∃ g, Hid (w.heap.size + 1 + 1 = g) := ⟨_, rfl⟩
  have hgR : w.heap.size ≤ gR := by have := HgR.out; omega
  rw [HgR.out, HgF.out]
  rw [HgF.out] at bF0
  rw [HgR.out] at bR0
  have bF := bF0.nx (Nx.refl _).drew
  obtain ⟨o, Ho⟩ : ∃ o, Hid (xs.getD n0 0 = o) := ⟨_, rfl⟩
  have hcell : W.drew.cell? ⟨w.heap.size, n0, none⟩ = some (.int .i64 o) := by have := (box_inAt bA0).cell hn0; unfold inAt at this; rw [Ho.out] at this; exact this
  have hgw : w.heap.size < W.drew.heap.size := bA0.lt
  have hi0 : (0 : Int) ≤ (n0 : Int) := by omega
  have hi1 : (n0 : Int) < 8 := by omega
  refine wp_region_lex [false, false, false, false, false, false, false, false, false, true, true] (fun w' => (w'.cell? ⟨gF, 0, none⟩ = some (.int .i64 p) ∧ w'.cell? ⟨gF, 1, none⟩ = some (.int .i64 (n0 : Int)) ∧ w'.cell? ⟨gF, 2, none⟩ = some (.int .i64 v) ∧ w'.cell? ⟨gF, 3, none⟩ = some (.int .i64 t)) ∧ w'.cell? ⟨w.heap.size, n0, none⟩ = some (.int .i64 o)) (by kernel_rfl) (by kernel_rfl) rfl (by kernel_rfl) (fun _ _ d _ _ h => by cases d <;> exact h) (by exact ⟨bF.d4, hcell⟩) ?_
  repeat (first | (refine HL.take (v := ?_) (by rfl) ?_ ?_; rotate_left; (· (intro w hSw; (try dsimp only at hSw); go_simp; try with_reducible rfl)); (try simp only [Act.put, List.setIfInBounds_toArray, List.set_cons_zero, List.set_cons_succ])) | (refine HL.skip (by rfl) ?_; (try simp only [Act.put, List.setIfInBounds_toArray, List.set_cons_zero, List.set_cons_succ])))
  refine HL.call (by rfl) (fun K hK => ?_)
  go_simp
  refine hK.out _ _ (by exact ⟨(bF.alloc (.cells #[.int .i64 0, .int .i64 0, .int .i64 0] 84)).d4, (((Nx.refl W.drew).alloc (.cells #[.int .i64 0, .int .i64 0, .int .i64 0] 84)).cell (p := ⟨w.heap.size, n0, none⟩) hgw).trans hcell⟩) ?_
  clear hK K
  try simp only [Act.put, List.setIfInBounds_toArray, List.set_cons_zero, List.set_cons_succ]
  refine HL.call (by rfl) (fun K hK => ?_)
  go_simp
  refine hK.out _ _ (by exact ⟨(bF.alloc (.cells #[.int .i64 (n0 : Int), .int .i64 v, .int .i64 o] 84)).d4, (((Nx.refl W.drew).alloc (.cells #[.int .i64 (n0 : Int), .int .i64 v, .int .i64 o] 84)).cell (p := ⟨w.heap.size, n0, none⟩) hgw).trans hcell⟩) ?_
  clear hK K
  try simp only [Act.put, List.setIfInBounds_toArray, List.set_cons_zero, List.set_cons_succ]
  refine HL.done ?_
  have bF2 := bF.alloc (.cells #[.int .i64 (n0 : Int), .int .i64 v, .int .i64 o] 84)
  have bR2 := (bR0.nx (Nx.refl W).drew).alloc (.cells #[.int .i64 (n0 : Int), .int .i64 v, .int .i64 o] 84)
  have bC2 : Box (W.drew.alloc (.cells #[.int .i64 (n0 : Int), .int .i64 v, .int .i64 o] 84)) W.heap.size 84 #[.int .i64 (n0 : Int), .int .i64 v, .int .i64 o] := Box.new W.drew 84 #[.int .i64 (n0 : Int), .int .i64 v, .int .i64 o]
  have hX2 := hx0.drew.alloc (.cells #[.int .i64 (n0 : Int), .int .i64 v, .int .i64 o] 84)
  have hgz : W.heap.size < (W.drew.alloc (.cells #[.int .i64 (n0 : Int), .int .i64 v, .int .i64 o] 84)).heap.size := bC2.lt
  change Exit.then _ _ _ _ (W.drew.alloc (.cells #[.int .i64 (n0 : Int), .int .i64 v, .int .i64 o] 84))
  generalize W.drew.alloc (.cells #[.int .i64 (n0 : Int), .int .i64 v, .int .i64 o] 84) = W3 at *
  obtain ⟨k0, k1, k2, k3⟩ := bF2.d4
  obtain ⟨m0, m1, m2⟩ := bC2.d3
  obtain ⟨rc0, rc1, rc2, rc3⟩ := bR2.d4
  have rf0 := bR2.frozen 0
  have rf1 := bR2.frozen 1
  have rf2 := bR2.frozen 2
  have rf3 := bR2.frozen 3
  have rlt := bR2.lt
  go_wp2
  have rq := (put4_box bR2 (.int .i64 (p - 1)) (.int .i64 p) (.int .i64 t) (.slice (some ⟨W3.heap.size, 0, none⟩) 1 1)).alloc (.cells #[.int .i64 (n0 : Int), .int .i64 v, .int .i64 o] 84)
  have hnf := (put4_nx (g := gR) hX2 (by omega) (.int .i64 (p - 1)) (.int .i64 p) (.int .i64 t) (.slice (some ⟨W3.heap.size, 0, none⟩) 1 1)).alloc (.cells #[.int .i64 (n0 : Int), .int .i64 v, .int .i64 o] 84)
  unfold put4 at rq hnf
  have hsz3 : ((((W3.setCell ⟨gR, 0, none⟩ (.int .i64 (p - 1))).setCell ⟨gR, 1, none⟩ (.int .i64 p)).setCell ⟨gR, 2, none⟩ (.int .i64 t)).setCell ⟨gR, 3, none⟩ (.slice (some ⟨W3.heap.size, 0, none⟩) 1 1)).heap.size = W3.heap.size := by simp [World.setCell]
  have bC3 := Box.new ((((W3.setCell ⟨gR, 0, none⟩ (.int .i64 (p - 1))).setCell ⟨gR, 1, none⟩ (.int .i64 p)).setCell ⟨gR, 2, none⟩ (.int .i64 t)).setCell ⟨gR, 3, none⟩ (.slice (some ⟨W3.heap.size, 0, none⟩) 1 1)) 84 #[.int .i64 (n0 : Int), .int .i64 v, .int .i64 o]
  rw [hsz3] at bC3
  have hlw := hX2.size
  have hSf : Sl _ w.heap.size (some ⟨W3.heap.size, 0, none⟩) 84 (1 * 3) (chAt [((n0 : Int), v, xs.getD n0 0)]) := Sl.own (by rw [Ho.out]; exact one_own bC3) (by omega)
  clear hsz3
  generalize (((((W3.setCell ⟨gR, 0, none⟩ (.int .i64 (p - 1))).setCell ⟨gR, 1, none⟩ (.int .i64 p)).setCell ⟨gR, 2, none⟩ (.int .i64 t)).setCell ⟨gR, 3, none⟩ (.slice (some ⟨W3.heap.size, 0, none⟩) 1 1)).alloc (.cells #[.int .i64 (n0 : Int), .int .i64 v, .int .i64 o] 84)) = Wf at *
  obtain ⟨rg0, rg1, rg2, rg3⟩ := rq.d4
  exact bodyPost_ret (v := .agg #[.int .i64 (p - 1), .int .i64 p, .int .i64 t, .slice (some ⟨W3.heap.size, 0, none⟩) 1 1]) (by simp [results, Try.results94, go_sem, rg0, rg1, rg2, rg3]) rfl ⟨_, 1, rfl, hSf, hnf⟩

set_option maxRecDepth 100000 in
set_option maxHeartbeats 4000000 in
theorem implSegOf_c (A2 : Option Addr) (c2 B : Nat) (xs : List Int) (p b v t : Int) (w : World) (h : Ins w B A2 xs) (hB : B ≤ w.heap.size) (hn : xs.length ≤ 1048576) :
    Calls Try.prog 34 #[.slice A2 xs.length c2, .agg #[.int .i64 p, .int .i64 b, .int .i64 v, .int .i64 t]] w (RetSC w (sgOf xs p b v t) (askC xs (frameB p b v t))) := by
  have bF0 := (Box.new w 58 #[.int .i64 p, .int .i64 b, .int .i64 v, .int .i64 t]).alloc (.cells #[.int .i64 0, .int .i64 0, .int .i64 0, .slice none 0 0] 54)
  have bR0 := Box.new (w.alloc (.cells #[.int .i64 p, .int .i64 b, .int .i64 v, .int .i64 t] 58)) 54 #[.int .i64 0, .int .i64 0, .int .i64 0, .slice none 0 0]
  have hx0 := ((Nx.refl w).alloc (.cells #[.int .i64 p, .int .i64 b, .int .i64 v, .int .i64 t] 58)).alloc (.cells #[.int .i64 0, .int .i64 0, .int .i64 0, .slice none 0 0] 54)
  simp only [World.size_alloc] at bR0
  obtain ⟨z, Hz⟩ : ∃ z, Hid (askC xs true = z) := ⟨_, rfl⟩
  by_cases hz : z = 0
  case neg =>
    have hd : (z != 0) = true := by simp [hz]
    have HR := Lib.hid (show askC xs (frameB p b v t) = z ∧ sgOf xs p b v t = zSg by
      have := Hz.out
      unfold askC at this ⊢
      unfold sgOf
      by_cases hl : 4096 < xs.length
      · rw [if_pos hl] at this ⊢; rw [(askC_long hl true).2]; exact ⟨this, rfl⟩
      · rw [if_neg hl] at this ⊢
        cases hc : contB xs
        · rw [hc] at this; exact ⟨this, rfl⟩
        · rw [hc] at this; exact absurd this.symm hz)
    go_enter Try.func34, Try.ntmps34
    go_wp2_with fail
    generalize (w.alloc (.cells #[.int .i64 p, .int .i64 b, .int .i64 v, .int .i64 t] 58)).alloc (.cells #[.int .i64 0, .int .i64 0, .int .i64 0, .slice none 0 0] 54) = W at *
    refine (contentCode_c A2 c2 B xs _ (h.below hx0 hB) (Nat.le_trans hB hx0.size) hn).mono ?_
    rintro e w1 ⟨rfl, hx1⟩
    rw [Hz.out]
    have bR := bR0.nx hx1
    have hX := hx0.trans hx1
    obtain ⟨rc0, rc1, rc2, rc3⟩ := bR.d4
    have rf0 := bR.frozen 0
    have rf1 := bR.frozen 1
    have rf2 := bR.frozen 2
    have rf3 := bR.frozen 3
    have rlt := bR.lt
    go_wp2
    have rq := (put4_box bR (.int .i64 0) (.int .i64 0) (.int .i64 0) (.slice none 0 0))
    have hnf := (put4_nx (g := (w.heap.size + 1)) hX (by omega) (.int .i64 0) (.int .i64 0) (.int .i64 0) (.slice none 0 0))
    unfold put4 at rq hnf
    generalize ((((w1.setCell ⟨(w.heap.size + 1), 0, none⟩ (.int .i64 0)).setCell ⟨(w.heap.size + 1), 1, none⟩ (.int .i64 0)).setCell ⟨(w.heap.size + 1), 2, none⟩ (.int .i64 0)).setCell ⟨(w.heap.size + 1), 3, none⟩ (.slice none 0 0)) = Wf at *
    obtain ⟨rg0, rg1, rg2, rg3⟩ := rq.d4
    exact bodyPost_ret (v := .tuple #[.agg #[.int .i64 0, .int .i64 0, .int .i64 0, .slice none 0 0], .int .i64 z]) (by simp [results, Try.results34, go_sem, rg0, rg1, rg2, rg3]) rfl ⟨none, 0, by rw [HR.out.1, HR.out.2]; rfl, by rw [HR.out.2]; exact Sl.none_ _ _ _ _ _, hnf⟩
  subst hz
  have HC := Lib.hid (show ¬ 4096 < xs.length ∧ contB xs = true by
    have := Hz.out
    unfold askC at this
    by_cases hl : 4096 < xs.length
    · rw [if_pos hl] at this; omega
    · rw [if_neg hl] at this
      cases hc : contB xs
      · rw [hc] at this; simp at this
      · exact ⟨hl, rfl⟩)
  cases hfb : frameB p b v t
  · have HFB := Lib.hid hfb
    clear hfb
    have HR := Lib.hid (show askC xs (frameB p b v t) = 1 ∧ sgOf xs p b v t = zSg by
      rw [HFB.out]; unfold askC sgOf; rw [if_neg HC.out.1, HC.out.2, HFB.out]; exact ⟨rfl, rfl⟩)
    rw [HFB.out] at HR
    go_enter Try.func34, Try.ntmps34
    go_wp2_with fail
    generalize (w.alloc (.cells #[.int .i64 p, .int .i64 b, .int .i64 v, .int .i64 t] 58)).alloc (.cells #[.int .i64 0, .int .i64 0, .int .i64 0, .slice none 0 0] 54) = W at *
    refine (contentCode_c A2 c2 B xs _ (h.below hx0 hB) (Nat.le_trans hB hx0.size) hn).mono ?_
    rintro e w1 ⟨rfl, hx1⟩
    rw [Hz.out]
    obtain ⟨k0, k1, k2, k3⟩ := (bF0.nx hx1).d4
    go_wp2_with fail
    refine (frameRight_c p b v t _).mono ?_
    rintro e w2 ⟨rfl, hx2⟩
    rw [HFB.out]
    have bR := (bR0.nx hx1).nx hx2
    have hX := (hx0.trans hx1).trans hx2
    clear k0 k1 k2 k3
    obtain ⟨rc0, rc1, rc2, rc3⟩ := bR.d4
    have rf0 := bR.frozen 0
    have rf1 := bR.frozen 1
    have rf2 := bR.frozen 2
    have rf3 := bR.frozen 3
    have rlt := bR.lt
    go_wp2
    have rq := (put4_box bR (.int .i64 0) (.int .i64 0) (.int .i64 0) (.slice none 0 0))
    have hnf := (put4_nx (g := (w.heap.size + 1)) hX (by omega) (.int .i64 0) (.int .i64 0) (.int .i64 0) (.slice none 0 0))
    unfold put4 at rq hnf
    generalize ((((w2.setCell ⟨(w.heap.size + 1), 0, none⟩ (.int .i64 0)).setCell ⟨(w.heap.size + 1), 1, none⟩ (.int .i64 0)).setCell ⟨(w.heap.size + 1), 2, none⟩ (.int .i64 0)).setCell ⟨(w.heap.size + 1), 3, none⟩ (.slice none 0 0)) = Wf at *
    obtain ⟨rg0, rg1, rg2, rg3⟩ := rq.d4
    exact bodyPost_ret (v := .tuple #[.agg #[.int .i64 0, .int .i64 0, .int .i64 0, .slice none 0 0], .int .i64 1]) (by simp [results, Try.results34, go_sem, rg0, rg1, rg2, rg3]) rfl ⟨none, 0, by rw [HR.out.1, HR.out.2]; rfl, by rw [HR.out.2]; exact Sl.none_ _ _ _ _ _, hnf⟩
  have HFB := Lib.hid hfb
  obtain ⟨hb0, hb7, hp1, hp2, _, _, _, _⟩ := frameB_block hfb
  clear hfb
  obtain ⟨n0, rfl⟩ : ∃ n : Nat, b = n := ⟨b.toNat, by omega⟩
  have HR := Lib.hid (show askC xs (frameB p n0 v t) = 0 ∧ sgOf xs p n0 v t = ofW xs p n0 v t by
    rw [HFB.out]; unfold askC sgOf; rw [if_neg HC.out.1, HC.out.2, HFB.out]; exact ⟨rfl, rfl⟩)
  rw [HFB.out] at HR
  have h8 := (contB_yes HC.out.2).1
  have hn0 : n0 < xs.length := by omega
  have hn1 : (n0 : Int) < (xs.length : Int) := by omega
  have hwp : IntKind.i64.wrap (p - 1) = p - 1 := IntWalk.i64_in _ (by omega)
  have H8 := Lib.hid h8
  clear h8
  go_enter Try.func34, Try.ntmps34
  go_wp2_with fail
  generalize (w.alloc (.cells #[.int .i64 p, .int .i64 (n0 : Int), .int .i64 v, .int .i64 t] 58)).alloc (.cells #[.int .i64 0, .int .i64 0, .int .i64 0, .slice none 0 0] 54) = W at *
  refine (contentCode_c A2 c2 B xs _ (h.below hx0 hB) (Nat.le_trans hB hx0.size) hn).mono ?_
  rintro e w0 ⟨rfl, hx1⟩
  rw [Hz.out]
  obtain ⟨k0, k1, k2, k3⟩ := (bF0.nx hx1).d4
  go_wp2_with fail
  refine (frameRight_c p n0 v t _).mono ?_
  rintro e w1 ⟨rfl, hx2⟩
  rw [HFB.out]
  have bR1 := ((bR0.nx hx1).nx hx2).nx (Nx.refl _).drew
  have hX1 := ((hx0.trans hx1).trans hx2).drew
  have bF := ((bF0.nx hx1).nx hx2).nx (Nx.refl _).drew
  clear k0 k1 k2 k3 bF0 bR0 hx0 hx1 hx2
  obtain ⟨o, Ho⟩ : ∃ o, Hid (xs.getD n0 0 = o) := ⟨_, rfl⟩
  go_wp2_with fail
  refine wp_region_plan (.t 0 (.t 2 (.c 1 (.c 3 (.c 4 (.t 5 .e)))))) (fun w' => w'.cell? ⟨w.heap.size, 0, none⟩ = some (.int .i64 p) ∧ w'.cell? ⟨w.heap.size, 1, none⟩ = some (.int .i64 (n0 : Int)) ∧ w'.cell? ⟨w.heap.size, 2, none⟩ = some (.int .i64 v) ∧ w'.cell? ⟨w.heap.size, 3, none⟩ = some (.int .i64 t)) (by kernel_rfl) (by kernel_rfl) rfl (by kernel_rfl) (fun _ _ d _ _ h => by cases d <;> exact h) (by exact bF.d4) ?_
  simp only [psOf, List.getD_cons_zero, List.getD_cons_succ]
  repeat (first | (refine HP.take (v := ?_) (by rfl) ?_ ?_; rotate_left; (· (intro w hSw; (try dsimp only at hSw); go_simp; try with_reducible rfl)); (try simp only [Act.put, List.setIfInBounds_toArray, List.set_cons_zero, List.set_cons_succ])) | (refine HP.skip (by rfl) ?_; (try simp only [Act.put, List.setIfInBounds_toArray, List.set_cons_zero, List.set_cons_succ])))
  refine HP.call ?_
  refine CallStep.mk (by rfl) (fun K hK => ?_)
  go_simp
  refine (valuesOf_c A2 c2 B xs _ (h.below hX1 hB) (Nat.le_trans hB hX1.size) H8.out).mono ?_; rintro e w2 ⟨rfl, hx3⟩; have bF2 := bF.nx hx3; have bR2 := bR1.nx hx3; have hX2 := hX1.trans hx3; clear bF bR1 hX1 hx3
  go_wp2_with fail
  refine hK.out _ _ (by exact bF2.d4) ?_
  clear hK K
  try simp only [Act.put, List.setIfInBounds_toArray, List.set_cons_zero, List.set_cons_succ]
  refine HP.call ?_
  refine CallStep.mk (by rfl) (fun K hK => ?_)
  go_simp
  refine (valuesSegOf_c xs p v t n0 _ H8.out (by have := H8.out; omega) hp1 (by omega)).mono ?_; rintro e w3 ⟨A9, c9, rfl, hS9, hx4⟩; have bF3 := bF2.nx hx4; have bR := bR2.nx hx4; have hX3 := hX2.trans hx4; have hlw := hX2.size; have hlt9 := bR2.lt; have rf0 := bR.frozen 0; have rf1 := bR.frozen 1; have rf2 := bR.frozen 2; have rf3 := bR.frozen 3; have rlt := bR.lt; obtain ⟨rc0, rc1, rc2, rc3⟩ := bR.d4; clear bF2 bR2 hX2 hx4
  go_wp2_with fail
  refine hK.out _ _ (by exact bF3.d4) ?_
  clear hK K
  try simp only [Act.put, List.setIfInBounds_toArray, List.set_cons_zero, List.set_cons_succ]
  refine HP.call ?_
  refine CallStep.mk (by rfl) (fun K hK => ?_)
  go_simp
  refine hK.out _ _ (by exact ((((bF3.far (p := ⟨(w.heap.size + 1), 0, none⟩) (by simp) (.int .i64 (p - 1))).far (p := ⟨(w.heap.size + 1), 1, none⟩) (by simp) (.int .i64 p)).far (p := ⟨(w.heap.size + 1), 2, none⟩) (by simp) (.int .i64 t)).far (p := ⟨(w.heap.size + 1), 3, none⟩) (by simp) (.slice A9 1 c9)).d4) ?_
  clear hK K
  try simp only [Act.put, List.setIfInBounds_toArray, List.set_cons_zero, List.set_cons_succ]
  repeat (first | (refine HP.take (v := ?_) (by rfl) ?_ ?_; rotate_left; (· (intro w hSw; (try dsimp only at hSw); go_simp; try with_reducible rfl)); (try simp only [Act.put, List.setIfInBounds_toArray, List.set_cons_zero, List.set_cons_succ])) | (refine HP.skip (by rfl) ?_; (try simp only [Act.put, List.setIfInBounds_toArray, List.set_cons_zero, List.set_cons_succ])))
  refine HP.done ?_
  go_wp2_with fail
  have rq := (put4_box bR (.int .i64 (p - 1)) (.int .i64 p) (.int .i64 t) (.slice A9 1 c9))
  have hnf := (put4_nx (g := (w.heap.size + 1)) hX3 (by omega) (.int .i64 (p - 1)) (.int .i64 p) (.int .i64 t) (.slice A9 1 c9))
  unfold put4 at rq hnf
  have hSf0 := ((((hS9.far (p := ⟨(w.heap.size + 1), 0, none⟩) (by simp; omega) (.int .i64 (p - 1))).far (p := ⟨(w.heap.size + 1), 1, none⟩) (by simp; omega) (.int .i64 p)).far (p := ⟨(w.heap.size + 1), 2, none⟩) (by simp; omega) (.int .i64 t)).far (p := ⟨(w.heap.size + 1), 3, none⟩) (by simp; omega) (.slice A9 1 c9))
  have hSf : Sl ((((w3.setCell ⟨(w.heap.size + 1), 0, none⟩ (.int .i64 (p - 1))).setCell ⟨(w.heap.size + 1), 1, none⟩ (.int .i64 p)).setCell ⟨(w.heap.size + 1), 2, none⟩ (.int .i64 t)).setCell ⟨(w.heap.size + 1), 3, none⟩ (.slice A9 1 c9)) w.heap.size A9 84 ((ofW xs p n0 v t).2.2.2.length * 3) (chAt (ofW xs p n0 v t).2.2.2) := by unfold ofW; rw [Int.toNat_natCast]; exact hSf0.low (by omega)
  clear hSf0
  generalize ((((w3.setCell ⟨(w.heap.size + 1), 0, none⟩ (.int .i64 (p - 1))).setCell ⟨(w.heap.size + 1), 1, none⟩ (.int .i64 p)).setCell ⟨(w.heap.size + 1), 2, none⟩ (.int .i64 t)).setCell ⟨(w.heap.size + 1), 3, none⟩ (.slice A9 1 c9)) = Wf at *
  obtain ⟨rg0, rg1, rg2, rg3⟩ := rq.d4
  exact bodyPost_ret (v := .tuple #[.agg #[.int .i64 (p - 1), .int .i64 p, .int .i64 t, .slice A9 1 c9], .int .i64 0]) (by simp [results, Try.results34, go_sem, rg0, rg1, rg2, rg3]) rfl ⟨A9, c9, by rw [HR.out.1, HR.out.2]; unfold ofW; rfl, by rw [HR.out.2]; exact hSf, hnf⟩
end Go.Proofs.Ytihpadelfpogmaa
