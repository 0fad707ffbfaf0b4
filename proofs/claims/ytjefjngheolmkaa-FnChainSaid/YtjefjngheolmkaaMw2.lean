/-
  Texts of the proof, put together in their order: Soi, Opi, Sge, Mkg, Lfrm, Lso, Dig, Sum.
  Conditions: those of each.
-/
import Derived.Test.YtjefjngheolmkaaMw1
import Derived.StillTailTactics
import Derived.Deep.Slices
import Derived.ChangeSame
import Derived.Deep.Fields
import Derived.Deep.RegionWith
import Derived.Laws.IdiomStrings
import Derived.Laws.Concat
import Derived.IntWalk
/- Contracts of SegOf, as the program has it. Conditions: the list can be read, and holds at most 1048576 elements. -/
namespace Go.Proofs.Ytjefjngheolmkaa
set_option linter.unusedVariables false
set_option maxRecDepth 100000
open Go.RowKit


set_option maxRecDepth 100000 in
set_option maxHeartbeats 4000000 in
theorem valuesSegOf_c (xs : List Int) (p v t : Int) (n0 : Nat) (w : World) (h8 : xs.length = 8) (hn0 : n0 < 8) (hp1 : 1 ≤ p) (hp2 : p ≤ 9000000) :
    Calls Try.prog 60 #[vA xs, .agg #[.int .i64 p, .int .i64 (n0 : Int), .int .i64 v, .int .i64 t]] w (RetG w (p - 1) p t [((n0 : Int), v, xs.getD n0 0)]) := by
  unfold vA
  have hwp : IntKind.i64.wrap (p - 1) = p - 1 := IntWalk.i64_in _ (by omega)
  have bA0 : Box (((w.alloc (.cells #[inAt xs 0, inAt xs 1, inAt xs 2, inAt xs 3, inAt xs 4, inAt xs 5, inAt xs 6, inAt xs 7] 87)).alloc (.cells #[.int .i64 p, .int .i64 (n0 : Int), .int .i64 v, .int .i64 t] 40)).alloc (.cells #[.int .i64 0, .int .i64 0, .int .i64 0, .slice none 0 0] 30)) w.heap.size 87 #[inAt xs 0, inAt xs 1, inAt xs 2, inAt xs 3, inAt xs 4, inAt xs 5, inAt xs 6, inAt xs 7] := ((Box.new w _ _).alloc _).alloc _
  have bF0 : Box (((w.alloc (.cells #[inAt xs 0, inAt xs 1, inAt xs 2, inAt xs 3, inAt xs 4, inAt xs 5, inAt xs 6, inAt xs 7] 87)).alloc (.cells #[.int .i64 p, .int .i64 (n0 : Int), .int .i64 v, .int .i64 t] 40)).alloc (.cells #[.int .i64 0, .int .i64 0, .int .i64 0, .slice none 0 0] 30)) (w.heap.size + 1) 40 #[.int .i64 p, .int .i64 (n0 : Int), .int .i64 v, .int .i64 t] := by have := (Box.new (w.alloc (.cells #[inAt xs 0, inAt xs 1, inAt xs 2, inAt xs 3, inAt xs 4, inAt xs 5, inAt xs 6, inAt xs 7] 87)) 40 #[.int .i64 p, .int .i64 (n0 : Int), .int .i64 v, .int .i64 t]).alloc (.cells #[.int .i64 0, .int .i64 0, .int .i64 0, .slice none 0 0] 30); rwa [World.size_alloc] at this
  have bR0 : Box (((w.alloc (.cells #[inAt xs 0, inAt xs 1, inAt xs 2, inAt xs 3, inAt xs 4, inAt xs 5, inAt xs 6, inAt xs 7] 87)).alloc (.cells #[.int .i64 p, .int .i64 (n0 : Int), .int .i64 v, .int .i64 t] 40)).alloc (.cells #[.int .i64 0, .int .i64 0, .int .i64 0, .slice none 0 0] 30)) (w.heap.size + 1 + 1) 30 #[.int .i64 0, .int .i64 0, .int .i64 0, .slice none 0 0] := by have := Box.new ((w.alloc (.cells #[inAt xs 0, inAt xs 1, inAt xs 2, inAt xs 3, inAt xs 4, inAt xs 5, inAt xs 6, inAt xs 7] 87)).alloc (.cells #[.int .i64 p, .int .i64 (n0 : Int), .int .i64 v, .int .i64 t] 40)) 30 #[.int .i64 0, .int .i64 0, .int .i64 0, .slice none 0 0]; rwa [World.size_alloc, World.size_alloc] at this
  have hx0 := (((Nx.refl w).alloc (.cells #[inAt xs 0, inAt xs 1, inAt xs 2, inAt xs 3, inAt xs 4, inAt xs 5, inAt xs 6, inAt xs 7] 87)).alloc (.cells #[.int .i64 p, .int .i64 (n0 : Int), .int .i64 v, .int .i64 t] 40)).alloc (.cells #[.int .i64 0, .int .i64 0, .int .i64 0, .slice none 0 0] 30)
  go_enter Try.func60, Try.ntmps60
  go_wp2_with fail
  generalize (((w.alloc (.cells #[inAt xs 0, inAt xs 1, inAt xs 2, inAt xs 3, inAt xs 4, inAt xs 5, inAt xs 6, inAt xs 7] 87)).alloc (.cells #[.int .i64 p, .int .i64 (n0 : Int), .int .i64 v, .int .i64 t] 40)).alloc (.cells #[.int .i64 0, .int .i64 0, .int .i64 0, .slice none 0 0] 30)) = W at *
  obtain ⟨gF, HgF⟩ : ∃ g, Hid (w.heap.size + 1 = g) := ⟨_, rfl⟩
  obtain ⟨gR, HgR⟩ : ∃ g, Hid (w.heap.size + 1 + 1 = g) := ⟨_, rfl⟩
  have hgR : w.heap.size ≤ gR := by have := HgR.out; omega
  rw [HgR.out, HgF.out]
  rw [HgF.out] at bF0
  rw [HgR.out] at bR0
  have bF := bF0.nx (Nx.refl _).drew
  obtain ⟨o, Ho⟩ : ∃ o, Hid (xs.getD n0 0 = o) := ⟨_, rfl⟩
  have hcell : W.drew.cell? ⟨w.heap.size, n0, none⟩ = some (.int .i64 o) := by have := (box_inAt bA0).cell hn0; unfold inAt at this; rw [Ho.out] at this; exact this
  have hgw : w.heap.size < W.drew.heap.size := bA0.lt
  have hi0 : (0 : Int) ≤ (n0 : Int) := by omega
  have hi1 : (n0 : Int) < 8 := by omega
  refine wp_region_lex [false, false, false, false, false, false, false, false, false, true, true] (fun w' => (w'.cell? ⟨gF, 0, none⟩ = some (.int .i64 p) ∧ w'.cell? ⟨gF, 1, none⟩ = some (.int .i64 (n0 : Int)) ∧ w'.cell? ⟨gF, 2, none⟩ = some (.int .i64 v) ∧ w'.cell? ⟨gF, 3, none⟩ = some (.int .i64 t)) ∧ w'.cell? ⟨w.heap.size, n0, none⟩ = some (.int .i64 o)) (by kernel_rfl) (by kernel_rfl) rfl (by kernel_rfl) (fun _ _ d _ _ h => by cases d <;> exact h) (by exact ⟨bF.d4, hcell⟩) ?_
  repeat (first | (refine HL.take (v := ?_) (by rfl) ?_ ?_; rotate_left; (· (intro w hSw; (try dsimp only at hSw); go_simp; try with_reducible rfl)); (try simp only [Act.put, List.setIfInBounds_toArray, List.set_cons_zero, List.set_cons_succ])) | (refine HL.skip (by rfl) ?_; (try simp only [Act.put, List.setIfInBounds_toArray, List.set_cons_zero, List.set_cons_succ])))
  refine HL.call (by rfl) (fun K hK => ?_)
  go_simp
  refine hK.out _ _ (by exact ⟨(bF.alloc (.cells #[.int .i64 0, .int .i64 0, .int .i64 0] 75)).d4, (((Nx.refl W.drew).alloc (.cells #[.int .i64 0, .int .i64 0, .int .i64 0] 75)).cell (p := ⟨w.heap.size, n0, none⟩) hgw).trans hcell⟩) ?_
  clear hK K
  try simp only [Act.put, List.setIfInBounds_toArray, List.set_cons_zero, List.set_cons_succ]
  refine HL.call (by rfl) (fun K hK => ?_)
  go_simp
  refine hK.out _ _ (by exact ⟨(bF.alloc (.cells #[.int .i64 (n0 : Int), .int .i64 v, .int .i64 o] 75)).d4, (((Nx.refl W.drew).alloc (.cells #[.int .i64 (n0 : Int), .int .i64 v, .int .i64 o] 75)).cell (p := ⟨w.heap.size, n0, none⟩) hgw).trans hcell⟩) ?_
  clear hK K
  try simp only [Act.put, List.setIfInBounds_toArray, List.set_cons_zero, List.set_cons_succ]
  refine HL.done ?_
  have bF2 := bF.alloc (.cells #[.int .i64 (n0 : Int), .int .i64 v, .int .i64 o] 75)
  have bR2 := (bR0.nx (Nx.refl W).drew).alloc (.cells #[.int .i64 (n0 : Int), .int .i64 v, .int .i64 o] 75)
  have bC2 : Box (W.drew.alloc (.cells #[.int .i64 (n0 : Int), .int .i64 v, .int .i64 o] 75)) W.heap.size 75 #[.int .i64 (n0 : Int), .int .i64 v, .int .i64 o] := Box.new W.drew 75 #[.int .i64 (n0 : Int), .int .i64 v, .int .i64 o]
  have hX2 := hx0.drew.alloc (.cells #[.int .i64 (n0 : Int), .int .i64 v, .int .i64 o] 75)
  have hgz : W.heap.size < (W.drew.alloc (.cells #[.int .i64 (n0 : Int), .int .i64 v, .int .i64 o] 75)).heap.size := bC2.lt
  change Exit.then _ _ _ _ (W.drew.alloc (.cells #[.int .i64 (n0 : Int), .int .i64 v, .int .i64 o] 75))
  generalize W.drew.alloc (.cells #[.int .i64 (n0 : Int), .int .i64 v, .int .i64 o] 75) = W3 at *
  obtain ⟨k0, k1, k2, k3⟩ := bF2.d4
  obtain ⟨m0, m1, m2⟩ := bC2.d3
  obtain ⟨rc0, rc1, rc2, rc3⟩ := bR2.d4
  have rf0 := bR2.frozen 0
  have rf1 := bR2.frozen 1
  have rf2 := bR2.frozen 2
  have rf3 := bR2.frozen 3
  have rlt := bR2.lt
  go_wp2
  have rq := (put4_box bR2 (.int .i64 (p - 1)) (.int .i64 p) (.int .i64 t) (.slice (some ⟨W3.heap.size, 0, none⟩) 1 1)).alloc (.cells #[.int .i64 (n0 : Int), .int .i64 v, .int .i64 o] 75)
  have hnf := (put4_nx (g := gR) hX2 (by omega) (.int .i64 (p - 1)) (.int .i64 p) (.int .i64 t) (.slice (some ⟨W3.heap.size, 0, none⟩) 1 1)).alloc (.cells #[.int .i64 (n0 : Int), .int .i64 v, .int .i64 o] 75)
  unfold put4 at rq hnf
  have hsz3 : ((((W3.setCell ⟨gR, 0, none⟩ (.int .i64 (p - 1))).setCell ⟨gR, 1, none⟩ (.int .i64 p)).setCell ⟨gR, 2, none⟩ (.int .i64 t)).setCell ⟨gR, 3, none⟩ (.slice (some ⟨W3.heap.size, 0, none⟩) 1 1)).heap.size = W3.heap.size := by simp [World.setCell]
  have bC3 := Box.new ((((W3.setCell ⟨gR, 0, none⟩ (.int .i64 (p - 1))).setCell ⟨gR, 1, none⟩ (.int .i64 p)).setCell ⟨gR, 2, none⟩ (.int .i64 t)).setCell ⟨gR, 3, none⟩ (.slice (some ⟨W3.heap.size, 0, none⟩) 1 1)) 75 #[.int .i64 (n0 : Int), .int .i64 v, .int .i64 o]
  rw [hsz3] at bC3
  have hlw := hX2.size
  have hSf : Sl _ w.heap.size (some ⟨W3.heap.size, 0, none⟩) 75 (1 * 3) (chAt [((n0 : Int), v, xs.getD n0 0)]) := Sl.own (by rw [Ho.out]; exact one_own bC3) (by omega)
  clear hsz3
  generalize (((((W3.setCell ⟨gR, 0, none⟩ (.int .i64 (p - 1))).setCell ⟨gR, 1, none⟩ (.int .i64 p)).setCell ⟨gR, 2, none⟩ (.int .i64 t)).setCell ⟨gR, 3, none⟩ (.slice (some ⟨W3.heap.size, 0, none⟩) 1 1)).alloc (.cells #[.int .i64 (n0 : Int), .int .i64 v, .int .i64 o] 75)) = Wf at *
  obtain ⟨rg0, rg1, rg2, rg3⟩ := rq.d4
  exact bodyPost_ret (v := .agg #[.int .i64 (p - 1), .int .i64 p, .int .i64 t, .slice (some ⟨W3.heap.size, 0, none⟩) 1 1]) (by simp [results, Try.results60, go_sem, rg0, rg1, rg2, rg3]) rfl ⟨_, 1, rfl, hSf, hnf⟩

set_option maxRecDepth 100000 in
set_option maxHeartbeats 4000000 in
theorem implSegOf_c (A2 : Option Addr) (c2 B : Nat) (xs : List Int) (p b v t : Int) (w : World) (h : Ins w B A2 xs) (hB : B ≤ w.heap.size) (hn : xs.length ≤ 1048576) :
    Calls Try.prog 18 #[.slice A2 xs.length c2, .agg #[.int .i64 p, .int .i64 b, .int .i64 v, .int .i64 t]] w (RetSC w (sgFr xs p b v t) (askC xs (frameB p b v t))) := by
  have bF0 := (Box.new w 40 #[.int .i64 p, .int .i64 b, .int .i64 v, .int .i64 t]).alloc (.cells #[.int .i64 0, .int .i64 0, .int .i64 0, .slice none 0 0] 30)
  have bR0 := Box.new (w.alloc (.cells #[.int .i64 p, .int .i64 b, .int .i64 v, .int .i64 t] 40)) 30 #[.int .i64 0, .int .i64 0, .int .i64 0, .slice none 0 0]
  have hx0 := ((Nx.refl w).alloc (.cells #[.int .i64 p, .int .i64 b, .int .i64 v, .int .i64 t] 40)).alloc (.cells #[.int .i64 0, .int .i64 0, .int .i64 0, .slice none 0 0] 30)
  simp only [World.size_alloc] at bR0
  obtain ⟨z, Hz⟩ : ∃ z, Hid (askC xs true = z) := ⟨_, rfl⟩
  by_cases hz : z = 0
  case neg =>
    have hd : (z != 0) = true := by simp [hz]
    have HR := Lib.hid (show askC xs (frameB p b v t) = z ∧ sgFr xs p b v t = zSg by
      have := Hz.out
      unfold askC at this ⊢
      unfold sgFr
      by_cases hl : 4096 < xs.length
      · rw [if_pos hl] at this ⊢; rw [(askC_long hl true).2]; exact ⟨this, rfl⟩
      · rw [if_neg hl] at this ⊢
        cases hc : contB xs
        · rw [hc] at this; exact ⟨this, rfl⟩
        · rw [hc] at this; exact absurd this.symm hz)
    go_enter Try.func18, Try.ntmps18
    go_wp2_with fail
    generalize (w.alloc (.cells #[.int .i64 p, .int .i64 b, .int .i64 v, .int .i64 t] 40)).alloc (.cells #[.int .i64 0, .int .i64 0, .int .i64 0, .slice none 0 0] 30) = W at *
    refine (contentCode_c A2 c2 B xs _ (h.below hx0 hB) (Nat.le_trans hB hx0.size) hn).mono ?_
    rintro e w1 ⟨rfl, hx1⟩
    rw [Hz.out]
    have bR := bR0.nx hx1
    have hX := hx0.trans hx1
    obtain ⟨rc0, rc1, rc2, rc3⟩ := bR.d4
    have rf0 := bR.frozen 0
    have rf1 := bR.frozen 1
    have rf2 := bR.frozen 2
    have rf3 := bR.frozen 3
    have rlt := bR.lt
    go_wp2
    have rq := (put4_box bR (.int .i64 0) (.int .i64 0) (.int .i64 0) (.slice none 0 0))
    have hnf := (put4_nx (g := (w.heap.size + 1)) hX (by omega) (.int .i64 0) (.int .i64 0) (.int .i64 0) (.slice none 0 0))
    unfold put4 at rq hnf
    generalize ((((w1.setCell ⟨(w.heap.size + 1), 0, none⟩ (.int .i64 0)).setCell ⟨(w.heap.size + 1), 1, none⟩ (.int .i64 0)).setCell ⟨(w.heap.size + 1), 2, none⟩ (.int .i64 0)).setCell ⟨(w.heap.size + 1), 3, none⟩ (.slice none 0 0)) = Wf at *
    obtain ⟨rg0, rg1, rg2, rg3⟩ := rq.d4
    exact bodyPost_ret (v := .tuple #[.agg #[.int .i64 0, .int .i64 0, .int .i64 0, .slice none 0 0], .int .i64 z]) (by simp [results, Try.results18, go_sem, rg0, rg1, rg2, rg3]) rfl ⟨none, 0, by rw [HR.out.1, HR.out.2]; rfl, by rw [HR.out.2]; exact Sl.none_ _ _ _ _ _, hnf⟩
  subst hz
  have HC := Lib.hid (show ¬ 4096 < xs.length ∧ contB xs = true by
    have := Hz.out
    unfold askC at this
    by_cases hl : 4096 < xs.length
    · rw [if_pos hl] at this; omega
    · rw [if_neg hl] at this
      cases hc : contB xs
      · rw [hc] at this; simp at this
      · exact ⟨hl, rfl⟩)
  cases hfb : frameB p b v t
  · have HFB := Lib.hid hfb
    clear hfb
    have HR := Lib.hid (show askC xs (frameB p b v t) = 1 ∧ sgFr xs p b v t = zSg by
      rw [HFB.out]; unfold askC sgFr; rw [if_neg HC.out.1, HC.out.2, HFB.out]; exact ⟨rfl, rfl⟩)
    rw [HFB.out] at HR
    go_enter Try.func18, Try.ntmps18
    go_wp2_with fail
    generalize (w.alloc (.cells #[.int .i64 p, .int .i64 b, .int .i64 v, .int .i64 t] 40)).alloc (.cells #[.int .i64 0, .int .i64 0, .int .i64 0, .slice none 0 0] 30) = W at *
    refine (contentCode_c A2 c2 B xs _ (h.below hx0 hB) (Nat.le_trans hB hx0.size) hn).mono ?_
    rintro e w1 ⟨rfl, hx1⟩
    rw [Hz.out]
    obtain ⟨k0, k1, k2, k3⟩ := (bF0.nx hx1).d4
    go_wp2_with fail
    refine (frameRight_c p b v t _).mono ?_
    rintro e w2 ⟨rfl, hx2⟩
    rw [HFB.out]
    have bR := (bR0.nx hx1).nx hx2
    have hX := (hx0.trans hx1).trans hx2
    clear k0 k1 k2 k3
    obtain ⟨rc0, rc1, rc2, rc3⟩ := bR.d4
    have rf0 := bR.frozen 0
    have rf1 := bR.frozen 1
    have rf2 := bR.frozen 2
    have rf3 := bR.frozen 3
    have rlt := bR.lt
    go_wp2
    have rq := (put4_box bR (.int .i64 0) (.int .i64 0) (.int .i64 0) (.slice none 0 0))
    have hnf := (put4_nx (g := (w.heap.size + 1)) hX (by omega) (.int .i64 0) (.int .i64 0) (.int .i64 0) (.slice none 0 0))
    unfold put4 at rq hnf
    generalize ((((w2.setCell ⟨(w.heap.size + 1), 0, none⟩ (.int .i64 0)).setCell ⟨(w.heap.size + 1), 1, none⟩ (.int .i64 0)).setCell ⟨(w.heap.size + 1), 2, none⟩ (.int .i64 0)).setCell ⟨(w.heap.size + 1), 3, none⟩ (.slice none 0 0)) = Wf at *
    obtain ⟨rg0, rg1, rg2, rg3⟩ := rq.d4
    exact bodyPost_ret (v := .tuple #[.agg #[.int .i64 0, .int .i64 0, .int .i64 0, .slice none 0 0], .int .i64 1]) (by simp [results, Try.results18, go_sem, rg0, rg1, rg2, rg3]) rfl ⟨none, 0, by rw [HR.out.1, HR.out.2]; rfl, by rw [HR.out.2]; exact Sl.none_ _ _ _ _ _, hnf⟩
  have HFB := Lib.hid hfb
  obtain ⟨hb0, hb7, hp1, hp2, _, _, _, _⟩ := frameB_block hfb
  clear hfb
  obtain ⟨n0, rfl⟩ : ∃ n : Nat, b = n := ⟨b.toNat, by omega⟩
  have HR := Lib.hid (show askC xs (frameB p n0 v t) = 0 ∧ sgFr xs p n0 v t = ofW xs p n0 v t by
    rw [HFB.out]; unfold askC sgFr; rw [if_neg HC.out.1, HC.out.2, HFB.out]; exact ⟨rfl, rfl⟩)
  rw [HFB.out] at HR
  have h8 := (contB_yes HC.out.2).1
  have hn0 : n0 < xs.length := by omega
  have hn1 : (n0 : Int) < (xs.length : Int) := by omega
  have hwp : IntKind.i64.wrap (p - 1) = p - 1 := IntWalk.i64_in _ (by omega)
  have H8 := Lib.hid h8
  clear h8
  go_enter Try.func18, Try.ntmps18
  go_wp2_with fail
  generalize (w.alloc (.cells #[.int .i64 p, .int .i64 (n0 : Int), .int .i64 v, .int .i64 t] 40)).alloc (.cells #[.int .i64 0, .int .i64 0, .int .i64 0, .slice none 0 0] 30) = W at *
  refine (contentCode_c A2 c2 B xs _ (h.below hx0 hB) (Nat.le_trans hB hx0.size) hn).mono ?_
  rintro e w0 ⟨rfl, hx1⟩
  rw [Hz.out]
  obtain ⟨k0, k1, k2, k3⟩ := (bF0.nx hx1).d4
  go_wp2_with fail
  refine (frameRight_c p n0 v t _).mono ?_
  rintro e w1 ⟨rfl, hx2⟩
  rw [HFB.out]
  have bR1 := ((bR0.nx hx1).nx hx2).nx (Nx.refl _).drew
  have hX1 := ((hx0.trans hx1).trans hx2).drew
  have bF := ((bF0.nx hx1).nx hx2).nx (Nx.refl _).drew
  clear k0 k1 k2 k3 bF0 bR0 hx0 hx1 hx2
  obtain ⟨o, Ho⟩ : ∃ o, Hid (xs.getD n0 0 = o) := ⟨_, rfl⟩
  go_wp2_with fail
  refine wp_region_plan (.t 0 (.t 2 (.c 1 (.c 3 (.c 4 (.t 5 .e)))))) (fun w' => w'.cell? ⟨w.heap.size, 0, none⟩ = some (.int .i64 p) ∧ w'.cell? ⟨w.heap.size, 1, none⟩ = some (.int .i64 (n0 : Int)) ∧ w'.cell? ⟨w.heap.size, 2, none⟩ = some (.int .i64 v) ∧ w'.cell? ⟨w.heap.size, 3, none⟩ = some (.int .i64 t)) (by kernel_rfl) (by kernel_rfl) rfl (by kernel_rfl) (fun _ _ d _ _ h => by cases d <;> exact h) (by exact bF.d4) ?_
  simp only [psOf, List.getD_cons_zero, List.getD_cons_succ]
  repeat (first | (refine HP.take (v := ?_) (by rfl) ?_ ?_; rotate_left; (· (intro w hSw; (try dsimp only at hSw); go_simp; try with_reducible rfl)); (try simp only [Act.put, List.setIfInBounds_toArray, List.set_cons_zero, List.set_cons_succ])) | (refine HP.skip (by rfl) ?_; (try simp only [Act.put, List.setIfInBounds_toArray, List.set_cons_zero, List.set_cons_succ])))
  refine HP.call ?_
  refine CallStep.mk (by rfl) (fun K hK => ?_)
  go_simp
  refine (valuesOf_c A2 c2 B xs _ (h.below hX1 hB) (Nat.le_trans hB hX1.size) H8.out).mono ?_; rintro e w2 ⟨rfl, hx3⟩; have bF2 := bF.nx hx3; have bR2 := bR1.nx hx3; have hX2 := hX1.trans hx3; clear bF bR1 hX1 hx3
  go_wp2_with fail
  refine hK.out _ _ (by exact bF2.d4) ?_
  clear hK K
  try simp only [Act.put, List.setIfInBounds_toArray, List.set_cons_zero, List.set_cons_succ]
  refine HP.call ?_
  refine CallStep.mk (by rfl) (fun K hK => ?_)
  go_simp
  refine (valuesSegOf_c xs p v t n0 _ H8.out (by have := H8.out; omega) hp1 (by omega)).mono ?_; rintro e w3 ⟨A9, c9, rfl, hS9, hx4⟩; have bF3 := bF2.nx hx4; have bR := bR2.nx hx4; have hX3 := hX2.trans hx4; have hlw := hX2.size; have hlt9 := bR2.lt; have rf0 := bR.frozen 0; have rf1 := bR.frozen 1; have rf2 := bR.frozen 2; have rf3 := bR.frozen 3; have rlt := bR.lt; obtain ⟨rc0, rc1, rc2, rc3⟩ := bR.d4; clear bF2 bR2 hX2 hx4
  go_wp2_with fail
  refine hK.out _ _ (by exact bF3.d4) ?_
  clear hK K
  try simp only [Act.put, List.setIfInBounds_toArray, List.set_cons_zero, List.set_cons_succ]
  refine HP.call ?_
  refine CallStep.mk (by rfl) (fun K hK => ?_)
  go_simp
  refine hK.out _ _ (by exact ((((bF3.far (p := ⟨(w.heap.size + 1), 0, none⟩) (by simp) (.int .i64 (p - 1))).far (p := ⟨(w.heap.size + 1), 1, none⟩) (by simp) (.int .i64 p)).far (p := ⟨(w.heap.size + 1), 2, none⟩) (by simp) (.int .i64 t)).far (p := ⟨(w.heap.size + 1), 3, none⟩) (by simp) (.slice A9 1 c9)).d4) ?_
  clear hK K
  try simp only [Act.put, List.setIfInBounds_toArray, List.set_cons_zero, List.set_cons_succ]
  repeat (first | (refine HP.take (v := ?_) (by rfl) ?_ ?_; rotate_left; (· (intro w hSw; (try dsimp only at hSw); go_simp; try with_reducible rfl)); (try simp only [Act.put, List.setIfInBounds_toArray, List.set_cons_zero, List.set_cons_succ])) | (refine HP.skip (by rfl) ?_; (try simp only [Act.put, List.setIfInBounds_toArray, List.set_cons_zero, List.set_cons_succ])))
  refine HP.done ?_
  go_wp2_with fail
  have rq := (put4_box bR (.int .i64 (p - 1)) (.int .i64 p) (.int .i64 t) (.slice A9 1 c9))
  have hnf := (put4_nx (g := (w.heap.size + 1)) hX3 (by omega) (.int .i64 (p - 1)) (.int .i64 p) (.int .i64 t) (.slice A9 1 c9))
  unfold put4 at rq hnf
  have hSf0 := ((((hS9.far (p := ⟨(w.heap.size + 1), 0, none⟩) (by simp; omega) (.int .i64 (p - 1))).far (p := ⟨(w.heap.size + 1), 1, none⟩) (by simp; omega) (.int .i64 p)).far (p := ⟨(w.heap.size + 1), 2, none⟩) (by simp; omega) (.int .i64 t)).far (p := ⟨(w.heap.size + 1), 3, none⟩) (by simp; omega) (.slice A9 1 c9))
  have hSf : Sl ((((w3.setCell ⟨(w.heap.size + 1), 0, none⟩ (.int .i64 (p - 1))).setCell ⟨(w.heap.size + 1), 1, none⟩ (.int .i64 p)).setCell ⟨(w.heap.size + 1), 2, none⟩ (.int .i64 t)).setCell ⟨(w.heap.size + 1), 3, none⟩ (.slice A9 1 c9)) w.heap.size A9 75 ((ofW xs p n0 v t).2.2.2.length * 3) (chAt (ofW xs p n0 v t).2.2.2) := by unfold ofW; rw [Int.toNat_natCast]; exact hSf0.low (by omega)
  clear hSf0
  generalize ((((w3.setCell ⟨(w.heap.size + 1), 0, none⟩ (.int .i64 (p - 1))).setCell ⟨(w.heap.size + 1), 1, none⟩ (.int .i64 p)).setCell ⟨(w.heap.size + 1), 2, none⟩ (.int .i64 t)).setCell ⟨(w.heap.size + 1), 3, none⟩ (.slice A9 1 c9)) = Wf at *
  obtain ⟨rg0, rg1, rg2, rg3⟩ := rq.d4
  exact bodyPost_ret (v := .tuple #[.agg #[.int .i64 (p - 1), .int .i64 p, .int .i64 t, .slice A9 1 c9], .int .i64 0]) (by simp [results, Try.results18, go_sem, rg0, rg1, rg2, rg3]) rfl ⟨A9, c9, by rw [HR.out.1, HR.out.2]; unfold ofW; rfl, by rw [HR.out.2]; exact hSf, hnf⟩
end Go.Proofs.Ytjefjngheolmkaa
/- A list of ints that comes in, opened. Conditions: none. -/
namespace Go.Proofs.Ytjefjngheolmkaa
set_option linter.unusedVariables false
set_option maxRecDepth 100000
open Go.Joins Go.ChangeShapes Go.WideShapes Go.RowKit Go.Deep
theorem addr_plain_i {w : World} {a : Addr} {v : Value} (h : w.cell? (a.add 0) = some v) : ∃ b off, a = ⟨b, off, none⟩ ∧ b < w.heap.size := by
  have h' : w.cell? a = some v := by simpa [Addr.add] using h
  have hs := World.cell?_spot h'
  obtain ⟨b, off, sp⟩ := a
  simp only at hs
  subst hs
  exact ⟨b, off, rfl, World.block_lt_of_cell? w _ h'⟩
theorem addr_add_i (b off i : Nat) : (Addr.mk b off none).add i = ⟨b, off + i, none⟩ := by
  unfold Addr.add
  by_cases h : i = 0
  · subst h; simp
  · simp [h]
theorem open_ints {H : Type} {enc : TypeId × Value → H} {w : World} {base : Nat} {spare : Nat → Bool} {held : Bool} {r : Reach} {b0 : Nat} {v : Value} {d : DataW H} {p : List MemPlace}
    (hv : Value.okWide Try.prog w r b0 34 v) (h : DataW.Trod enc Try.prog w base spare held 34 v d p) :
    ∃ (A : Option Addr) (c : Nat) (xs : List Int), v = .slice A xs.length c ∧ Ins w w.heap.size A xs ∧ (∀ k, k < xs.length → (Lit.int .i64 (xs.getD k 0)).wf = true) ∧ xs.length ≤ 2 ^ 63 - 1 := by
  obtain ⟨a0, len0, cap0, rfl⟩ := okWide_slice Try.underlying34 hv
  obtain ⟨fuel, hf⟩ := h
  rcases open_slice Try.underlying34 hf with ⟨hcs, _⟩ | ⟨a, len, cap, m, n, D, Pl, hcs, _, hl, hm, hmm, _, hi⟩
  · simp [Value.cells] at hcs
    obtain ⟨rfl, rfl, rfl⟩ := hcs
    exact ⟨none, 0, [], rfl, fun hn => absurd hn (by simp), fun k hk => absurd hk (by simp), by simp⟩
  · simp [Value.cells] at hcs
    obtain ⟨rfl, rfl, rfl⟩ := hcs
    have hle : len0 ≤ m := by rw [hmm]; split <;> omega
    unfold maxLen at hm
    have key : ∀ i, ∃ q : Int, i < m → w.cell? (a.add i) = some (.int .i64 q) ∧ (Lit.int .i64 q).wf = true := by
      intro i
      by_cases him : i < m
      · obtain ⟨cs', hc, ht⟩ := hi i him
        rw [ci_, Nat.mul_one] at hc
        obtain ⟨_, hcl, hat⟩ := World.cells?_some hc
        obtain ⟨q, e, _, hw⟩ := DataW.trod_int (k := .i64) Try.underlying3 ht
        subst e
        refine ⟨q, fun _ => ⟨?_, hw⟩⟩
        have := hat 0 (by omega)
        simpa [Addr.add] using this
      · exact ⟨0, fun h => absurd h him⟩
    obtain ⟨g, hg⟩ := Classical.skolem.1 key
    have hget : ∀ k, k < len0 → ((List.range len0).map g).getD k 0 = g k := by
      intro k hk
      rw [List.getD_eq_getElem?_getD, List.getElem?_map, List.getElem?_range hk]; rfl
    have hlen : ((List.range len0).map g).length = len0 := by simp
    refine ⟨some a, cap0, (List.range len0).map g, by rw [hlen], fun hn => ?_, fun k hk => ?_, by simp; omega⟩
    · rw [hlen] at hn
      obtain ⟨b, off, rfl, hb⟩ := addr_plain_i (hg 0 (by omega)).1
      refine ⟨b, off, rfl, hb, fun i hi => ?_⟩
      rw [hlen] at hi
      have h1 := (hg i (by omega)).1
      rw [addr_add_i] at h1
      rw [h1]
      unfold inAt
      rw [hget i hi]
    · rw [hlen] at hk
      rw [hget k hk]
      exact (hg k (by omega)).2
end Go.Proofs.Ytjefjngheolmkaa
/- Contracts of the laws' functions that compare segments: of alike ones they answer true. Conditions: the segments can be read, and have at most 1048576 changes. -/
namespace Go.Proofs.Ytjefjngheolmkaa
set_option linter.unusedVariables false
set_option maxRecDepth 100000
open Go.RowKit

set_option maxHeartbeats 1000000 in
theorem eqChange_c (a b c : Int) (w : World) :
    Calls Try.prog 99 #[.agg #[.int .i64 a, .int .i64 b, .int .i64 c], .agg #[.int .i64 a, .int .i64 b, .int .i64 c]] w fun e w' => e = .returned (.bool true) ∧ Nx w w' := by
  go_enter Try.func99, Try.ntmps99
  go_wp2
  go_ret
  exact ⟨rfl, (((Nx.refl _).alloc _).alloc _)⟩

set_option maxRecDepth 100000 in
set_option maxHeartbeats 1000000 in
theorem eqChangeS_c (A A2 : Option Addr) (c c2 B : Nat) (cs : List Chg) (w : World) (h : Chs w B A cs) (h2 : Chs w B A2 cs) (hB : B ≤ w.heap.size) (hn : cs.length ≤ 1048576) :
    Calls Try.prog 53 #[.slice A cs.length c, .slice A2 cs.length c2] w fun e w' => e = .returned (.bool true) ∧ Nx w w' := by
  go_enter Try.func53, Try.ntmps53
  go_wp2
  go_loopw [5] (fun i wr => ∃ k : Nat, k ≤ cs.length ∧ i = .int .i64 k ∧ Nx w wr) (fun i _ => cs.length - (intOf i).toNat)
  case atStart => exact ⟨0, Nat.zero_le _, rfl, Nx.refl _⟩
  case round =>
    obtain ⟨k, hk, rfl, hnx⟩ := hrel
    by_cases hlt : k < cs.length
    · obtain ⟨b, off, rfl, hb, p0, p1, p2⟩ := (h.below hnx hB).at_ hlt
      obtain ⟨b2, off2, rfl, hb2, q0, q1, q2⟩ := (h2.below hnx hB).at_ hlt
      generalize cs.getD k chZ = s at p0 p1 p2 q0 q1 q2
      obtain ⟨x, y, z⟩ := s
      go_wp2_with fail
      go_still_tail 8, (by kernel_rfl)
      change wpList _ _ _ _ _ wr.drew
      have hnx1 : Nx w wr.drew := Below.drew hnx
      generalize wr.drew = wd at *
      go_wp2_with fail
      refine (eqChange_c x y z _).mono ?_
      rintro e w1 ⟨rfl, hnx2⟩
      go_wp2
      go_roundw
      case rel => exact ⟨k + 1, by omega, by go_num, hnx1.trans hnx2⟩
      case measure => simp [intOf]; omega
    · go_wp2
      go_ret
      exact ⟨rfl, hnx⟩

set_option maxHeartbeats 1000000 in
theorem eqSeg_c (f t m : Int) (A A2 : Option Addr) (c c2 B : Nat) (cs : List Chg) (w : World) (h : Chs w B A cs) (h2 : Chs w B A2 cs) (hB : B ≤ w.heap.size) (hn : cs.length ≤ 1048576) :
    Calls Try.prog 14 #[.agg #[.int .i64 f, .int .i64 t, .int .i64 m, .slice A cs.length c], .agg #[.int .i64 f, .int .i64 t, .int .i64 m, .slice A2 cs.length c2]] w fun e w' => e = .returned (.bool true) ∧ Nx w w' := by
  have hx0 := ((Nx.refl w).alloc (.cells #[.int .i64 f, .int .i64 t, .int .i64 m, .slice A cs.length c] 30)).alloc (.cells #[.int .i64 f, .int .i64 t, .int .i64 m, .slice A2 cs.length c2] 30)
  go_enter Try.func14, Try.ntmps14
  go_wp2_with fail
  refine (eqChangeS_c A A2 c c2 B cs _ (h.below hx0 hB) (h2.below hx0 hB) (Nat.le_trans hB hx0.size) hn).mono ?_
  rintro e w1 ⟨rfl, hnx1⟩
  go_wp2
  go_ret
  exact ⟨rfl, hx0.trans hnx1⟩
end Go.Proofs.Ytjefjngheolmkaa
/- Contracts of the laws' functions that mark the memory of segments and look for the marks. Conditions: the changes lie in a block of the call's own; at most 1048576. -/
namespace Go.Proofs.Ytjefjngheolmkaa
set_option linter.unusedVariables false
set_option maxRecDepth 100000
open Go.RowKit

def markAt (k i : Nat) : Value := .int .i64 ((k + i : Nat) : Int)
def FillG (w : World) (lo hi : Nat) (A : Option Addr) (n j k : Nat) : Prop := 0 < n → ∃ g, A = some ⟨g, 0, none⟩ ∧ lo ≤ g ∧ g < hi ∧ Fill w g 75 (n * 3) (j * 3) (markAt k)
set_option maxHeartbeats 1000000 in
theorem markChangeS_c (A : Option Addr) (n c k lo hi : Nat) (f : Nat → Value) (w : World) (h : Sr w lo hi A 75 (n * 3) f) (hn : n ≤ 1048576) (hk : k ≤ 3145729) :
    Calls Try.prog 61 #[.slice A n c, .int .i64 k] w fun e w' => e = .returned (.int .i64 ((k + n * 3 : Nat) : Int)) ∧ Sr w' lo hi A 75 (n * 3) (markAt k) ∧ Rg lo hi w w' := by
  have HS : FillG w lo hi A n 0 k := fun hn0 => by
    obtain ⟨g, e, h1, h2, ho⟩ := h (by omega)
    exact ⟨g, e, h1, h2, Fill.start ho⟩
  go_enter Try.func61, Try.ntmps61
  go_wp2
  go_loopw [1, 5] (fun q i wr => ∃ j : Nat, j ≤ n ∧ i = .int .i64 j ∧ q = .int .i64 ((k + j * 3 : Nat) : Int) ∧ FillG wr lo hi A n j k ∧ Rg lo hi w wr) (fun _ i _ => n - (intOf i).toNat)
  case atStart => exact ⟨0, Nat.zero_le _, rfl, rfl, HS, Rg.of_nx (Nx.refl _)⟩
  case round =>
    obtain ⟨j, hj, rfl, rfl, hf, hrg⟩ := hrel
    clear HS
    by_cases hlt : j < n
    · obtain ⟨g, rfl, hg1, hg2, hfill⟩ := hf (by omega)
      obtain ⟨q, Hq⟩ : ∃ q, Hid (k + j * 3 = q) := ⟨_, rfl⟩
      have hq9 : q ≤ 8000000 := by have := Hq.out; omega
      rw [Hq.out]
      obtain ⟨v0, hv0⟩ := hfill.some_ (i := j * 3) (by omega)
      obtain ⟨v1, hv1⟩ := hfill.some_ (i := j * 3 + 1) (by omega)
      obtain ⟨v2, hv2⟩ := hfill.some_ (i := j * 3 + 2) (by omega)
      have hz0 := hfill.frozen (j * 3)
      have hz1 := hfill.frozen (j * 3 + 1)
      have hz2 := hfill.frozen (j * 3 + 2)
      go_wp2
      go_roundw
      case rel =>
        have e0 : Value.int .i64 (q : Int) = markAt k (j * 3) := by unfold markAt; rw [Hq.out]
        have e1 : Value.int .i64 ((q : Int) + 1) = markAt k (j * 3 + 1) := by unfold markAt; rw [← Hq.out]; go_num
        have e2 : Value.int .i64 ((q : Int) + 1 + 1) = markAt k (j * 3 + 1 + 1) := by unfold markAt; rw [← Hq.out]; go_num
        first
          | (refine ⟨j + 1, by omega, by go_num, by rw [show k + (j + 1) * 3 = q + 3 by have := Hq.out; omega]; go_num, fun _ => ⟨g, rfl, hg1, hg2, ?_⟩, ((hrg.setCell hg1 hg2 _).setCell hg1 hg2 _).setCell hg1 hg2 _⟩
             rw [show (j + 1) * 3 = j * 3 + 1 + 1 + 1 by omega]
             exact ((hfill.step (by omega) e0).step (by omega) e1).step (by omega) e2)
          | (refine ⟨j + 1, by omega, by go_num, by rw [show k + (j + 1) * 3 = q + 3 by have := Hq.out; omega]; go_num, fun _ => ⟨g, rfl, hg1, hg2, ?_⟩, ((hrg.setCell hg1 hg2 _).setCell hg1 hg2 _).setCell hg1 hg2 _⟩
             rw [show (j + 1) * 3 = j * 3 + 1 + 1 + 1 by omega]
             exact ((hfill.step (by omega) e0).step (by omega) e1).step (by omega) (by rw [← e2]; go_num))
      case measure => simp [intOf]; omega
    · obtain rfl : j = n := by omega
      go_wp2
      go_ret
      refine ⟨rfl, fun hn0 => ?_, hrg⟩
      obtain ⟨g, e, h1, h2, ho⟩ := hf (by omega)
      exact ⟨g, e, h1, h2, ho.done⟩
set_option maxHeartbeats 1000000 in
theorem heldChangeS_c (A : Option Addr) (n c k B : Nat) (w : World) (h : Row w B A (n * 3) (markAt k)) (hn : n ≤ 1048576) (hk : k ≤ 1048576) :
    Calls Try.prog 62 #[.slice A n c, .int .i64 k] w fun e w' => e = .returned (.int .i64 ((k + n * 3 : Nat) : Int)) ∧ w = w' := by
  go_enter Try.func62, Try.ntmps62
  go_wp2
  go_loop [1, 5] (fun q i => ∃ j : Nat, j ≤ n ∧ i = .int .i64 j ∧ q = .int .i64 ((k + j * 3 : Nat) : Int)) (fun _ i => n - (intOf i).toNat)
  case atStart => exact ⟨0, Nat.zero_le _, rfl, rfl⟩
  case round =>
    obtain ⟨j, hj, rfl, rfl⟩ := hrel
    by_cases hlt : j < n
    · obtain ⟨b, off, rfl, hb, hc⟩ := h (by omega)
      obtain ⟨q, Hq⟩ : ∃ q, Hid (k + j * 3 = q) := ⟨_, rfl⟩
      have hq9 : q ≤ 8000000 := by have := Hq.out; omega
      have c0 : w.cell? ⟨b, off + j * 3, none⟩ = some (.int .i64 (q : Int)) := by rw [hc (j * 3) (by omega)]; unfold markAt; rw [Hq.out]
      have c1 : w.cell? ⟨b, off + j * 3 + 1, none⟩ = some (.int .i64 ((q : Int) + 1)) := by rw [show off + j * 3 + 1 = off + (j * 3 + 1) by omega, hc (j * 3 + 1) (by omega)]; unfold markAt; rw [← Hq.out]; congr 2
      have c2 : w.cell? ⟨b, off + j * 3 + 2, none⟩ = some (.int .i64 ((q : Int) + 2)) := by rw [show off + j * 3 + 2 = off + (j * 3 + 2) by omega, hc (j * 3 + 2) (by omega)]; unfold markAt; rw [← Hq.out]; congr 2
      have d1 : ((q : Int) + 2 != (q : Int) + 1 + 1) = false := by rw [bne_eq_false_iff_eq]; omega
      rw [Hq.out]
      clear hc
      go_wp2
      go_round
      case rel => exact ⟨j + 1, by omega, by go_num, by rw [show k + (j + 1) * 3 = q + 3 by have := Hq.out; omega]; go_num⟩
      case measure => simp [intOf]; omega
    · obtain rfl : j = n := by omega
      go_wp2
      go_ret
      exact ⟨rfl, rfl⟩
set_option maxHeartbeats 1000000 in
theorem markSeg_c (f t m : Int) (A : Option Addr) (n c lo hi : Nat) (F : Nat → Value) (w : World) (h : Sr w lo hi A 75 (n * 3) F) (hi' : hi ≤ w.heap.size) (hn : n ≤ 1048576) :
    Calls Try.prog 21 #[.agg #[.int .i64 f, .int .i64 t, .int .i64 m, .slice A n c], .int .i64 1] w fun e w' => e = .returned (.int .i64 ((1 + n * 3 : Nat) : Int)) ∧ Sr w' lo hi A 75 (n * 3) (markAt 1) ∧ Rg lo hi w w' := by
  have hx0 := (Nx.refl w).alloc (.cells #[.int .i64 f, .int .i64 t, .int .i64 m, .slice A n c] 30)
  go_enter Try.func21, Try.ntmps21
  go_wp2_with fail
  refine (markChangeS_c A n c 1 lo hi F _ (h.nx hx0) hn (by omega)).mono ?_
  rintro e w1 ⟨rfl, hs, hr⟩
  obtain ⟨q, Hq⟩ : ∃ q, Hid (1 + n * 3 = q) := ⟨_, rfl⟩
  rw [Hq.out]
  go_wp2
  go_ret
  exact ⟨by rw [Hq.out]; rfl, hs, (Rg.of_nx hx0).trans hr⟩
set_option maxHeartbeats 1000000 in
theorem heldSeg_c (f t m : Int) (A : Option Addr) (n c B : Nat) (w : World) (h : Row w B A (n * 3) (markAt 1)) (hB : B ≤ w.heap.size) (hn : n ≤ 1048576) :
    Calls Try.prog 22 #[.agg #[.int .i64 f, .int .i64 t, .int .i64 m, .slice A n c], .int .i64 1] w fun e w' => e = .returned (.int .i64 ((1 + n * 3 : Nat) : Int)) ∧ Nx w w' := by
  have hx0 := (Nx.refl w).alloc (.cells #[.int .i64 f, .int .i64 t, .int .i64 m, .slice A n c] 30)
  go_enter Try.func22, Try.ntmps22
  go_wp2_with fail
  refine (heldChangeS_c A n c 1 B _ (h.below hx0 hB) hn (by omega)).mono ?_
  rintro e w1 ⟨rfl, rfl⟩
  obtain ⟨q, Hq⟩ : ∃ q, Hid (1 + n * 3 = q) := ⟨_, rfl⟩
  have hd : decide ((q : Int) < 0) = false := by simp
  rw [Hq.out]
  go_wp2
  go_ret
  exact ⟨by rw [Hq.out]; rfl, hx0⟩
end Go.Proofs.Ytjefjngheolmkaa
/- Contracts of the laws' function that makes the program's frames out of the laws' own, and the walk of the law FnExactFrameOK. Conditions: none. -/
namespace Go.Proofs.Ytjefjngheolmkaa
set_option linter.unusedVariables false
set_option maxRecDepth 100000
open Go.RowKit
set_option maxHeartbeats 1000000 in
theorem toFrame_c (p b v t : Int) (w : World) :
    Calls Try.prog 17 #[.agg #[.int .i64 p, .int .i64 b, .int .i64 v, .int .i64 t]] w fun e w' => e = .returned (.agg #[.int .i64 p, .int .i64 b, .int .i64 v, .int .i64 t]) ∧ Nx w w' := by
  go_enter Try.func17, Try.ntmps17
  go_wp2
  exact bodyPost_ret (v := .agg #[.int .i64 p, .int .i64 b, .int .i64 v, .int .i64 t]) (by simp [results, Try.results17, go_sem]) rfl ⟨rfl, ((((Nx.refl _).alloc _).alloc _).alloc _)⟩
end Go.Proofs.Ytjefjngheolmkaa
/- The walk of the law FnExactSegOf. Conditions: the list that comes in can be read. -/
namespace Go.Proofs.Ytjefjngheolmkaa
set_option linter.unusedVariables false
set_option maxRecDepth 100000
open Go.RowKit
theorem RetSC.un {w w' : World} {q : Sg4} {cd cd' : Int} {e : Ending} {q0 q1 q2 : Int} {qs : List Chg} (h : RetSC w q cd e w') (hq : q = (q0, q1, q2, qs)) (hc : cd = cd') :
    ∃ (A : Option Addr) (c : Nat), e = .returned (.tuple #[.agg #[.int .i64 q0, .int .i64 q1, .int .i64 q2, .slice A qs.length c], .int .i64 cd']) ∧ Sl w' w.heap.size A 75 (qs.length * 3) (chAt qs) ∧ Nx w w' := by
  subst hq hc
  exact h
theorem merge6L {G : Nat → Option Addr → Nat → World → Option Addr → Nat → Prop} {F : Nat → Option Addr → Nat → World → Prop} {R : Prop} (main : (∀ g A c W Ai ci, F g A c W → G g A c W Ai ci) → R) (key : ∀ g A c W Ai ci, F g A c W → G g A c W Ai ci) : R := main key
theorem Sl.put4L {u : World} {lo g m : Nat} {A : Option Addr} {t t' : TypeId} {f : Nat → Value} {a b c d : Value} (h : Sl u lo A t m f) (hb : Box u g t' #[a, b, c, d]) (ht : t' ≠ t) (v0 v1 v2 v3 : Value) : Sl (put4 u g v0 v1 v2 v3) lo A t m f :=
  (((h.far_ty (p := ⟨g, 0, none⟩) hb ht v0).far_ty (p := ⟨g, 1, none⟩) (hb.set 0 v0) ht v1).far_ty (p := ⟨g, 2, none⟩) ((hb.set 0 v0).set 1 v1) ht v2).far_ty (p := ⟨g, 3, none⟩) (((hb.set 0 v0).set 1 v1).set 2 v2) ht v3
theorem sgOf_len (xs : List Int) (p b v t : Int) : (sgFr xs p b v t).2.2.2.length ≤ 1 := by
  unfold sgFr
  split
  · exact Nat.le_refl _
  · exact Nat.zero_le _
set_option maxRecDepth 100000 in
set_option maxHeartbeats 8000000 in
theorem lawSegOf (A2 : Option Addr) (c2 : Nat) (xs : List Int) (p b v t : Int) (w : World) (h : Ins w w.heap.size A2 xs) (hw : ∀ k, k < xs.length → (Lit.int .i64 (xs.getD k 0)).wf = true) (hn : xs.length ≤ 2 ^ 63 - 1) :
    Calls Try.prog 4 #[.slice A2 xs.length c2, .agg #[.int .i64 p, .int .i64 b, .int .i64 v, .int .i64 t]] w fun e w' => e = .returned (.bool true) ∧ Nx w w' := by
  clear hw hn
  by_cases hl : xs.length ≤ 1048576
  case neg =>
    have hd : decide (1048576 < (xs.length : Int)) = true := by simp; omega
    go_enter Try.func4, Try.ntmps4
    go_wp2
    go_ret
    exact ⟨rfl, (Nx.refl _).alloc _⟩
  have hd : decide (1048576 < (xs.length : Int)) = false := by simp; omega
  obtain ⟨⟨q0, q1, q2, qs⟩, Hq⟩ : ∃ y, Hid (sgFr xs p b v t = y) := ⟨_, rfl⟩
  obtain ⟨cd, Hc⟩ : ∃ y, Hid (askC xs (frameB p b v t) = y) := ⟨_, rfl⟩
  have hy : qs.length ≤ 1048576 := by have := sgOf_len xs p b v t; rw [Hq.out] at this; exact Nat.le_trans this (by decide)
  go_enter Try.func4, Try.ntmps4
  go_wp2_with fail
  have bL := Box.new w 36 #[.int .i64 p, .int .i64 b, .int .i64 v, .int .i64 t]
  have hX := (Nx.refl w).alloc (.cells #[.int .i64 p, .int .i64 b, .int .i64 v, .int .i64 t] 36)
  have zb := bL.lt
  generalize w.alloc (.cells #[.int .i64 p, .int .i64 b, .int .i64 v, .int .i64 t] 36) = W at *
  refine merge6L (F := (fun gq Aq cq Wq => Box Wq gq 30 #[.int .i64 q0, .int .i64 q1, .int .i64 q2, .slice Aq qs.length cq] ∧ Sl Wq W.heap.size Aq 75 (qs.length * 3) (chAt qs) ∧ W.heap.size ≤ gq ∧ Nx W Wq)) (G := ?_) (fun key => ?_) ?_
  rotate_left
  · have hXs : Nx W W.drew := (Nx.refl W).drew
    have hXk := hX
    have hX := hXk.drew
    clear hXk
    have zd : W.heap.size ≤ W.drew.heap.size := Nat.le_refl _
    have bLk := bL
    have bL : Box W.drew w.heap.size 36 #[.int .i64 p, .int .i64 b, .int .i64 v, .int .i64 t] := bLk
    clear bLk
    have zbl := bL.lt
    refine wp_region_plan (.t 0 (.t 2 (.b 1 (.b 3 (.b 4 (.t 5 (.t 6 (.t 7 (.c 8 (.c 9 (.t 10 .e)))))) 8 (.c 4 (.t 5 (.t 6 (.t 7 (.c 9 (.t 10 .e))))))) 8 (.c 3 (.c 4 (.t 5 (.t 6 (.t 7 (.c 9 (.t 10 .e)))))))) 8 (.c 1 (.c 3 (.c 4 (.t 5 (.t 6 (.t 7 (.c 9 (.t 10 .e))))))))))) (fun w' => w'.cell? ⟨w.heap.size, 0, none⟩ = some (.int .i64 p) ∧ w'.cell? ⟨w.heap.size, 1, none⟩ = some (.int .i64 b) ∧ w'.cell? ⟨w.heap.size, 2, none⟩ = some (.int .i64 v) ∧ w'.cell? ⟨w.heap.size, 3, none⟩ = some (.int .i64 t)) (by kernel_rfl) (by kernel_rfl) rfl (by kernel_rfl) (fun _ _ d _ _ h => by cases d <;> exact h) (by exact bL.d4) ?_
    simp only [psOf, List.getD_cons_zero, List.getD_cons_succ]
    generalize W.drew = W0 at *
    repeat (first | (refine HP.take (v := ?_) (by rfl) ?_ ?_; rotate_left; (· (intro w hSw; (try dsimp only at hSw); go_simp; try with_reducible rfl)); (try simp only [Act.put, List.setIfInBounds_toArray, List.set_cons_zero, List.set_cons_succ])) | (refine HP.skip (by rfl) ?_; (try simp only [Act.put, List.setIfInBounds_toArray, List.set_cons_zero, List.set_cons_succ])))
    refine HP.both ?_ ?_
    · refine CallStep.mk (by rfl) (fun K hK => ?_)
      go_simp
      refine (toIntS_c A2 c2 w.heap.size xs _ (h.below hX (Nat.le_refl _)) hX.size hl).mono ?_; rintro e v1 ⟨Ai, ci, rfl, hi, hv1⟩; have zhv1 := hv1.size; replace bL := bL.nx hv1; replace hX := hX.trans hv1; replace hXs := hXs.trans hv1; (try replace bz := bz.nx hv1); (try replace hi := hi.nx hv1); (try replace hS := hS.nx hv1)
      go_wp2_with fail
      refine hK.out _ _ (by exact bL.d4) ?_
      clear hK K
      try simp only [Act.put, List.setIfInBounds_toArray, List.set_cons_zero, List.set_cons_succ]
      refine HP.both ?_ ?_
      · refine CallStep.mk (by rfl) (fun K hK => ?_)
        go_simp
        refine (toFrame_c p b v t _).mono ?_; rintro e v2 ⟨rfl, hv2⟩; have zhv2 := hv2.size; replace bL := bL.nx hv2; replace hX := hX.trans hv2; replace hXs := hXs.trans hv2; (try replace bz := bz.nx hv2); (try replace hi := hi.nx hv2); (try replace hS := hS.nx hv2)
        go_wp2_with fail
        refine hK.out _ _ (by exact bL.d4) ?_
        clear hK K
        try simp only [Act.put, List.setIfInBounds_toArray, List.set_cons_zero, List.set_cons_succ]
        refine HP.both ?_ ?_
        · refine CallStep.mk (by rfl) (fun K hK => ?_)
          go_simp
          refine (specSegOf_c Ai ci _ xs p b v t _ hi.row (Nat.le_refl _) hl).mono ?_; intro e v3 hR; obtain ⟨A9, c9, rfl, hS, hv3⟩ := hR.un Hq.out Hc.out; replace hS := hS.low (lo' := W.heap.size) (by have := hXs.size; omega); have zhv3 := hv3.size; replace bL := bL.nx hv3; replace hX := hX.trans hv3; replace hXs := hXs.trans hv3; (try replace bz := bz.nx hv3); (try replace hi := hi.nx hv3); (try replace hS := hS.nx hv3)
          go_wp2_with fail
          refine hK.out _ _ (by exact bL.d4) ?_
          clear hK K
          try simp only [Act.put, List.setIfInBounds_toArray, List.set_cons_zero, List.set_cons_succ]
          repeat (first | (refine HP.take (v := ?_) (by rfl) ?_ ?_; rotate_left; (· (intro w hSw; (try dsimp only at hSw); go_simp; try with_reducible rfl)); (try simp only [Act.put, List.setIfInBounds_toArray, List.set_cons_zero, List.set_cons_succ])) | (refine HP.skip (by rfl) ?_; (try simp only [Act.put, List.setIfInBounds_toArray, List.set_cons_zero, List.set_cons_succ])))
          refine HP.call ?_
          have bz := Box.new v3 30 #[.int .i64 0, .int .i64 0, .int .i64 0, .slice none 0 0]
          have hz := (Nx.refl v3).alloc (.cells #[.int .i64 0, .int .i64 0, .int .i64 0, .slice none 0 0] 30)
          have zlt : v3.heap.size < (v3.alloc (.cells #[.int .i64 0, .int .i64 0, .int .i64 0, .slice none 0 0] 30)).heap.size := by simp
          have zhz := hz.size; replace bL := bL.nx hz; replace hX := hX.trans hz; replace hXs := hXs.trans hz; (try replace bz := bz.nx hz); (try replace hi := hi.nx hz); (try replace hS := hS.nx hz)
          refine CallStep.mk (by rfl) (fun K hK => ?_)
          go_simp
          refine hK.out _ _ (by exact bL.d4) ?_
          clear hK K
          try simp only [Act.put, List.setIfInBounds_toArray, List.set_cons_zero, List.set_cons_succ]
          change HP _ _ _ _ _ _ (v3.alloc (.cells #[.int .i64 0, .int .i64 0, .int .i64 0, .slice none 0 0] 30))
          generalize v3.alloc (.cells #[.int .i64 0, .int .i64 0, .int .i64 0, .slice none 0 0] 30) = Wz at *
          generalize v3.heap.size = gz at *
          clear hz
          obtain ⟨rc0, rc1, rc2, rc3⟩ := bz.d4
          have rf0 := bz.frozen 0
          have rf1 := bz.frozen 1
          have rf2 := bz.frozen 2
          have rf3 := bz.frozen 3
          have rlt := bz.lt
          refine HP.call ?_
          refine CallStep.mk (by rfl) (fun K hK => ?_)
          go_simp
          refine hK.out _ _ (by exact ((((bL.far (p := ⟨gz, 0, none⟩) (by simp; omega) (.int .i64 q0)).far (p := ⟨gz, 1, none⟩) (by simp; omega) (.int .i64 q1)).far (p := ⟨gz, 2, none⟩) (by simp; omega) (.int .i64 q2)).far (p := ⟨gz, 3, none⟩) (by simp; omega) (.slice A9 qs.length c9)).d4) ?_
          clear hK K
          try simp only [Act.put, List.setIfInBounds_toArray, List.set_cons_zero, List.set_cons_succ]
          clear rc0 rc1 rc2 rc3 rf0 rf1 rf2 rf3
          repeat (first | (refine HP.take (v := ?_) (by rfl) ?_ ?_; rotate_left; (· (intro w hSw; (try dsimp only at hSw); go_simp; try with_reducible rfl)); (try simp only [Act.put, List.setIfInBounds_toArray, List.set_cons_zero, List.set_cons_succ])) | (refine HP.skip (by rfl) ?_; (try simp only [Act.put, List.setIfInBounds_toArray, List.set_cons_zero, List.set_cons_succ])))
          refine HP.done ?_
          have rq := put4_box bz (.int .i64 q0) (.int .i64 q1) (.int .i64 q2) (.slice A9 qs.length c9)
          have hnf := put4_nx (g := gz) hXs (by omega) (.int .i64 q0) (.int .i64 q1) (.int .i64 q2) (.slice A9 qs.length c9)
          have hSf := hS.put4L bz (by decide) (.int .i64 q0) (.int .i64 q1) (.int .i64 q2) (.slice A9 qs.length c9)
          unfold put4 at rq hnf hSf
          generalize ((((Wz.setCell ⟨gz, 0, none⟩ (.int .i64 q0)).setCell ⟨gz, 1, none⟩ (.int .i64 q1)).setCell ⟨gz, 2, none⟩ (.int .i64 q2)).setCell ⟨gz, 3, none⟩ (.slice A9 qs.length c9)) = Wf at *
          exact key gz A9 c9 Wf Ai ci ⟨rq, hSf, by omega, hnf⟩
        · have bz := Box.new v2 30 #[.int .i64 0, .int .i64 0, .int .i64 0, .slice none 0 0]
          have hz := (Nx.refl v2).alloc (.cells #[.int .i64 0, .int .i64 0, .int .i64 0, .slice none 0 0] 30)
          have zlt : v2.heap.size < (v2.alloc (.cells #[.int .i64 0, .int .i64 0, .int .i64 0, .slice none 0 0] 30)).heap.size := by simp
          have zhz := hz.size; replace bL := bL.nx hz; replace hX := hX.trans hz; replace hXs := hXs.trans hz; (try replace bz := bz.nx hz); (try replace hi := hi.nx hz); (try replace hS := hS.nx hz)
          refine CallStep.mk (by rfl) (fun K hK => ?_)
          go_simp
          refine hK.out _ _ (by exact bL.d4) ?_
          clear hK K
          try simp only [Act.put, List.setIfInBounds_toArray, List.set_cons_zero, List.set_cons_succ]
          change HP _ _ _ _ _ _ (v2.alloc (.cells #[.int .i64 0, .int .i64 0, .int .i64 0, .slice none 0 0] 30))
          generalize v2.alloc (.cells #[.int .i64 0, .int .i64 0, .int .i64 0, .slice none 0 0] 30) = Wz at *
          generalize v2.heap.size = gz at *
          clear hz
          refine HP.call ?_
          refine CallStep.mk (by rfl) (fun K hK => ?_)
          go_simp
          refine (specSegOf_c Ai ci _ xs p b v t _ hi.row (Nat.le_refl _) hl).mono ?_; intro e v3 hR; obtain ⟨A9, c9, rfl, hS, hv3⟩ := hR.un Hq.out Hc.out; replace hS := hS.low (lo' := W.heap.size) (by have := hXs.size; omega); have zhv3 := hv3.size; replace bL := bL.nx hv3; replace hX := hX.trans hv3; replace hXs := hXs.trans hv3; (try replace bz := bz.nx hv3); (try replace hi := hi.nx hv3); (try replace hS := hS.nx hv3)
          go_wp2_with fail
          refine hK.out _ _ (by exact bL.d4) ?_
          clear hK K
          try simp only [Act.put, List.setIfInBounds_toArray, List.set_cons_zero, List.set_cons_succ]
          repeat (first | (refine HP.take (v := ?_) (by rfl) ?_ ?_; rotate_left; (· (intro w hSw; (try dsimp only at hSw); go_simp; try with_reducible rfl)); (try simp only [Act.put, List.setIfInBounds_toArray, List.set_cons_zero, List.set_cons_succ])) | (refine HP.skip (by rfl) ?_; (try simp only [Act.put, List.setIfInBounds_toArray, List.set_cons_zero, List.set_cons_succ])))
          obtain ⟨rc0, rc1, rc2, rc3⟩ := bz.d4
          have rf0 := bz.frozen 0
          have rf1 := bz.frozen 1
          have rf2 := bz.frozen 2
          have rf3 := bz.frozen 3
          have rlt := bz.lt
          refine HP.call ?_
          refine CallStep.mk (by rfl) (fun K hK => ?_)
          go_simp
          refine hK.out _ _ (by exact ((((bL.far (p := ⟨gz, 0, none⟩) (by simp; omega) (.int .i64 q0)).far (p := ⟨gz, 1, none⟩) (by simp; omega) (.int .i64 q1)).far (p := ⟨gz, 2, none⟩) (by simp; omega) (.int .i64 q2)).far (p := ⟨gz, 3, none⟩) (by simp; omega) (.slice A9 qs.length c9)).d4) ?_
          clear hK K
          try simp only [Act.put, List.setIfInBounds_toArray, List.set_cons_zero, List.set_cons_succ]
          clear rc0 rc1 rc2 rc3 rf0 rf1 rf2 rf3
          repeat (first | (refine HP.take (v := ?_) (by rfl) ?_ ?_; rotate_left; (· (intro w hSw; (try dsimp only at hSw); go_simp; try with_reducible rfl)); (try simp only [Act.put, List.setIfInBounds_toArray, List.set_cons_zero, List.set_cons_succ])) | (refine HP.skip (by rfl) ?_; (try simp only [Act.put, List.setIfInBounds_toArray, List.set_cons_zero, List.set_cons_succ])))
          refine HP.done ?_
          have rq := put4_box bz (.int .i64 q0) (.int .i64 q1) (.int .i64 q2) (.slice A9 qs.length c9)
          have hnf := put4_nx (g := gz) hXs (by omega) (.int .i64 q0) (.int .i64 q1) (.int .i64 q2) (.slice A9 qs.length c9)
          have hSf := hS.put4L bz (by decide) (.int .i64 q0) (.int .i64 q1) (.int .i64 q2) (.slice A9 qs.length c9)
          unfold put4 at rq hnf hSf
          generalize ((((v3.setCell ⟨gz, 0, none⟩ (.int .i64 q0)).setCell ⟨gz, 1, none⟩ (.int .i64 q1)).setCell ⟨gz, 2, none⟩ (.int .i64 q2)).setCell ⟨gz, 3, none⟩ (.slice A9 qs.length c9)) = Wf at *
          exact key gz A9 c9 Wf Ai ci ⟨rq, hSf, by omega, hnf⟩
      · have bz := Box.new v1 30 #[.int .i64 0, .int .i64 0, .int .i64 0, .slice none 0 0]
        have hz := (Nx.refl v1).alloc (.cells #[.int .i64 0, .int .i64 0, .int .i64 0, .slice none 0 0] 30)
        have zlt : v1.heap.size < (v1.alloc (.cells #[.int .i64 0, .int .i64 0, .int .i64 0, .slice none 0 0] 30)).heap.size := by simp
        have zhz := hz.size; replace bL := bL.nx hz; replace hX := hX.trans hz; replace hXs := hXs.trans hz; (try replace bz := bz.nx hz); (try replace hi := hi.nx hz); (try replace hS := hS.nx hz)
        refine CallStep.mk (by rfl) (fun K hK => ?_)
        go_simp
        refine hK.out _ _ (by exact bL.d4) ?_
        clear hK K
        try simp only [Act.put, List.setIfInBounds_toArray, List.set_cons_zero, List.set_cons_succ]
        change HP _ _ _ _ _ _ (v1.alloc (.cells #[.int .i64 0, .int .i64 0, .int .i64 0, .slice none 0 0] 30))
        generalize v1.alloc (.cells #[.int .i64 0, .int .i64 0, .int .i64 0, .slice none 0 0] 30) = Wz at *
        generalize v1.heap.size = gz at *
        clear hz
        refine HP.call ?_
        refine CallStep.mk (by rfl) (fun K hK => ?_)
        go_simp
        refine (toFrame_c p b v t _).mono ?_; rintro e v2 ⟨rfl, hv2⟩; have zhv2 := hv2.size; replace bL := bL.nx hv2; replace hX := hX.trans hv2; replace hXs := hXs.trans hv2; (try replace bz := bz.nx hv2); (try replace hi := hi.nx hv2); (try replace hS := hS.nx hv2)
        go_wp2_with fail
        refine hK.out _ _ (by exact bL.d4) ?_
        clear hK K
        try simp only [Act.put, List.setIfInBounds_toArray, List.set_cons_zero, List.set_cons_succ]
        refine HP.call ?_
        refine CallStep.mk (by rfl) (fun K hK => ?_)
        go_simp
        refine (specSegOf_c Ai ci _ xs p b v t _ hi.row (Nat.le_refl _) hl).mono ?_; intro e v3 hR; obtain ⟨A9, c9, rfl, hS, hv3⟩ := hR.un Hq.out Hc.out; replace hS := hS.low (lo' := W.heap.size) (by have := hXs.size; omega); have zhv3 := hv3.size; replace bL := bL.nx hv3; replace hX := hX.trans hv3; replace hXs := hXs.trans hv3; (try replace bz := bz.nx hv3); (try replace hi := hi.nx hv3); (try replace hS := hS.nx hv3)
        go_wp2_with fail
        refine hK.out _ _ (by exact bL.d4) ?_
        clear hK K
        try simp only [Act.put, List.setIfInBounds_toArray, List.set_cons_zero, List.set_cons_succ]
        repeat (first | (refine HP.take (v := ?_) (by rfl) ?_ ?_; rotate_left; (· (intro w hSw; (try dsimp only at hSw); go_simp; try with_reducible rfl)); (try simp only [Act.put, List.setIfInBounds_toArray, List.set_cons_zero, List.set_cons_succ])) | (refine HP.skip (by rfl) ?_; (try simp only [Act.put, List.setIfInBounds_toArray, List.set_cons_zero, List.set_cons_succ])))
        obtain ⟨rc0, rc1, rc2, rc3⟩ := bz.d4
        have rf0 := bz.frozen 0
        have rf1 := bz.frozen 1
        have rf2 := bz.frozen 2
        have rf3 := bz.frozen 3
        have rlt := bz.lt
        refine HP.call ?_
        refine CallStep.mk (by rfl) (fun K hK => ?_)
        go_simp
        refine hK.out _ _ (by exact ((((bL.far (p := ⟨gz, 0, none⟩) (by simp; omega) (.int .i64 q0)).far (p := ⟨gz, 1, none⟩) (by simp; omega) (.int .i64 q1)).far (p := ⟨gz, 2, none⟩) (by simp; omega) (.int .i64 q2)).far (p := ⟨gz, 3, none⟩) (by simp; omega) (.slice A9 qs.length c9)).d4) ?_
        clear hK K
        try simp only [Act.put, List.setIfInBounds_toArray, List.set_cons_zero, List.set_cons_succ]
        clear rc0 rc1 rc2 rc3 rf0 rf1 rf2 rf3
        repeat (first | (refine HP.take (v := ?_) (by rfl) ?_ ?_; rotate_left; (· (intro w hSw; (try dsimp only at hSw); go_simp; try with_reducible rfl)); (try simp only [Act.put, List.setIfInBounds_toArray, List.set_cons_zero, List.set_cons_succ])) | (refine HP.skip (by rfl) ?_; (try simp only [Act.put, List.setIfInBounds_toArray, List.set_cons_zero, List.set_cons_succ])))
        refine HP.done ?_
        have rq := put4_box bz (.int .i64 q0) (.int .i64 q1) (.int .i64 q2) (.slice A9 qs.length c9)
        have hnf := put4_nx (g := gz) hXs (by omega) (.int .i64 q0) (.int .i64 q1) (.int .i64 q2) (.slice A9 qs.length c9)
        have hSf := hS.put4L bz (by decide) (.int .i64 q0) (.int .i64 q1) (.int .i64 q2) (.slice A9 qs.length c9)
        unfold put4 at rq hnf hSf
        generalize ((((v3.setCell ⟨gz, 0, none⟩ (.int .i64 q0)).setCell ⟨gz, 1, none⟩ (.int .i64 q1)).setCell ⟨gz, 2, none⟩ (.int .i64 q2)).setCell ⟨gz, 3, none⟩ (.slice A9 qs.length c9)) = Wf at *
        exact key gz A9 c9 Wf Ai ci ⟨rq, hSf, by omega, hnf⟩
    · have bz := Box.new W0 30 #[.int .i64 0, .int .i64 0, .int .i64 0, .slice none 0 0]
      have hz := (Nx.refl W0).alloc (.cells #[.int .i64 0, .int .i64 0, .int .i64 0, .slice none 0 0] 30)
      have zlt : W0.heap.size < (W0.alloc (.cells #[.int .i64 0, .int .i64 0, .int .i64 0, .slice none 0 0] 30)).heap.size := by simp
      have zhz := hz.size; replace bL := bL.nx hz; replace hX := hX.trans hz; replace hXs := hXs.trans hz; (try replace bz := bz.nx hz); (try replace hi := hi.nx hz); (try replace hS := hS.nx hz)
      refine CallStep.mk (by rfl) (fun K hK => ?_)
      go_simp
      refine hK.out _ _ (by exact bL.d4) ?_
      clear hK K
      try simp only [Act.put, List.setIfInBounds_toArray, List.set_cons_zero, List.set_cons_succ]
      change HP _ _ _ _ _ _ (W0.alloc (.cells #[.int .i64 0, .int .i64 0, .int .i64 0, .slice none 0 0] 30))
      generalize W0.alloc (.cells #[.int .i64 0, .int .i64 0, .int .i64 0, .slice none 0 0] 30) = Wz at *
      generalize W0.heap.size = gz at *
      clear hz
      refine HP.call ?_
      refine CallStep.mk (by rfl) (fun K hK => ?_)
      go_simp
      refine (toIntS_c A2 c2 w.heap.size xs _ (h.below hX (Nat.le_refl _)) hX.size hl).mono ?_; rintro e v1 ⟨Ai, ci, rfl, hi, hv1⟩; have zhv1 := hv1.size; replace bL := bL.nx hv1; replace hX := hX.trans hv1; replace hXs := hXs.trans hv1; (try replace bz := bz.nx hv1); (try replace hi := hi.nx hv1); (try replace hS := hS.nx hv1)
      go_wp2_with fail
      refine hK.out _ _ (by exact bL.d4) ?_
      clear hK K
      try simp only [Act.put, List.setIfInBounds_toArray, List.set_cons_zero, List.set_cons_succ]
      refine HP.call ?_
      refine CallStep.mk (by rfl) (fun K hK => ?_)
      go_simp
      refine (toFrame_c p b v t _).mono ?_; rintro e v2 ⟨rfl, hv2⟩; have zhv2 := hv2.size; replace bL := bL.nx hv2; replace hX := hX.trans hv2; replace hXs := hXs.trans hv2; (try replace bz := bz.nx hv2); (try replace hi := hi.nx hv2); (try replace hS := hS.nx hv2)
      go_wp2_with fail
      refine hK.out _ _ (by exact bL.d4) ?_
      clear hK K
      try simp only [Act.put, List.setIfInBounds_toArray, List.set_cons_zero, List.set_cons_succ]
      refine HP.call ?_
      refine CallStep.mk (by rfl) (fun K hK => ?_)
      go_simp
      refine (specSegOf_c Ai ci _ xs p b v t _ hi.row (Nat.le_refl _) hl).mono ?_; intro e v3 hR; obtain ⟨A9, c9, rfl, hS, hv3⟩ := hR.un Hq.out Hc.out; replace hS := hS.low (lo' := W.heap.size) (by have := hXs.size; omega); have zhv3 := hv3.size; replace bL := bL.nx hv3; replace hX := hX.trans hv3; replace hXs := hXs.trans hv3; (try replace bz := bz.nx hv3); (try replace hi := hi.nx hv3); (try replace hS := hS.nx hv3)
      go_wp2_with fail
      refine hK.out _ _ (by exact bL.d4) ?_
      clear hK K
      try simp only [Act.put, List.setIfInBounds_toArray, List.set_cons_zero, List.set_cons_succ]
      repeat (first | (refine HP.take (v := ?_) (by rfl) ?_ ?_; rotate_left; (· (intro w hSw; (try dsimp only at hSw); go_simp; try with_reducible rfl)); (try simp only [Act.put, List.setIfInBounds_toArray, List.set_cons_zero, List.set_cons_succ])) | (refine HP.skip (by rfl) ?_; (try simp only [Act.put, List.setIfInBounds_toArray, List.set_cons_zero, List.set_cons_succ])))
      obtain ⟨rc0, rc1, rc2, rc3⟩ := bz.d4
      have rf0 := bz.frozen 0
      have rf1 := bz.frozen 1
      have rf2 := bz.frozen 2
      have rf3 := bz.frozen 3
      have rlt := bz.lt
      refine HP.call ?_
      refine CallStep.mk (by rfl) (fun K hK => ?_)
      go_simp
      refine hK.out _ _ (by exact ((((bL.far (p := ⟨gz, 0, none⟩) (by simp; omega) (.int .i64 q0)).far (p := ⟨gz, 1, none⟩) (by simp; omega) (.int .i64 q1)).far (p := ⟨gz, 2, none⟩) (by simp; omega) (.int .i64 q2)).far (p := ⟨gz, 3, none⟩) (by simp; omega) (.slice A9 qs.length c9)).d4) ?_
      clear hK K
      try simp only [Act.put, List.setIfInBounds_toArray, List.set_cons_zero, List.set_cons_succ]
      clear rc0 rc1 rc2 rc3 rf0 rf1 rf2 rf3
      repeat (first | (refine HP.take (v := ?_) (by rfl) ?_ ?_; rotate_left; (· (intro w hSw; (try dsimp only at hSw); go_simp; try with_reducible rfl)); (try simp only [Act.put, List.setIfInBounds_toArray, List.set_cons_zero, List.set_cons_succ])) | (refine HP.skip (by rfl) ?_; (try simp only [Act.put, List.setIfInBounds_toArray, List.set_cons_zero, List.set_cons_succ])))
      refine HP.done ?_
      have rq := put4_box bz (.int .i64 q0) (.int .i64 q1) (.int .i64 q2) (.slice A9 qs.length c9)
      have hnf := put4_nx (g := gz) hXs (by omega) (.int .i64 q0) (.int .i64 q1) (.int .i64 q2) (.slice A9 qs.length c9)
      have hSf := hS.put4L bz (by decide) (.int .i64 q0) (.int .i64 q1) (.int .i64 q2) (.slice A9 qs.length c9)
      unfold put4 at rq hnf hSf
      generalize ((((v3.setCell ⟨gz, 0, none⟩ (.int .i64 q0)).setCell ⟨gz, 1, none⟩ (.int .i64 q1)).setCell ⟨gz, 2, none⟩ (.int .i64 q2)).setCell ⟨gz, 3, none⟩ (.slice A9 qs.length c9)) = Wf at *
      exact key gz A9 c9 Wf Ai ci ⟨rq, hSf, by omega, hnf⟩
  intro gW A5 c5 W5 Ai5 ci5 ⟨bW, hS5, hgW, hxr5⟩
  have zb5 := bW.lt
  have zhxr5 := hxr5.size; replace bL := bL.nx hxr5; replace hX := hX.trans hxr5
  replace hS5 := hS5.sr
  clear hxr5
  go_wp2_with fail
  refine (toIntS_c A2 c2 w.heap.size xs _ (h.below hX (Nat.le_refl _)) hX.size hl).mono ?_
  rintro e w4 ⟨A6, c6, rfl, hS6, hx4⟩
  replace hS6 := hS6.sr
  have zhx4 := hx4.size; replace bL := bL.nx hx4; replace hS5 := hS5.nx hx4; replace bW := bW.nx hx4; replace hX := hX.trans hx4
  obtain ⟨l0, l1, l2, l3⟩ := bL.d4
  go_wp2_with fail
  refine (toFrame_c p b v t _).mono ?_
  rintro e w5 ⟨rfl, hx5⟩
  have zhx5 := hx5.size; replace bL := bL.nx hx5; replace hS5 := hS5.nx hx5; replace bW := bW.nx hx5; replace hS6 := hS6.nx hx5; replace hX := hX.trans hx5
  clear l0 l1 l2 l3
  go_wp2_with fail
  refine (implSegOf_c A6 c6 _ xs p b v t _ hS6.sl.row (Nat.le_refl _) hl).mono ?_
  intro e w6 hR
  obtain ⟨A8, c8, rfl, hS8, hx6⟩ := hR.un Hq.out Hc.out
  replace hS8 := hS8.sr
  have zhx6 := hx6.size; replace bL := bL.nx hx6; replace hS5 := hS5.nx hx6; replace bW := bW.nx hx6; replace hS6 := hS6.nx hx6; replace hX := hX.trans hx6
  obtain ⟨l0, l1, l2, l3⟩ := bW.d4
  have lltW := bW.lt
  go_wp2_with fail
  have bG := Box.new w6 30 #[.int .i64 q0, .int .i64 q1, .int .i64 q2, .slice A8 qs.length c8]
  have hxg := (Nx.refl w6).alloc (.cells #[.int .i64 q0, .int .i64 q1, .int .i64 q2, .slice A8 qs.length c8] 30)
  have zWg : w6.heap.size < (w6.alloc (.cells #[.int .i64 q0, .int .i64 q1, .int .i64 q2, .slice A8 qs.length c8] 30)).heap.size := by simp
  have zhxg := hxg.size; replace bL := bL.nx hxg; replace hS5 := hS5.nx hxg; replace bW := bW.nx hxg; replace hS6 := hS6.nx hxg; replace hS8 := hS8.nx hxg; replace hX := hX.trans hxg
  clear hxg zhxg lltW
  clear l0 l1 l2 l3
  generalize w6.alloc (.cells #[.int .i64 q0, .int .i64 q1, .int .i64 q2, .slice A8 qs.length c8] 30) = W6 at *
  refine (eqSeg_c q0 q1 q2 A8 A5 c8 c5 _ qs _ hS8.sl.row hS5.sl.row (Nat.le_refl _) hy).mono ?_
  rintro e w7 ⟨rfl, hx7⟩
  have zhx7 := hx7.size; replace bL := bL.nx hx7; replace hS5 := hS5.nx hx7; replace bW := bW.nx hx7; replace hS6 := hS6.nx hx7; replace hS8 := hS8.nx hx7; replace bG := bG.nx hx7; replace hX := hX.trans hx7
  go_wp2_with fail
  refine (toIntS_c A2 c2 w.heap.size xs _ (h.below hX (Nat.le_refl _)) hX.size hl).mono ?_
  rintro e w8 ⟨A9, c9, rfl, hS9, hx8⟩
  have zhx8 := hx8.size; replace bL := bL.nx hx8; replace hS5 := hS5.nx hx8; replace bW := bW.nx hx8; replace hS6 := hS6.nx hx8; replace hS8 := hS8.nx hx8; replace bG := bG.nx hx8; replace hX := hX.trans hx8
  go_wp2_with fail
  refine (eqIntS_c A6 A9 c6 c9 _ xs _ hS6.sl.row hS9.row (Nat.le_refl _) hl).mono ?_
  rintro e w9 ⟨rfl, hx9⟩
  have zhx9 := hx9.size; replace bL := bL.nx hx9; replace hS5 := hS5.nx hx9; replace bW := bW.nx hx9; replace hS6 := hS6.nx hx9; replace hS8 := hS8.nx hx9; replace bG := bG.nx hx9; replace hX := hX.trans hx9
  clear hS9
  go_wp2_with fail
  refine (markIntS_c A6 xs.length c6 1 _ _ _ _ hS6 hl (by omega)).mono ?_
  rintro e wc ⟨rfl, hS6b, hr1⟩
  have zhr1 := hr1.size; replace bL := bL.rg hr1 (by omega); replace hS5 := hS5.rg hr1 (by omega); replace bW := bW.rg hr1 (by omega); replace hS8 := hS8.rg hr1 (by omega); replace bG := bG.rg hr1 (by omega); replace hX := Rg.nx_of hX hr1 (by omega)
  clear hS6 hS6b
  obtain ⟨k1, Hk1⟩ : ∃ q, Hid (1 + xs.length = q) := ⟨_, rfl⟩
  have hd2 : decide ((k1 : Int) < 0) = false := by simp
  rw [Hk1.out]
  obtain ⟨l0, l1, l2, l3⟩ := bW.d4
  obtain ⟨m0, m1, m2, m3⟩ := bG.d4
  go_wp2_with fail
  refine (eqSeg_c q0 q1 q2 A8 A5 c8 c5 _ qs _ hS8.sl.row hS5.sl.row (Nat.le_refl _) hy).mono ?_
  rintro e we ⟨rfl, hxe⟩
  have zhxe := hxe.size; replace bL := bL.nx hxe; replace hS5 := hS5.nx hxe; replace bW := bW.nx hxe; replace hS8 := hS8.nx hxe; replace bG := bG.nx hxe; replace hX := hX.trans hxe
  clear l0 l1 l2 l3 m0 m1 m2 m3
  obtain ⟨m0, m1, m2, m3⟩ := bG.d4
  go_wp2_with fail
  refine (markSeg_c q0 q1 q2 A8 qs.length c8 _ _ _ _ hS8 (by omega) hy).mono ?_
  rintro e wf ⟨rfl, hS8b, hr3⟩
  have zhr3 := hr3.size; replace bL := bL.rg hr3 (by omega); replace hS5 := hS5.rg hr3 (by omega); replace bW := bW.rg hr3 (by omega); replace bG := bG.rg hr3 (by omega); replace hX := Rg.nx_of hX hr3 (by omega)
  clear hS8
  clear m0 m1 m2 m3
  obtain ⟨k3, Hk3⟩ : ∃ q, Hid (1 + qs.length * 3 = q) := ⟨_, rfl⟩
  have hd3 : decide ((k3 : Int) < 0) = false := by simp
  rw [Hk3.out]
  obtain ⟨m0, m1, m2, m3⟩ := bG.d4
  go_wp2_with fail
  refine (heldSeg_c q0 q1 q2 A8 qs.length c8 _ _ hS8b.sl.row (Nat.le_refl _) hy).mono ?_
  rintro e wh ⟨rfl, hxh⟩
  rw [Hk3.out]
  have zhxh := hxh.size; replace bL := bL.nx hxh; replace hS5 := hS5.nx hxh; replace bW := bW.nx hxh; replace bG := bG.nx hxh; replace hS8b := hS8b.nx hxh; replace hX := hX.trans hxh
  clear m0 m1 m2 m3
  go_wp2_with fail
  refine merge6L (F := (fun gq Aq cq Wq => Box Wq gq 30 #[.int .i64 q0, .int .i64 q1, .int .i64 q2, .slice Aq qs.length cq] ∧ Sl Wq wh.heap.size Aq 75 (qs.length * 3) (chAt qs) ∧ wh.heap.size ≤ gq ∧ Nx wh Wq)) (G := ?_) (fun key => ?_) ?_
  rotate_left
  · have hXs : Nx wh wh.drew := (Nx.refl wh).drew
    have hXk := hX
    have hX := hXk.drew
    clear hXk
    have zd : wh.heap.size ≤ wh.drew.heap.size := Nat.le_refl _
    have bLk := bL
    have bL : Box wh.drew w.heap.size 36 #[.int .i64 p, .int .i64 b, .int .i64 v, .int .i64 t] := bLk
    clear bLk
    have zbl := bL.lt
    refine wp_region_plan (.t 0 (.t 2 (.b 1 (.b 3 (.b 4 (.t 5 (.t 6 (.t 7 (.c 8 (.c 9 (.t 10 .e)))))) 8 (.c 4 (.t 5 (.t 6 (.t 7 (.c 9 (.t 10 .e))))))) 8 (.c 3 (.c 4 (.t 5 (.t 6 (.t 7 (.c 9 (.t 10 .e)))))))) 8 (.c 1 (.c 3 (.c 4 (.t 5 (.t 6 (.t 7 (.c 9 (.t 10 .e))))))))))) (fun w' => w'.cell? ⟨w.heap.size, 0, none⟩ = some (.int .i64 p) ∧ w'.cell? ⟨w.heap.size, 1, none⟩ = some (.int .i64 b) ∧ w'.cell? ⟨w.heap.size, 2, none⟩ = some (.int .i64 v) ∧ w'.cell? ⟨w.heap.size, 3, none⟩ = some (.int .i64 t)) (by kernel_rfl) (by kernel_rfl) rfl (by kernel_rfl) (fun _ _ d _ _ h => by cases d <;> exact h) (by exact bL.d4) ?_
    simp only [psOf, List.getD_cons_zero, List.getD_cons_succ]
    generalize wh.drew = W0 at *
    repeat (first | (refine HP.take (v := ?_) (by rfl) ?_ ?_; rotate_left; (· (intro w hSw; (try dsimp only at hSw); go_simp; try with_reducible rfl)); (try simp only [Act.put, List.setIfInBounds_toArray, List.set_cons_zero, List.set_cons_succ])) | (refine HP.skip (by rfl) ?_; (try simp only [Act.put, List.setIfInBounds_toArray, List.set_cons_zero, List.set_cons_succ])))
    refine HP.both ?_ ?_
    · refine CallStep.mk (by rfl) (fun K hK => ?_)
      go_simp
      refine (toIntS_c A2 c2 w.heap.size xs _ (h.below hX (Nat.le_refl _)) hX.size hl).mono ?_; rintro e v1 ⟨Ai, ci, rfl, hi, hv1⟩; have zhv1 := hv1.size; replace bL := bL.nx hv1; replace hX := hX.trans hv1; replace hXs := hXs.trans hv1; (try replace bz := bz.nx hv1); (try replace hi := hi.nx hv1); (try replace hS := hS.nx hv1)
      go_wp2_with fail
      refine hK.out _ _ (by exact bL.d4) ?_
      clear hK K
      try simp only [Act.put, List.setIfInBounds_toArray, List.set_cons_zero, List.set_cons_succ]
      refine HP.both ?_ ?_
      · refine CallStep.mk (by rfl) (fun K hK => ?_)
        go_simp
        refine (toFrame_c p b v t _).mono ?_; rintro e v2 ⟨rfl, hv2⟩; have zhv2 := hv2.size; replace bL := bL.nx hv2; replace hX := hX.trans hv2; replace hXs := hXs.trans hv2; (try replace bz := bz.nx hv2); (try replace hi := hi.nx hv2); (try replace hS := hS.nx hv2)
        go_wp2_with fail
        refine hK.out _ _ (by exact bL.d4) ?_
        clear hK K
        try simp only [Act.put, List.setIfInBounds_toArray, List.set_cons_zero, List.set_cons_succ]
        refine HP.both ?_ ?_
        · refine CallStep.mk (by rfl) (fun K hK => ?_)
          go_simp
          refine (implSegOf_c Ai ci _ xs p b v t _ hi.row (Nat.le_refl _) hl).mono ?_; intro e v3 hR; obtain ⟨A9, c9, rfl, hS, hv3⟩ := hR.un Hq.out Hc.out; replace hS := hS.low (lo' := wh.heap.size) (by have := hXs.size; omega); have zhv3 := hv3.size; replace bL := bL.nx hv3; replace hX := hX.trans hv3; replace hXs := hXs.trans hv3; (try replace bz := bz.nx hv3); (try replace hi := hi.nx hv3); (try replace hS := hS.nx hv3)
          go_wp2_with fail
          refine hK.out _ _ (by exact bL.d4) ?_
          clear hK K
          try simp only [Act.put, List.setIfInBounds_toArray, List.set_cons_zero, List.set_cons_succ]
          repeat (first | (refine HP.take (v := ?_) (by rfl) ?_ ?_; rotate_left; (· (intro w hSw; (try dsimp only at hSw); go_simp; try with_reducible rfl)); (try simp only [Act.put, List.setIfInBounds_toArray, List.set_cons_zero, List.set_cons_succ])) | (refine HP.skip (by rfl) ?_; (try simp only [Act.put, List.setIfInBounds_toArray, List.set_cons_zero, List.set_cons_succ])))
          refine HP.call ?_
          have bz := Box.new v3 30 #[.int .i64 0, .int .i64 0, .int .i64 0, .slice none 0 0]
          have hz := (Nx.refl v3).alloc (.cells #[.int .i64 0, .int .i64 0, .int .i64 0, .slice none 0 0] 30)
          have zlt : v3.heap.size < (v3.alloc (.cells #[.int .i64 0, .int .i64 0, .int .i64 0, .slice none 0 0] 30)).heap.size := by simp
          have zhz := hz.size; replace bL := bL.nx hz; replace hX := hX.trans hz; replace hXs := hXs.trans hz; (try replace bz := bz.nx hz); (try replace hi := hi.nx hz); (try replace hS := hS.nx hz)
          refine CallStep.mk (by rfl) (fun K hK => ?_)
          go_simp
          refine hK.out _ _ (by exact bL.d4) ?_
          clear hK K
          try simp only [Act.put, List.setIfInBounds_toArray, List.set_cons_zero, List.set_cons_succ]
          change HP _ _ _ _ _ _ (v3.alloc (.cells #[.int .i64 0, .int .i64 0, .int .i64 0, .slice none 0 0] 30))
          generalize v3.alloc (.cells #[.int .i64 0, .int .i64 0, .int .i64 0, .slice none 0 0] 30) = Wz at *
          generalize v3.heap.size = gz at *
          clear hz
          obtain ⟨rc0, rc1, rc2, rc3⟩ := bz.d4
          have rf0 := bz.frozen 0
          have rf1 := bz.frozen 1
          have rf2 := bz.frozen 2
          have rf3 := bz.frozen 3
          have rlt := bz.lt
          refine HP.call ?_
          refine CallStep.mk (by rfl) (fun K hK => ?_)
          go_simp
          refine hK.out _ _ (by exact ((((bL.far (p := ⟨gz, 0, none⟩) (by simp; omega) (.int .i64 q0)).far (p := ⟨gz, 1, none⟩) (by simp; omega) (.int .i64 q1)).far (p := ⟨gz, 2, none⟩) (by simp; omega) (.int .i64 q2)).far (p := ⟨gz, 3, none⟩) (by simp; omega) (.slice A9 qs.length c9)).d4) ?_
          clear hK K
          try simp only [Act.put, List.setIfInBounds_toArray, List.set_cons_zero, List.set_cons_succ]
          clear rc0 rc1 rc2 rc3 rf0 rf1 rf2 rf3
          repeat (first | (refine HP.take (v := ?_) (by rfl) ?_ ?_; rotate_left; (· (intro w hSw; (try dsimp only at hSw); go_simp; try with_reducible rfl)); (try simp only [Act.put, List.setIfInBounds_toArray, List.set_cons_zero, List.set_cons_succ])) | (refine HP.skip (by rfl) ?_; (try simp only [Act.put, List.setIfInBounds_toArray, List.set_cons_zero, List.set_cons_succ])))
          refine HP.done ?_
          have rq := put4_box bz (.int .i64 q0) (.int .i64 q1) (.int .i64 q2) (.slice A9 qs.length c9)
          have hnf := put4_nx (g := gz) hXs (by omega) (.int .i64 q0) (.int .i64 q1) (.int .i64 q2) (.slice A9 qs.length c9)
          have hSf := hS.put4L bz (by decide) (.int .i64 q0) (.int .i64 q1) (.int .i64 q2) (.slice A9 qs.length c9)
          unfold put4 at rq hnf hSf
          generalize ((((Wz.setCell ⟨gz, 0, none⟩ (.int .i64 q0)).setCell ⟨gz, 1, none⟩ (.int .i64 q1)).setCell ⟨gz, 2, none⟩ (.int .i64 q2)).setCell ⟨gz, 3, none⟩ (.slice A9 qs.length c9)) = Wf at *
          exact key gz A9 c9 Wf Ai ci ⟨rq, hSf, by omega, hnf⟩
        · have bz := Box.new v2 30 #[.int .i64 0, .int .i64 0, .int .i64 0, .slice none 0 0]
          have hz := (Nx.refl v2).alloc (.cells #[.int .i64 0, .int .i64 0, .int .i64 0, .slice none 0 0] 30)
          have zlt : v2.heap.size < (v2.alloc (.cells #[.int .i64 0, .int .i64 0, .int .i64 0, .slice none 0 0] 30)).heap.size := by simp
          have zhz := hz.size; replace bL := bL.nx hz; replace hX := hX.trans hz; replace hXs := hXs.trans hz; (try replace bz := bz.nx hz); (try replace hi := hi.nx hz); (try replace hS := hS.nx hz)
          refine CallStep.mk (by rfl) (fun K hK => ?_)
          go_simp
          refine hK.out _ _ (by exact bL.d4) ?_
          clear hK K
          try simp only [Act.put, List.setIfInBounds_toArray, List.set_cons_zero, List.set_cons_succ]
          change HP _ _ _ _ _ _ (v2.alloc (.cells #[.int .i64 0, .int .i64 0, .int .i64 0, .slice none 0 0] 30))
          generalize v2.alloc (.cells #[.int .i64 0, .int .i64 0, .int .i64 0, .slice none 0 0] 30) = Wz at *
          generalize v2.heap.size = gz at *
          clear hz
          refine HP.call ?_
          refine CallStep.mk (by rfl) (fun K hK => ?_)
          go_simp
          refine (implSegOf_c Ai ci _ xs p b v t _ hi.row (Nat.le_refl _) hl).mono ?_; intro e v3 hR; obtain ⟨A9, c9, rfl, hS, hv3⟩ := hR.un Hq.out Hc.out; replace hS := hS.low (lo' := wh.heap.size) (by have := hXs.size; omega); have zhv3 := hv3.size; replace bL := bL.nx hv3; replace hX := hX.trans hv3; replace hXs := hXs.trans hv3; (try replace bz := bz.nx hv3); (try replace hi := hi.nx hv3); (try replace hS := hS.nx hv3)
          go_wp2_with fail
          refine hK.out _ _ (by exact bL.d4) ?_
          clear hK K
          try simp only [Act.put, List.setIfInBounds_toArray, List.set_cons_zero, List.set_cons_succ]
          repeat (first | (refine HP.take (v := ?_) (by rfl) ?_ ?_; rotate_left; (· (intro w hSw; (try dsimp only at hSw); go_simp; try with_reducible rfl)); (try simp only [Act.put, List.setIfInBounds_toArray, List.set_cons_zero, List.set_cons_succ])) | (refine HP.skip (by rfl) ?_; (try simp only [Act.put, List.setIfInBounds_toArray, List.set_cons_zero, List.set_cons_succ])))
          obtain ⟨rc0, rc1, rc2, rc3⟩ := bz.d4
          have rf0 := bz.frozen 0
          have rf1 := bz.frozen 1
          have rf2 := bz.frozen 2
          have rf3 := bz.frozen 3
          have rlt := bz.lt
          refine HP.call ?_
          refine CallStep.mk (by rfl) (fun K hK => ?_)
          go_simp
          refine hK.out _ _ (by exact ((((bL.far (p := ⟨gz, 0, none⟩) (by simp; omega) (.int .i64 q0)).far (p := ⟨gz, 1, none⟩) (by simp; omega) (.int .i64 q1)).far (p := ⟨gz, 2, none⟩) (by simp; omega) (.int .i64 q2)).far (p := ⟨gz, 3, none⟩) (by simp; omega) (.slice A9 qs.length c9)).d4) ?_
          clear hK K
          try simp only [Act.put, List.setIfInBounds_toArray, List.set_cons_zero, List.set_cons_succ]
          clear rc0 rc1 rc2 rc3 rf0 rf1 rf2 rf3
          repeat (first | (refine HP.take (v := ?_) (by rfl) ?_ ?_; rotate_left; (· (intro w hSw; (try dsimp only at hSw); go_simp; try with_reducible rfl)); (try simp only [Act.put, List.setIfInBounds_toArray, List.set_cons_zero, List.set_cons_succ])) | (refine HP.skip (by rfl) ?_; (try simp only [Act.put, List.setIfInBounds_toArray, List.set_cons_zero, List.set_cons_succ])))
          refine HP.done ?_
          have rq := put4_box bz (.int .i64 q0) (.int .i64 q1) (.int .i64 q2) (.slice A9 qs.length c9)
          have hnf := put4_nx (g := gz) hXs (by omega) (.int .i64 q0) (.int .i64 q1) (.int .i64 q2) (.slice A9 qs.length c9)
          have hSf := hS.put4L bz (by decide) (.int .i64 q0) (.int .i64 q1) (.int .i64 q2) (.slice A9 qs.length c9)
          unfold put4 at rq hnf hSf
          generalize ((((v3.setCell ⟨gz, 0, none⟩ (.int .i64 q0)).setCell ⟨gz, 1, none⟩ (.int .i64 q1)).setCell ⟨gz, 2, none⟩ (.int .i64 q2)).setCell ⟨gz, 3, none⟩ (.slice A9 qs.length c9)) = Wf at *
          exact key gz A9 c9 Wf Ai ci ⟨rq, hSf, by omega, hnf⟩
      · have bz := Box.new v1 30 #[.int .i64 0, .int .i64 0, .int .i64 0, .slice none 0 0]
        have hz := (Nx.refl v1).alloc (.cells #[.int .i64 0, .int .i64 0, .int .i64 0, .slice none 0 0] 30)
        have zlt : v1.heap.size < (v1.alloc (.cells #[.int .i64 0, .int .i64 0, .int .i64 0, .slice none 0 0] 30)).heap.size := by simp
        have zhz := hz.size; replace bL := bL.nx hz; replace hX := hX.trans hz; replace hXs := hXs.trans hz; (try replace bz := bz.nx hz); (try replace hi := hi.nx hz); (try replace hS := hS.nx hz)
        refine CallStep.mk (by rfl) (fun K hK => ?_)
        go_simp
        refine hK.out _ _ (by exact bL.d4) ?_
        clear hK K
        try simp only [Act.put, List.setIfInBounds_toArray, List.set_cons_zero, List.set_cons_succ]
        change HP _ _ _ _ _ _ (v1.alloc (.cells #[.int .i64 0, .int .i64 0, .int .i64 0, .slice none 0 0] 30))
        generalize v1.alloc (.cells #[.int .i64 0, .int .i64 0, .int .i64 0, .slice none 0 0] 30) = Wz at *
        generalize v1.heap.size = gz at *
        clear hz
        refine HP.call ?_
        refine CallStep.mk (by rfl) (fun K hK => ?_)
        go_simp
        refine (toFrame_c p b v t _).mono ?_; rintro e v2 ⟨rfl, hv2⟩; have zhv2 := hv2.size; replace bL := bL.nx hv2; replace hX := hX.trans hv2; replace hXs := hXs.trans hv2; (try replace bz := bz.nx hv2); (try replace hi := hi.nx hv2); (try replace hS := hS.nx hv2)
        go_wp2_with fail
        refine hK.out _ _ (by exact bL.d4) ?_
        clear hK K
        try simp only [Act.put, List.setIfInBounds_toArray, List.set_cons_zero, List.set_cons_succ]
        refine HP.call ?_
        refine CallStep.mk (by rfl) (fun K hK => ?_)
        go_simp
        refine (implSegOf_c Ai ci _ xs p b v t _ hi.row (Nat.le_refl _) hl).mono ?_; intro e v3 hR; obtain ⟨A9, c9, rfl, hS, hv3⟩ := hR.un Hq.out Hc.out; replace hS := hS.low (lo' := wh.heap.size) (by have := hXs.size; omega); have zhv3 := hv3.size; replace bL := bL.nx hv3; replace hX := hX.trans hv3; replace hXs := hXs.trans hv3; (try replace bz := bz.nx hv3); (try replace hi := hi.nx hv3); (try replace hS := hS.nx hv3)
        go_wp2_with fail
        refine hK.out _ _ (by exact bL.d4) ?_
        clear hK K
        try simp only [Act.put, List.setIfInBounds_toArray, List.set_cons_zero, List.set_cons_succ]
        repeat (first | (refine HP.take (v := ?_) (by rfl) ?_ ?_; rotate_left; (· (intro w hSw; (try dsimp only at hSw); go_simp; try with_reducible rfl)); (try simp only [Act.put, List.setIfInBounds_toArray, List.set_cons_zero, List.set_cons_succ])) | (refine HP.skip (by rfl) ?_; (try simp only [Act.put, List.setIfInBounds_toArray, List.set_cons_zero, List.set_cons_succ])))
        obtain ⟨rc0, rc1, rc2, rc3⟩ := bz.d4
        have rf0 := bz.frozen 0
        have rf1 := bz.frozen 1
        have rf2 := bz.frozen 2
        have rf3 := bz.frozen 3
        have rlt := bz.lt
        refine HP.call ?_
        refine CallStep.mk (by rfl) (fun K hK => ?_)
        go_simp
        refine hK.out _ _ (by exact ((((bL.far (p := ⟨gz, 0, none⟩) (by simp; omega) (.int .i64 q0)).far (p := ⟨gz, 1, none⟩) (by simp; omega) (.int .i64 q1)).far (p := ⟨gz, 2, none⟩) (by simp; omega) (.int .i64 q2)).far (p := ⟨gz, 3, none⟩) (by simp; omega) (.slice A9 qs.length c9)).d4) ?_
        clear hK K
        try simp only [Act.put, List.setIfInBounds_toArray, List.set_cons_zero, List.set_cons_succ]
        clear rc0 rc1 rc2 rc3 rf0 rf1 rf2 rf3
        repeat (first | (refine HP.take (v := ?_) (by rfl) ?_ ?_; rotate_left; (· (intro w hSw; (try dsimp only at hSw); go_simp; try with_reducible rfl)); (try simp only [Act.put, List.setIfInBounds_toArray, List.set_cons_zero, List.set_cons_succ])) | (refine HP.skip (by rfl) ?_; (try simp only [Act.put, List.setIfInBounds_toArray, List.set_cons_zero, List.set_cons_succ])))
        refine HP.done ?_
        have rq := put4_box bz (.int .i64 q0) (.int .i64 q1) (.int .i64 q2) (.slice A9 qs.length c9)
        have hnf := put4_nx (g := gz) hXs (by omega) (.int .i64 q0) (.int .i64 q1) (.int .i64 q2) (.slice A9 qs.length c9)
        have hSf := hS.put4L bz (by decide) (.int .i64 q0) (.int .i64 q1) (.int .i64 q2) (.slice A9 qs.length c9)
        unfold put4 at rq hnf hSf
        generalize ((((v3.setCell ⟨gz, 0, none⟩ (.int .i64 q0)).setCell ⟨gz, 1, none⟩ (.int .i64 q1)).setCell ⟨gz, 2, none⟩ (.int .i64 q2)).setCell ⟨gz, 3, none⟩ (.slice A9 qs.length c9)) = Wf at *
        exact key gz A9 c9 Wf Ai ci ⟨rq, hSf, by omega, hnf⟩
    · have bz := Box.new W0 30 #[.int .i64 0, .int .i64 0, .int .i64 0, .slice none 0 0]
      have hz := (Nx.refl W0).alloc (.cells #[.int .i64 0, .int .i64 0, .int .i64 0, .slice none 0 0] 30)
      have zlt : W0.heap.size < (W0.alloc (.cells #[.int .i64 0, .int .i64 0, .int .i64 0, .slice none 0 0] 30)).heap.size := by simp
      have zhz := hz.size; replace bL := bL.nx hz; replace hX := hX.trans hz; replace hXs := hXs.trans hz; (try replace bz := bz.nx hz); (try replace hi := hi.nx hz); (try replace hS := hS.nx hz)
      refine CallStep.mk (by rfl) (fun K hK => ?_)
      go_simp
      refine hK.out _ _ (by exact bL.d4) ?_
      clear hK K
      try simp only [Act.put, List.setIfInBounds_toArray, List.set_cons_zero, List.set_cons_succ]
      change HP _ _ _ _ _ _ (W0.alloc (.cells #[.int .i64 0, .int .i64 0, .int .i64 0, .slice none 0 0] 30))
      generalize W0.alloc (.cells #[.int .i64 0, .int .i64 0, .int .i64 0, .slice none 0 0] 30) = Wz at *
      generalize W0.heap.size = gz at *
      clear hz
      refine HP.call ?_
      refine CallStep.mk (by rfl) (fun K hK => ?_)
      go_simp
      refine (toIntS_c A2 c2 w.heap.size xs _ (h.below hX (Nat.le_refl _)) hX.size hl).mono ?_; rintro e v1 ⟨Ai, ci, rfl, hi, hv1⟩; have zhv1 := hv1.size; replace bL := bL.nx hv1; replace hX := hX.trans hv1; replace hXs := hXs.trans hv1; (try replace bz := bz.nx hv1); (try replace hi := hi.nx hv1); (try replace hS := hS.nx hv1)
      go_wp2_with fail
      refine hK.out _ _ (by exact bL.d4) ?_
      clear hK K
      try simp only [Act.put, List.setIfInBounds_toArray, List.set_cons_zero, List.set_cons_succ]
      refine HP.call ?_
      refine CallStep.mk (by rfl) (fun K hK => ?_)
      go_simp
      refine (toFrame_c p b v t _).mono ?_; rintro e v2 ⟨rfl, hv2⟩; have zhv2 := hv2.size; replace bL := bL.nx hv2; replace hX := hX.trans hv2; replace hXs := hXs.trans hv2; (try replace bz := bz.nx hv2); (try replace hi := hi.nx hv2); (try replace hS := hS.nx hv2)
      go_wp2_with fail
      refine hK.out _ _ (by exact bL.d4) ?_
      clear hK K
      try simp only [Act.put, List.setIfInBounds_toArray, List.set_cons_zero, List.set_cons_succ]
      refine HP.call ?_
      refine CallStep.mk (by rfl) (fun K hK => ?_)
      go_simp
      refine (implSegOf_c Ai ci _ xs p b v t _ hi.row (Nat.le_refl _) hl).mono ?_; intro e v3 hR; obtain ⟨A9, c9, rfl, hS, hv3⟩ := hR.un Hq.out Hc.out; replace hS := hS.low (lo' := wh.heap.size) (by have := hXs.size; omega); have zhv3 := hv3.size; replace bL := bL.nx hv3; replace hX := hX.trans hv3; replace hXs := hXs.trans hv3; (try replace bz := bz.nx hv3); (try replace hi := hi.nx hv3); (try replace hS := hS.nx hv3)
      go_wp2_with fail
      refine hK.out _ _ (by exact bL.d4) ?_
      clear hK K
      try simp only [Act.put, List.setIfInBounds_toArray, List.set_cons_zero, List.set_cons_succ]
      repeat (first | (refine HP.take (v := ?_) (by rfl) ?_ ?_; rotate_left; (· (intro w hSw; (try dsimp only at hSw); go_simp; try with_reducible rfl)); (try simp only [Act.put, List.setIfInBounds_toArray, List.set_cons_zero, List.set_cons_succ])) | (refine HP.skip (by rfl) ?_; (try simp only [Act.put, List.setIfInBounds_toArray, List.set_cons_zero, List.set_cons_succ])))
      obtain ⟨rc0, rc1, rc2, rc3⟩ := bz.d4
      have rf0 := bz.frozen 0
      have rf1 := bz.frozen 1
      have rf2 := bz.frozen 2
      have rf3 := bz.frozen 3
      have rlt := bz.lt
      refine HP.call ?_
      refine CallStep.mk (by rfl) (fun K hK => ?_)
      go_simp
      refine hK.out _ _ (by exact ((((bL.far (p := ⟨gz, 0, none⟩) (by simp; omega) (.int .i64 q0)).far (p := ⟨gz, 1, none⟩) (by simp; omega) (.int .i64 q1)).far (p := ⟨gz, 2, none⟩) (by simp; omega) (.int .i64 q2)).far (p := ⟨gz, 3, none⟩) (by simp; omega) (.slice A9 qs.length c9)).d4) ?_
      clear hK K
      try simp only [Act.put, List.setIfInBounds_toArray, List.set_cons_zero, List.set_cons_succ]
      clear rc0 rc1 rc2 rc3 rf0 rf1 rf2 rf3
      repeat (first | (refine HP.take (v := ?_) (by rfl) ?_ ?_; rotate_left; (· (intro w hSw; (try dsimp only at hSw); go_simp; try with_reducible rfl)); (try simp only [Act.put, List.setIfInBounds_toArray, List.set_cons_zero, List.set_cons_succ])) | (refine HP.skip (by rfl) ?_; (try simp only [Act.put, List.setIfInBounds_toArray, List.set_cons_zero, List.set_cons_succ])))
      refine HP.done ?_
      have rq := put4_box bz (.int .i64 q0) (.int .i64 q1) (.int .i64 q2) (.slice A9 qs.length c9)
      have hnf := put4_nx (g := gz) hXs (by omega) (.int .i64 q0) (.int .i64 q1) (.int .i64 q2) (.slice A9 qs.length c9)
      have hSf := hS.put4L bz (by decide) (.int .i64 q0) (.int .i64 q1) (.int .i64 q2) (.slice A9 qs.length c9)
      unfold put4 at rq hnf hSf
      generalize ((((v3.setCell ⟨gz, 0, none⟩ (.int .i64 q0)).setCell ⟨gz, 1, none⟩ (.int .i64 q1)).setCell ⟨gz, 2, none⟩ (.int .i64 q2)).setCell ⟨gz, 3, none⟩ (.slice A9 qs.length c9)) = Wf at *
      exact key gz A9 c9 Wf Ai ci ⟨rq, hSf, by omega, hnf⟩
  intro gH A15 c15 W15 Ai15 ci15 ⟨bH, hS15, hgH, hxr15⟩
  have zb15 := bH.lt
  have zhxr15 := hxr15.size; replace bL := bL.nx hxr15; replace hS5 := hS5.nx hxr15; replace bW := bW.nx hxr15; replace bG := bG.nx hxr15; replace hS8b := hS8b.nx hxr15; replace hX := hX.trans hxr15
  replace hS15 := hS15.sr
  clear hxr15
  obtain ⟨l0, l1, l2, l3⟩ := bW.d4
  obtain ⟨m0, m1, m2, m3⟩ := bH.d4
  go_wp2_with fail
  refine (eqSeg_c q0 q1 q2 A15 A5 c15 c5 _ qs _ hS15.sl.row hS5.sl.row (Nat.le_refl _) hy).mono ?_
  rintro e wg ⟨rfl, hxg⟩
  have zhxg := hxg.size; replace bL := bL.nx hxg; replace hS5 := hS5.nx hxg; replace bW := bW.nx hxg; replace bG := bG.nx hxg; replace hS8b := hS8b.nx hxg; replace hS15 := hS15.nx hxg; replace bH := bH.nx hxg; replace hX := hX.trans hxg
  clear l0 l1 l2 l3 m0 m1 m2 m3
  obtain ⟨m0, m1, m2, m3⟩ := bG.d4
  go_wp2_with fail
  refine (heldSeg_c q0 q1 q2 A8 qs.length c8 _ _ hS8b.sl.row (Nat.le_refl _) hy).mono ?_
  rintro e wi ⟨rfl, hxi⟩
  rw [Hk3.out]
  have zhxi := hxi.size; replace bL := bL.nx hxi; replace hS5 := hS5.nx hxi; replace bW := bW.nx hxi; replace bG := bG.nx hxi; replace hS8b := hS8b.nx hxi; replace hS15 := hS15.nx hxi; replace bH := bH.nx hxi; replace hX := hX.trans hxi
  go_wp2
  go_ret
  exact ⟨rfl, hX⟩
end Go.Proofs.Ytjefjngheolmkaa
/- Numbers' digits: what they are, and the contract of the model's l00Digits. Conditions: the number is from 0 to 999999. -/
namespace Go.Proofs.Ytjefjngheolmkaa
set_option linter.unusedVariables false
set_option maxRecDepth 100000
open Go.RowKit

/-- The digits of a number. -/
def digs (n : Nat) : List UInt8 := if n < 10 then [UInt8.ofNat (48 + n)] else digs (n / 10) ++ [UInt8.ofNat (48 + n % 10)]
/-- .. just so many. -/
def pad : Nat → Nat → List UInt8
  | 0, _ => []
  | k + 1, n => pad k (n / 10) ++ [UInt8.ofNat (48 + n % 10)]
theorem pad_len (k n : Nat) : (pad k n).length = k := by
  induction k generalizing n with
  | zero => rfl
  | succ k ih => simp [pad, ih]
theorem pad_zero (k : Nat) : pad k 0 = List.replicate k 48 := by
  induction k with
  | zero => rfl
  | succ k ih =>
    show pad k 0 ++ [48] = _
    rw [ih, List.replicate_succ']
theorem digs_lt {n : Nat} (h : n < 10) : digs n = [UInt8.ofNat (48 + n)] := by rw [digs, if_pos h]
theorem digs_ge {n : Nat} (h : ¬ n < 10) : digs n = digs (n / 10) ++ [UInt8.ofNat (48 + n % 10)] := by rw [digs, if_neg h]
theorem digs_pad (k : Nat) : ∀ n, n < 10 ^ (k + 1) → (digs n).length ≤ k + 1 ∧ List.replicate (k + 1 - (digs n).length) 48 ++ digs n = pad (k + 1) n := by
  induction k with
  | zero =>
    intro n h
    have h' : n < 10 := by simpa using h
    rw [digs_lt h']
    refine ⟨by simp, ?_⟩
    show _ = [] ++ [UInt8.ofNat (48 + n % 10)]
    rw [Nat.mod_eq_of_lt h']; simp
  | succ k ih =>
    intro n h
    by_cases h' : n < 10
    · rw [digs_lt h']
      refine ⟨by simp, ?_⟩
      show _ = pad (k + 1) (n / 10) ++ [UInt8.ofNat (48 + n % 10)]
      rw [Nat.mod_eq_of_lt h', Nat.div_eq_of_lt h', pad_zero]; simp
    · have h2 : n / 10 < 10 ^ (k + 1) := by
        rw [Nat.pow_succ] at h
        omega
      obtain ⟨hl, he⟩ := ih (n / 10) h2
      rw [digs_ge h']
      refine ⟨by simp; omega, ?_⟩
      show _ = pad (k + 1) (n / 10) ++ [UInt8.ofNat (48 + n % 10)]
      rw [← he, ← List.append_assoc]
      congr 2
      simp
theorem digs_len {n : Nat} (h : n ≤ 999999) : 1 ≤ (digs n).length ∧ (digs n).length ≤ 6 := by
  refine ⟨?_, (digs_pad 5 n (by omega)).1⟩
  by_cases h' : n < 10
  · rw [digs_lt h']; simp
  · rw [digs_ge h']; simp

theorem cv_one (y : Int) (hy : 0 ≤ y) (hy2 : y < 256) (W : World) (b : Nat) (h : W.cell? ⟨b, 0, none⟩ = some (.int .u8 y)) :
    (convert 59 9 (.slice (some ⟨b, 0, none⟩) 1 1)).run Try.prog W = .ok (.string ⟨#[UInt8.ofNat y.toNat]⟩) W := by
  have := run_convert_bytes_back (P := Try.prog) W 59 9 5 ⟨b, 0, none⟩ 1 [UInt8.ofNat y.toNat] Try.underlying59 Try.underlying5 Try.underlying9 (fun j hj => by
    obtain rfl : j = 0 := by simpa using hj
    have e : ((UInt8.ofNat y.toNat).toNat : Int) = y := by
      rw [UInt8.toNat_ofNat']
      omega
    simp only [List.getElem_cons_zero, e]
    simpa [Addr.add] using h)
  simpa using this
theorem Nx.cells {a w : World} (h : Nx a w) : ∀ b o, b < a.heap.size → w.cell? ⟨b, o, none⟩ = a.cell? ⟨b, o, none⟩ := fun b o hb => h.cell (p := ⟨b, o, none⟩) hb
theorem ret_str {a b : ByteArray} (h : a = b) : Ending.returned (.string a) = .returned (.string b) := by rw [h]

set_option maxRecDepth 100000 in
set_option maxHeartbeats 1000000 in
theorem l00Digits_c : ∀ (n : Nat) (w : World), n ≤ 999999 → Calls Try.prog 124 #[.int .i64 n] w fun e w' => e = .returned (.string ⟨(digs n).toArray⟩) ∧ Nx w w' := by
  intro n
  induction n using Nat.strongRecOn with
  | ind n ih =>
    intro w hn
    by_cases h' : n < 10
    · have hd : decide ((n : Int) < 10) = true := by simp; omega
      have hz : ((n : Int) == -9223372036854775808) = false := beq_eq_false_iff_ne.2 (by omega)
      have HD := Lib.hid (digs_lt h')
      have hcv := cv_one (48 + n) (by omega) (by omega)
      go_enter Try.func124, Try.ntmps124
      go_wp2
      go_ret
      refine ⟨ret_str ?_, (Nx.refl _).alloc _⟩
      rw [HD.out]
    · have hd : decide ((n : Int) < 10) = false := by simp; omega
      have hz : ((n : Int) == -9223372036854775808) = false := beq_eq_false_iff_ne.2 (by omega)
      have HD := Lib.hid (digs_ge h')
      obtain ⟨q, hq⟩ : ∃ q, n / 10 = q := ⟨_, rfl⟩
      obtain ⟨d, hd'⟩ : ∃ d, n % 10 = d := ⟨_, rfl⟩
      rw [hq, hd'] at HD
      have hd10 : d < 10 := by omega
      have ihq := ih q (by omega)
      have hq6 : q ≤ 999999 := by omega
      obtain ⟨hl1, hl2⟩ := digs_len hq6
      have hcv := cv_one (48 + d) (by omega) (by omega)
      have e1 : IntKind.i64.wrap ((n : Int) / 10) = (q : Int) := by
        rw [show (n : Int) / 10 = (q : Int) by omega]; exact IntWalk.i64_in _ (by omega)
      have e3 : (n : Int).tmod 10 = (d : Int) := by rw [Int.tmod_eq_emod_of_nonneg (by omega)]; omega
      have e4 : IntKind.i64.wrap (48 + (d : Int)) = 48 + d := IntWalk.i64_in _ (by omega)
      have e5 : IntKind.u8.wrap (48 + (d : Int)) = 48 + d := IntWalk.u8_in _ (by omega)
      clear hq hd' ih
      go_enter Try.func124, Try.ntmps124
      go_wp2_with fail
      go_region_with (go_at_call 124; refine (ihq _ hq6).mono ?_; rintro e w1 ⟨rfl, hnx1⟩; have hcl := hnx1.cells)
      all_goals
        clear e1 e3 e4 e5 hcv ihq hcl
        go_wp2
        go_ret
        refine ⟨ret_str ?_, ?_⟩
        · rw [HD.out, ByteArray.mk_append_mk]; simp
        · first
            | exact (Nx.drew_r hnx1).alloc _
            | exact ((Nx.refl w).alloc _).drew.trans hnx1
            | exact (((Nx.refl w).alloc _).drew.trans hnx1).drew
end Go.Proofs.Ytjefjngheolmkaa
/- Contracts of SumOf, as the model and as the program have it: both answer the same number of every text. Conditions: the text is of at most maxLen bytes (what the model lets a text have). -/
namespace Go.Proofs.Ytjefjngheolmkaa
set_option linter.unusedVariables false
set_option maxRecDepth 100000
open Go.RowKit

def sumL (l : List UInt8) : Int := l.foldl (fun n c => (n * 31 + (c.toNat : Int)) % 997) 7
theorem sumL_snoc (l : List UInt8) (c : UInt8) : sumL (l ++ [c]) = (sumL l * 31 + (c.toNat : Int)) % 997 := by
  unfold sumL; rw [List.foldl_append]; rfl
theorem sumL_bd (l : List UInt8) : 0 ≤ sumL l ∧ sumL l ≤ 996 := by
  rcases List.eq_nil_or_concat l with rfl | ⟨l', c, rfl⟩
  · exact ⟨by decide, by decide⟩
  · rw [List.concat_eq_append, sumL_snoc]; omega
/-- A text's sum. -/
def sumS (s : ByteArray) : Int := sumL s.data.toList
def sumOfS (s : ByteArray) : Int := if s.size ≤ 65536 then sumS s else 0
theorem sumOfS_yes {s : ByteArray} (h : s.size ≤ 65536) : sumS s = sumOfS s := by unfold sumOfS; rw [if_pos h]
theorem sumOfS_no {s : ByteArray} (h : ¬ s.size ≤ 65536) : 0 = sumOfS s := by unfold sumOfS; rw [if_neg h]
theorem take_snoc (s : ByteArray) (k : Nat) (h : k < s.size) : s.data.toList.take (k + 1) = s.data.toList.take k ++ [s[k]] := by
  rw [List.take_succ_eq_append_getElem (by simpa using h)]; rfl
def sumTo (s : ByteArray) (k : Nat) : Int := sumL (s.data.toList.take k)
theorem sumTo_bd (s : ByteArray) (k : Nat) : 0 ≤ sumTo s k ∧ sumTo s k ≤ 996 := sumL_bd _
theorem sumTo_zero (s : ByteArray) : sumTo s 0 = 7 := rfl
theorem sumTo_succ (s : ByteArray) (k : Nat) (h : k < s.size) : sumTo s (k + 1) = (sumTo s k * 31 + (s[k].toNat : Int)) % 997 := by
  unfold sumTo; rw [take_snoc s k h, sumL_snoc]
theorem sumTo_all (s : ByteArray) : sumTo s s.size = sumS s := by
  unfold sumTo sumS; rw [List.take_of_length_le (by simp)]

set_option maxHeartbeats 400000 in
theorem l02Sum_c (s : ByteArray) (w : World) (hs : s.size ≤ maxLen) : Calls Try.prog 116 #[.string s] w fun e w' => e = .returned (.int .i64 (sumS s)) ∧ w = w' := by
  unfold maxLen at hs
  go_enter Try.func116, Try.ntmps116
  go_wp2
  go_loop [3, 4] (fun n i => ∃ k : Nat, k ≤ s.size ∧ i = .int .i64 k ∧ n = .int .i64 (sumTo s k)) (fun _ i => s.size - (intOf i).toNat)
  case atStart => exact ⟨0, Nat.zero_le _, rfl, rfl⟩
  case round =>
    obtain ⟨k, hk, rfl, rfl⟩ := hrel
    obtain ⟨h1, h2⟩ := sumTo_bd s k
    by_cases hlt : k < s.size
    · have HS := Lib.hid (sumTo_succ s k hlt)
      have hc1 : (s[k].toNat : Int) ≤ 255 := by have := s[k].toNat_lt; omega
      go_wp2
      go_round
      case rel => exact ⟨k + 1, by omega, by go_num, by rw [HS.out]⟩
      case measure => simp [intOf]; omega
    · obtain rfl : k = s.size := by omega
      go_wp2
      go_ret
      exact ⟨ret_int (sumTo_all s), rfl⟩

set_option maxHeartbeats 400000 in
theorem implSumOf_c (s : ByteArray) (w : World) (hs : s.size ≤ maxLen) : Calls Try.prog 118 #[.string s] w fun e w' => e = .returned (.int .i64 (sumOfS s)) ∧ w = w' := by
  unfold maxLen at hs
  by_cases hb : s.size ≤ 65536
  case neg =>
    have hb' : decide (65536 < (s.size : Int)) = true := by simp; omega
    have HF := Lib.hid (sumOfS_no hb)
    go_enter Try.func118, Try.ntmps118
    go_wp2
    go_ret
    exact ⟨ret_int HF.out, rfl⟩
  have hb' : decide (65536 < (s.size : Int)) = false := by simp; omega
  have HF := Lib.hid (sumOfS_yes hb)
  go_enter Try.func118, Try.ntmps118
  go_wp2
  go_loop [3, 4] (fun n i => ∃ k : Nat, k ≤ s.size ∧ i = .int .i64 k ∧ n = .int .i64 (sumTo s k)) (fun _ i => s.size - (intOf i).toNat)
  case atStart => exact ⟨0, Nat.zero_le _, rfl, rfl⟩
  case round =>
    obtain ⟨k, hk, rfl, rfl⟩ := hrel
    obtain ⟨h1, h2⟩ := sumTo_bd s k
    by_cases hlt : k < s.size
    · have HS := Lib.hid (sumTo_succ s k hlt)
      have hc1 : (s[k].toNat : Int) ≤ 255 := by have := s[k].toNat_lt; omega
      go_wp2
      go_round
      case rel => exact ⟨k + 1, by omega, by go_num, by rw [HS.out, Int.mul_comm]⟩
      case measure => simp [intOf]; omega
    · obtain rfl : k = s.size := by omega
      go_wp2
      go_ret
      exact ⟨ret_int ((sumTo_all s).trans HF.out), rfl⟩
end Go.Proofs.Ytjefjngheolmkaa
