/-
  The walk of the law FnExactVaultOK.
  Conditions: what is read can be read, and holds at most 1048576 elements of a kind.
-/
import Derived.Test.YtihpadelfpogmaaVsk
import Derived.Test.YtihpadelfpogmaaVvi
import Derived.Test.YtihpadelfpogmaaVlv
import Derived.Test.YtihpadelfpogmaaVlc
import Derived.Test.YtihpadelfpogmaaPln
namespace Go.Proofs.Ytihpadelfpogmaa
set_option linter.unusedVariables false
set_option maxRecDepth 100000
open Go.RowKit

set_option maxHeartbeats 2000000 in
theorem lawVaultOK (V : Vl) (w : World) (h : Vlt w w.heap.size V) (hm : AllM V.ms) (hn : VlN V (2 ^ 63 - 1)) :
    Calls Try.prog 4 #[V.v] w fun e w' => e = .returned (.bool true) ∧ Nx w w' := by
  obtain ⟨g, b, p, t, A, c, xs, A2, c2, ms, A3, c3, gs, A4, c4, im⟩ := V
  have HTo := Lib.hid (fun (w' : World) (hx : Nx w w') (hn' : VlN ⟨g, b, p, t, A, c, xs, A2, c2, ms, A3, c3, gs, A4, c4, im⟩ 1048576) => toVault_c ⟨g, b, p, t, A, c, xs, A2, c2, ms, A3, c3, gs, A4, c4, im⟩ w.heap.size w' (h.below hx (Nat.le_refl _)) hx.size hn')
  have HSz := Lib.hid (fun (w' : World) (hx : Nx w w') => szVault_c ⟨g, b, p, t, A, c, xs, A2, c2, ms, A3, c3, gs, A4, c4, im⟩ w.heap.size 1048576 w' (h.below hx (Nat.le_refl _)) hx.size hm hn (by omega) (by omega))
  have Hcost : Hid (costV ⟨g, b, p, t, A, c, xs, A2, c2, ms, A3, c3, gs, A4, c4, im⟩ = costU xs ms + ((gs.length : Int) + (ssum gs gs.length : Int)) + im.length) := Lib.hid rfl
  have Hm := Lib.hid hm
  simp only [Vl.v, Vl.cells] at *
  have b0 := Box.new w 28 #[.int .i64 g, .int .i64 b, .int .i64 p, .int .i64 t, .slice A xs.length c, .slice A2 ms.length c2, .slice A3 gs.length c3, .slice A4 im.length c4]
  have hx0 := (Nx.refl w).alloc (.cells #[.int .i64 g, .int .i64 b, .int .i64 p, .int .i64 t, .slice A xs.length c, .slice A2 ms.length c2, .slice A3 gs.length c3, .slice A4 im.length c4] 28)
  obtain ⟨C, HC⟩ : ∃ C, Hid (costV ⟨g, b, p, t, A, c, xs, A2, c2, ms, A3, c3, gs, A4, c4, im⟩ = C) := ⟨_, rfl⟩
  rw [HC.out] at HSz Hcost
  clear h hn hm
  go_enter Try.func4, Try.ntmps4
  go_wp2_with fail
  generalize w.alloc (.cells #[.int .i64 g, .int .i64 b, .int .i64 p, .int .i64 t, .slice A xs.length c, .slice A2 ms.length c2, .slice A3 gs.length c3, .slice A4 im.length c4] 28) = W at *
  refine (HSz.out W hx0).mono ?_
  rintro e w1 ⟨rfl, hk⟩
  have hx1 := hx0.trans hk
  have b1 := b0.nx hk
  clear b0 hx0 hk HSz
  by_cases hle : C ≤ 1048576
  case neg =>
    rw [← szR_no (by omega)]
    go_wp2
    go_ret
    exact ⟨rfl, hx1⟩
  rw [← szR_yes hle]
  have hd : decide (1048576 - C < 0) = false := by simp; omega
  have HN : Hid (VlN ⟨g, b, p, t, A, c, xs, A2, c2, ms, A3, c3, gs, A4, c4, im⟩ 1048576) := Lib.hid (by
    have h1 := Hcost.out
    unfold costU at h1
    have hs := Int.natCast_nonneg (ssum gs gs.length)
    exact ⟨show xs.length ≤ 1048576 by omega, show ms.length ≤ 1048576 by omega, show gs.length ≤ 1048576 by omega, fun k hk => show (gs.getD k sgZ).cs.length ≤ 1048576 by have := ssum_one (show k < gs.length from hk); omega, show im.length ≤ 1048576 by omega⟩)
  replace HTo := Lib.hid (fun (w' : World) (hx : Nx w w') => HTo.out w' hx HN.out)
  clear hle Hcost HC
  obtain ⟨y0, y1, y2, y3, y4, y5, y6, y7⟩ := b1.e8
  go_wp2_with fail
  clear y0 y1 y2 y3 y4 y5 y6 y7 hd
  refine (HTo.out _ hx1).mono ?_
  rintro e w2 ⟨V5, rfl, hs5, ho5, hk⟩
  obtain ⟨g5, b5, p5, t5, A5, c5, xs5, A25, c25, ms5, A35, c35, gs5, A45, c45, im5⟩ := V5
  obtain ⟨e1, e2, e3, e4, e5, e6, e7, e8⟩ := hs5
  simp only [Vl.v, Vl.cells] at *
  replace e1 := e1.symm
  replace e2 := e2.symm
  replace e3 := e3.symm
  replace e4 := e4.symm
  replace e5 := e5.symm
  replace e6 := e6.symm
  replace e8 := e8.symm
  subst e1 e2 e3 e4 e5 e6 e8
  have hS5 : VlS ⟨g, b, p, t, A, c, xs, A2, c2, ms, A3, c3, gs, A4, c4, im⟩ ⟨g, b, p, t, A5, c5, xs, A25, c25, ms, A35, c35, gs5, A45, c45, im⟩ := ⟨rfl, rfl, rfl, rfl, rfl, rfl, e7, rfl⟩
  have b2 := b1.nx hk
  have hx2 := hx1.trans hk
  clear b1 hx1 hk e7
  go_wp2_with fail
  refine (specVaultOK_c ⟨g, b, p, t, A5, c5, xs, A25, c25, ms, A35, c35, gs5, A45, c45, im⟩ w2.heap.size w2 ho5.vlt (Nat.le_refl _) (hS5.n HN.out) ho5.cap Hm.out).mono ?_
  rintro e w3 ⟨rfl, hk⟩
  have b3 := b2.nx hk
  have hx3 := hx2.trans hk
  have HOK := Lib.hid (hS5.ok)
  clear b2 hx2 hk ho5 hS5
  rw [← HOK.out]
  obtain ⟨y0, y1, y2, y3, y4, y5, y6, y7⟩ := b3.e8
  go_wp2_with fail
  clear y0 y1 y2 y3 y4 y5 y6 y7 HOK
  refine (HTo.out _ hx3).mono ?_
  rintro e w4 ⟨V6, rfl, hs6, ho6, hk⟩
  obtain ⟨g6, b6, p6, t6, A6, c6, xs6, A26, c26, ms6, A36, c36, gs6, A46, c46, im6⟩ := V6
  obtain ⟨e1, e2, e3, e4, e5, e6, e7, e8⟩ := hs6
  simp only [Vl.v, Vl.cells] at *
  replace e1 := e1.symm
  replace e2 := e2.symm
  replace e3 := e3.symm
  replace e4 := e4.symm
  replace e5 := e5.symm
  replace e6 := e6.symm
  replace e8 := e8.symm
  subst e1 e2 e3 e4 e5 e6 e8
  have hS6 : VlS ⟨g, b, p, t, A, c, xs, A2, c2, ms, A3, c3, gs, A4, c4, im⟩ ⟨g, b, p, t, A6, c6, xs, A26, c26, ms, A36, c36, gs6, A46, c46, im⟩ := ⟨rfl, rfl, rfl, rfl, rfl, rfl, e7, rfl⟩
  have b4 := b3.nx hk
  have hx4 := hx3.trans hk
  clear b3 hx3 hk e7
  have bx := Box.new w4 36 #[.int .i64 g, .int .i64 b, .int .i64 p, .int .i64 t, .slice A6 xs.length c6, .slice A26 ms.length c26, .slice A36 gs6.length c36, .slice A46 im.length c46]
  have hka := (Nx.refl w4).alloc (.cells #[.int .i64 g, .int .i64 b, .int .i64 p, .int .i64 t, .slice A6 xs.length c6, .slice A26 ms.length c26, .slice A36 gs6.length c36, .slice A46 im.length c46] 36)
  have b5 := b4.nx hka
  have hx5 := hx4.trans hka
  have ho6a := ho6.nx hka
  obtain ⟨y0, y1, y2, y3, y4, y5, y6, y7⟩ := bx.e8
  go_wp2_with fail
  clear y0 y1 y2 y3 y4 y5 y6 y7 b4 hx4 ho6
  generalize w4.alloc (.cells #[.int .i64 g, .int .i64 b, .int .i64 p, .int .i64 t, .slice A6 xs.length c6, .slice A26 ms.length c26, .slice A36 gs6.length c36, .slice A46 im.length c46] 36) = wa at *
  generalize w4.heap.size = gX at *
  refine (implVaultOK_c ⟨g, b, p, t, A6, c6, xs, A26, c26, ms, A36, c36, gs6, A46, c46, im⟩ wa.heap.size wa ho6a.vlt (Nat.le_refl _) (hS6.n HN.out) ho6a.cap ho6a.cap3 Hm.out).mono ?_
  rintro e w5 ⟨rfl, hk⟩
  have bx5 := bx.nx hk
  have b6 := b5.nx hk
  have hx6 := hx5.trans hk
  have ho7 := ho6a.nx hk
  have HOK := Lib.hid (hS6.ok)
  clear bx hka b5 hx5 hk ho6a
  rw [← HOK.out]
  obtain ⟨v, Hv⟩ : ∃ v, Hid (Vl.ok ⟨g, b, p, t, A, c, xs, A2, c2, ms, A3, c3, gs, A4, c4, im⟩ = v) := ⟨_, rfl⟩
  rw [Hv.out]
  have hvv : (v != v) = false := by simp
  go_wp2_with fail
  refine wp_region_plan (.t 0 (.t 1 (.c 2 (.c 3 (.t 4 .e))))) (fun w' => (w'.cell? ⟨gX, 0, none⟩ = some (.int .i64 g) ∧ w'.cell? ⟨gX, 1, none⟩ = some (.int .i64 b) ∧ w'.cell? ⟨gX, 2, none⟩ = some (.int .i64 p) ∧ w'.cell? ⟨gX, 3, none⟩ = some (.int .i64 t) ∧ w'.cell? ⟨gX, 4, none⟩ = some (.slice A6 xs.length c6) ∧ w'.cell? ⟨gX, 5, none⟩ = some (.slice A26 ms.length c26) ∧ w'.cell? ⟨gX, 6, none⟩ = some (.slice A36 gs6.length c36) ∧ w'.cell? ⟨gX, 7, none⟩ = some (.slice A46 im.length c46)) ∧ w'.cell? ⟨w.heap.size, 0, none⟩ = some (.int .i64 g) ∧ w'.cell? ⟨w.heap.size, 1, none⟩ = some (.int .i64 b) ∧ w'.cell? ⟨w.heap.size, 2, none⟩ = some (.int .i64 p) ∧ w'.cell? ⟨w.heap.size, 3, none⟩ = some (.int .i64 t) ∧ w'.cell? ⟨w.heap.size, 4, none⟩ = some (.slice A xs.length c) ∧ w'.cell? ⟨w.heap.size, 5, none⟩ = some (.slice A2 ms.length c2) ∧ w'.cell? ⟨w.heap.size, 6, none⟩ = some (.slice A3 gs.length c3) ∧ w'.cell? ⟨w.heap.size, 7, none⟩ = some (.slice A4 im.length c4)) (by kernel_rfl) (by kernel_rfl) rfl (by kernel_rfl) (fun _ _ d _ _ h => by cases d <;> exact h) (by exact ⟨(bx5.nx (Nx.refl _).drew).e8, (b6.nx (Nx.refl _).drew).e8⟩) ?_
  simp only [psOf, List.getD_cons_zero, List.getD_cons_succ]
  repeat (first | (refine HP.take (v := ?_) (by rfl) ?_ ?_; rotate_left; (· (intro w hSw; (try dsimp only at hSw); go_simp; try with_reducible rfl)); (try simp only [Act.put, List.setIfInBounds_toArray, List.set_cons_zero, List.set_cons_succ])) | (refine HP.skip (by rfl) ?_; (try simp only [Act.put, List.setIfInBounds_toArray, List.set_cons_zero, List.set_cons_succ])))
  refine HP.call ?_
  refine CallStep.mk (by rfl) (fun K hK => ?_)
  go_simp
  refine (HTo.out _ hx6.drew).mono ?_; rintro e w8 ⟨V9, rfl, hs9, ho9, hk⟩; obtain ⟨g9, b9, p9, t9, A9, c9, xs9, A29, c29, ms9, A39, c39, gs9, A49, c49, im9⟩ := V9; obtain ⟨e1, e2, e3, e4, e5, e6, e7, e8⟩ := hs9; simp only [Vl.v, Vl.cells] at *; replace e1 := e1.symm; replace e2 := e2.symm; replace e3 := e3.symm; replace e4 := e4.symm; replace e5 := e5.symm; replace e6 := e6.symm; replace e8 := e8.symm; subst e1 e2 e3 e4 e5 e6 e8; have bx8 := (bx5.nx (Nx.refl _).drew).nx hk; have bl8 := (b6.nx (Nx.refl _).drew).nx hk; have hx8 := hx6.drew.trans hk; have ho8 := (ho7.nx (Nx.refl _).drew).nx hk; clear hk
  go_wp2_with fail
  refine hK.out _ _ (by exact ⟨bx8.e8, bl8.e8⟩) ?_
  clear hK K
  try simp only [Act.put, List.setIfInBounds_toArray, List.set_cons_zero, List.set_cons_succ]
  refine HP.call ?_
  refine CallStep.mk (by rfl) (fun K hK => ?_)
  go_simp
  refine (eqVault_c ⟨g, b, p, t, A6, c6, xs, A26, c26, ms, A36, c36, gs6, A46, c46, im⟩ ⟨g, b, p, t, A9, c9, xs, A29, c29, ms, A39, c39, gs9, A49, c49, im⟩ w8.heap.size w8 (ho8.vlt) (ho9.vlt) (hS6.symm.trans ⟨rfl, rfl, rfl, rfl, rfl, rfl, e7, rfl⟩) (Nat.le_refl _) (hS6.n HN.out)).mono ?_; rintro e w9 ⟨rfl, hk⟩; have bx9 := bx8.nx hk; have bl9 := bl8.nx hk; have hx9 := hx8.trans hk; have ho9 := ho8.nx hk; clear hk
  go_wp2_with fail
  refine hK.out _ _ (by exact ⟨bx9.e8, bl9.e8⟩) ?_
  clear hK K
  try simp only [Act.put, List.setIfInBounds_toArray, List.set_cons_zero, List.set_cons_succ]
  repeat (first | (refine HP.take (v := ?_) (by rfl) ?_ ?_; rotate_left; (· (intro w hSw; (try dsimp only at hSw); go_simp; try with_reducible rfl)); (try simp only [Act.put, List.setIfInBounds_toArray, List.set_cons_zero, List.set_cons_succ])) | (refine HP.skip (by rfl) ?_; (try simp only [Act.put, List.setIfInBounds_toArray, List.set_cons_zero, List.set_cons_succ])))
  refine HP.done ?_
  go_wp2
  go_ret
  exact ⟨rfl, hx9⟩
end Go.Proofs.Ytihpadelfpogmaa
