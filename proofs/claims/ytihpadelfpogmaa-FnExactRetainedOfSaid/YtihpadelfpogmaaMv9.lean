/-
  Texts of the proof, put together in their order: Ltp, Vra, Base, Mk, Mku, Mkv, Mvt, Lre, Vct, Vca, Vcc, Vci, Lca.
  Conditions: those of each.
-/
import Derived.Test.YtihpadelfpogmaaMv8
import Derived.StillTailTactics
import Derived.Deep.RegionHeld3
import Derived.Laws.BytesArg
import Derived.Outline
/- The walk of the law FnExactTipOf. Conditions: what is read can be read, and holds at most 1048576 elements of a kind. -/
namespace Go.Proofs.Ytihpadelfpogmaa
set_option linter.unusedVariables false
set_option maxRecDepth 100000
open Go.RowKit
theorem tipR_s {V V' : Vl} (h : VlS V V') : tipR V' = tipR V := by unfold tipR; rw [← h.ok, h.b, tipV_v h.gs]
set_option maxHeartbeats 2000000 in
theorem lawTipOf (V : Vl) (w : World) (h : Vlt w w.heap.size V) (hm : AllM V.ms) (hn : VlN V (2 ^ 63 - 1)) :
    Calls Try.prog 5 #[V.v] w fun e w' => e = .returned (.bool true) ∧ Nx w w' := by
  obtain ⟨g, b, p, t, A, c, xs, A2, c2, ms, A3, c3, gs, A4, c4, im⟩ := V
  have HTo := Lib.hid (fun (w' : World) (hx : Nx w w') (hn' : VlN ⟨g, b, p, t, A, c, xs, A2, c2, ms, A3, c3, gs, A4, c4, im⟩ 1048576) => toVault_c ⟨g, b, p, t, A, c, xs, A2, c2, ms, A3, c3, gs, A4, c4, im⟩ w.heap.size w' (h.below hx (Nat.le_refl _)) hx.size hn')
  have HSz := Lib.hid (fun (w' : World) (hx : Nx w w') => szVault_c ⟨g, b, p, t, A, c, xs, A2, c2, ms, A3, c3, gs, A4, c4, im⟩ w.heap.size 1048576 w' (h.below hx (Nat.le_refl _)) hx.size hm hn (by omega) (by omega))
  have Hcost : Hid (costV ⟨g, b, p, t, A, c, xs, A2, c2, ms, A3, c3, gs, A4, c4, im⟩ = costU xs ms + ((gs.length : Int) + (ssum gs gs.length : Int)) + im.length) := Lib.hid rfl
  have Hm := Lib.hid hm
  simp only [Vl.v, Vl.cells] at *
  have b0 := Box.new w 28 #[.int .i64 g, .int .i64 b, .int .i64 p, .int .i64 t, .slice A xs.length c, .slice A2 ms.length c2, .slice A3 gs.length c3, .slice A4 im.length c4]
  have hx0 := (Nx.refl w).alloc (.cells #[.int .i64 g, .int .i64 b, .int .i64 p, .int .i64 t, .slice A xs.length c, .slice A2 ms.length c2, .slice A3 gs.length c3, .slice A4 im.length c4] 28)
  obtain ⟨C, HC⟩ : ∃ C, Hid (costV ⟨g, b, p, t, A, c, xs, A2, c2, ms, A3, c3, gs, A4, c4, im⟩ = C) := ⟨_, rfl⟩
  rw [HC.out] at HSz Hcost
  clear h hn hm
  go_enter Try.func5, Try.ntmps5
  go_wp2_with fail
  generalize w.alloc (.cells #[.int .i64 g, .int .i64 b, .int .i64 p, .int .i64 t, .slice A xs.length c, .slice A2 ms.length c2, .slice A3 gs.length c3, .slice A4 im.length c4] 28) = W at *
  refine (HSz.out W hx0).mono ?_
  rintro e w1 ⟨rfl, hk⟩
  have hx1 := hx0.trans hk
  have b1 := b0.nx hk
  clear b0 hx0 hk HSz
  by_cases hle : C ≤ 1048576
  case neg =>
    rw [← szR_no (by omega)]
    go_wp2
    go_ret
    exact ⟨rfl, hx1⟩
  rw [← szR_yes hle]
  have hd : decide (1048576 - C < 0) = false := by simp; omega
  have HN : Hid (VlN ⟨g, b, p, t, A, c, xs, A2, c2, ms, A3, c3, gs, A4, c4, im⟩ 1048576) := Lib.hid (by
    have h1 := Hcost.out
    unfold costU at h1
    have hs := Int.natCast_nonneg (ssum gs gs.length)
    exact ⟨show xs.length ≤ 1048576 by omega, show ms.length ≤ 1048576 by omega, show gs.length ≤ 1048576 by omega, fun k hk => show (gs.getD k sgZ).cs.length ≤ 1048576 by have := ssum_one (show k < gs.length from hk); omega, show im.length ≤ 1048576 by omega⟩)
  replace HTo := Lib.hid (fun (w' : World) (hx : Nx w w') => HTo.out w' hx HN.out)
  clear hle Hcost HC
  obtain ⟨y0, y1, y2, y3, y4, y5, y6, y7⟩ := b1.e8
  go_wp2_with fail
  clear y0 y1 y2 y3 y4 y5 y6 y7 hd
  refine (HTo.out _ hx1).mono ?_
  rintro e w2 ⟨V5, rfl, hs5, ho5, hk⟩
  obtain ⟨g5, b5, p5, t5, A5, c5, xs5, A25, c25, ms5, A35, c35, gs5, A45, c45, im5⟩ := V5
  obtain ⟨e1, e2, e3, e4, e5, e6, e7, e8⟩ := hs5
  simp only [Vl.v, Vl.cells] at *
  replace e1 := e1.symm
  replace e2 := e2.symm
  replace e3 := e3.symm
  replace e4 := e4.symm
  replace e5 := e5.symm
  replace e6 := e6.symm
  replace e8 := e8.symm
  subst e1 e2 e3 e4 e5 e6 e8
  have hS5 : VlS ⟨g, b, p, t, A, c, xs, A2, c2, ms, A3, c3, gs, A4, c4, im⟩ ⟨g, b, p, t, A5, c5, xs, A25, c25, ms, A35, c35, gs5, A45, c45, im⟩ := ⟨rfl, rfl, rfl, rfl, rfl, rfl, e7, rfl⟩
  have b2 := b1.nx hk
  have hx2 := hx1.trans hk
  clear b1 hx1 hk e7
  have HT := Lib.hid (tipR_s hS5)
  obtain ⟨⟨r1, r2⟩, Hr⟩ : ∃ r, Hid (tipR ⟨g, b, p, t, A, c, xs, A2, c2, ms, A3, c3, gs, A4, c4, im⟩ = r) := ⟨_, rfl⟩
  have hsp := specTipOf_c ⟨g, b, p, t, A5, c5, xs, A25, c25, ms, A35, c35, gs5, A45, c45, im⟩ w2.heap.size w2 ho5.vlt (Nat.le_refl _) (hS5.n HN.out) ho5.cap Hm.out
  rw [HT.out, Hr.out] at hsp
  clear HT
  have HSP := Lib.hid hsp
  clear hsp
  go_wp2_with fail
  refine HSP.out.mono ?_
  rintro e w3 ⟨rfl, hk⟩
  have b3 := b2.nx hk
  have hx3 := hx2.trans hk
  clear b2 hx2 hk ho5 hS5 HSP
  obtain ⟨y0, y1, y2, y3, y4, y5, y6, y7⟩ := b3.e8
  go_wp2_with fail
  clear y0 y1 y2 y3 y4 y5 y6 y7
  refine (HTo.out _ hx3).mono ?_
  rintro e w4 ⟨V6, rfl, hs6, ho6, hk⟩
  obtain ⟨g6, b6, p6, t6, A6, c6, xs6, A26, c26, ms6, A36, c36, gs6, A46, c46, im6⟩ := V6
  obtain ⟨e1, e2, e3, e4, e5, e6, e7, e8⟩ := hs6
  simp only [Vl.v, Vl.cells] at *
  replace e1 := e1.symm
  replace e2 := e2.symm
  replace e3 := e3.symm
  replace e4 := e4.symm
  replace e5 := e5.symm
  replace e6 := e6.symm
  replace e8 := e8.symm
  subst e1 e2 e3 e4 e5 e6 e8
  have hS6 : VlS ⟨g, b, p, t, A, c, xs, A2, c2, ms, A3, c3, gs, A4, c4, im⟩ ⟨g, b, p, t, A6, c6, xs, A26, c26, ms, A36, c36, gs6, A46, c46, im⟩ := ⟨rfl, rfl, rfl, rfl, rfl, rfl, e7, rfl⟩
  have b4 := b3.nx hk
  have hx4 := hx3.trans hk
  clear b3 hx3 hk e7
  have bx := Box.new w4 36 #[.int .i64 g, .int .i64 b, .int .i64 p, .int .i64 t, .slice A6 xs.length c6, .slice A26 ms.length c26, .slice A36 gs6.length c36, .slice A46 im.length c46]
  have hka := (Nx.refl w4).alloc (.cells #[.int .i64 g, .int .i64 b, .int .i64 p, .int .i64 t, .slice A6 xs.length c6, .slice A26 ms.length c26, .slice A36 gs6.length c36, .slice A46 im.length c46] 36)
  have b5 := b4.nx hka
  have hx5 := hx4.trans hka
  have ho6a := ho6.nx hka
  obtain ⟨y0, y1, y2, y3, y4, y5, y6, y7⟩ := bx.e8
  go_wp2_with fail
  clear y0 y1 y2 y3 y4 y5 y6 y7 b4 hx4 ho6
  generalize w4.alloc (.cells #[.int .i64 g, .int .i64 b, .int .i64 p, .int .i64 t, .slice A6 xs.length c6, .slice A26 ms.length c26, .slice A36 gs6.length c36, .slice A46 im.length c46] 36) = wa at *
  generalize w4.heap.size = gX at *
  have HT := Lib.hid (tipR_s hS6)
  have hip := implTipOf_c ⟨g, b, p, t, A6, c6, xs, A26, c26, ms, A36, c36, gs6, A46, c46, im⟩ wa.heap.size wa ho6a.vlt (Nat.le_refl _) (hS6.n HN.out) ho6a.cap ho6a.cap3 Hm.out
  rw [HT.out, Hr.out] at hip
  clear HT
  refine hip.mono ?_
  rintro e w5 ⟨rfl, hk⟩
  have bx5 := bx.nx hk
  have b6 := b5.nx hk
  have hx6 := hx5.trans hk
  have ho7 := ho6a.nx hk
  clear bx hka b5 hx5 hk ho6a hip
  have hr1 : (r1 != r1) = false := by simp
  have hr2 : (r2 != r2) = false := by simp
  go_wp2_with fail
  refine wp_region_plan (.t 0 (.t 1 (.c 2 (.c 3 (.t 4 .e))))) (fun w' => (w'.cell? ⟨gX, 0, none⟩ = some (.int .i64 g) ∧ w'.cell? ⟨gX, 1, none⟩ = some (.int .i64 b) ∧ w'.cell? ⟨gX, 2, none⟩ = some (.int .i64 p) ∧ w'.cell? ⟨gX, 3, none⟩ = some (.int .i64 t) ∧ w'.cell? ⟨gX, 4, none⟩ = some (.slice A6 xs.length c6) ∧ w'.cell? ⟨gX, 5, none⟩ = some (.slice A26 ms.length c26) ∧ w'.cell? ⟨gX, 6, none⟩ = some (.slice A36 gs6.length c36) ∧ w'.cell? ⟨gX, 7, none⟩ = some (.slice A46 im.length c46)) ∧ w'.cell? ⟨w.heap.size, 0, none⟩ = some (.int .i64 g) ∧ w'.cell? ⟨w.heap.size, 1, none⟩ = some (.int .i64 b) ∧ w'.cell? ⟨w.heap.size, 2, none⟩ = some (.int .i64 p) ∧ w'.cell? ⟨w.heap.size, 3, none⟩ = some (.int .i64 t) ∧ w'.cell? ⟨w.heap.size, 4, none⟩ = some (.slice A xs.length c) ∧ w'.cell? ⟨w.heap.size, 5, none⟩ = some (.slice A2 ms.length c2) ∧ w'.cell? ⟨w.heap.size, 6, none⟩ = some (.slice A3 gs.length c3) ∧ w'.cell? ⟨w.heap.size, 7, none⟩ = some (.slice A4 im.length c4)) (by kernel_rfl) (by kernel_rfl) rfl (by kernel_rfl) (fun _ _ d _ _ h => by cases d <;> exact h) (by exact ⟨(bx5.nx (Nx.refl _).drew).e8, (b6.nx (Nx.refl _).drew).e8⟩) ?_
  simp only [psOf, List.getD_cons_zero, List.getD_cons_succ]
  repeat (first | (refine HP.take (v := ?_) (by rfl) ?_ ?_; rotate_left; (· (intro w hSw; (try dsimp only at hSw); go_simp; try with_reducible rfl)); (try simp only [Act.put, List.setIfInBounds_toArray, List.set_cons_zero, List.set_cons_succ])) | (refine HP.skip (by rfl) ?_; (try simp only [Act.put, List.setIfInBounds_toArray, List.set_cons_zero, List.set_cons_succ])))
  refine HP.call ?_
  refine CallStep.mk (by rfl) (fun K hK => ?_)
  go_simp
  refine (HTo.out _ hx6.drew).mono ?_; rintro e w8 ⟨V9, rfl, hs9, ho9, hk⟩; obtain ⟨g9, b9, p9, t9, A9, c9, xs9, A29, c29, ms9, A39, c39, gs9, A49, c49, im9⟩ := V9; obtain ⟨e1, e2, e3, e4, e5, e6, e7, e8⟩ := hs9; simp only [Vl.v, Vl.cells] at *; replace e1 := e1.symm; replace e2 := e2.symm; replace e3 := e3.symm; replace e4 := e4.symm; replace e5 := e5.symm; replace e6 := e6.symm; replace e8 := e8.symm; subst e1 e2 e3 e4 e5 e6 e8; have bx8 := (bx5.nx (Nx.refl _).drew).nx hk; have bl8 := (b6.nx (Nx.refl _).drew).nx hk; have hx8 := hx6.drew.trans hk; have ho8 := (ho7.nx (Nx.refl _).drew).nx hk; clear hk
  go_wp2_with fail
  refine hK.out _ _ (by exact ⟨bx8.e8, bl8.e8⟩) ?_
  clear hK K
  try simp only [Act.put, List.setIfInBounds_toArray, List.set_cons_zero, List.set_cons_succ]
  refine HP.call ?_
  refine CallStep.mk (by rfl) (fun K hK => ?_)
  go_simp
  refine (eqVault_c ⟨g, b, p, t, A6, c6, xs, A26, c26, ms, A36, c36, gs6, A46, c46, im⟩ ⟨g, b, p, t, A9, c9, xs, A29, c29, ms, A39, c39, gs9, A49, c49, im⟩ w8.heap.size w8 (ho8.vlt) (ho9.vlt) (hS6.symm.trans ⟨rfl, rfl, rfl, rfl, rfl, rfl, e7, rfl⟩) (Nat.le_refl _) (hS6.n HN.out)).mono ?_; rintro e w9 ⟨rfl, hk⟩; have bx9 := bx8.nx hk; have bl9 := bl8.nx hk; have hx9 := hx8.trans hk; have ho9 := ho8.nx hk; clear hk
  go_wp2_with fail
  refine hK.out _ _ (by exact ⟨bx9.e8, bl9.e8⟩) ?_
  clear hK K
  try simp only [Act.put, List.setIfInBounds_toArray, List.set_cons_zero, List.set_cons_succ]
  repeat (first | (refine HP.take (v := ?_) (by rfl) ?_ ?_; rotate_left; (· (intro w hSw; (try dsimp only at hSw); go_simp; try with_reducible rfl)); (try simp only [Act.put, List.setIfInBounds_toArray, List.set_cons_zero, List.set_cons_succ])) | (refine HP.skip (by rfl) ?_; (try simp only [Act.put, List.setIfInBounds_toArray, List.set_cons_zero, List.set_cons_succ])))
  refine HP.done ?_
  go_wp2
  go_ret
  exact ⟨rfl, hx9⟩
end Go.Proofs.Ytihpadelfpogmaa
/- RetainedOf, of the model and of the program. Conditions: what is read can be read, and holds at most 1048576 elements of a kind. -/
namespace Go.Proofs.Ytihpadelfpogmaa
set_option linter.unusedVariables false
set_option maxRecDepth 100000
open Go.RowKit

def rtR (V : Vl) : List Int × Int := if V.ok then (retL V.b V.gs, 0) else ([], 1)
theorem rtR_yes {V : Vl} (h : V.ok = true) : rtR V = (retL V.b V.gs, 0) := by unfold rtR; rw [h]; rfl
theorem rtR_no {V : Vl} (h : V.ok = false) : rtR V = ([], 1) := by unfold rtR; rw [h]; rfl
def ctR (V : Vl) (x : Int) : List Int × Int := if V.ok then (if isRet V.b V.gs x then (cntV V.b V.p V.t V.gs V.im x, 0) else ([], 11)) else ([], 1)
theorem ctR_yes {V : Vl} {x : Int} (h : V.ok = true) (hr : isRet V.b V.gs x = true) : ctR V x = (cntV V.b V.p V.t V.gs V.im x, 0) := by unfold ctR; rw [h, hr]; rfl
theorem ctR_none {V : Vl} {x : Int} (h : V.ok = true) (hr : isRet V.b V.gs x = false) : ctR V x = ([], 11) := by unfold ctR; rw [h, hr]; rfl
theorem ctR_no {V : Vl} {x : Int} (h : V.ok = false) : ctR V x = ([], 1) := by unfold ctR; rw [h]; rfl

set_option maxHeartbeats 2000000 in
theorem specRetainedOf_c (V : Vl) (B : Nat) (w : World) (h : Vlt w B V) (hB : B ≤ w.heap.size) (hn : VlN V 1048576) (hc : V.xs.length ≤ V.c) (hm : AllM V.ms) :
    Calls Try.prog 23 #[V.v] w (RetIC w (rtR V).1 (rtR V).2) := by
  have hOK := specVaultOK_c V B
  have hRt := l05Retained_c V B
  cases hv : V.ok with
  | false =>
    have HT := Lib.hid (rtR_no hv)
    rw [HT.out]
    have HOK := Lib.hid (fun (w' : World) (hx : Nx w w') => hOK w' (h.below hx hB) (Nat.le_trans hB hx.size) hn hc hm)
    rw [hv] at HOK
    clear hOK h hn hc hm hv HT hRt
    obtain ⟨g, b, p, t, A, c, xs, A2, c2, ms, A3, c3, gs, A4, c4, im⟩ := V
    simp only [Vl.v, Vl.cells] at *
    have hx0 := (Nx.refl w).alloc (.cells #[.int .i64 g, .int .i64 b, .int .i64 p, .int .i64 t, .slice A xs.length c, .slice A2 ms.length c2, .slice A3 gs.length c3, .slice A4 im.length c4] 36)
    go_enter Try.func23, Try.ntmps23
    go_wp2_with fail
    generalize w.alloc (.cells #[.int .i64 g, .int .i64 b, .int .i64 p, .int .i64 t, .slice A xs.length c, .slice A2 ms.length c2, .slice A3 gs.length c3, .slice A4 im.length c4] 36) = W at *
    refine (HOK.out W hx0).mono ?_
    rintro e w1 ⟨rfl, hk⟩
    have hx := hx0.trans hk
    go_wp2
    go_ret2
    exact ⟨_, _, rfl, Sl.none_ _ _ _ _ _, hx.alloc _⟩
  | true =>
    have HY := Lib.hid (Vl.y hv)
    have HOK := Lib.hid (fun (w' : World) (hx : Nx w w') => hOK w' (h.below hx hB) (Nat.le_trans hB hx.size) hn hc hm)
    have HRt := Lib.hid (fun (w' : World) (hx : Nx w w') => hRt w' (h.below hx hB) (Nat.le_trans hB hx.size) hn)
    rw [hv] at HOK
    have HT := Lib.hid (rtR_yes hv)
    rw [HT.out]
    clear hOK h hn hc hm hv hRt
    obtain ⟨g, b, p, t, A, c, xs, A2, c2, ms, A3, c3, gs, A4, c4, im⟩ := V
    simp only [Vl.v, Vl.cells] at *
    have b0 := Box.new w 36 #[.int .i64 g, .int .i64 b, .int .i64 p, .int .i64 t, .slice A xs.length c, .slice A2 ms.length c2, .slice A3 gs.length c3, .slice A4 im.length c4]
    have hx0 := (Nx.refl w).alloc (.cells #[.int .i64 g, .int .i64 b, .int .i64 p, .int .i64 t, .slice A xs.length c, .slice A2 ms.length c2, .slice A3 gs.length c3, .slice A4 im.length c4] 36)
    go_enter Try.func23, Try.ntmps23
    go_wp2_with fail
    generalize w.alloc (.cells #[.int .i64 g, .int .i64 b, .int .i64 p, .int .i64 t, .slice A xs.length c, .slice A2 ms.length c2, .slice A3 gs.length c3, .slice A4 im.length c4] 36) = W at *
    refine (HOK.out W hx0).mono ?_
    rintro e w1 ⟨rfl, hk⟩
    have hx := hx0.trans hk
    have b1 := b0.nx hk
    clear b0 hx0 hk
    obtain ⟨y0, y1, y2, y3, y4, y5, y6, y7⟩ := b1.e8
    go_wp2_with fail
    clear y0 y1 y2 y3 y4 y5 y6 y7
    refine (HRt.out _ hx).mono ?_
    rintro e w2 ⟨A9, c9, rfl, _, hS, hk⟩
    have hs := hx.size
    go_wp2
    go_ret2
    exact ⟨A9, c9, rfl, hS.low hs, hx.trans hk⟩

set_option maxHeartbeats 2000000 in
theorem implRetainedOf_c (V : Vl) (B : Nat) (w : World) (h : Vlt w B V) (hB : B ≤ w.heap.size) (hn : VlN V 1048576) (hc : V.xs.length ≤ V.c) (hc3 : V.gs.length ≤ V.c3) (hm : AllM V.ms) :
    Calls Try.prog 24 #[V.v] w (RetIC w (rtR V).1 (rtR V).2) := by
  have hOK := vaultRight_c V B
  have hRt := retained_c V B
  have hVW := view_c V B
  cases hv : V.ok with
  | false =>
    have HT := Lib.hid (rtR_no hv)
    rw [HT.out]
    have HOK := Lib.hid (fun (w' : World) (hx : Nx w w') => hOK w' (h.below hx hB) (Nat.le_trans hB hx.size) hn hc hc3 hm)
    rw [hv] at HOK
    clear hOK h hn hc hc3 hm hv HT hRt hVW
    obtain ⟨g, b, p, t, A, c, xs, A2, c2, ms, A3, c3, gs, A4, c4, im⟩ := V
    simp only [Vl.v, Vl.cells] at *
    have hx0 := (Nx.refl w).alloc (.cells #[.int .i64 g, .int .i64 b, .int .i64 p, .int .i64 t, .slice A xs.length c, .slice A2 ms.length c2, .slice A3 gs.length c3, .slice A4 im.length c4] 36)
    go_enter Try.func24, Try.ntmps24
    go_wp2_with fail
    generalize w.alloc (.cells #[.int .i64 g, .int .i64 b, .int .i64 p, .int .i64 t, .slice A xs.length c, .slice A2 ms.length c2, .slice A3 gs.length c3, .slice A4 im.length c4] 36) = W at *
    refine (HOK.out W hx0).mono ?_
    rintro e w1 ⟨rfl, hk⟩
    have hx := hx0.trans hk
    go_wp2
    go_ret2
    exact ⟨_, _, rfl, Sl.none_ _ _ _ _ _, hx⟩
  | true =>
    have HY := Lib.hid (Vl.y hv)
    have HOK := Lib.hid (fun (w' : World) (hx : Nx w w') => hOK w' (h.below hx hB) (Nat.le_trans hB hx.size) hn hc hc3 hm)
    have HVW := Lib.hid (fun (w' : World) (hx : Nx w w') => hVW w' (h.img.below hx hB) (Nat.le_trans hB hx.size) HY.out.l8)
    have HRt := Lib.hid (fun (w' : World) (hx : Nx w w') => hRt w' (h.sgs.below hx hB) (Nat.le_trans hB hx.size) hn.gs)
    rw [hv] at HOK
    have HT := Lib.hid (rtR_yes hv)
    rw [HT.out]
    clear hOK h hn hc hc3 hm hv hRt hVW
    obtain ⟨g, b, p, t, A, c, xs, A2, c2, ms, A3, c3, gs, A4, c4, im⟩ := V
    simp only [Vl.v, Vl.cells, Vl.w, Vl.wcells] at *
    have b0 := Box.new w 36 #[.int .i64 g, .int .i64 b, .int .i64 p, .int .i64 t, .slice A xs.length c, .slice A2 ms.length c2, .slice A3 gs.length c3, .slice A4 im.length c4]
    have hx0 := (Nx.refl w).alloc (.cells #[.int .i64 g, .int .i64 b, .int .i64 p, .int .i64 t, .slice A xs.length c, .slice A2 ms.length c2, .slice A3 gs.length c3, .slice A4 im.length c4] 36)
    go_enter Try.func24, Try.ntmps24
    go_wp2_with fail
    generalize w.alloc (.cells #[.int .i64 g, .int .i64 b, .int .i64 p, .int .i64 t, .slice A xs.length c, .slice A2 ms.length c2, .slice A3 gs.length c3, .slice A4 im.length c4] 36) = W at *
    refine (HOK.out W hx0).mono ?_
    rintro e w1 ⟨rfl, hk⟩
    have hx := hx0.trans hk
    have b1 := b0.nx hk
    clear b0 hx0 hk
    obtain ⟨y0, y1, y2, y3, y4, y5, y6, y7⟩ := b1.e8
    go_wp2_with fail
    clear y0 y1 y2 y3 y4 y5 y6 y7
    refine (HVW.out _ hx).mono ?_
    rintro e w2 ⟨rfl, hk⟩
    replace hx := hx.trans hk
    go_wp2_with fail
    refine (HRt.out _ hx).mono ?_
    rintro e w3 ⟨A9, c9, rfl, _, hS, hk⟩
    have hs := hx.size
    go_wp2
    go_ret2
    exact ⟨A9, c9, rfl, hS.low hs, hx.trans hk⟩
end Go.Proofs.Ytihpadelfpogmaa
/- Words on memory for the texts of this seat: slices of texts and of writes that are read, what a size is, and how these facts go on from world to world. Conditions: none. -/
namespace Go.Proofs.Ytihpadelfpogmaa
set_option linter.unusedVariables false
set_option maxRecDepth 100000
open Go.RowKit

def Strs (w : World) (B : Nat) (A : Option Addr) (n : Nat) (ss : List ByteArray) : Prop :=
  ss.length = n ∧ Row w B A n (fun i => .string (ss.getD i ByteArray.empty))
def Wrs (w : World) (B : Nat) (A : Option Addr) (n : Nat) (ws : List (Int × ByteArray)) : Prop :=
  ws.length = n ∧ Row w B A (n * 2) (fun i => if i % 2 = 0 then .int .i64 (ws.getD (i / 2) (0, ByteArray.empty)).1 else .string (ws.getD (i / 2) (0, ByteArray.empty)).2)
theorem Strs.below {w w' : World} {B B' n : Nat} {A : Option Addr} {ss : List ByteArray} (h : Strs w B A n ss) (hb : Below B' w w') (hB : B ≤ B') : Strs w' B A n ss := ⟨h.1, h.2.below hb hB⟩
theorem Strs.more {w : World} {B B' n : Nat} {A : Option Addr} {ss : List ByteArray} (h : Strs w B A n ss) (hB : B ≤ B') : Strs w B' A n ss := ⟨h.1, h.2.more hB⟩
theorem Wrs.below {w w' : World} {B B' n : Nat} {A : Option Addr} {ws : List (Int × ByteArray)} (h : Wrs w B A n ws) (hb : Below B' w w') (hB : B ≤ B') : Wrs w' B A n ws := ⟨h.1, h.2.below hb hB⟩
theorem Wrs.more {w : World} {B B' n : Nat} {A : Option Addr} {ws : List (Int × ByteArray)} (h : Wrs w B A n ws) (hB : B ≤ B') : Wrs w B' A n ws := ⟨h.1, h.2.more hB⟩
theorem Strs.at_ {w : World} {B n k : Nat} {A : Option Addr} {ss : List ByteArray} (h : Strs w B A n ss) (hk : k < n) :
    ∃ b off, A = some ⟨b, off, none⟩ ∧ b < B ∧ w.cell? ⟨b, off + k, none⟩ = some (.string (ss.getD k ByteArray.empty)) := by
  obtain ⟨b, off, e, hb, hc⟩ := h.2 (by omega)
  exact ⟨b, off, e, hb, hc k hk⟩
theorem Wrs.at_ {w : World} {B n k : Nat} {A : Option Addr} {ws : List (Int × ByteArray)} (h : Wrs w B A n ws) (hk : k < n) :
    ∃ b off, A = some ⟨b, off, none⟩ ∧ b < B ∧ w.cell? ⟨b, off + k * 2, none⟩ = some (.int .i64 (ws.getD k (0, ByteArray.empty)).1) ∧ w.cell? ⟨b, off + k * 2 + 1, none⟩ = some (.string (ws.getD k (0, ByteArray.empty)).2) := by
  obtain ⟨b, off, e, hb, hc⟩ := h.2 (by omega)
  have h0 := hc (k * 2) (by omega)
  have h1 := hc (k * 2 + 1) (by omega)
  have e1 : (k * 2) % 2 = 0 := by omega
  have e2 : ¬ (k * 2 + 1) % 2 = 0 := by omega
  have e3 : (k * 2) / 2 = k := by omega
  have e4 : (k * 2 + 1) / 2 = k := by omega
  simp only [e1, e3, if_true] at h0
  simp only [e2, e4, if_false] at h1
  exact ⟨b, off, e, hb, h0, h1⟩

def lenS (ss : List ByteArray) : Nat := (ss.map ByteArray.size).sum
def lenW (ws : List (Int × ByteArray)) : Nat := (ws.map fun x => x.2.size).sum
def lenSTo (ss : List ByteArray) (k : Nat) : Nat := ((ss.map ByteArray.size).take k).sum
def lenWTo (ws : List (Int × ByteArray)) (k : Nat) : Nat := ((ws.map fun x => x.2.size).take k).sum
theorem lenSTo_zero (ss : List ByteArray) : lenSTo ss 0 = 0 := rfl
theorem lenWTo_zero (ws : List (Int × ByteArray)) : lenWTo ws 0 = 0 := rfl
theorem lenSTo_le (ss : List ByteArray) (k : Nat) : lenSTo ss k ≤ lenS ss := sum_take_le _ _
theorem lenWTo_le (ws : List (Int × ByteArray)) (k : Nat) : lenWTo ws k ≤ lenW ws := sum_take_le _ _
theorem lenSTo_all (ss : List ByteArray) : lenSTo ss ss.length = lenS ss := by
  unfold lenSTo lenS; rw [List.take_of_length_le (by simp)]
theorem lenWTo_all (ws : List (Int × ByteArray)) : lenWTo ws ws.length = lenW ws := by
  unfold lenWTo lenW; rw [List.take_of_length_le (by simp)]
theorem lenSTo_succ (ss : List ByteArray) (k : Nat) (h : k < ss.length) : lenSTo ss (k + 1) = lenSTo ss k + (ss.getD k ByteArray.empty).size := by
  unfold lenSTo
  rw [sum_take_succ _ _ (by simpa using h), List.getD_eq_getElem?_getD, List.getElem?_eq_getElem h]; simp
theorem lenWTo_succ (ws : List (Int × ByteArray)) (k : Nat) (h : k < ws.length) : lenWTo ws (k + 1) = lenWTo ws k + (ws.getD k (0, ByteArray.empty)).2.size := by
  unfold lenWTo
  rw [sum_take_succ _ _ (by simpa using h), List.getD_eq_getElem?_getD, List.getElem?_eq_getElem h]; simp
def strAt (ss : List ByteArray) (i : Nat) : Value := .string (ss.getD i ByteArray.empty)
def wrAt (ws : List (Int × ByteArray)) (i : Nat) : Value := if i % 2 = 0 then .int .i64 (ws.getD (i / 2) (0, ByteArray.empty)).1 else .string (ws.getD (i / 2) (0, ByteArray.empty)).2
theorem wrAt_even (ws : List (Int × ByteArray)) (k : Nat) : wrAt ws (k * 2) = .int .i64 (ws.getD k (0, ByteArray.empty)).1 := by
  unfold wrAt; rw [if_pos (by omega), show k * 2 / 2 = k by omega]
theorem wrAt_odd (ws : List (Int × ByteArray)) (k : Nat) : wrAt ws (k * 2 + 1) = .string (ws.getD k (0, ByteArray.empty)).2 := by
  unfold wrAt; rw [if_neg (by omega), show (k * 2 + 1) / 2 = k by omega]
/-- A slice's row of texts, and of writes, in a block of the call's own. -/
def OwnS (w : World) (g : Nat) (ss : List ByteArray) : Prop := Own w g 9 ss.length (strAt ss)
/-- A slice value whose elements lie in a block of the call's own, from block number lo on. -/
def SlS (w : World) (lo : Nat) (A : Option Addr) (n : Nat) (ss : List ByteArray) : Prop := ss.length = n ∧ (0 < n → ∃ g, A = some ⟨g, 0, none⟩ ∧ lo ≤ g ∧ OwnS w g ss)
theorem SlS.nil (w : World) (lo : Nat) : SlS w lo none 0 [] := ⟨rfl, fun h => absurd h (by omega)⟩
theorem SlS.nx {w w' : World} {lo n : Nat} {A : Option Addr} {ss : List ByteArray} (h : SlS w lo A n ss) (hb : Nx w w') : SlS w' lo A n ss :=
  ⟨h.1, fun hn => by obtain ⟨g, e, hl, ho⟩ := h.2 hn; exact ⟨g, e, hl, Own.nx ho hb⟩⟩
theorem SlS.low {w : World} {lo lo' n : Nat} {A : Option Addr} {ss : List ByteArray} (h : SlS w lo A n ss) (hl : lo' ≤ lo) : SlS w lo' A n ss :=
  ⟨h.1, fun hn => by obtain ⟨g, e, hl2, ho⟩ := h.2 hn; exact ⟨g, e, Nat.le_trans hl hl2, ho⟩⟩
theorem SlS.strs {w : World} {lo n : Nat} {A : Option Addr} {ss : List ByteArray} (h : SlS w lo A n ss) : Strs w w.heap.size A n ss :=
  ⟨h.1, fun hn => by
    obtain ⟨g, e, hl, ho⟩ := h.2 hn
    subst e
    have := Own.row ho (Own.lt ho)
    rw [h.1] at this
    exact this hn⟩
/-- A slice whose elements lie in a block of the call's own, its number from lo to below hi. -/
def SrS (w : World) (lo hi : Nat) (A : Option Addr) (n : Nat) (ss : List ByteArray) : Prop := ss.length = n ∧ (0 < n → ∃ g, A = some ⟨g, 0, none⟩ ∧ lo ≤ g ∧ g < hi ∧ OwnS w g ss)
theorem SlS.sr {w : World} {lo n : Nat} {A : Option Addr} {ss : List ByteArray} (h : SlS w lo A n ss) : SrS w lo w.heap.size A n ss :=
  ⟨h.1, fun hn => by obtain ⟨g, e, hl, ho⟩ := h.2 hn; exact ⟨g, e, hl, Own.lt ho, ho⟩⟩
theorem SrS.sl {w : World} {lo hi n : Nat} {A : Option Addr} {ss : List ByteArray} (h : SrS w lo hi A n ss) : SlS w lo A n ss :=
  ⟨h.1, fun hn => by obtain ⟨g, e, hl, _, ho⟩ := h.2 hn; exact ⟨g, e, hl, ho⟩⟩
theorem SrS.rg {w w' : World} {lo hi a b n : Nat} {A : Option Addr} {ss : List ByteArray} (h : SrS w lo hi A n ss) (hb : Rg a b w w') (hd : hi ≤ a ∨ b ≤ lo) : SrS w' lo hi A n ss :=
  ⟨h.1, fun hn => by obtain ⟨g, e, hl, hh, ho⟩ := h.2 hn; exact ⟨g, e, hl, hh, Own.rg ho hb (by omega)⟩⟩
theorem SrS.nx {w w' : World} {lo hi n : Nat} {A : Option Addr} {ss : List ByteArray} (h : SrS w lo hi A n ss) (hb : Nx w w') : SrS w' lo hi A n ss :=
  ⟨h.1, fun hn => by obtain ⟨g, e, hl, hh, ho⟩ := h.2 hn; exact ⟨g, e, hl, hh, Own.nx ho hb⟩⟩
/-- What a function leaves that answers a slice in new memory. -/
def RetS (w : World) (ss : List ByteArray) (e : Ending) (w' : World) : Prop := ∃ (A : Option Addr) (n c : Nat), e = .returned (.slice A n c) ∧ SlS w' w.heap.size A n ss ∧ Nx w w'
theorem RetS.mk_own {w w' : World} {g n c : Nat} {ss : List ByteArray} (hn : ss.length = n) (hg : w.heap.size ≤ g) (h : OwnS w' g ss) (hb : Nx w w') : RetS w ss (.returned (.slice (some ⟨g, 0, none⟩) n c)) w' :=
  ⟨_, n, c, rfl, ⟨hn, fun _ => ⟨g, rfl, hg, h⟩⟩, hb⟩
theorem SlS.far {w : World} {lo n : Nat} {A : Option Addr} {ss : List ByteArray} (h : SlS w lo A n ss) {p : Addr} (hp : p.block < lo) (v : Value) : SlS (w.setCell p v) lo A n ss :=
  ⟨h.1, fun hn => by obtain ⟨g, e, hl, ho⟩ := h.2 hn; exact ⟨g, e, hl, Own.far ho (by omega) v⟩⟩
section
variable {w w' : World} {lo hi : Nat} {A : Option Addr} {n c : Nat} {A2 : Option Addr} {n2 c2 : Nat} {ss : List ByteArray} {ws : List (Int × ByteArray)}
end
theorem OwnS.strs {w : World} {g B : Nat} {ss : List ByteArray} (h : OwnS w g ss) (hB : g < B) : Strs w B (some ⟨g, 0, none⟩) ss.length ss := ⟨rfl, Own.row h hB⟩
end Go.Proofs.Ytihpadelfpogmaa
/- Contracts of the laws' functions that mark disks and ask whether the marks are still there. Conditions: numbers below 2^40. -/
namespace Go.Proofs.Ytihpadelfpogmaa
set_option linter.unusedVariables false
set_option maxRecDepth 100000
open Go.RowKit

/-- The text of one digit. -/
def dg (k : Nat) : ByteArray := strOfNums [48 + (k : Int) % 10]
theorem dg_size (k : Nat) : (dg k).size = 1 := by simp [dg, strOfNums, ByteArray.size]
def mtL (k : Nat) (o : ByteArray) : ByteArray := if h : k = 0 then o else mtL (k / 10) (dg k ++ o)
termination_by k
decreasing_by omega
theorem mtL_zero (o : ByteArray) : mtL 0 o = o := by rw [mtL]; simp
theorem mtL_pos (k : Nat) (o : ByteArray) (h : 0 < k) : mtL k o = mtL (k / 10) (dg k ++ o) := by rw [mtL, dif_neg (by omega)]
/-- The mark of a number. -/
def mt (k : Nat) : ByteArray := if k = 0 then ⟨#[109, 48]⟩ else ⟨#[109]⟩ ++ mtL k ⟨#[]⟩
def MtTo (K k : Nat) (o : ByteArray) : Prop := mtL K ⟨#[]⟩ = mtL k o

theorem MtTo.next_ {K k : Nat} {o : ByteArray} (h : MtTo K k o) (hp : 0 < k) : MtTo K (k / 10) (dg k ++ o) := by
  unfold MtTo at h ⊢; rw [h, mtL_pos k o hp]
theorem MtTo.done {K : Nat} {o : ByteArray} (h : MtTo K 0 o) (hK : 0 < K) : ⟨#[109]⟩ ++ o = mt K := by
  unfold MtTo at h
  unfold mt
  rw [if_neg (by omega), h, mtL_zero]
theorem ret_str' {a b : ByteArray} (h : a = b) : Ending.returned (.string a) = .returned (.string b) := by rw [h]
theorem conv_one (x : Int) (W : World) : (convert 69 9 (.slice (some ⟨W.heap.size, 0, none⟩) 1 1)).run Try.prog (W.alloc (.cells #[.int .u8 x] 5)) = .ok (.string (strOfNums [x])) (W.alloc (.cells #[.int .u8 x] 5)) :=
  run_convert_bytes_arg _ 69 5 Try.underlying69 Try.underlying5 W.heap.size 0 1 1 [x] rfl (fun i hi => by
    obtain rfl : i = 0 := by omega
    exact (Box.new W 5 #[.int .u8 x]).cell 0) 9 Try.underlying9

set_option maxHeartbeats 1000000 in
theorem markText_c (k : Nat) (w : World) (hk : k ≤ 1099511627776) : Calls Try.prog 148 #[.int .i64 k] w fun e w' => e = .returned (.string (mt k)) ∧ Nx w w' := by
  rcases Nat.eq_zero_or_pos k with hz | hp
  · subst hz
    go_enter Try.func148, Try.ntmps148
    go_wp2
    go_ret
    exact ⟨rfl, Nx.refl _⟩
  have hd : decide ((k : Int) ≤ 0) = false := by simp; omega
  have hd0 : decide (k = 0) = false := by simp; omega
  go_enter Try.func148, Try.ntmps148
  go_wp2
  go_loopw [0, 3] (fun i o wr => ∃ (j : Nat) (s : ByteArray), j ≤ k ∧ i = .int .i64 j ∧ o = .string s ∧ s.size + j ≤ k ∧ MtTo k j s ∧ Nx w wr) (fun i _ _ => (intOf i).toNat)
  case atStart => exact ⟨k, ⟨#[]⟩, Nat.le_refl _, rfl, rfl, by show 0 + k ≤ k; omega, rfl, Nx.refl _⟩
  case round =>
    obtain ⟨j, s, hj, rfl, rfl, hs, hto, hnx⟩ := hrel
    rcases Nat.eq_zero_or_pos j with hz | hp2
    · subst hz
      have HF := Lib.hid (hto.done hp)
      go_wp2
      go_ret
      exact ⟨ret_str' HF.out, hnx⟩
    · have hd2 : decide (0 < (j : Int)) = true := by simp; omega
      have hcv := conv_one (48 + (j : Int) % 10) wr
      have HF := Lib.hid (hto.next_ hp2)
      rw [show strOfNums [48 + (j : Int) % 10] = dg j from rfl] at hcv
      have HZ := Lib.hid (dg_size j)
      have hz1 : (dg j).size ≤ 1 := by rw [HZ.out]; omega
      generalize dg j = g at *
      go_wp2
      go_roundw
      case rel => exact ⟨j / 10, g ++ s, by omega, by go_num, rfl, by rw [ByteArray.size_append]; have := HZ.out; omega, HF.out, hnx.alloc _⟩
      case measure => simp [intOf]; omega

def markS (k n : Nat) : List ByteArray := (List.range n).map (fun i => mt (k + i))
def markW (k n : Nat) : List (Int × ByteArray) := (List.range n).map (fun i => (((k + i * 2 : Nat) : Int), mt (k + i * 2 + 1)))
theorem markS_len (k n : Nat) : (markS k n).length = n := by simp [markS]
theorem markW_len (k n : Nat) : (markW k n).length = n := by simp [markW]
theorem markS_at {k n i : Nat} (h : i < n) : (markS k n).getD i ByteArray.empty = mt (k + i) := by
  unfold markS; rw [List.getD_eq_getElem?_getD, List.getElem?_map, List.getElem?_range h]; rfl
theorem markW_at {k n i : Nat} (h : i < n) : (markW k n).getD i (0, ByteArray.empty) = (((k + i * 2 : Nat) : Int), mt (k + i * 2 + 1)) := by
  unfold markW; rw [List.getD_eq_getElem?_getD, List.getElem?_map, List.getElem?_range h]; rfl
/-- A slice that is being filled with marks. -/
def FillA (w : World) (lo hi : Nat) (A : Option Addr) (n : Nat) (t : TypeId) (m k : Nat) (F : Nat → Value) : Prop := 0 < n → ∃ g, A = some ⟨g, 0, none⟩ ∧ lo ≤ g ∧ g < hi ∧ Fill w g t m k F

end Go.Proofs.Ytihpadelfpogmaa
/- Contracts of the laws' functions that mark supers and ask whether the marks are still there. Conditions: numbers below 2^40. -/
namespace Go.Proofs.Ytihpadelfpogmaa
set_option linter.unusedVariables false
set_option maxRecDepth 100000
open Go.RowKit

def markM (k n : Nat) : List Mrk := (List.range n).map (fun i => (mt (k + i * 2), ((k + i * 2 + 1 : Nat) : Int)))
theorem markM_len (k n : Nat) : (markM k n).length = n := by simp [markM]
theorem markM_at {k n i : Nat} (h : i < n) : (markM k n).getD i mrZ = (mt (k + i * 2), ((k + i * 2 + 1 : Nat) : Int)) := by
  unfold markM; rw [List.getD_eq_getElem?_getD, List.getElem?_map, List.getElem?_range h]; rfl
set_option maxHeartbeats 1000000 in
theorem markMarkS_c (A : Option Addr) (n c k lo hi : Nat) (f : Nat → Value) (w : World) (h : Sr w lo hi A 87 (n * 2) f) (hi' : hi ≤ w.heap.size) (hn : n ≤ 1048576) (hk : k ≤ 1099500000000) :
    Calls Try.prog 104 #[.slice A n c, .int .i64 k] w fun e w' => e = .returned (.int .i64 ((k + n * 2 : Nat) : Int)) ∧ Sr w' lo hi A 87 (n * 2) (mrAt (markM k n)) ∧ Rg lo hi w w' ∧ TyK 87 w w' := by
  have HS : FillA w lo hi A n 87 (n * 2) 0 (mrAt (markM k n)) := fun hn0 => by
    obtain ⟨g, e, h1, h2, ho⟩ := h (by omega)
    exact ⟨g, e, h1, h2, Fill.start ho⟩
  go_enter Try.func104, Try.ntmps104
  go_wp2
  go_loopw [1, 5] (fun q i wr => ∃ j : Nat, j ≤ n ∧ i = .int .i64 j ∧ q = .int .i64 ((k + j * 2 : Nat) : Int) ∧ FillA wr lo hi A n 87 (n * 2) (j * 2) (mrAt (markM k n)) ∧ Rg lo hi w wr ∧ TyK 87 w wr) (fun _ i _ => n - (intOf i).toNat)
  case atStart => exact ⟨0, Nat.zero_le _, rfl, rfl, HS, Rg.of_nx (Nx.refl _), TyK.refl _ _⟩
  case round =>
    obtain ⟨j, hj, rfl, rfl, hf, hrg, hty⟩ := hrel
    clear HS
    by_cases hlt : j < n
    · obtain ⟨g, rfl, hg1, hg2, hfill⟩ := hf (by omega)
      go_wp2_with fail
      refine (markText_c (k + j * 2) _ (by omega)).mono ?_
      rintro e w2 ⟨rfl, hnx2⟩
      have hf2 := hfill.nx hnx2
      obtain ⟨v0, hv0⟩ := hf2.some_ (i := j * 2) (by omega)
      obtain ⟨v1, hv1⟩ := hf2.some_ (i := j * 2 + 1) (by omega)
      have hz0 := hf2.frozen (j * 2)
      have hz1 := hf2.frozen (j * 2 + 1)
      have hs1 := hf2.step (v := .string (mt (k + j * 2))) (by omega) (by rw [mrAt0, markM_at hlt])
      have hs2 := hs1.step (v := .int .i64 ((k + j * 2 + 1 : Nat) : Int)) (by omega) (by rw [mrAt1, markM_at hlt])
      have hr2 := ((hrg.trans (Rg.of_nx hnx2)).setCell (p := ⟨g, j * 2, none⟩) hg1 hg2 (.string (mt (k + j * 2)))).setCell (p := ⟨g, j * 2 + 1, none⟩) hg1 hg2 (.int .i64 ((k + j * 2 + 1 : Nat) : Int))
      have ht2 := ((hty.nx hnx2).set_fill (i := j * 2) hf2 (.string (mt (k + j * 2)))).set_fill (i := j * 2 + 1) hs1 (.int .i64 ((k + j * 2 + 1 : Nat) : Int))
      have e1 : (((k + j * 2 + 1 : Nat) : Int)) = (k : Int) + (j : Int) * 2 + 1 := by omega
      rw [e1] at hs2 hr2 ht2
      clear e1
      go_wp2
      go_roundw
      case rel =>
        refine ⟨j + 1, by omega, by go_num, by go_num, fun _ => ⟨g, rfl, hg1, hg2, ?_⟩, ?_, ?_⟩
        · rw [show (j + 1) * 2 = j * 2 + 1 + 1 by omega]
          exact hs2
        · exact hr2
        · exact ht2
      case measure => simp [intOf]; omega
    · obtain rfl : j = n := by omega
      go_wp2
      go_ret
      refine ⟨rfl, fun hn0 => ?_, hrg, hty⟩
      obtain ⟨g, e, h1, h2, ho⟩ := hf (by omega)
      exact ⟨g, e, h1, h2, ho.done⟩
set_option maxHeartbeats 1000000 in
/-- The marks come behind the table, so their block is not the table's: it holds another type. -/
theorem markIntT_c (A : Option Addr) (n c k lo hi : Nat) (f : Nat → Value) (w : World) (h : Sr w lo hi A 3 n f) (hn : n ≤ 1048576) (hk : k ≤ 4194304) :
    Calls Try.prog 27 #[.slice A n c, .int .i64 k] w fun e w' => e = .returned (.int .i64 ((k + n : Nat) : Int)) ∧ Sr w' lo hi A 3 n (mkAt k) ∧ Rg lo hi w w' ∧ TyK 3 w w' := by
  have HS : FillI w lo hi A n 0 k := fun hn0 => by
    obtain ⟨g, e, h1, h2, ho⟩ := h (by omega)
    exact ⟨g, e, h1, h2, Fill.start ho⟩
  go_enter Try.func27, Try.ntmps27
  go_wp2
  go_loopw [1, 5] (fun q i wr => ∃ j : Nat, j ≤ n ∧ i = .int .i64 j ∧ q = .int .i64 ((k + j : Nat) : Int) ∧ FillI wr lo hi A n j k ∧ Rg lo hi w wr ∧ TyK 3 w wr) (fun _ i _ => n - (intOf i).toNat)
  case atStart => exact ⟨0, Nat.zero_le _, rfl, rfl, HS, Rg.of_nx (Nx.refl _), TyK.refl _ _⟩
  case round =>
    obtain ⟨j, hj, rfl, rfl, hf, hrg, hty⟩ := hrel
    clear HS
    by_cases hlt : j < n
    · obtain ⟨g, rfl, hg1, hg2, hfill⟩ := hf (by omega)
      obtain ⟨v0, hv0⟩ := hfill.some_ (i := j) (by omega)
      have hz0 := hfill.frozen j
      clear hf
      go_wp2
      go_roundw
      case rel => exact ⟨j + 1, by omega, by go_num, by go_num, fun _ => ⟨g, rfl, hg1, hg2, hfill.step hlt rfl⟩, hrg.setCell hg1 hg2 _, hty.set_fill hfill _⟩
      case measure => simp [intOf]; omega
    · obtain rfl : j = n := by omega
      go_wp2
      go_ret
      refine ⟨rfl, fun hn0 => ?_, hrg, hty⟩
      obtain ⟨g, e, h1, h2, ho⟩ := hf (by omega)
      exact ⟨g, e, h1, h2, ho.done⟩
set_option maxHeartbeats 1000000 in
theorem markSuper_c (g b p t : Int) (A A2 : Option Addr) (n c n2 c2 k lo hi : Nat) (f f2 : Nat → Value) (w : World) (h : Sr w lo hi A 3 n f) (h2 : Sr w lo hi A2 87 (n2 * 2) f2) (hi' : hi ≤ w.heap.size) (hn : n ≤ 1048576) (hn2 : n2 ≤ 1048576) (hk : k ≤ 4194304) :
    Calls Try.prog 43 #[.agg #[.int .i64 g, .int .i64 b, .int .i64 p, .int .i64 t, .slice A n c, .slice A2 n2 c2], .int .i64 k] w fun e w' => e = .returned (.int .i64 ((k + n + n2 * 2 : Nat) : Int)) ∧ Sr w' lo hi A 3 n (mkAt k) ∧ Sr w' lo hi A2 87 (n2 * 2) (mrAt (markM (k + n) n2)) ∧ Rg lo hi w w' := by
  go_enter Try.func43, Try.ntmps43
  go_wp2_with fail
  have b0 := Box.new w 33 #[.int .i64 g, .int .i64 b, .int .i64 p, .int .i64 t, .slice A n c, .slice A2 n2 c2]
  have hnx0 := (Nx.refl w).alloc (.cells #[.int .i64 g, .int .i64 b, .int .i64 p, .int .i64 t, .slice A n c, .slice A2 n2 c2] 33)
  have HZ := Lib.hid (show (w.alloc (.cells #[.int .i64 g, .int .i64 b, .int .i64 p, .int .i64 t, .slice A n c, .slice A2 n2 c2] 33)).heap.size = w.heap.size + 1 by simp)
  generalize w.alloc (.cells #[.int .i64 g, .int .i64 b, .int .i64 p, .int .i64 t, .slice A n c, .slice A2 n2 c2] 33) = W at *
  refine (markIntT_c A n c k lo hi f _ (h.nx hnx0) hn hk).mono ?_
  rintro e w1 ⟨rfl, hS1, hr1, ht1⟩
  have b1 := b0.rg hr1 (.inr hi')
  obtain ⟨_, _, _, _, c4, c5⟩ := b1.d6
  have hsz1 := hr1.size
  go_wp2_with fail
  rw [show ((k : Int) + (n : Int)) = ((k + n : Nat) : Int) from by omega]
  refine (markMarkS_c A2 n2 c2 (k + n) lo hi f2 _ ((h2.nx hnx0).ty ht1 (by decide)) (by have := HZ.out; omega) hn2 (by omega)).mono ?_
  rintro e w2 ⟨rfl, hW2, hr2, ht2⟩
  go_wp2
  go_ret
  exact ⟨rfl, hS1.ty ht2 (by decide), hW2, ((Rg.of_nx hnx0).trans hr1).trans hr2⟩
end Go.Proofs.Ytihpadelfpogmaa
/- Contracts of the laws' functions that mark the memory of vaults: of what is marked only the shape is told. Conditions: the lists lie in blocks of the call's own; at most 1048576 of each. -/
namespace Go.Proofs.Ytihpadelfpogmaa
set_option linter.unusedVariables false
set_option maxRecDepth 100000
open Go.RowKit

/-- Blocks of the call's own have kept their type and room. -/
def Shp (w w' : World) : Prop := ∀ g t m f, Own w g t m f → ∃ f', Own w' g t m f'
theorem Shp.refl (w : World) : Shp w w := fun _ _ _ f h => ⟨f, h⟩
theorem Shp.trans {a b c : World} (h : Shp a b) (k : Shp b c) : Shp a c := fun g t m f ho => by
  obtain ⟨f', h'⟩ := h g t m f ho; exact k g t m f' h'
theorem Own.setAny {w : World} {g m : Nat} {t : TypeId} {f : Nat → Value} (h : Own w g t m f) (i : Nat) (v : Value) : ∃ f', Own (w.setCell ⟨g, i, none⟩ v) g t m f' := by
  obtain ⟨cs, h, hm, hc⟩ := h
  refine ⟨fun j => if j = i then v else f j, cs.setIfInBounds i v, ?_, by simpa using hm, fun j hj => ?_⟩
  · simp [World.setCell, Array.getElem?_modify, h]
  · rw [Array.getElem?_setIfInBounds]
    by_cases e : i = j
    · subst e; rw [if_pos rfl, if_pos (by omega)]; simp
    · rw [if_neg e, hc j hj]; show some (f j) = some (if j = i then v else f j); rw [if_neg (fun h : j = i => e h.symm)]
theorem Shp.set {a w : World} (h : Shp a w) (g i : Nat) (v : Value) : Shp a (w.setCell ⟨g, i, none⟩ v) := fun g' t m f ho => by
  obtain ⟨f', h'⟩ := h g' t m f ho
  by_cases e : g' = g
  · subst e; exact h'.setAny i v
  · exact ⟨f', h'.far (by exact e) v⟩
theorem Shp.nx {a w w' : World} (h : Shp a w) (hb : Nx w w') : Shp a w' := fun g t m f ho => by
  obtain ⟨f', h'⟩ := h g t m f ho; exact ⟨f', h'.nx hb⟩
theorem Sr.shp {w w' : World} {lo hi m : Nat} {A : Option Addr} {t : TypeId} {f : Nat → Value} (h : Sr w lo hi A t m f) (hs : Shp w w') : ∃ f', Sr w' lo hi A t m f' := by
  by_cases hm : 0 < m
  · obtain ⟨g, e, h1, h2, ho⟩ := h hm
    obtain ⟨f', ho'⟩ := hs g t m f ho
    exact ⟨f', fun _ => ⟨g, e, h1, h2, ho'⟩⟩
  · exact ⟨f, fun h => absurd h hm⟩
set_option maxHeartbeats 1000000 in
theorem markIntV_c (A : Option Addr) (n c k lo hi : Nat) (f : Nat → Value) (w : World) (h : Sr w lo hi A 3 n f) (hn : n ≤ 1048576) (hk : k ≤ 12000000) :
    Calls Try.prog 27 #[.slice A n c, .int .i64 k] w fun e w' => e = .returned (.int .i64 ((k + n : Nat) : Int)) ∧ Rg lo hi w w' ∧ TyK 3 w w' ∧ Shp w w' := by
  go_enter Try.func27, Try.ntmps27
  go_wp2
  go_loopw [1, 5] (fun q i wr => ∃ j : Nat, j ≤ n ∧ i = .int .i64 j ∧ q = .int .i64 ((k + j : Nat) : Int) ∧ (∃ f, Sr wr lo hi A 3 n f) ∧ Rg lo hi w wr ∧ TyK 3 w wr ∧ Shp w wr) (fun _ i _ => n - (intOf i).toNat)
  case atStart => exact ⟨0, Nat.zero_le _, rfl, rfl, ⟨f, h⟩, Rg.of_nx (Nx.refl _), TyK.refl _ _, Shp.refl _⟩
  case round =>
    obtain ⟨j, hj, rfl, rfl, ⟨f1, hf⟩, hrg, hty, hsh⟩ := hrel
    clear h
    by_cases hlt : j < n
    · obtain ⟨g, rfl, hg1, hg2, ho⟩ := hf (by omega)
      obtain ⟨q, Hq⟩ : ∃ q, Hid (k + j = q) := ⟨_, rfl⟩
      have hq9 : q ≤ 20000000 := by have := Hq.out; omega
      rw [Hq.out]
      have hv0 := ho.cell hlt
      have hz0 := ho.frozen j
      have Hs := Lib.hid (fun v => ho.set (k := j) hlt v)
      have Ht := Lib.hid (fun v => hty.set (i := j) ho v)
      obtain ⟨v0, Hv0⟩ : ∃ v0, Hid (f1 j = v0) := ⟨_, rfl⟩
      rw [Hv0.out] at hv0
      clear hf
      go_wp2
      go_roundw
      case rel => exact ⟨j + 1, by omega, by go_num, by rw [show k + (j + 1) = q + 1 by have := Hq.out; omega]; go_num, ⟨_, fun _ => ⟨g, rfl, hg1, hg2, Hs.out _⟩⟩, hrg.setCell hg1 hg2 _, Ht.out _, hsh.set g j _⟩
      case measure => simp [intOf]; omega
    · obtain rfl : n = j := by omega
      go_wp2
      go_ret
      exact ⟨rfl, hrg, hty, hsh⟩
set_option maxHeartbeats 2000000 in
theorem markChangeV_c (A : Option Addr) (n c k lo hi : Nat) (f : Nat → Value) (w : World) (h : Sr w lo hi A 84 (n * 3) f) (hn : n ≤ 1048576) (hk : k ≤ 20000000) :
    Calls Try.prog 96 #[.slice A n c, .int .i64 k] w fun e w' => e = .returned (.int .i64 ((k + n * 3 : Nat) : Int)) ∧ Rg lo hi w w' ∧ TyK 84 w w' ∧ Shp w w' := by
  go_enter Try.func96, Try.ntmps96
  go_wp2
  go_loopw [1, 5] (fun q i wr => ∃ j : Nat, j ≤ n ∧ i = .int .i64 j ∧ q = .int .i64 ((k + j * 3 : Nat) : Int) ∧ (∃ f, Sr wr lo hi A 84 (n * 3) f) ∧ Rg lo hi w wr ∧ TyK 84 w wr ∧ Shp w wr) (fun _ i _ => n - (intOf i).toNat)
  case atStart => exact ⟨0, Nat.zero_le _, rfl, rfl, ⟨f, h⟩, Rg.of_nx (Nx.refl _), TyK.refl _ _, Shp.refl _⟩
  case round =>
    obtain ⟨j, hj, rfl, rfl, ⟨f1, hf⟩, hrg, hty, hsh⟩ := hrel
    clear h
    by_cases hlt : j < n
    · obtain ⟨g, rfl, hg1, hg2, ho⟩ := hf (by omega)
      obtain ⟨q, Hq⟩ : ∃ q, Hid (k + j * 3 = q) := ⟨_, rfl⟩
      have hq9 : q ≤ 40000000 := by have := Hq.out; omega
      rw [Hq.out]
      have hv0 := ho.cell (i := j * 3) (by omega)
      have hv1 := ho.cell (i := j * 3 + 1) (by omega)
      have hv2 := ho.cell (i := j * 3 + 2) (by omega)
      have hz0 := ho.frozen (j * 3)
      have hz1 := ho.frozen (j * 3 + 1)
      have hz2 := ho.frozen (j * 3 + 2)
      have Hs := Lib.hid (fun v u x => ((ho.set (k := j * 3) (by omega) v).set (k := j * 3 + 1) (by omega) u).set (k := j * 3 + 2) (by omega) x)
      have Ht := Lib.hid (fun v u x => ((hty.set (i := j * 3) ho v).set (i := j * 3 + 1) (ho.set (k := j * 3) (by omega) v) u).set (i := j * 3 + 2) ((ho.set (k := j * 3) (by omega) v).set (k := j * 3 + 1) (by omega) u) x)
      obtain ⟨v0, Hv0⟩ : ∃ v0, Hid (f1 (j * 3) = v0) := ⟨_, rfl⟩
      obtain ⟨v1, Hv1⟩ : ∃ v1, Hid (f1 (j * 3 + 1) = v1) := ⟨_, rfl⟩
      obtain ⟨v2, Hv2⟩ : ∃ v2, Hid (f1 (j * 3 + 2) = v2) := ⟨_, rfl⟩
      rw [Hv0.out] at hv0
      rw [Hv1.out] at hv1
      rw [Hv2.out] at hv2
      clear hf
      go_wp2
      go_roundw
      case rel => exact ⟨j + 1, by omega, by go_num, by rw [show k + (j + 1) * 3 = q + 3 by have := Hq.out; omega]; go_num, ⟨_, fun _ => ⟨g, rfl, hg1, hg2, Hs.out _ _ _⟩⟩, ((hrg.setCell hg1 hg2 _).setCell hg1 hg2 _).setCell hg1 hg2 _, Ht.out _ _ _, ((hsh.set g (j * 3) _).set g (j * 3 + 1) _).set g (j * 3 + 2) _⟩
      case measure => simp [intOf]; omega
    · obtain rfl : n = j := by omega
      go_wp2
      go_ret
      exact ⟨rfl, hrg, hty, hsh⟩
/-- Blocks of the call's own that hold neither segments nor changes have not turned. -/
def Ty2 (w w' : World) : Prop := ∀ g t m f, t ≠ 54 → t ≠ 84 → Own w g t m f → Own w' g t m f
theorem Ty2.refl (w : World) : Ty2 w w := fun _ _ _ _ _ _ h => h
theorem Ty2.trans {a b c : World} (h : Ty2 a b) (k : Ty2 b c) : Ty2 a c := fun g t m f h1 h2 ho => k g t m f h1 h2 (h g t m f h1 h2 ho)
theorem Ty2.ch {a w w' : World} (h : Ty2 a w) (k : TyK 84 w w') : Ty2 a w' := fun g t m f h1 h2 ho => k g t m f h2 (h g t m f h1 h2 ho)
theorem Ty2.set {a w : World} (h : Ty2 a w) {g i m : Nat} {f : Nat → Value} (ho : Own w g 54 m f) (v : Value) : Ty2 a (w.setCell ⟨g, i, none⟩ v) := fun g' t' m' f' h1 h2 h' =>
  (h g' t' m' f' h1 h2 h').far (Own.ne_type ho (h g' t' m' f' h1 h2 h') h1) v
set_option maxHeartbeats 4000000 in
theorem markSegV_c (A : Option Addr) (c k lo hi : Nat) (gs : List SgR) (w : World) (h : Sr w lo hi A 54 (gs.length * 4) (sgAt gs)) (hch : ∀ i, i < gs.length → ∃ f, Sr w lo hi (gs.getD i sgZ).A 84 ((gs.getD i sgZ).cs.length * 3) f)
    (hn : gs.length ≤ 1048576) (hm : ∀ i, i < gs.length → (gs.getD i sgZ).cs.length ≤ 1048576) (hs : ssum gs gs.length ≤ 1048576) (hk : k ≤ 3200000) :
    Calls Try.prog 84 #[.slice A gs.length c, .int .i64 k] w fun e w' => (∃ q : Nat, q ≤ k + gs.length * 3 + ssum gs gs.length * 3 ∧ e = .returned (.int .i64 (q : Int))) ∧ Rg lo hi w w' ∧ Ty2 w w' := by
  obtain ⟨n, Hn⟩ : ∃ n, Hid (gs.length = n) := ⟨_, rfl⟩
  have HSu := Lib.hid (fun k (hk : k < n) => ssum_succ (gs := gs) (k := k) (by rw [Hn.out]; exact hk))
  have HSl := Lib.hid (fun k (hk : k ≤ n) => ssum_le (gs := gs) (j := k) (k := n) hk (by rw [Hn.out]; exact Nat.le_refl _))
  have Hm := Lib.hid hm
  have Hch := Lib.hid hch
  have Hs := Lib.hid hs
  rw [Hn.out] at Hm Hch Hs hn h ⊢
  have h0 : 0 < n → ∃ g, A = some ⟨g, 0, none⟩ ∧ lo ≤ g ∧ g < hi ∧ ∃ F, Own w g 54 (n * 4) F ∧ ∀ i, i < n → F (i * 4 + 3) = sgAt gs (i * 4 + 3) := fun hn0 => by
    obtain ⟨g, e, h1, h2, ho⟩ := h (by omega)
    exact ⟨g, e, h1, h2, _, ho, fun _ _ => rfl⟩
  clear hm hch h hs
  go_enter Try.func84, Try.ntmps84
  go_wp2
  go_loopw [1, 5] (fun q i wr => ∃ j : Nat, j ≤ n ∧ i = .int .i64 j ∧ (∃ r : Nat, r ≤ k + j * 3 + ssum gs j * 3 ∧ q = .int .i64 (r : Int)) ∧ (0 < n → ∃ g, A = some ⟨g, 0, none⟩ ∧ lo ≤ g ∧ g < hi ∧ ∃ F, Own wr g 54 (n * 4) F ∧ ∀ i, i < n → F (i * 4 + 3) = sgAt gs (i * 4 + 3))
    ∧ (∀ i, i < n → ∃ f, Sr wr lo hi (gs.getD i sgZ).A 84 ((gs.getD i sgZ).cs.length * 3) f) ∧ Rg lo hi w wr ∧ Ty2 w wr) (fun _ i _ => n - (intOf i).toNat)
  case atStart => exact ⟨0, Nat.zero_le _, rfl, ⟨k, by rw [ssum_zero]; omega, rfl⟩, h0, Hch.out, Rg.of_nx (Nx.refl _), Ty2.refl _⟩
  case round =>
    obtain ⟨j, hj, rfl, ⟨r, hr, rfl⟩, hrow, hchs, hrg, hty⟩ := hrel
    clear h0 Hch
    by_cases hlt : j < n
    case neg =>
      obtain rfl : n = j := by omega
      go_wp2
      go_ret
      exact ⟨⟨r, hr, rfl⟩, hrg, hty⟩
    obtain ⟨g, rfl, hg1, hg2, F, ho, hF⟩ := hrow (by omega)
    have Hsl := Lib.hid (HSl.out j (by omega))
    have hr9 : r ≤ 12000000 := by have := Hsl.out; have := Hs.out; omega
    have hv0 := ho.cell (i := j * 4) (by omega)
    have hv1 := ho.cell (i := j * 4 + 1) (by omega)
    have hv2 := ho.cell (i := j * 4 + 2) (by omega)
    have hv3 := ho.cell (i := j * 4 + 3) (by omega)
    rw [hF j hlt, sgAt3] at hv3
    have hz0 := ho.frozen (j * 4)
    have hz1 := ho.frozen (j * 4 + 1)
    have hz2 := ho.frozen (j * 4 + 2)
    have hcj := hchs j hlt
    have hmj := Hm.out j hlt
    have HSj := Lib.hid (HSu.out j hlt)
    have Hchs := Lib.hid hchs
    have Hset := Lib.hid (fun v u x => ((ho.set (k := j * 4) (by omega) v).set (k := j * 4 + 1) (by omega) u).set (k := j * 4 + 2) (by omega) x)
    have Hty := Lib.hid (fun v u x => ((hty.set (i := j * 4) ho v).set (i := j * 4 + 1) (ho.set (k := j * 4) (by omega) v) u).set (i := j * 4 + 2) ((ho.set (k := j * 4) (by omega) v).set (k := j * 4 + 1) (by omega) u) x)
    have Hneb := Lib.hid (fun (g' m' : Nat) (f' : Nat → Value) (ho' : Own wr g' 84 m' f') => Own.ne_type ho ho' (by decide))
    have HF := Lib.hid hF
    obtain ⟨v0, Hv0⟩ : ∃ v0, Hid (F (j * 4) = v0) := ⟨_, rfl⟩
    obtain ⟨v1, Hv1⟩ : ∃ v1, Hid (F (j * 4 + 1) = v1) := ⟨_, rfl⟩
    obtain ⟨v2, Hv2⟩ : ∃ v2, Hid (F (j * 4 + 2) = v2) := ⟨_, rfl⟩
    rw [Hv0.out] at hv0
    rw [Hv1.out] at hv1
    rw [Hv2.out] at hv2
    obtain ⟨⟨f, t9, m9, Ac, cc, cs⟩, Hsg⟩ : ∃ s, Hid (gs.getD j sgZ = s) := ⟨_, rfl⟩
    rw [Hsg.out] at hv3 hcj hmj HSj
    simp only at hv3 hcj hmj
    clear hrow hchs hF
    go_wp2_with fail
    rw [show ((r : Int) + 1 + 1 + 1) = ((r + 3 : Nat) : Int) by omega]
    have ho3 := Hset.out (.int .i64 r) (.int .i64 ((r : Int) + 1)) (.int .i64 ((r : Int) + 1 + 1))
    have hty3 := Hty.out (.int .i64 r) (.int .i64 ((r : Int) + 1)) (.int .i64 ((r : Int) + 1 + 1))
    have hrg3 := ((hrg.setCell (p := ⟨g, j * 4, none⟩) hg1 hg2 (.int .i64 r)).setCell (p := ⟨g, j * 4 + 1, none⟩) hg1 hg2 (.int .i64 ((r : Int) + 1))).setCell (p := ⟨g, j * 4 + 2, none⟩) hg1 hg2 (.int .i64 ((r : Int) + 1 + 1))
    have hsh3 := (((Shp.refl wr).set g (j * 4) (.int .i64 r)).set g (j * 4 + 1) (.int .i64 ((r : Int) + 1))).set g (j * 4 + 2) (.int .i64 ((r : Int) + 1 + 1))
    have hF3 : ∀ i, i < n → (fun i => if i = j * 4 + 2 then (Value.int .i64 ((r : Int) + 1 + 1)) else (fun i => if i = j * 4 + 1 then (Value.int .i64 ((r : Int) + 1)) else (fun i => if i = j * 4 then (Value.int .i64 r) else F i) i) i) (i * 4 + 3) = sgAt gs (i * 4 + 3) := fun i hi => by
      simp only
      rw [if_neg (by omega), if_neg (by omega), if_neg (by omega)]
      exact HF.out i hi
    clear ho hrg hty Hset Hty Hneb HF hv0 hv1 hv2 hv3 hz0 hz1 hz2
    generalize ((wr.setCell ⟨g, j * 4, none⟩ (.int .i64 r)).setCell ⟨g, j * 4 + 1, none⟩ (.int .i64 ((r : Int) + 1))).setCell ⟨g, j * 4 + 2, none⟩ (.int .i64 ((r : Int) + 1 + 1)) = W3 at *
    have HF3 := Lib.hid hF3
    clear hF3
    obtain ⟨f1, hS1⟩ := hcj
    obtain ⟨f2, hS2⟩ := hS1.shp hsh3
    refine (markChangeV_c Ac cs.length cc (r + 3) lo hi f2 W3 hS2 hmj (by omega)).mono ?_
    rintro e w8 ⟨rfl, hrg8, hty8, hsh8⟩
    have ho8 := hty8 _ _ _ _ (by decide) ho3
    have hrgz := hrg3.trans hrg8
    have htyz := hty3.ch hty8
    have hchz : ∀ i, i < n → ∃ f, Sr w8 lo hi (gs.getD i sgZ).A 84 ((gs.getD i sgZ).cs.length * 3) f := fun i hi => by
      obtain ⟨f5, h5⟩ := Hchs.out i hi
      obtain ⟨f6, h6⟩ := h5.shp hsh3
      exact h6.shp hsh8
    have HC := Lib.hid hchz
    clear hchz ho3 hrg3 hty3 hsh3 hS1 hS2 hrg8 hty8 hsh8
    go_wp2
    go_roundw
    case rel => exact ⟨j + 1, by omega, by go_num, ⟨r + 3 + cs.length * 3, by have := HSj.out; omega, rfl⟩, fun _ => ⟨g, rfl, hg1, hg2, _, ho8, HF3.out⟩, HC.out, hrgz, htyz⟩
    case measure => simp [intOf]; omega
end Go.Proofs.Ytihpadelfpogmaa
/- Contract of the laws' function that marks the memory of a vault. Conditions: what is read can be read, and holds at most 1048576 elements of a kind. -/
namespace Go.Proofs.Ytihpadelfpogmaa
set_option linter.unusedVariables false
set_option maxRecDepth 100000
open Go.RowKit

/-- Rows of ints keep their room; blocks of other types than ints and marks have not turned. -/
def KpI (lo hi : Nat) (w w' : World) : Prop := ∀ A m f, Sr w lo hi A 3 m f → ∃ f', Sr w' lo hi A 3 m f'
def TyIM (w w' : World) : Prop := ∀ g t m f, t ≠ 3 → t ≠ 87 → Own w g t m f → Own w' g t m f
set_option maxHeartbeats 1000000 in
theorem markSuperV_c (g b p t : Int) (A A2 : Option Addr) (n c n2 c2 k lo hi : Nat) (f f2 : Nat → Value) (w : World) (h : Sr w lo hi A 3 n f) (h2 : Sr w lo hi A2 87 (n2 * 2) f2) (hi' : hi ≤ w.heap.size) (hn : n ≤ 1048576) (hn2 : n2 ≤ 1048576) (hk : k ≤ 4194304) :
    Calls Try.prog 43 #[.agg #[.int .i64 g, .int .i64 b, .int .i64 p, .int .i64 t, .slice A n c, .slice A2 n2 c2], .int .i64 k] w fun e w' => e = .returned (.int .i64 ((k + n + n2 * 2 : Nat) : Int)) ∧ Rg lo hi w w' ∧ KpI lo hi w w' ∧ TyIM w w' := by
  go_enter Try.func43, Try.ntmps43
  go_wp2_with fail
  have b0 := Box.new w 33 #[.int .i64 g, .int .i64 b, .int .i64 p, .int .i64 t, .slice A n c, .slice A2 n2 c2]
  have hnx0 := (Nx.refl w).alloc (.cells #[.int .i64 g, .int .i64 b, .int .i64 p, .int .i64 t, .slice A n c, .slice A2 n2 c2] 33)
  have HZ := Lib.hid (show (w.alloc (.cells #[.int .i64 g, .int .i64 b, .int .i64 p, .int .i64 t, .slice A n c, .slice A2 n2 c2] 33)).heap.size = w.heap.size + 1 by simp)
  generalize w.alloc (.cells #[.int .i64 g, .int .i64 b, .int .i64 p, .int .i64 t, .slice A n c, .slice A2 n2 c2] 33) = W at *
  refine (markIntV_c A n c k lo hi f _ (h.nx hnx0) hn (by omega)).mono ?_
  rintro e w1 ⟨rfl, hr1, ht1, hs1⟩
  have b1 := b0.rg hr1 (.inr hi')
  obtain ⟨_, _, _, _, c4, c5⟩ := b1.d6
  have hsz1 := hr1.size
  go_wp2_with fail
  rw [show ((k : Int) + (n : Int)) = ((k + n : Nat) : Int) from by omega]
  refine (markMarkS_c A2 n2 c2 (k + n) lo hi f2 _ ((h2.nx hnx0).ty ht1 (by decide)) (by have := HZ.out; omega) hn2 (by omega)).mono ?_
  rintro e w2 ⟨rfl, hW2, hr2, ht2⟩
  have hK : KpI lo hi w w2 := fun A' m f5 h5 => by
    obtain ⟨f6, h6⟩ := (h5.nx hnx0).shp hs1
    exact ⟨f6, h6.ty ht2 (by decide)⟩
  have hT : TyIM w w2 := fun g' t' m f5 h1 h2' ho => ht2 _ _ _ _ h2' (ht1 _ _ _ _ h1 (ho.nx hnx0))
  go_wp2
  go_ret
  exact ⟨rfl, ((Rg.of_nx hnx0).trans hr1).trans hr2, hK, hT⟩
theorem Sr.own {w w' : World} {lo hi m : Nat} {A : Option Addr} {t : TypeId} {f : Nat → Value} (h : Sr w lo hi A t m f) (hk : ∀ g m f, Own w g t m f → Own w' g t m f) : Sr w' lo hi A t m f := fun hm => by
  obtain ⟨g, e, h1, h2, ho⟩ := h hm
  exact ⟨g, e, h1, h2, hk _ _ _ ho⟩
set_option maxHeartbeats 2000000 in
theorem markVault_c (V : Vl) (lo hi : Nat) (w w0 : World) (h : VlO w0 lo V) (h0 : hi = w0.heap.size) (hx : Nx w0 w) (hn : VlN V 1048576) (hs : ssum V.gs V.gs.length ≤ 1048576) :
    Calls Try.prog 26 #[V.v, .int .i64 1] w fun e w' => (∃ q : Nat, e = .returned (.int .i64 (q : Int))) ∧ Rg lo hi w w' := by
  obtain ⟨g, b, p, t, A, c, xs, A2, c2, ms, A3, c3, gs, A4, c4, im⟩ := V
  obtain ⟨h1, h2, h3, h4, _, _⟩ := h
  obtain ⟨hn, hn2, hn3, hn4, hn5⟩ := hn
  simp only [Vl.v, Vl.cells] at *
  subst h0
  have b0 := Box.new w 36 #[.int .i64 g, .int .i64 b, .int .i64 p, .int .i64 t, .slice A xs.length c, .slice A2 ms.length c2, .slice A3 gs.length c3, .slice A4 im.length c4]
  have hx0 := (Nx.refl w).alloc (.cells #[.int .i64 g, .int .i64 b, .int .i64 p, .int .i64 t, .slice A xs.length c, .slice A2 ms.length c2, .slice A3 gs.length c3, .slice A4 im.length c4] 36)
  have hxa := hx.trans hx0
  have hz0 : w.heap.size < (w.alloc (.cells #[.int .i64 g, .int .i64 b, .int .i64 p, .int .i64 t, .slice A xs.length c, .slice A2 ms.length c2, .slice A3 gs.length c3, .slice A4 im.length c4] 36)).heap.size := by simp
  have hz1 := hx.size
  have t1 := h1.sr.nx hxa
  have t2 := h2.sr.nx hxa
  have t3 := h3.row.sr.nx hxa
  have t4 := h4.sr.nx hxa
  have t5 : ∀ i, i < gs.length → Sr (w.alloc (.cells #[.int .i64 g, .int .i64 b, .int .i64 p, .int .i64 t, .slice A xs.length c, .slice A2 ms.length c2, .slice A3 gs.length c3, .slice A4 im.length c4] 36)) lo w0.heap.size (gs.getD i sgZ).A 84 ((gs.getD i sgZ).cs.length * 3) (chAt (gs.getD i sgZ).cs) := fun i hi => (h3.chs i hi).sr.nx hxa
  have Hn4 := Lib.hid hn4
  have T5 := Lib.hid t5
  have Hs := Lib.hid hs
  have hRa : Rg lo w0.heap.size w (w.alloc (.cells #[.int .i64 g, .int .i64 b, .int .i64 p, .int .i64 t, .slice A xs.length c, .slice A2 ms.length c2, .slice A3 gs.length c3, .slice A4 im.length c4] 36)) := Rg.of_nx hx0
  clear h1 h2 h3 h4 hn4 t5 hs hx hxa hx0
  go_enter Try.func26, Try.ntmps26
  go_wp2_with fail
  generalize w.alloc (.cells #[.int .i64 g, .int .i64 b, .int .i64 p, .int .i64 t, .slice A xs.length c, .slice A2 ms.length c2, .slice A3 gs.length c3, .slice A4 im.length c4] 36) = W at *
  refine (markSuperV_c g b p t A A2 xs.length c ms.length c2 1 lo w0.heap.size _ _ W t1 t2 (by omega) hn hn2 (by omega)).mono ?_
  rintro e w1 ⟨rfl, hr1, hk1, ht1⟩
  have b1 := b0.rg hr1 (.inr (by omega))
  obtain ⟨f4, t4'⟩ := hk1 _ _ _ t4
  have t3' := t3.own (w' := w1) (fun g' m f ho => ht1 _ _ _ _ (by decide) (by decide) ho)
  have T5' := Lib.hid (fun i (hi' : i < gs.length) => (⟨_, (T5.out i hi').own (w' := w1) (fun g' m f ho => ht1 _ _ _ _ (by decide) (by decide) ho)⟩ : ∃ f, Sr w1 lo w0.heap.size (gs.getD i sgZ).A 84 ((gs.getD i sgZ).cs.length * 3) f))
  have hR1 := hRa.trans hr1
  have hz2 := hr1.size
  clear b0 t1 t2 t3 t4 hk1 ht1 hRa hr1 T5
  obtain ⟨_, _, _, _, _, _, y6, y7⟩ := b1.e8
  obtain ⟨k1, Hk1⟩ : ∃ k1, Hid (1 + xs.length + ms.length * 2 = k1) := ⟨_, rfl⟩
  rw [Hk1.out]
  have hk9 : k1 ≤ 3145729 := by have := Hk1.out; omega
  go_wp2_with fail
  refine (markSegV_c A3 c3 k1 lo w0.heap.size gs w1 t3' T5'.out hn3 Hn4.out Hs.out (by omega)).mono ?_
  rintro e w2 ⟨⟨q, hq, rfl⟩, hr2, ht2⟩
  have b2 := b1.rg hr2 (.inr (by omega))
  have t4'' := t4'.own (w' := w2) (fun g' m f ho => ht2 _ _ _ _ (by decide) (by decide) ho)
  have hR2 := hR1.trans hr2
  have hq9 : q ≤ 10000000 := by have := Hs.out; omega
  clear b1 t3' T5' t4' y6 y7 hR1 hr2 ht2
  obtain ⟨_, _, _, _, _, _, _, y7⟩ := b2.e8
  go_wp2_with fail
  refine (markIntV_c A4 im.length c4 q lo w0.heap.size f4 w2 t4'' hn5 (by omega)).mono ?_
  rintro e w3 ⟨rfl, hr3, _, _⟩
  have hR3 := hR2.trans hr3
  go_wp2
  go_ret
  exact ⟨⟨q + im.length, rfl⟩, hR3⟩
end Go.Proofs.Ytihpadelfpogmaa
/- The walk of the law FnExactRetainedOf. Conditions: what is read can be read, and holds at most 1048576 elements of a kind. -/
namespace Go.Proofs.Ytihpadelfpogmaa
set_option linter.unusedVariables false
set_option maxRecDepth 100000
open Go.RowKit

theorem VlS.ss {V V' : Vl} (h : VlS V V') : ssum V'.gs V'.gs.length = ssum V.gs V.gs.length := by
  unfold ssum
  rw [List.take_length, List.take_length]
  have := congrArg (List.map (fun q : Sg4 => q.2.2.2.length)) h.gs
  rw [List.map_map, List.map_map] at this
  exact congrArg List.sum this
theorem rtR_s {V V' : Vl} (h : VlS V V') : rtR V' = rtR V := by unfold rtR; rw [← h.ok, h.b, retL_v h.gs]
theorem rtR_n (V : Vl) (h : VlN V 1048576) : (rtR V).1.length ≤ 1048576 := by
  unfold rtR
  split
  · rename_i hv
    rw [show (retL V.b V.gs, (0 : Int)).1 = retL V.b V.gs from rfl, retL_len]; have := (Vl.y hv).n4; omega
  · simp

set_option maxHeartbeats 4000000 in
theorem lawRetainedOf (V : Vl) (w : World) (h : Vlt w w.heap.size V) (hm : AllM V.ms) (hn : VlN V (2 ^ 63 - 1)) :
    Calls Try.prog 6 #[V.v] w fun e w' => e = .returned (.bool true) ∧ Nx w w' := by
  obtain ⟨g, b, p, t, A, c, xs, A2, c2, ms, A3, c3, gs, A4, c4, im⟩ := V
  have HTo := Lib.hid (fun (w' : World) (hx : Nx w w') (hn' : VlN ⟨g, b, p, t, A, c, xs, A2, c2, ms, A3, c3, gs, A4, c4, im⟩ 1048576) => toVault_c ⟨g, b, p, t, A, c, xs, A2, c2, ms, A3, c3, gs, A4, c4, im⟩ w.heap.size w' (h.below hx (Nat.le_refl _)) hx.size hn')
  have HSz := Lib.hid (fun (w' : World) (hx : Nx w w') => szVault_c ⟨g, b, p, t, A, c, xs, A2, c2, ms, A3, c3, gs, A4, c4, im⟩ w.heap.size 1048576 w' (h.below hx (Nat.le_refl _)) hx.size hm hn (by omega) (by omega))
  have Hcost : Hid (costV ⟨g, b, p, t, A, c, xs, A2, c2, ms, A3, c3, gs, A4, c4, im⟩ = costU xs ms + ((gs.length : Int) + (ssum gs gs.length : Int)) + im.length) := Lib.hid rfl
  have Hm := Lib.hid hm
  simp only [Vl.v, Vl.cells] at *
  have b0 := Box.new w 28 #[.int .i64 g, .int .i64 b, .int .i64 p, .int .i64 t, .slice A xs.length c, .slice A2 ms.length c2, .slice A3 gs.length c3, .slice A4 im.length c4]
  have hx0 := (Nx.refl w).alloc (.cells #[.int .i64 g, .int .i64 b, .int .i64 p, .int .i64 t, .slice A xs.length c, .slice A2 ms.length c2, .slice A3 gs.length c3, .slice A4 im.length c4] 28)
  obtain ⟨C, HC⟩ : ∃ C, Hid (costV ⟨g, b, p, t, A, c, xs, A2, c2, ms, A3, c3, gs, A4, c4, im⟩ = C) := ⟨_, rfl⟩
  rw [HC.out] at HSz Hcost
  clear h hn hm
  go_enter Try.func6, Try.ntmps6
  go_wp2_with fail
  generalize w.alloc (.cells #[.int .i64 g, .int .i64 b, .int .i64 p, .int .i64 t, .slice A xs.length c, .slice A2 ms.length c2, .slice A3 gs.length c3, .slice A4 im.length c4] 28) = W at *
  refine (HSz.out W hx0).mono ?_
  rintro e w1 ⟨rfl, hk⟩
  have hx1 := hx0.trans hk
  have b1 := b0.nx hk
  clear b0 hx0 hk HSz
  by_cases hle : C ≤ 1048576
  case neg =>
    rw [← szR_no (by omega)]
    go_wp2
    go_ret
    exact ⟨rfl, hx1⟩
  rw [← szR_yes hle]
  have hd : decide (1048576 - C < 0) = false := by simp; omega
  have HN : Hid (VlN ⟨g, b, p, t, A, c, xs, A2, c2, ms, A3, c3, gs, A4, c4, im⟩ 1048576) := Lib.hid (by
    have h1 := Hcost.out
    unfold costU at h1
    have hs := Int.natCast_nonneg (ssum gs gs.length)
    exact ⟨show xs.length ≤ 1048576 by omega, show ms.length ≤ 1048576 by omega, show gs.length ≤ 1048576 by omega, fun k hk => show (gs.getD k sgZ).cs.length ≤ 1048576 by have := ssum_one (show k < gs.length from hk); omega, show im.length ≤ 1048576 by omega⟩)
  replace HTo := Lib.hid (fun (w' : World) (hx : Nx w w') => HTo.out w' hx HN.out)
  have HSS : Hid (ssum gs gs.length ≤ 1048576) := Lib.hid (by have h1 := Hcost.out; unfold costU at h1; omega)
  clear hle Hcost HC
  obtain ⟨⟨ys, cd⟩, Hr⟩ : ∃ r, Hid (rtR ⟨g, b, p, t, A, c, xs, A2, c2, ms, A3, c3, gs, A4, c4, im⟩ = r) := ⟨_, rfl⟩
  have HB := Lib.hid (rtR_n ⟨g, b, p, t, A, c, xs, A2, c2, ms, A3, c3, gs, A4, c4, im⟩ HN.out)
  rw [Hr.out] at HB
  have hy : ys.length ≤ 1048576 := HB.out
  obtain ⟨y0, y1, y2, y3, y4, y5, y6, y7⟩ := b1.e8
  go_wp2_with fail
  clear y0 y1 y2 y3 y4 y5 y6 y7 hd
  refine (HTo.out _ hx1).mono ?_
  rintro e w2 ⟨V5, rfl, hs5, ho5, hk⟩
  obtain ⟨g5, b5, p5, t5, A5, c5, xs5, A25, c25, ms5, A35, c35, gs5, A45, c45, im5⟩ := V5
  obtain ⟨e1, e2, e3, e4, e5, e6, e7, e8⟩ := hs5
  simp only [Vl.v, Vl.cells] at *
  replace e1 := e1.symm
  replace e2 := e2.symm
  replace e3 := e3.symm
  replace e4 := e4.symm
  replace e5 := e5.symm
  replace e6 := e6.symm
  replace e8 := e8.symm
  subst e1 e2 e3 e4 e5 e6 e8
  have hS5 : VlS ⟨g, b, p, t, A, c, xs, A2, c2, ms, A3, c3, gs, A4, c4, im⟩ ⟨g, b, p, t, A5, c5, xs, A25, c25, ms, A35, c35, gs5, A45, c45, im⟩ := ⟨rfl, rfl, rfl, rfl, rfl, rfl, e7, rfl⟩
  have hX := hx1.trans hk
  have bD := b1.nx hk
  have z1 := hk.size
  have HT := Lib.hid (rtR_s hS5)
  have hsp := specRetainedOf_c ⟨g, b, p, t, A5, c5, xs, A25, c25, ms, A35, c35, gs5, A45, c45, im⟩ w2.heap.size w2 ho5.vlt (Nat.le_refl _) (hS5.n HN.out) ho5.cap Hm.out
  rw [HT.out, Hr.out] at hsp
  have HSP := Lib.hid hsp
  have zz := b1.lt
  clear HT hsp b1 hx1 hk e7
  go_wp2_with fail
  refine HSP.out.mono ?_
  rintro e w3 ⟨A0, c0, rfl, hS0, hk⟩
  replace hS0 := hS0.sr
  have zhk := hk.size; replace bD := bD.nx hk; replace hX := hX.trans hk
  clear ho5 hS5 HSP hk
  obtain ⟨y0, y1, y2, y3, y4, y5, y6, y7⟩ := bD.e8
  go_wp2_with fail
  clear y0 y1 y2 y3 y4 y5 y6 y7
  refine (HTo.out _ hX).mono ?_
  rintro e w4 ⟨V6, rfl, hs6, ho6, hk⟩
  obtain ⟨g6, b6, p6, t6, A6, c6, xs6, A26, c26, ms6, A36, c36, gs6, A46, c46, im6⟩ := V6
  obtain ⟨e1, e2, e3, e4, e5, e6, e7, e8⟩ := hs6
  simp only [Vl.v, Vl.cells] at *
  replace e1 := e1.symm
  replace e2 := e2.symm
  replace e3 := e3.symm
  replace e4 := e4.symm
  replace e5 := e5.symm
  replace e6 := e6.symm
  replace e8 := e8.symm
  subst e1 e2 e3 e4 e5 e6 e8
  have hS6 : VlS ⟨g, b, p, t, A, c, xs, A2, c2, ms, A3, c3, gs, A4, c4, im⟩ ⟨g, b, p, t, A6, c6, xs, A26, c26, ms, A36, c36, gs6, A46, c46, im⟩ := ⟨rfl, rfl, rfl, rfl, rfl, rfl, e7, rfl⟩
  have zk4 := hk.size; replace bD := bD.nx hk; replace hS0 := hS0.nx hk; replace hX := hX.trans hk
  clear hk e7
  have bx := Box.new w4 36 #[.int .i64 g, .int .i64 b, .int .i64 p, .int .i64 t, .slice A6 xs.length c6, .slice A26 ms.length c26, .slice A36 gs6.length c36, .slice A46 im.length c46]
  have hka := (Nx.refl w4).alloc (.cells #[.int .i64 g, .int .i64 b, .int .i64 p, .int .i64 t, .slice A6 xs.length c6, .slice A26 ms.length c26, .slice A36 gs6.length c36, .slice A46 im.length c46] 36)
  have zW : w4.heap.size < (w4.alloc (.cells #[.int .i64 g, .int .i64 b, .int .i64 p, .int .i64 t, .slice A6 xs.length c6, .slice A26 ms.length c26, .slice A36 gs6.length c36, .slice A46 im.length c46] 36)).heap.size := by simp
  have hY := hka
  have zhka := hka.size; replace bD := bD.nx hka; replace hS0 := hS0.nx hka; replace hX := hX.trans hka
  obtain ⟨y0, y1, y2, y3, y4, y5, y6, y7⟩ := bx.e8
  go_wp2_with fail
  clear y0 y1 y2 y3 y4 y5 y6 y7
  clear hka
  generalize w4.alloc (.cells #[.int .i64 g, .int .i64 b, .int .i64 p, .int .i64 t, .slice A6 xs.length c6, .slice A26 ms.length c26, .slice A36 gs6.length c36, .slice A46 im.length c46] 36) = W4 at *
  have HT := Lib.hid (rtR_s hS6)
  have hip := implRetainedOf_c ⟨g, b, p, t, A6, c6, xs, A26, c26, ms, A36, c36, gs6, A46, c46, im⟩ W4.heap.size W4 (ho6.nx hY).vlt (Nat.le_refl _) (hS6.n HN.out) ho6.cap ho6.cap3 Hm.out
  rw [HT.out, Hr.out] at hip
  clear HT
  refine hip.mono ?_
  rintro e w5 ⟨A8, c8, rfl, hS8, hk⟩
  replace hS8 := hS8.sr
  replace hY := hY.trans hk
  have zk5 := hk.size; replace bD := bD.nx hk; replace hS0 := hS0.nx hk; replace bx := bx.nx hk; replace hX := hX.trans hk
  clear hk hip
  go_wp2_with fail
  refine (eqIntS_c A8 A0 c8 c0 _ ys _ hS8.sl.row hS0.sl.row (Nat.le_refl _) hy).mono ?_
  rintro e w7 ⟨rfl, hk⟩
  replace hY := hY.trans hk
  have zk7 := hk.size; replace bD := bD.nx hk; replace hS0 := hS0.nx hk; replace bx := bx.nx hk; replace hS8 := hS8.nx hk; replace hX := hX.trans hk
  clear hk
  have ho7 := ho6.nx hY
  have hcc : (cd != cd) = false := by simp
  go_wp2_with fail
  refine wp_region_plan (.t 0 (.t 1 (.c 2 (.c 3 (.t 4 .e))))) (fun w' => (w'.cell? ⟨w4.heap.size, 0, none⟩ = some (.int .i64 g) ∧ w'.cell? ⟨w4.heap.size, 1, none⟩ = some (.int .i64 b) ∧ w'.cell? ⟨w4.heap.size, 2, none⟩ = some (.int .i64 p) ∧ w'.cell? ⟨w4.heap.size, 3, none⟩ = some (.int .i64 t) ∧ w'.cell? ⟨w4.heap.size, 4, none⟩ = some (.slice A6 xs.length c6) ∧ w'.cell? ⟨w4.heap.size, 5, none⟩ = some (.slice A26 ms.length c26) ∧ w'.cell? ⟨w4.heap.size, 6, none⟩ = some (.slice A36 gs6.length c36) ∧ w'.cell? ⟨w4.heap.size, 7, none⟩ = some (.slice A46 im.length c46)) ∧ w'.cell? ⟨w.heap.size, 0, none⟩ = some (.int .i64 g) ∧ w'.cell? ⟨w.heap.size, 1, none⟩ = some (.int .i64 b) ∧ w'.cell? ⟨w.heap.size, 2, none⟩ = some (.int .i64 p) ∧ w'.cell? ⟨w.heap.size, 3, none⟩ = some (.int .i64 t) ∧ w'.cell? ⟨w.heap.size, 4, none⟩ = some (.slice A xs.length c) ∧ w'.cell? ⟨w.heap.size, 5, none⟩ = some (.slice A2 ms.length c2) ∧ w'.cell? ⟨w.heap.size, 6, none⟩ = some (.slice A3 gs.length c3) ∧ w'.cell? ⟨w.heap.size, 7, none⟩ = some (.slice A4 im.length c4)) (by kernel_rfl) (by kernel_rfl) rfl (by kernel_rfl) (fun _ _ d _ _ h => by cases d <;> exact h) (by exact ⟨(bx.nx (Nx.refl _).drew).e8, (bD.nx (Nx.refl _).drew).e8⟩) ?_
  simp only [psOf, List.getD_cons_zero, List.getD_cons_succ]
  repeat (first | (refine HP.take (v := ?_) (by rfl) ?_ ?_; rotate_left; (· (intro w hSw; (try dsimp only at hSw); go_simp; try with_reducible rfl)); (try simp only [Act.put, List.setIfInBounds_toArray, List.set_cons_zero, List.set_cons_succ])) | (refine HP.skip (by rfl) ?_; (try simp only [Act.put, List.setIfInBounds_toArray, List.set_cons_zero, List.set_cons_succ])))
  refine HP.call ?_
  refine CallStep.mk (by rfl) (fun K hK => ?_)
  go_simp
  refine (HTo.out _ hX.drew).mono ?_; rintro e w8 ⟨V9, rfl, hs9, ho9, hk⟩; obtain ⟨g9, b9, p9, t9, A9, c9, xs9, A29, c29, ms9, A39, c39, gs9, A49, c49, im9⟩ := V9; obtain ⟨e1, e2, e3, e4, e5, e6, e7, e8⟩ := hs9; simp only [Vl.v, Vl.cells] at *; replace e1 := e1.symm; replace e2 := e2.symm; replace e3 := e3.symm; replace e4 := e4.symm; replace e5 := e5.symm; replace e6 := e6.symm; replace e8 := e8.symm; subst e1 e2 e3 e4 e5 e6 e8; have bx8 := (bx.nx (Nx.refl _).drew).nx hk; have bl8 := (bD.nx (Nx.refl _).drew).nx hk; have hx8 := hX.drew.trans hk; have ho8 := (ho7.nx (Nx.refl _).drew).nx hk; have zk8 := hk.size; have hkA := hk; clear hk
  go_wp2_with fail
  refine hK.out _ _ (by exact ⟨bx8.e8, bl8.e8⟩) ?_
  clear hK K
  try simp only [Act.put, List.setIfInBounds_toArray, List.set_cons_zero, List.set_cons_succ]
  refine HP.call ?_
  refine CallStep.mk (by rfl) (fun K hK => ?_)
  go_simp
  refine (eqVault_c ⟨g, b, p, t, A6, c6, xs, A26, c26, ms, A36, c36, gs6, A46, c46, im⟩ ⟨g, b, p, t, A9, c9, xs, A29, c29, ms, A39, c39, gs9, A49, c49, im⟩ w8.heap.size w8 (ho8.vlt) (ho9.vlt) (hS6.symm.trans ⟨rfl, rfl, rfl, rfl, rfl, rfl, e7, rfl⟩) (Nat.le_refl _) (hS6.n HN.out)).mono ?_; rintro e w9 ⟨rfl, hk⟩; have bx9 := bx8.nx hk; have bl9 := bl8.nx hk; have hx9 := hx8.trans hk; have ho9 := ho8.nx hk; replace hS0 := (((hS0.nx (Nx.refl _).drew).nx hkA)).nx hk; replace hS8 := (((hS8.nx (Nx.refl _).drew).nx hkA)).nx hk; replace hY := ((hY.drew).trans hkA).trans hk; have zk9 := hk.size; clear hk hkA
  go_wp2_with fail
  refine hK.out _ _ (by exact ⟨bx9.e8, bl9.e8⟩) ?_
  clear hK K
  try simp only [Act.put, List.setIfInBounds_toArray, List.set_cons_zero, List.set_cons_succ]
  repeat (first | (refine HP.take (v := ?_) (by rfl) ?_ ?_; rotate_left; (· (intro w hSw; (try dsimp only at hSw); go_simp; try with_reducible rfl)); (try simp only [Act.put, List.setIfInBounds_toArray, List.set_cons_zero, List.set_cons_succ])) | (refine HP.skip (by rfl) ?_; (try simp only [Act.put, List.setIfInBounds_toArray, List.set_cons_zero, List.set_cons_succ])))
  refine HP.done ?_
  have zd : w7.drew.heap.size = w7.heap.size := rfl
  clear bD bx hX ho7 ho8 ho9 e7 hcc bx8 bl8 hx8
  have bD := bl9
  have bx := bx9
  have hX := hx9
  clear bl9 bx9 hx9
  obtain ⟨y0, y1, y2, y3, y4, y5, y6, y7⟩ := bx.e8
  go_wp2_with fail
  clear y0 y1 y2 y3 y4 y5 y6 y7
  refine (markVault_c ⟨g, b, p, t, A6, c6, xs, A26, c26, ms, A36, c36, gs6, A46, c46, im⟩ w3.heap.size w4.heap.size w9 w4 ho6 rfl hY (hS6.n HN.out) (by rw [hS6.ss]; exact HSS.out)).mono ?_
  rintro e wc ⟨⟨q1, rfl⟩, hr1⟩
  have zr1 := hr1.size; replace bD := bD.rg hr1 (by omega); replace hS0 := hS0.rg hr1 (by omega); replace bx := bx.rg hr1 (by omega); replace hS8 := hS8.rg hr1 (by omega); replace hX := Rg.nx_of hX hr1 (by omega)
  clear hr1 hY ho6
  have hd2 : decide ((q1 : Int) < 0) = false := decide_eq_false (by omega)
  have hcc : (cd != cd) = false := by simp
  go_wp2_with fail
  refine (eqIntS_c A8 A0 c8 c0 _ ys _ hS8.sl.row hS0.sl.row (Nat.le_refl _) hy).mono ?_
  rintro e we ⟨rfl, hk⟩
  have zke := hk.size; replace bD := bD.nx hk; replace hS0 := hS0.nx hk; replace bx := bx.nx hk; replace hS8 := hS8.nx hk; replace hX := hX.trans hk
  clear hk
  go_wp2_with fail
  refine (markIntS_c A8 ys.length c8 1 _ _ _ _ hS8 hy (by omega)).mono ?_
  rintro e wf ⟨rfl, hS8b, hr3⟩
  have zr3 := hr3.size; replace bD := bD.rg hr3 (by omega); replace hS0 := hS0.rg hr3 (by omega); replace bx := bx.rg hr3 (by omega); replace hX := Rg.nx_of hX hr3 (by omega)
  clear hS8 hr3
  obtain ⟨q3, Hq3⟩ : ∃ q, Hid (1 + ys.length = q) := ⟨_, rfl⟩
  have hd3 : decide ((q3 : Int) < 0) = false := decide_eq_false (by omega)
  have hqq : ((q3 : Int) != (q3 : Int)) = false := by simp
  rw [Hq3.out]
  go_wp2_with fail
  refine (heldIntS_c A8 ys.length c8 1 _ _ hS8b.sl.row hy (by omega)).mono ?_
  rintro e w' ⟨rfl, rfl⟩
  rw [Hq3.out]
  obtain ⟨y0, y1, y2, y3, y4, y5, y6, y7⟩ := bD.e8
  go_wp2_with fail
  clear y0 y1 y2 y3 y4 y5 y6 y7
  refine (HTo.out _ hX).mono ?_
  rintro e u2 ⟨V7, rfl, hs7, ho7, hk⟩
  obtain ⟨g7, b7, p7, t7, A7, c7, xs7, A27, c27, ms7, A37, c37, gs7, A47, c47, im7⟩ := V7
  obtain ⟨e1, e2, e3, e4, e5, e6, e7, e8⟩ := hs7
  simp only [Vl.v, Vl.cells] at *
  replace e1 := e1.symm
  replace e2 := e2.symm
  replace e3 := e3.symm
  replace e4 := e4.symm
  replace e5 := e5.symm
  replace e6 := e6.symm
  replace e8 := e8.symm
  subst e1 e2 e3 e4 e5 e6 e8
  have hS7 : VlS ⟨g, b, p, t, A, c, xs, A2, c2, ms, A3, c3, gs, A4, c4, im⟩ ⟨g, b, p, t, A7, c7, xs, A27, c27, ms, A37, c37, gs7, A47, c47, im⟩ := ⟨rfl, rfl, rfl, rfl, rfl, rfl, e7, rfl⟩
  have zku := hk.size; replace bD := bD.nx hk; replace hS0 := hS0.nx hk; replace hS8b := hS8b.nx hk; replace hX := hX.trans hk
  clear hk e7
  have HT := Lib.hid (rtR_s hS7)
  have hip := implRetainedOf_c ⟨g, b, p, t, A7, c7, xs, A27, c27, ms, A37, c37, gs7, A47, c47, im⟩ u2.heap.size u2 ho7.vlt (Nat.le_refl _) (hS7.n HN.out) ho7.cap ho7.cap3 Hm.out
  rw [HT.out, Hr.out] at hip
  have HIP := Lib.hid hip
  clear HT hip ho7
  go_wp2_with fail
  refine HIP.out.mono ?_
  rintro e u3 ⟨A15, c15, rfl, hS15, hk⟩
  have zkv := hk.size; replace bD := bD.nx hk; replace hS0 := hS0.nx hk; replace hS8b := hS8b.nx hk; replace hX := hX.trans hk
  clear hk HIP hS7
  go_wp2_with fail
  refine (eqIntS_c A15 A0 c15 c0 _ ys _ hS15.row hS0.sl.row (Nat.le_refl _) hy).mono ?_
  rintro e wg ⟨rfl, hk⟩
  have zkw := hk.size; replace bD := bD.nx hk; replace hS0 := hS0.nx hk; replace hS8b := hS8b.nx hk; replace hX := hX.trans hk
  clear hk hS15
  go_wp2_with fail
  refine (heldIntS_c A8 ys.length c8 1 _ _ hS8b.sl.row hy (by omega)).mono ?_
  rintro e w' ⟨rfl, rfl⟩
  rw [Hq3.out]
  go_wp2
  go_ret
  exact ⟨rfl, hX⟩
end Go.Proofs.Ytihpadelfpogmaa
/- The model's content at a position. Conditions: what is read can be read, and holds at most 1048576 elements of a kind. -/
namespace Go.Proofs.Ytihpadelfpogmaa
set_option linter.unusedVariables false
set_option maxRecDepth 100000
open Go.RowKit

/-- What a function leaves that answers a content which is there. -/
def RetCt (w : World) (ys : List Int) (e : Ending) (w' : World) : Prop := ∃ (A : Option Addr) (c : Nat), e = .returned (.slice A 8 c) ∧ Ins w' w'.heap.size A ys ∧ Nx w w'
set_option maxHeartbeats 3000000 in
theorem l05Content_c (V : Vl) (x : Int) (B : Nat) (w : World) (h : Vlt w B V) (hB : B ≤ w.heap.size) (hn : VlN V 1048576) (hy : VltY V.g V.b V.p V.t V.xs V.ms V.gs V.im) (hr : isRet V.b V.gs x = true) :
    Calls Try.prog 85 #[V.v, .int .i64 x] w (RetCt w (cntV V.b V.p V.t V.gs V.im x)) := by
  have hAN := l05Anchor_c V B
  obtain ⟨g, b, p, t, A, c, xs, A2, c2, ms, A3, c3, gs, A4, c4, im⟩ := V
  obtain ⟨h, h2, h3, h4⟩ := h
  obtain ⟨hn, hn2, hn3, hn4, hn5⟩ := hn
  simp only [Vl.v, Vl.cells] at *
  have HLd := Lib.hid (chainB_lead hy.chain)
  have hah := hy.ahd
  have HAn := Lib.hid (fun (w' : World) (hx : Nx w w') => hAN w' ⟨h.below hx hB, h2.below hx hB, h3.below hx hB, h4.below hx hB⟩ (Nat.le_trans hB hx.size) ⟨hn, hn2, hn3, hn4, hn5⟩ HLd.out hy.l8 hah.1 hah.2)
  have HSL := Lib.hid (stp_le (t := t) im HLd.out hy.places)
  have HSg := Lib.hid (fun (k : Nat) (hk : k < gs.length) (w' : World) (hx : Nx w w') => (h3.below hx hB).row.at4 hk)
  have HCh := Lib.hid (fun (k : Nat) (hk : k < gs.length) (w' : World) (hx : Nx w w') => (h3.chs k hk).below hx hB)
  have HAx := Lib.hid (ahd_at hr)
  have Hct : Hid (cntV b p t gs im x = bkK (fwK (stp b p t gs im).1 gs (stp b p t gs im).2 (ahd b gs x - (stp b p t gs im).2)) gs (stp b p t gs im).2 ((stp b p t gs im).2 - ahd b gs x)) := Lib.hid (by
    unfold cntV
    by_cases hle : (stp b p t gs im).2 ≤ ahd b gs x
    · rw [if_pos hle, show (stp b p t gs im).2 - ahd b gs x = 0 by omega]; rfl
    · rw [if_neg hle, show ahd b gs x - (stp b p t gs im).2 = 0 by omega]; rfl)
  have H8 := Lib.hid hy.l8
  have hn9 := hy.n4
  obtain ⟨n, Hn⟩ : ∃ n, Hid (gs.length = n) := ⟨_, rfl⟩
  rw [Hn.out] at HSg HCh HAx hn9
  rw [Hn.out, H8.out] at HAn
  rw [Hct.out]
  obtain ⟨c0, Hc0⟩ : ∃ c0, Hid ((stp b p t gs im).1 = c0) := ⟨_, rfl⟩
  obtain ⟨a, Hat⟩ : ∃ a, Hid ((stp b p t gs im).2 = a) := ⟨_, rfl⟩
  obtain ⟨e9, He⟩ : ∃ e9, Hid (ahd b gs x = e9) := ⟨_, rfl⟩
  have HL0 : Hid (c0.length = 8) := Lib.hid (by rw [← Hc0.out, stp_len]; exact H8.out)
  rw [Hc0.out, Hat.out] at HAn
  rw [He.out] at HAx
  rw [Hc0.out, Hat.out, He.out, Hn.out, H8.out]
  have hat : a ≤ n := by have := HSL.out.1; rw [Hat.out, Hn.out] at this; exact this
  have hen : e9 ≤ n := HAx.out.1
  obtain ⟨N, HNv⟩ : ∃ N, Hid (atK b gs a = N) := ⟨_, rfl⟩
  rw [HNv.out] at HAn
  have HPos := Lib.hid (fun (j k : Nat) (hj : j < k) (hk : k ≤ n) => HLd.out.lt (j := j) k hj (by rw [Hn.out]; exact hk))
  have HPle := Lib.hid (fun (j k : Nat) (hj : j ≤ k) (hk : k ≤ n) => HLd.out.le (j := j) (k := k) hj (by rw [Hn.out]; exact hk))
  have HFr := Lib.hid (fun k (hk : k < n) => HLd.out.from_ k (by rw [Hn.out]; exact hk))
  have HOKs := Lib.hid (fun k (hk : k < n) => HLd.out.ok k (by rw [Hn.out]; exact hk))
  have HXv := Lib.hid HAx.out.2
  have b0 := Box.new w 36 #[.int .i64 g, .int .i64 b, .int .i64 p, .int .i64 t, .slice A xs.length c, .slice A2 ms.length c2, .slice A3 n c3, .slice A4 8 c4]
  have hx0 := (Nx.refl w).alloc (.cells #[.int .i64 g, .int .i64 b, .int .i64 p, .int .i64 t, .slice A xs.length c, .slice A2 ms.length c2, .slice A3 n c3, .slice A4 8 c4] 36)
  clear hAN h h2 h3 h4 hn hn2 hn3 hn4 hn5 hy hr hah
  go_enter Try.func85, Try.ntmps85
  go_wp2_with fail
  generalize w.alloc (.cells #[.int .i64 g, .int .i64 b, .int .i64 p, .int .i64 t, .slice A xs.length c, .slice A2 ms.length c2, .slice A3 n c3, .slice A4 8 c4] 36) = W at *
  refine (HAn.out _ hx0).mono ?_
  rintro e w1 ⟨Ac, cc, rfl, hI, hk⟩
  have b1 := b0.nx hk
  have hx := hx0.trans hk
  clear b0 hk hx0
  go_wp2_with fail
  go_loopw [5, 7] (fun v i wr => ∃ k : Nat, k ≤ n ∧ i = .int .i64 k ∧ (∃ Ac cc, v = .slice Ac 8 cc ∧ Ins wr wr.heap.size Ac (fwK c0 gs a (min k e9 - a))) ∧ Nx w wr ∧ Box wr w.heap.size 36 #[.int .i64 g, .int .i64 b, .int .i64 p, .int .i64 t, .slice A xs.length c, .slice A2 ms.length c2, .slice A3 n c3, .slice A4 8 c4]) (fun _ i _ => n - (intOf i).toNat)
  case atStart => exact ⟨0, Nat.zero_le _, rfl, ⟨_, _, rfl, by rw [show min 0 e9 - a = 0 by omega]; exact hI⟩, hx, b1⟩
  case round =>
  obtain ⟨k, hk, rfl, ⟨Ac, cc, rfl, hI⟩, hnx, hb⟩ := hrel
  clear hx b1
  obtain ⟨y0, y1, y2, y3, y4, y5, y6, y7⟩ := hb.e8
  by_cases hlt : k < n
  · obtain ⟨bb, off, rfl, hbb, p0, p1, p2, p3⟩ := HSg.out k hlt _ hnx
    have hbw : bb < wr.heap.size := Nat.lt_of_lt_of_le hbb (Nat.le_trans hB hnx.size)
    have hch := HCh.out k hlt wr hnx
    have hF := HFr.out k hlt
    have hT : (gs.getD k sgZ).t = atK b gs (k + 1) := rfl
    have HOKc := Lib.hid (HOKs.out k hlt)
    have hkc : (k : Int) < (n : Int) := by omega
    have hk0 : (0 : Int) ≤ (k : Int) := by omega
    by_cases hka : a ≤ k
    case neg =>
      obtain ⟨s, Hs⟩ : ∃ s, Hid (gs.getD k sgZ = s) := ⟨_, rfl⟩
      rw [Hs.out] at p0 p1 p2 p3 hF
      obtain ⟨f, t9, m, Am, cm, cs⟩ := s
      simp only at p0 p1 p2 p3 hF
      have hdn : decide (N ≤ f) = false := decide_eq_false (by have := HPos.out k a (by omega) hat; rw [HNv.out] at this; omega)
      have HKA := Lib.hid hka
      have HI := Lib.hid (show Ins wr wr.heap.size Ac (fwK c0 gs a (min (k + 1) e9 - a)) by rw [show min (k + 1) e9 - a = min k e9 - a by omega]; exact hI)
      clear hka hF hT hI
      go_wp2
      go_roundw
      case rel => exact ⟨k + 1, by omega, by go_num, ⟨_, _, rfl, HI.out⟩, hnx, hb⟩
      case measure => (simp [intOf] <;> omega)
    by_cases hke : k + 1 ≤ e9
    case neg =>
      have hTx := HPos.out e9 (k + 1) (by omega) (by omega)
      rw [HXv.out, ← hT] at hTx
      obtain ⟨s, Hs⟩ : ∃ s, Hid (gs.getD k sgZ = s) := ⟨_, rfl⟩
      rw [Hs.out] at p0 p1 p2 p3 hF hTx
      obtain ⟨f, t9, m, Am, cm, cs⟩ := s
      simp only at p0 p1 p2 p3 hF hTx
      have hdn : decide (N ≤ f) = true := decide_eq_true (by have := HPle.out a k hka (by omega); rw [HNv.out] at this; omega)
      have hdt : decide (t9 ≤ x) = false := decide_eq_false (by omega)
      have HI := Lib.hid (show Ins wr wr.heap.size Ac (fwK c0 gs a (min (k + 1) e9 - a)) by rw [show min (k + 1) e9 - a = min k e9 - a by omega]; exact hI)
      clear hka hF hT hI hTx hke
      go_wp2
      go_roundw
      case rel => exact ⟨k + 1, by omega, by go_num, ⟨_, _, rfl, HI.out⟩, hnx, hb⟩
      case measure => (simp [intOf] <;> omega)
    have hTx := HPle.out (k + 1) e9 hke hen
    rw [HXv.out, ← hT] at hTx
    have Hmk : Hid (min k e9 - a = k - a) := Lib.hid (by omega)
    have Hmk1 : Hid (min (k + 1) e9 - a = (k - a) + 1) := Lib.hid (by omega)
    obtain ⟨j, Hj⟩ : ∃ j, Hid (k - a = j) := ⟨_, rfl⟩
    have Hkj : Hid (a + j = k) := Lib.hid (by have := Hj.out; omega)
    rw [Hj.out] at Hmk Hmk1
    rw [Hmk.out] at hI
    have HLj : Hid ((fwK c0 gs a j).length = 8) := Lib.hid (by rw [fwK_len]; exact HL0.out)
    have Hsuc : Hid (fwK c0 gs a (j + 1) = app pN (fwK c0 gs a j) (gs.getD k sgZ).cs) := Lib.hid (by rw [← Hkj.out]; rfl)
    obtain ⟨cj, Hcj⟩ : ∃ cj, Hid (fwK c0 gs a j = cj) := ⟨_, rfl⟩
    rw [Hcj.out] at hI Hsuc HLj
    obtain ⟨s, Hs⟩ : ∃ s, Hid (gs.getD k sgZ = s) := ⟨_, rfl⟩
    rw [Hs.out] at p0 p1 p2 p3 hF hTx Hsuc hch HOKc
    obtain ⟨f, t9, m, Am, cm, cs⟩ := s
    simp only at p0 p1 p2 p3 hF hTx hch HOKc Hsuc
    have hdn : decide (N ≤ f) = true := decide_eq_true (by have := HPle.out a k hka (by omega); rw [HNv.out] at this; omega)
    have hdt : decide (t9 ≤ x) = true := decide_eq_true hTx
    have hchw := hch.more (Nat.le_trans hB hnx.size)
    clear hF hT hTx hka hke hch
    go_wp2_with fail
    have hcl := l03Forward_c Ac cc wr.heap.size cj f t9 m Am cm cs wr hI hchw (Nat.le_refl _) HOKc.out HLj.out
    rw [HLj.out] at hcl
    refine hcl.mono ?_
    rintro e w10 ⟨A9, c9, rfl, hS, hk10⟩
    have hb10 := hb.nx hk10
    have hnx10 := hnx.trans hk10
    have hIn := hS.row
    have HLn : Hid ((app pN cj cs).length = 8) := Lib.hid (by rw [app_len]; exact HLj.out)
    rw [HLn.out]
    have HIn := Lib.hid (show Ins w10 w10.heap.size A9 (fwK c0 gs a (min (k + 1) e9 - a)) by rw [Hmk1.out, Hsuc.out]; exact hIn)
    clear y0 y1 y2 y3 y4 y5 y6 y7 hcl hS hIn p0 p1 p2 p3 hI hb
    go_wp2
    go_roundw
    case rel => exact ⟨k + 1, by omega, by go_num, ⟨_, _, rfl, HIn.out⟩, hnx10, hb10⟩
    case measure => (simp [intOf] <;> omega)
  obtain rfl : n = k := by omega
  rw [show min n e9 - a = e9 - a by omega] at hI
  obtain ⟨d0, Hd0⟩ : ∃ d0, Hid (fwK c0 gs a (e9 - a) = d0) := ⟨_, rfl⟩
  have HLd0 : Hid (d0.length = 8) := Lib.hid (by rw [← Hd0.out, fwK_len]; exact HL0.out)
  rw [Hd0.out] at hI
  have hx := hnx
  have b7 := hb
  have hwn : IntKind.i64.wrap ((n : Int) - 1) = (n : Int) - 1 := IntWalk.i64_in _ (by omega)
  clear hnx hb hlt hk
  go_wp2_with fail
  clear y0 y1 y2 y3 y4 y5 y6 y7
  go_loopw [5, 8] (fun v i wr => ∃ k : Nat, k ≤ n ∧ i = .int .i64 ((k : Int) - 1) ∧ (∃ Ac cc, v = .slice Ac 8 cc ∧ Ins wr wr.heap.size Ac (bkK d0 gs a (a - max k e9))) ∧ Nx w wr ∧ Box wr w.heap.size 36 #[.int .i64 g, .int .i64 b, .int .i64 p, .int .i64 t, .slice A xs.length c, .slice A2 ms.length c2, .slice A3 n c3, .slice A4 8 c4]) (fun _ i _ => (intOf i + 1).toNat)
  case atStart => exact ⟨n, Nat.le_refl _, rfl, ⟨_, _, rfl, by rw [show a - max n e9 = 0 by omega]; exact hI⟩, hx, b7⟩
  case round =>
  obtain ⟨k, hk, rfl, ⟨Ac, cc, rfl, hI⟩, hnx, hb⟩ := hrel
  clear hx b7 hwn
  obtain ⟨y0, y1, y2, y3, y4, y5, y6, y7⟩ := hb.e8
  by_cases hlt : k = 0
  case pos =>
    have HI := Lib.hid (show Ins wr wr.heap.size Ac (bkK (fwK c0 gs a (e9 - a)) gs a (a - e9)) by rw [Hd0.out, show a - e9 = a - max k e9 by omega]; exact hI)
    rw [show ((k : Int) - 1) = -1 by omega]
    clear hlt hI
    go_wp2
    go_ret
    exact ⟨Ac, cc, rfl, HI.out, hnx⟩
  obtain ⟨i, rfl⟩ : ∃ i, k = i + 1 := ⟨k - 1, by omega⟩
  rw [show ((i + 1 : Nat) : Int) - 1 = (i : Int) by omega]
  have hin : i < n := by omega
  obtain ⟨bb, off, rfl, hbb, p0, p1, p2, p3⟩ := HSg.out i hin _ hnx
  have hbw : bb < wr.heap.size := Nat.lt_of_lt_of_le hbb (Nat.le_trans hB hnx.size)
  have hch := HCh.out i hin wr hnx
  have hF := HFr.out i hin
  have hT : (gs.getD i sgZ).t = atK b gs (i + 1) := rfl
  have HOKc := Lib.hid (HOKs.out i hin)
  have hkc : (i : Int) < (n : Int) := by omega
  have hk0 : (0 : Int) ≤ (i : Int) := by omega
  have hwi : IntKind.i64.wrap ((i : Int) - 1) = (i : Int) - 1 := IntWalk.i64_in _ (by omega)
  by_cases hka : a ≤ i
  case pos =>
    have hTx := HPos.out a (i + 1) (by omega) hin
    rw [HNv.out, ← hT] at hTx
    obtain ⟨s, Hs⟩ : ∃ s, Hid (gs.getD i sgZ = s) := ⟨_, rfl⟩
    rw [Hs.out] at p0 p1 p2 p3 hTx
    obtain ⟨f, t9, m, Am, cm, cs⟩ := s
    simp only at p0 p1 p2 p3 hTx
    have hdn : decide (t9 ≤ N) = false := decide_eq_false (by omega)
    have HI := Lib.hid (show Ins wr wr.heap.size Ac (bkK d0 gs a (a - max i e9)) by rw [show a - max i e9 = a - max (i + 1) e9 by omega]; exact hI)
    clear hka hF hT hI hlt hTx
    go_wp2
    go_roundw
    case rel => exact ⟨i, by omega, rfl, ⟨_, _, rfl, HI.out⟩, hnx, hb⟩
    case measure => (simp [intOf] <;> omega)
  by_cases hke : e9 ≤ i
  case neg =>
    have hTx := HPle.out (i + 1) a (by omega) hat
    rw [HNv.out, ← hT] at hTx
    have hFx := HPos.out i e9 (by omega) hen
    rw [HXv.out, ← hF] at hFx
    obtain ⟨s, Hs⟩ : ∃ s, Hid (gs.getD i sgZ = s) := ⟨_, rfl⟩
    rw [Hs.out] at p0 p1 p2 p3 hTx hFx
    obtain ⟨f, t9, m, Am, cm, cs⟩ := s
    simp only at p0 p1 p2 p3 hTx hFx
    have hdn : decide (t9 ≤ N) = true := decide_eq_true hTx
    have hdf : decide (x ≤ f) = false := decide_eq_false (by omega)
    have HI := Lib.hid (show Ins wr wr.heap.size Ac (bkK d0 gs a (a - max i e9)) by rw [show a - max i e9 = a - max (i + 1) e9 by omega]; exact hI)
    clear hka hF hT hI hlt hTx hFx hke
    go_wp2
    go_roundw
    case rel => exact ⟨i, by omega, rfl, ⟨_, _, rfl, HI.out⟩, hnx, hb⟩
    case measure => (simp [intOf] <;> omega)
  have hTx := HPle.out (i + 1) a (by omega) hat
  rw [HNv.out, ← hT] at hTx
  have hFx := HPle.out e9 i hke (by omega)
  rw [HXv.out, ← hF] at hFx
  obtain ⟨j, Hj⟩ : ∃ j, Hid (a - (i + 1) = j) := ⟨_, rfl⟩
  have Hkj : Hid (i = a - 1 - j) := Lib.hid (by have := Hj.out; omega)
  have Hm1 : Hid (a - max i e9 = j + 1) := Lib.hid (by have := Hj.out; omega)
  rw [show a - max (i + 1) e9 = j by have := Hj.out; omega] at hI
  have HLj : Hid ((bkK d0 gs a j).length = 8) := Lib.hid (by rw [bkK_len]; exact HLd0.out)
  have Hsuc : Hid (bkK d0 gs a (j + 1) = app pO (bkK d0 gs a j) (gs.getD i sgZ).cs) := Lib.hid (by rw [Hkj.out]; rfl)
  obtain ⟨cj, Hcj⟩ : ∃ cj, Hid (bkK d0 gs a j = cj) := ⟨_, rfl⟩
  rw [Hcj.out] at hI Hsuc HLj
  obtain ⟨s, Hs⟩ : ∃ s, Hid (gs.getD i sgZ = s) := ⟨_, rfl⟩
  rw [Hs.out] at p0 p1 p2 p3 hTx hFx Hsuc hch HOKc
  obtain ⟨f, t9, m, Am, cm, cs⟩ := s
  simp only at p0 p1 p2 p3 hTx hFx hch HOKc Hsuc
  have hdn : decide (t9 ≤ N) = true := decide_eq_true hTx
  have hdf : decide (x ≤ f) = true := decide_eq_true hFx
  have hchw := hch.more (Nat.le_trans hB hnx.size)
  have HKA := Lib.hid hka
  clear hF hT hTx hFx hka hke hch hlt
  go_wp2_with fail
  have hcl := l03Backward_c Ac cc wr.heap.size cj f t9 m Am cm cs wr hI hchw (Nat.le_refl _) HOKc.out HLj.out
  rw [HLj.out] at hcl
  refine hcl.mono ?_
  rintro e w10 ⟨A9, c9, rfl, hS, hk10⟩
  have hb10 := hb.nx hk10
  have hnx10 := hnx.trans hk10
  have hIn := hS.row
  have HLn : Hid ((app pO cj cs).length = 8) := Lib.hid (by rw [app_len]; exact HLj.out)
  rw [HLn.out]
  have HIn := Lib.hid (show Ins w10 w10.heap.size A9 (bkK d0 gs a (a - max i e9)) by rw [Hm1.out, Hsuc.out]; exact hIn)
  clear y0 y1 y2 y3 y4 y5 y6 y7 hcl hS hIn p0 p1 p2 p3 hI hb
  go_wp2
  go_roundw
  case rel => exact ⟨i, by omega, rfl, ⟨_, _, rfl, HIn.out⟩, hnx10, hb10⟩
  case measure => (simp [intOf] <;> omega)
end Go.Proofs.Ytihpadelfpogmaa
/- ContentAt, of the model. Conditions: what is read can be read, and holds at most 1048576 elements of a kind. -/
namespace Go.Proofs.Ytihpadelfpogmaa
set_option linter.unusedVariables false
set_option maxRecDepth 100000
open Go.RowKit

set_option maxHeartbeats 2000000 in
theorem specContentAt_c (V : Vl) (x : Int) (B : Nat) (w : World) (h : Vlt w B V) (hB : B ≤ w.heap.size) (hn : VlN V 1048576) (hc : V.xs.length ≤ V.c) (hm : AllM V.ms) :
    Calls Try.prog 29 #[V.v, .int .i64 x] w (RetIC w (ctR V x).1 (ctR V x).2) := by
  have hOK := specVaultOK_c V B
  have hIs := l05Is_c V x B
  have hCt := l05Content_c V x B
  cases hv : V.ok with
  | false =>
    have HT := Lib.hid (ctR_no (x := x) hv)
    rw [HT.out]
    have HOK := Lib.hid (fun (w' : World) (hx : Nx w w') => hOK w' (h.below hx hB) (Nat.le_trans hB hx.size) hn hc hm)
    rw [hv] at HOK
    clear hOK h hn hc hm hv HT hIs hCt
    obtain ⟨g, b, p, t, A, c, xs, A2, c2, ms, A3, c3, gs, A4, c4, im⟩ := V
    simp only [Vl.v, Vl.cells] at *
    have hx0 := (Nx.refl w).alloc (.cells #[.int .i64 g, .int .i64 b, .int .i64 p, .int .i64 t, .slice A xs.length c, .slice A2 ms.length c2, .slice A3 gs.length c3, .slice A4 im.length c4] 36)
    go_enter Try.func29, Try.ntmps29
    go_wp2_with fail
    generalize w.alloc (.cells #[.int .i64 g, .int .i64 b, .int .i64 p, .int .i64 t, .slice A xs.length c, .slice A2 ms.length c2, .slice A3 gs.length c3, .slice A4 im.length c4] 36) = W at *
    refine (HOK.out W hx0).mono ?_
    rintro e w1 ⟨rfl, hk⟩
    have hx := hx0.trans hk
    go_wp2
    go_ret2
    exact ⟨_, _, rfl, Sl.none_ _ _ _ _ _, hx.alloc _⟩
  | true =>
    have HY := Lib.hid (Vl.y hv)
    have HOK := Lib.hid (fun (w' : World) (hx : Nx w w') => hOK w' (h.below hx hB) (Nat.le_trans hB hx.size) hn hc hm)
    have HIs := Lib.hid (fun (w' : World) (hx : Nx w w') => hIs w' (h.below hx hB) (Nat.le_trans hB hx.size) hn HY.out.n4)
    have HCt := Lib.hid (fun (w' : World) (hx : Nx w w') hr => hCt w' (h.below hx hB) (Nat.le_trans hB hx.size) hn HY.out hr)
    have HLc := Lib.hid (show (cntV V.b V.p V.t V.gs V.im x).length = 8 by rw [cntV_len]; exact HY.out.l8)
    rw [hv] at HOK
    have HTn := Lib.hid (fun hr => ctR_none (x := x) hv hr)
    have HTy := Lib.hid (fun hr => ctR_yes (x := x) hv hr)
    obtain ⟨R, HRR⟩ : ∃ R, Hid (ctR V x = R) := ⟨_, rfl⟩
    rw [HRR.out] at HTn HTy ⊢
    clear HRR hOK h hn hc hm hv hIs hCt
    obtain ⟨g, b, p, t, A, c, xs, A2, c2, ms, A3, c3, gs, A4, c4, im⟩ := V
    simp only [Vl.v, Vl.cells] at *
    have b0 := Box.new w 36 #[.int .i64 g, .int .i64 b, .int .i64 p, .int .i64 t, .slice A xs.length c, .slice A2 ms.length c2, .slice A3 gs.length c3, .slice A4 im.length c4]
    have hx0 := (Nx.refl w).alloc (.cells #[.int .i64 g, .int .i64 b, .int .i64 p, .int .i64 t, .slice A xs.length c, .slice A2 ms.length c2, .slice A3 gs.length c3, .slice A4 im.length c4] 36)
    go_enter Try.func29, Try.ntmps29
    go_wp2_with fail
    generalize w.alloc (.cells #[.int .i64 g, .int .i64 b, .int .i64 p, .int .i64 t, .slice A xs.length c, .slice A2 ms.length c2, .slice A3 gs.length c3, .slice A4 im.length c4] 36) = W at *
    refine (HOK.out W hx0).mono ?_
    rintro e w1 ⟨rfl, hk⟩
    have hx := hx0.trans hk
    have b1 := b0.nx hk
    clear b0 hx0 hk
    obtain ⟨y0, y1, y2, y3, y4, y5, y6, y7⟩ := b1.e8
    go_wp2_with fail
    clear y0 y1 y2 y3 y4 y5 y6 y7
    refine (HIs.out _ hx).mono ?_
    rintro e w2 ⟨rfl, hk⟩
    have b2 := b1.nx hk
    replace hx := hx.trans hk
    clear b1 hk
    cases hr : isRet b gs x with
    | false =>
      have HR := Lib.hid (HTn.out hr)
      clear hr
      go_wp2
      go_ret2
      exact ⟨_, _, by rw [HR.out]; rfl, by rw [HR.out]; exact Sl.none_ _ _ _ _ _, hx.alloc _⟩
    | true =>
    have HR := Lib.hid (HTy.out hr)
    have HCt' := Lib.hid (fun (w' : World) (hx : Nx w w') => HCt.out w' hx hr)
    clear hr
    have b3 := b2.alloc (.cells #[] 3)
    have hxa := hx.alloc (.cells #[] 3)
    obtain ⟨y0, y1, y2, y3, y4, y5, y6, y7⟩ := b3.e8
    obtain ⟨i0, hi0, hz0, hz1, hz2⟩ := info_parts info_int
    go_wp2_with fail
    clear y0 y1 y2 y3 y4 y5 y6 y7 b2 b3
    refine (HCt'.out _ hxa).mono ?_
    rintro e w3 ⟨A8, c8, rfl, hI, hk⟩
    have hx3 := hxa.trans hk
    obtain ⟨ys, Hys⟩ : ∃ ys, Hid (cntV b p t gs im x = ys) := ⟨_, rfl⟩
    rw [Hys.out] at hI HLc HR
    have hrow : Row w3 w3.heap.size A8 (8 * 1) (inAt ys) := by have := hI; unfold Ins at this; rw [HLc.out] at this; exact this
    go_wp2_with (at_builtin; refine wpList_append_new rfl _ _ 22 rfl 3 i0 _ 1 8 Try.underlying22 hi0 hz0 hz1 hz2 (by decide) (by decide) w2.heap.size A8 8 c8 w3.heap.size (inAt ys) rfl rfl hrow (by omega) ?_)
    intro A9 c9 w4 hnew
    obtain ⟨g9, rfl, hgl, hown⟩ := nr_own (xs := ys) (by rw [HLc.out]; exact hnew) (by rw [HLc.out]; omega)
    have hx4 := hx3.trans hnew.1
    have hsz := hx3.size
    go_wp2
    go_ret2
    exact ⟨some ⟨g9, 0, none⟩, c9, by rw [HR.out]; show _ = Ending.returned (.tuple #[.slice _ ys.length _, _]); rw [HLc.out]; rfl, by rw [HR.out]; exact Sl.own hown (by omega), hx4⟩
end Go.Proofs.Ytihpadelfpogmaa
/- The program's content at a position. Conditions: what is read can be read, and holds at most 1048576 elements of a kind. -/
namespace Go.Proofs.Ytihpadelfpogmaa
set_option linter.unusedVariables false
set_option maxRecDepth 100000
open Go.RowKit

set_option maxHeartbeats 4000000 in
theorem contentAt_c (V : Vl) (x : Int) (B : Nat) (w : World) (h : Sgs w B V.A3 V.gs) (hB : B ≤ w.heap.size) (hy : VltY V.g V.b V.p V.t V.xs V.ms V.gs V.im) (hr : isRet V.b V.gs x = true) :
    Calls Try.prog 87 #[V.w, .int .i64 x] w fun e w' => e = .returned (vA (cntV V.b V.p V.t V.gs V.im x)) ∧ Nx w w' := by
  have hSD := stepDone_c V B
  have hSA := segsAhead_c V x B
  obtain ⟨g, b, p, t, A, c, xs, A2, c2, ms, A3, c3, gs, A4, c4, im⟩ := V
  simp only [Vl.w, Vl.wcells] at *
  have HLd := Lib.hid (chainB_lead hy.chain)
  have HSD := Lib.hid (fun (w' : World) (hx : Nx w w') => hSD w' (h.below hx hB) (Nat.le_trans hB hx.size) HLd.out hy.l8 hy.ahd.1 hy.ahd.2)
  have HSA := Lib.hid (fun (w' : World) (hx : Nx w w') => hSA w' (h.below hx hB) (Nat.le_trans hB hx.size) hy.n4 hr)
  have HSL := Lib.hid (stp_le (t := t) im HLd.out hy.places)
  have HSg := Lib.hid (fun (k : Nat) (hk : k < gs.length) (w' : World) (hx : Nx w w') => (h.below hx hB).row.at4 hk)
  have HCh := Lib.hid (fun (k : Nat) (hk : k < gs.length) (w' : World) (hx : Nx w w') => (h.chs k hk).below hx hB)
  have HAx := Lib.hid (ahd_at hr)
  have Hct : Hid (cntV b p t gs im x = bkK (fwK (stp b p t gs im).1 gs (stp b p t gs im).2 (ahd b gs x - (stp b p t gs im).2)) gs (stp b p t gs im).2 ((stp b p t gs im).2 - ahd b gs x)) := Lib.hid (by
    unfold cntV
    by_cases hle : (stp b p t gs im).2 ≤ ahd b gs x
    · rw [if_pos hle, show (stp b p t gs im).2 - ahd b gs x = 0 by omega]; rfl
    · rw [if_neg hle, show ahd b gs x - (stp b p t gs im).2 = 0 by omega]; rfl)
  have H8 := Lib.hid hy.l8
  have hn9 := hy.n4
  obtain ⟨n, Hn⟩ : ∃ n, Hid (gs.length = n) := ⟨_, rfl⟩
  rw [Hn.out] at HSg HCh HAx hn9 HSD HSA
  rw [Hct.out]
  obtain ⟨c0, Hc0⟩ : ∃ c0, Hid ((stp b p t gs im).1 = c0) := ⟨_, rfl⟩
  obtain ⟨a, Hat⟩ : ∃ a, Hid ((stp b p t gs im).2 = a) := ⟨_, rfl⟩
  obtain ⟨e9, He⟩ : ∃ e9, Hid (ahd b gs x = e9) := ⟨_, rfl⟩
  have HL0 : Hid (c0.length = 8) := Lib.hid (by rw [← Hc0.out, stp_len]; exact H8.out)
  rw [Hc0.out, Hat.out] at HSD
  rw [He.out] at HAx HSA
  rw [Hc0.out, Hat.out, He.out, Hn.out]
  have hat : a ≤ n := by have := HSL.out.1; rw [Hat.out, Hn.out] at this; exact this
  have hen : e9 ≤ n := HAx.out.1
  have HOKs := Lib.hid (fun k (hk : k < n) => HLd.out.ok k (by rw [Hn.out]; exact hk))
  have b0 : Box ((w.alloc (.cells #[.int .i64 g, .int .i64 b, .int .i64 p, .int .i64 t, .slice A xs.length c, .slice A2 ms.length c2, .slice A3 n c3, inAt im 0, inAt im 1, inAt im 2, inAt im 3, inAt im 4, inAt im 5, inAt im 6, inAt im 7] 101)).alloc (.cells #[.int .i64 0, .int .i64 0, .int .i64 0, .int .i64 0, .int .i64 0, .int .i64 0, .int .i64 0, .int .i64 0] 99)) w.heap.size 101 #[.int .i64 g, .int .i64 b, .int .i64 p, .int .i64 t, .slice A xs.length c, .slice A2 ms.length c2, .slice A3 n c3, inAt im 0, inAt im 1, inAt im 2, inAt im 3, inAt im 4, inAt im 5, inAt im 6, inAt im 7] := (Box.new w _ _).alloc _
  have r0 : Box ((w.alloc (.cells #[.int .i64 g, .int .i64 b, .int .i64 p, .int .i64 t, .slice A xs.length c, .slice A2 ms.length c2, .slice A3 n c3, inAt im 0, inAt im 1, inAt im 2, inAt im 3, inAt im 4, inAt im 5, inAt im 6, inAt im 7] 101)).alloc (.cells #[.int .i64 0, .int .i64 0, .int .i64 0, .int .i64 0, .int .i64 0, .int .i64 0, .int .i64 0, .int .i64 0] 99)) (w.heap.size + 1) 99 #[.int .i64 0, .int .i64 0, .int .i64 0, .int .i64 0, .int .i64 0, .int .i64 0, .int .i64 0, .int .i64 0] := by have := Box.new (w.alloc (.cells #[.int .i64 g, .int .i64 b, .int .i64 p, .int .i64 t, .slice A xs.length c, .slice A2 ms.length c2, .slice A3 n c3, inAt im 0, inAt im 1, inAt im 2, inAt im 3, inAt im 4, inAt im 5, inAt im 6, inAt im 7] 101)) 99 #[.int .i64 0, .int .i64 0, .int .i64 0, .int .i64 0, .int .i64 0, .int .i64 0, .int .i64 0, .int .i64 0]; rwa [World.size_alloc] at this
  have hx0 := ((Nx.refl w).alloc (.cells #[.int .i64 g, .int .i64 b, .int .i64 p, .int .i64 t, .slice A xs.length c, .slice A2 ms.length c2, .slice A3 n c3, inAt im 0, inAt im 1, inAt im 2, inAt im 3, inAt im 4, inAt im 5, inAt im 6, inAt im 7] 101)).alloc (.cells #[.int .i64 0, .int .i64 0, .int .i64 0, .int .i64 0, .int .i64 0, .int .i64 0, .int .i64 0, .int .i64 0] 99)
  clear hSD hSA h hy hr
  go_enter Try.func87, Try.ntmps87
  go_wp2_with fail
  generalize ((w.alloc (.cells #[.int .i64 g, .int .i64 b, .int .i64 p, .int .i64 t, .slice A xs.length c, .slice A2 ms.length c2, .slice A3 n c3, inAt im 0, inAt im 1, inAt im 2, inAt im 3, inAt im 4, inAt im 5, inAt im 6, inAt im 7] 101)).alloc (.cells #[.int .i64 0, .int .i64 0, .int .i64 0, .int .i64 0, .int .i64 0, .int .i64 0, .int .i64 0, .int .i64 0] 99)) = W at *
  obtain ⟨gR, HgR⟩ : ∃ g, Hid (w.heap.size + 1 = g) := ⟨_, rfl⟩
  have hgR : w.heap.size ≤ gR := by have := HgR.out; omega
  rw [HgR.out]
  rw [HgR.out] at r0
  refine (HSD.out _ hx0).mono ?_
  rintro e w1 ⟨rfl, hk⟩
  unfold vA
  have b1 := b0.nx hk
  have r1 := r0.nx hk
  replace hx0 := hx0.trans hk
  have rz := Box.new w1 99 #[.int .i64 0, .int .i64 0, .int .i64 0, .int .i64 0, .int .i64 0, .int .i64 0, .int .i64 0, .int .i64 0]
  have b2 := (b1.alloc (.cells #[.int .i64 0, .int .i64 0, .int .i64 0, .int .i64 0, .int .i64 0, .int .i64 0, .int .i64 0, .int .i64 0] 99)).rowfar (show w.heap.size ≠ w1.heap.size by have := b1.lt; omega) #[inAt c0 0, inAt c0 1, inAt c0 2, inAt c0 3, inAt c0 4, inAt c0 5, inAt c0 6, inAt c0 7]
  have r2 := (r1.alloc (.cells #[.int .i64 0, .int .i64 0, .int .i64 0, .int .i64 0, .int .i64 0, .int .i64 0, .int .i64 0, .int .i64 0] 99)).rowfar (show gR ≠ w1.heap.size by have := r1.lt; omega) #[inAt c0 0, inAt c0 1, inAt c0 2, inAt c0 3, inAt c0 4, inAt c0 5, inAt c0 6, inAt c0 7]
  have ba := rz.row #[inAt c0 0, inAt c0 1, inAt c0 2, inAt c0 3, inAt c0 4, inAt c0 5, inAt c0 6, inAt c0 7]
  have hx2 := (hx0.alloc (.cells #[.int .i64 0, .int .i64 0, .int .i64 0, .int .i64 0, .int .i64 0, .int .i64 0, .int .i64 0, .int .i64 0] 99)).setRow (g := w1.heap.size) hx0.size #[inAt c0 0, inAt c0 1, inAt c0 2, inAt c0 3, inAt c0 4, inAt c0 5, inAt c0 6, inAt c0 7]
  have hneA : w.heap.size ≠ w1.heap.size := by have := b1.lt; omega
  have hneAR : gR ≠ w1.heap.size := by have := r1.lt; omega
  have hgA : w.heap.size ≤ w1.heap.size := hx0.size
  obtain ⟨y0, y1, y2, y3, y4, y5, y6, y7, y8, y9, y10, y11, y12, y13, y14⟩ := b2.e15
  clear b0 r0 hk b1 r1
  go_wp2_with (refine wpList_store_row rfl _ _ _ rfl w1.heap.size #[inAt c0 0, inAt c0 1, inAt c0 2, inAt c0 3, inAt c0 4, inAt c0 5, inAt c0 6, inAt c0 7] rfl rfl 99 #[.int .i64 0, .int .i64 0, .int .i64 0, .int .i64 0, .int .i64 0, .int .i64 0, .int .i64 0, .int .i64 0] rz (by kernel_rfl) rfl (by simp [Value.oneCell', inAt]) ?_)
  clear y0 y1 y2 y3 y4 y5 y6 y7 y8 y9 y10 y11 y12 y13 y14 rz hx0
  generalize (w1.alloc (.cells #[.int .i64 0, .int .i64 0, .int .i64 0, .int .i64 0, .int .i64 0, .int .i64 0, .int .i64 0, .int .i64 0] 99)).setRow w1.heap.size #[inAt c0 0, inAt c0 1, inAt c0 2, inAt c0 3, inAt c0 4, inAt c0 5, inAt c0 6, inAt c0 7] = Wl at *
  generalize w1.heap.size = gA at *
  refine (HSA.out _ hx2).mono ?_
  rintro e w3 ⟨rfl, hk⟩
  have ba3 := ba.nx hk
  have b3 := b2.nx hk
  have r3 := r2.nx hk
  have hx3 := hx2.trans hk
  clear ba b2 r2 hx2 hk
  go_wp2_with fail
  go_loopw [6] (fun i wr => ∃ k : Nat, a ≤ k ∧ k ≤ max a e9 ∧ i = .int .i64 k ∧ Box wr gA 99 #[inAt (fwK c0 gs a (k - a)) 0, inAt (fwK c0 gs a (k - a)) 1, inAt (fwK c0 gs a (k - a)) 2, inAt (fwK c0 gs a (k - a)) 3, inAt (fwK c0 gs a (k - a)) 4, inAt (fwK c0 gs a (k - a)) 5, inAt (fwK c0 gs a (k - a)) 6, inAt (fwK c0 gs a (k - a)) 7] ∧ Nx w wr ∧ Box wr w.heap.size 101 #[.int .i64 g, .int .i64 b, .int .i64 p, .int .i64 t, .slice A xs.length c, .slice A2 ms.length c2, .slice A3 n c3, inAt im 0, inAt im 1, inAt im 2, inAt im 3, inAt im 4, inAt im 5, inAt im 6, inAt im 7] ∧ Box wr gR 99 #[.int .i64 0, .int .i64 0, .int .i64 0, .int .i64 0, .int .i64 0, .int .i64 0, .int .i64 0, .int .i64 0]) (fun i _ => max a e9 - (intOf i).toNat)
  case atStart => exact ⟨a, Nat.le_refl _, by omega, rfl, by rw [Nat.sub_self]; exact ba3, hx3, b3, r3⟩
  case round =>
  obtain ⟨k, hka, hkm, rfl, hbx, hnx, hb, hr⟩ := hrel
  clear ba3 hx3 b3 r3
  by_cases hke : k < e9
  · have hd : decide ((k : Int) < (e9 : Int)) = true := decide_eq_true (by omega)
    have hdN : decide (k < e9) = true := decide_eq_true hke
    have hkn : k < n := by omega
    obtain ⟨j, Hj⟩ : ∃ j, Hid (k - a = j) := ⟨_, rfl⟩
    have Hkj : Hid (a + j = k) := Lib.hid (by have := Hj.out; omega)
    rw [Hj.out] at hbx
    obtain ⟨bb, off, rfl, hbb, p0, p1, p2, p3⟩ := HSg.out k hkn wr hnx
    have hbw : bb < wr.heap.size := Nat.lt_of_lt_of_le hbb (Nat.le_trans hB hnx.size)
    have HCk := Lib.hid (HCh.out k hkn)
    have HOKc := Lib.hid (HOKs.out k hkn)
    have HLj : Hid ((fwK c0 gs a j).length = 8) := Lib.hid (by rw [fwK_len]; exact HL0.out)
    have Hsuc : Hid (fwK c0 gs a (j + 1) = app pN (fwK c0 gs a j) (gs.getD k sgZ).cs) := Lib.hid (by rw [← Hkj.out]; rfl)
    obtain ⟨cj, Hcj⟩ : ∃ cj, Hid (fwK c0 gs a j = cj) := ⟨_, rfl⟩
    rw [Hcj.out] at HLj Hsuc hbx
    obtain ⟨⟨f, t9, m9, Ac, cc, cs⟩, Hs⟩ : ∃ s, Hid (gs.getD k sgZ = s) := ⟨_, rfl⟩
    rw [Hs.out] at p0 p1 p2 p3 HCk HOKc Hsuc
    simp only at p0 p1 p2 p3 HCk HOKc Hsuc
    have hkc : (k : Int) < (n : Int) := by omega
    have hk0 : (0 : Int) ≤ (k : Int) := by omega
    have Hin := Lib.hid hkn
    clear hkn
    have Hke := Lib.hid hke
    clear hke
    go_wp2_with fail
    have bae := hbx.nx (Nx.refl _).drew
    have vbe : Box wr.drew w.heap.size 101 #[.int .i64 g, .int .i64 b, .int .i64 p, .int .i64 t, .slice A xs.length c, .slice A2 ms.length c2, .slice (some ⟨bb, off, none⟩) n c3, inAt im 0, inAt im 1, inAt im 2, inAt im 3, inAt im 4, inAt im 5, inAt im 6, inAt im 7] := hb
    have rre := hr.nx (Nx.refl _).drew
    have hnxe := hnx.drew
    replace hbw : bb < wr.drew.heap.size := hbw
    have p0 : wr.drew.cell? ⟨bb, off + k * 4, none⟩ = _ := p0; have p1 : wr.drew.cell? ⟨bb, off + k * 4 + 1, none⟩ = _ := p1; have p2 : wr.drew.cell? ⟨bb, off + k * 4 + 2, none⟩ = _ := p2; have p3 : wr.drew.cell? ⟨bb, off + k * 4 + 3, none⟩ = _ := p3
    have hneb : bb ≠ gA := by omega
    clear hbx hb hr
    refine wp_region_plan (.t 1 (.t 2 (.t 3 (.t 4 (.t 5 (.c 0 (.c 6 (.c 7 .e)))))))) (fun w' => w'.cell? ⟨w.heap.size, 6, none⟩ = some (.slice (some ⟨bb, off, none⟩) n c3) ∧ w'.cell? ⟨bb, off + k * 4, none⟩ = some (.int .i64 f) ∧ w'.cell? ⟨bb, off + k * 4 + 1, none⟩ = some (.int .i64 t9) ∧ w'.cell? ⟨bb, off + k * 4 + 2, none⟩ = some (.int .i64 m9) ∧ w'.cell? ⟨bb, off + k * 4 + 3, none⟩ = some (.slice Ac cs.length cc)) (by kernel_rfl) (by kernel_rfl) rfl (by kernel_rfl) (fun _ _ d _ _ h => by cases d <;> exact h) (by exact ⟨vbe.cell 6, p0, p1, p2, p3⟩) ?_
    simp only [psOf, List.getD_cons_zero, List.getD_cons_succ]
    repeat (first | (refine HP.take (v := ?_) (by rfl) ?_ ?_; rotate_left; (· (intro w hSw; (try dsimp only at hSw); go_simp; try with_reducible rfl)); (try simp only [Act.put, List.setIfInBounds_toArray, List.set_cons_zero, List.set_cons_succ])) | (refine HP.skip (by rfl) ?_; (try simp only [Act.put, List.setIfInBounds_toArray, List.set_cons_zero, List.set_cons_succ])))
    refine HP.call ?_
    refine CallStep.mk (by rfl) (fun K hK => ?_)
    refine wp_load_row _ _ rfl gA rfl 99 #[inAt cj 0, inAt cj 1, inAt cj 2, inAt cj 3, inAt cj 4, inAt cj 5, inAt cj 6, inAt cj 7] (0, 0) _ bae und_values rfl (by kernel_rfl) ?_
    refine hK.out _ _ (by exact ⟨vbe.cell 6, p0, p1, p2, p3⟩) ?_
    clear hK K
    try simp only [Act.put]
    refine HP.call ?_
    refine CallStep.mk (by rfl) (fun K hK => ?_)
    go_simp
    have hcl := valuesForward_c f t9 m9 Ac cc B cs cj _ (HCk.out _ hnxe) (Nat.le_trans hB hnxe.size) HOKc.out HLj.out; unfold vA at hcl; refine hcl.mono ?_; rintro e w9 ⟨rfl, hk9⟩; clear hcl; have ba9 := bae.nx hk9; have vb9 := vbe.nx hk9; have hnx9 := hnxe.trans hk9; have hbw9 := hbw; replace hbw := Nat.lt_of_lt_of_le hbw hk9.size; have hbq9 : bb < w.heap.size := Nat.lt_of_lt_of_le hbb hB; replace p0 := (hk9.cell (p := ⟨bb, off + k * 4, none⟩) hbw9).trans p0; replace p1 := (hk9.cell (p := ⟨bb, off + k * 4 + 1, none⟩) hbw9).trans p1; replace p2 := (hk9.cell (p := ⟨bb, off + k * 4 + 2, none⟩) hbw9).trans p2; replace p3 := (hk9.cell (p := ⟨bb, off + k * 4 + 3, none⟩) hbw9).trans p3; have rr9 := rre.nx hk9
    go_wp2_with fail
    refine hK.out _ _ (by exact ⟨vb9.cell 6, p0, p1, p2, p3⟩) ?_
    clear hK K
    try simp only [Act.put, List.setIfInBounds_toArray, List.set_cons_zero, List.set_cons_succ]
    refine HP.call ?_
    refine CallStep.mk (by rfl) (fun K hK => ?_)
    refine wp_store_row _ _ _ rfl gA #[inAt (app pN cj cs) 0, inAt (app pN cj cs) 1, inAt (app pN cj cs) 2, inAt (app pN cj cs) 3, inAt (app pN cj cs) 4, inAt (app pN cj cs) 5, inAt (app pN cj cs) 6, inAt (app pN cj cs) 7] rfl rfl 99 #[inAt cj 0, inAt cj 1, inAt cj 2, inAt cj 3, inAt cj 4, inAt cj 5, inAt cj 6, inAt cj 7] ba9 (by kernel_rfl) rfl (by simp [Value.oneCell', inAt]) ?_
    refine hK.out _ _ (by exact ⟨(vb9.rowfar hneA #[inAt (app pN cj cs) 0, inAt (app pN cj cs) 1, inAt (app pN cj cs) 2, inAt (app pN cj cs) 3, inAt (app pN cj cs) 4, inAt (app pN cj cs) 5, inAt (app pN cj cs) 6, inAt (app pN cj cs) 7]).cell 6, ((cell_row_far w9 gA #[inAt (app pN cj cs) 0, inAt (app pN cj cs) 1, inAt (app pN cj cs) 2, inAt (app pN cj cs) 3, inAt (app pN cj cs) 4, inAt (app pN cj cs) 5, inAt (app pN cj cs) 6, inAt (app pN cj cs) 7] (p := ⟨bb, off + k * 4, none⟩) (by simp; omega)).trans p0), ((cell_row_far w9 gA #[inAt (app pN cj cs) 0, inAt (app pN cj cs) 1, inAt (app pN cj cs) 2, inAt (app pN cj cs) 3, inAt (app pN cj cs) 4, inAt (app pN cj cs) 5, inAt (app pN cj cs) 6, inAt (app pN cj cs) 7] (p := ⟨bb, off + k * 4 + 1, none⟩) (by simp; omega)).trans p1), ((cell_row_far w9 gA #[inAt (app pN cj cs) 0, inAt (app pN cj cs) 1, inAt (app pN cj cs) 2, inAt (app pN cj cs) 3, inAt (app pN cj cs) 4, inAt (app pN cj cs) 5, inAt (app pN cj cs) 6, inAt (app pN cj cs) 7] (p := ⟨bb, off + k * 4 + 2, none⟩) (by simp; omega)).trans p2), ((cell_row_far w9 gA #[inAt (app pN cj cs) 0, inAt (app pN cj cs) 1, inAt (app pN cj cs) 2, inAt (app pN cj cs) 3, inAt (app pN cj cs) 4, inAt (app pN cj cs) 5, inAt (app pN cj cs) 6, inAt (app pN cj cs) 7] (p := ⟨bb, off + k * 4 + 3, none⟩) (by simp; omega)).trans p3)⟩) ?_
    clear hK K
    try simp only [Act.put]
    refine HP.done ?_
    have bz := ba9.row #[inAt (app pN cj cs) 0, inAt (app pN cj cs) 1, inAt (app pN cj cs) 2, inAt (app pN cj cs) 3, inAt (app pN cj cs) 4, inAt (app pN cj cs) 5, inAt (app pN cj cs) 6, inAt (app pN cj cs) 7]
    have vz := vb9.rowfar hneA #[inAt (app pN cj cs) 0, inAt (app pN cj cs) 1, inAt (app pN cj cs) 2, inAt (app pN cj cs) 3, inAt (app pN cj cs) 4, inAt (app pN cj cs) 5, inAt (app pN cj cs) 6, inAt (app pN cj cs) 7]
    have rz := rr9.rowfar hneAR #[inAt (app pN cj cs) 0, inAt (app pN cj cs) 1, inAt (app pN cj cs) 2, inAt (app pN cj cs) 3, inAt (app pN cj cs) 4, inAt (app pN cj cs) 5, inAt (app pN cj cs) 6, inAt (app pN cj cs) 7]
    have hnxz := hnx9.setRow hgA #[inAt (app pN cj cs) 0, inAt (app pN cj cs) 1, inAt (app pN cj cs) 2, inAt (app pN cj cs) 3, inAt (app pN cj cs) 4, inAt (app pN cj cs) 5, inAt (app pN cj cs) 6, inAt (app pN cj cs) 7]
    generalize w9.setRow gA #[inAt (app pN cj cs) 0, inAt (app pN cj cs) 1, inAt (app pN cj cs) 2, inAt (app pN cj cs) 3, inAt (app pN cj cs) 4, inAt (app pN cj cs) 5, inAt (app pN cj cs) 6, inAt (app pN cj cs) 7] = Wz at *
    go_wp2
    go_roundw

    case rel => exact ⟨k + 1, by omega, by have := Hke.out; omega, by go_num, by rw [show k + 1 - a = j + 1 by have := Hkj.out; omega, Hsuc.out]; exact bz, hnxz, vz, rz⟩
    case measure => (have := Hke.out; simp [intOf] <;> omega)
  have hd : decide ((k : Int) < (e9 : Int)) = false := decide_eq_false (by omega)
  have hdN : decide (k < e9) = false := decide_eq_false hke
  have Hkm : Hid (k = max a e9) := Lib.hid (by omega)
  obtain ⟨d0, Hd0⟩ : ∃ d0, Hid (fwK c0 gs a (e9 - a) = d0) := ⟨_, rfl⟩
  have HLd0 : Hid (d0.length = 8) := Lib.hid (by rw [← Hd0.out, fwK_len]; exact HL0.out)
  rw [show k - a = e9 - a by have := Hkm.out; omega, Hd0.out] at hbx
  have Hke := Lib.hid hke
  clear hke
  go_wp2_with fail
  clear hd hdN
  go_loopw [6] (fun i wr => ∃ k : Nat, e9 ≤ k ∧ k ≤ max a e9 ∧ i = .int .i64 k ∧ Box wr gA 99 #[inAt (bkK d0 gs a (a - k)) 0, inAt (bkK d0 gs a (a - k)) 1, inAt (bkK d0 gs a (a - k)) 2, inAt (bkK d0 gs a (a - k)) 3, inAt (bkK d0 gs a (a - k)) 4, inAt (bkK d0 gs a (a - k)) 5, inAt (bkK d0 gs a (a - k)) 6, inAt (bkK d0 gs a (a - k)) 7] ∧ Nx w wr ∧ Box wr w.heap.size 101 #[.int .i64 g, .int .i64 b, .int .i64 p, .int .i64 t, .slice A xs.length c, .slice A2 ms.length c2, .slice A3 n c3, inAt im 0, inAt im 1, inAt im 2, inAt im 3, inAt im 4, inAt im 5, inAt im 6, inAt im 7] ∧ Box wr gR 99 #[.int .i64 0, .int .i64 0, .int .i64 0, .int .i64 0, .int .i64 0, .int .i64 0, .int .i64 0, .int .i64 0]) (fun i _ => (intOf i).toNat)
  case atStart => exact ⟨k, by have := Hke.out; omega, hkm, rfl, by rw [show a - k = 0 by omega]; exact hbx, hnx, hb, hr⟩
  case round =>
  clear hbx hnx hb hr hka hkm Hke Hkm
  obtain ⟨u, hka, hkm, rfl, hbx, hnx, hb, hr⟩ := hrel
  by_cases hke : e9 < u
  case neg =>
    obtain rfl : e9 = u := by omega
    have hd : decide ((e9 : Int) < (e9 : Int)) = false := by simp
    obtain ⟨y0, y1, y2, y3, y4, y5, y6, y7⟩ := hbx.e8
    have Hfin : Hid (bkK (fwK c0 gs a (e9 - a)) gs a (a - e9) = bkK d0 gs a (a - e9)) := Lib.hid (by rw [Hd0.out])
    obtain ⟨z, Hz⟩ : ∃ z, Hid (bkK d0 gs a (a - e9) = z) := ⟨_, rfl⟩
    rw [Hz.out] at hbx y0 y1 y2 y3 y4 y5 y6 y7
    have q := hr.row #[inAt z 0, inAt z 1, inAt z 2, inAt z 3, inAt z 4, inAt z 5, inAt z 6, inAt z 7]
    have hnf := hnx.setRow hgR #[inAt z 0, inAt z 1, inAt z 2, inAt z 3, inAt z 4, inAt z 5, inAt z 6, inAt z 7]
    go_wp2_with (refine wpList_store_row rfl _ _ _ rfl gR #[inAt z 0, inAt z 1, inAt z 2, inAt z 3, inAt z 4, inAt z 5, inAt z 6, inAt z 7] rfl rfl 99 #[.int .i64 0, .int .i64 0, .int .i64 0, .int .i64 0, .int .i64 0, .int .i64 0, .int .i64 0, .int .i64 0] hr (by kernel_rfl) rfl (by simp [Value.oneCell', inAt]) ?_)
    generalize wr.setRow gR #[inAt z 0, inAt z 1, inAt z 2, inAt z 3, inAt z 4, inAt z 5, inAt z 6, inAt z 7] = Wf at *
    obtain ⟨g0, g1, g2, g3, g4, g5, g6, g7⟩ := q.e8
    exact bodyPost_ret (v := .agg #[inAt z 0, inAt z 1, inAt z 2, inAt z 3, inAt z 4, inAt z 5, inAt z 6, inAt z 7]) (by simp [results, Try.results87, go_sem, g0, g1, g2, g3, g4, g5, g6, g7]) rfl ⟨by rw [Hfin.out, Hz.out]; rfl, hnf⟩
  obtain ⟨i, rfl⟩ : ∃ i, u = i + 1 := ⟨u - 1, by omega⟩
  have hd : decide ((e9 : Int) < ((i + 1 : Nat) : Int)) = true := decide_eq_true (by omega)
  have hd2 : decide ((e9 : Int) < (i : Int) + 1) = true := decide_eq_true (by omega)
  have hdN : decide (e9 < i + 1) = true := decide_eq_true hke
  have hkn : i < n := by omega
  have hwi : IntKind.i64.wrap (i : Int) = (i : Int) := IntWalk.i64_in _ (by omega)
  obtain ⟨j, Hj⟩ : ∃ j, Hid (a - (i + 1) = j) := ⟨_, rfl⟩
  have Hkj : Hid (i = a - 1 - j) := Lib.hid (by have := Hj.out; omega)
  have Hm1 : Hid (a - i = j + 1) := Lib.hid (by have := Hj.out; omega)
  rw [Hj.out] at hbx
  obtain ⟨bb, off, rfl, hbb, p0, p1, p2, p3⟩ := HSg.out i hkn wr hnx
  have hbw : bb < wr.heap.size := Nat.lt_of_lt_of_le hbb (Nat.le_trans hB hnx.size)
  have HCk := Lib.hid (HCh.out i hkn)
  have HOKc := Lib.hid (HOKs.out i hkn)
  have HLj : Hid ((bkK d0 gs a j).length = 8) := Lib.hid (by rw [bkK_len]; exact HLd0.out)
  have Hsuc : Hid (bkK d0 gs a (j + 1) = app pO (bkK d0 gs a j) (gs.getD i sgZ).cs) := Lib.hid (by rw [Hkj.out]; rfl)
  obtain ⟨cj, Hcj⟩ : ∃ cj, Hid (bkK d0 gs a j = cj) := ⟨_, rfl⟩
  rw [Hcj.out] at HLj Hsuc hbx
  obtain ⟨⟨f, t9, m9, Ac, cc, cs⟩, Hs⟩ : ∃ s, Hid (gs.getD i sgZ = s) := ⟨_, rfl⟩
  rw [Hs.out] at p0 p1 p2 p3 HCk HOKc Hsuc
  simp only at p0 p1 p2 p3 HCk HOKc Hsuc
  have hkc : (i : Int) < (n : Int) := by omega
  have hk0 : (0 : Int) ≤ (i : Int) := by omega
  have Hin := Lib.hid hkn
  clear hkn
  have Hke := Lib.hid hke
  clear hke
  go_wp2_with fail
  have bae := hbx.nx (Nx.refl _).drew
  have vbe : Box wr.drew w.heap.size 101 #[.int .i64 g, .int .i64 b, .int .i64 p, .int .i64 t, .slice A xs.length c, .slice A2 ms.length c2, .slice (some ⟨bb, off, none⟩) n c3, inAt im 0, inAt im 1, inAt im 2, inAt im 3, inAt im 4, inAt im 5, inAt im 6, inAt im 7] := hb
  have rre := hr.nx (Nx.refl _).drew
  have hnxe := hnx.drew
  replace hbw : bb < wr.drew.heap.size := hbw
  have p0 : wr.drew.cell? ⟨bb, off + i * 4, none⟩ = _ := p0; have p1 : wr.drew.cell? ⟨bb, off + i * 4 + 1, none⟩ = _ := p1; have p2 : wr.drew.cell? ⟨bb, off + i * 4 + 2, none⟩ = _ := p2; have p3 : wr.drew.cell? ⟨bb, off + i * 4 + 3, none⟩ = _ := p3
  have hneb : bb ≠ gA := by omega
  clear hbx hb hr
  refine wp_region_plan (.t 1 (.t 2 (.t 3 (.t 4 (.t 5 (.t 6 (.c 0 (.c 7 (.c 8 .e))))))))) (fun w' => w'.cell? ⟨w.heap.size, 6, none⟩ = some (.slice (some ⟨bb, off, none⟩) n c3) ∧ w'.cell? ⟨bb, off + i * 4, none⟩ = some (.int .i64 f) ∧ w'.cell? ⟨bb, off + i * 4 + 1, none⟩ = some (.int .i64 t9) ∧ w'.cell? ⟨bb, off + i * 4 + 2, none⟩ = some (.int .i64 m9) ∧ w'.cell? ⟨bb, off + i * 4 + 3, none⟩ = some (.slice Ac cs.length cc)) (by kernel_rfl) (by kernel_rfl) rfl (by kernel_rfl) (fun _ _ d _ _ h => by cases d <;> exact h) (by exact ⟨vbe.cell 6, p0, p1, p2, p3⟩) ?_
  simp only [psOf, List.getD_cons_zero, List.getD_cons_succ]
  repeat (first | (refine HP.take (v := ?_) (by rfl) ?_ ?_; rotate_left; (· (intro w hSw; (try dsimp only at hSw); go_simp; try with_reducible rfl)); (try simp only [Act.put, List.setIfInBounds_toArray, List.set_cons_zero, List.set_cons_succ])) | (refine HP.skip (by rfl) ?_; (try simp only [Act.put, List.setIfInBounds_toArray, List.set_cons_zero, List.set_cons_succ])))
  refine HP.call ?_
  refine CallStep.mk (by rfl) (fun K hK => ?_)
  refine wp_load_row _ _ rfl gA rfl 99 #[inAt cj 0, inAt cj 1, inAt cj 2, inAt cj 3, inAt cj 4, inAt cj 5, inAt cj 6, inAt cj 7] (0, 0) _ bae und_values rfl (by kernel_rfl) ?_
  refine hK.out _ _ (by exact ⟨vbe.cell 6, p0, p1, p2, p3⟩) ?_
  clear hK K
  try simp only [Act.put]
  refine HP.call ?_
  refine CallStep.mk (by rfl) (fun K hK => ?_)
  go_simp
  have hcl := valuesBackward_c f t9 m9 Ac cc B cs cj _ (HCk.out _ hnxe) (Nat.le_trans hB hnxe.size) HOKc.out HLj.out; unfold vA at hcl; refine hcl.mono ?_; rintro e w9 ⟨rfl, hk9⟩; clear hcl; have ba9 := bae.nx hk9; have vb9 := vbe.nx hk9; have hnx9 := hnxe.trans hk9; have hbw9 := hbw; replace hbw := Nat.lt_of_lt_of_le hbw hk9.size; have hbq9 : bb < w.heap.size := Nat.lt_of_lt_of_le hbb hB; replace p0 := (hk9.cell (p := ⟨bb, off + i * 4, none⟩) hbw9).trans p0; replace p1 := (hk9.cell (p := ⟨bb, off + i * 4 + 1, none⟩) hbw9).trans p1; replace p2 := (hk9.cell (p := ⟨bb, off + i * 4 + 2, none⟩) hbw9).trans p2; replace p3 := (hk9.cell (p := ⟨bb, off + i * 4 + 3, none⟩) hbw9).trans p3; have rr9 := rre.nx hk9
  go_wp2_with fail
  refine hK.out _ _ (by exact ⟨vb9.cell 6, p0, p1, p2, p3⟩) ?_
  clear hK K
  try simp only [Act.put, List.setIfInBounds_toArray, List.set_cons_zero, List.set_cons_succ]
  refine HP.call ?_
  refine CallStep.mk (by rfl) (fun K hK => ?_)
  refine wp_store_row _ _ _ rfl gA #[inAt (app pO cj cs) 0, inAt (app pO cj cs) 1, inAt (app pO cj cs) 2, inAt (app pO cj cs) 3, inAt (app pO cj cs) 4, inAt (app pO cj cs) 5, inAt (app pO cj cs) 6, inAt (app pO cj cs) 7] rfl rfl 99 #[inAt cj 0, inAt cj 1, inAt cj 2, inAt cj 3, inAt cj 4, inAt cj 5, inAt cj 6, inAt cj 7] ba9 (by kernel_rfl) rfl (by simp [Value.oneCell', inAt]) ?_
  refine hK.out _ _ (by exact ⟨(vb9.rowfar hneA #[inAt (app pO cj cs) 0, inAt (app pO cj cs) 1, inAt (app pO cj cs) 2, inAt (app pO cj cs) 3, inAt (app pO cj cs) 4, inAt (app pO cj cs) 5, inAt (app pO cj cs) 6, inAt (app pO cj cs) 7]).cell 6, ((cell_row_far w9 gA #[inAt (app pO cj cs) 0, inAt (app pO cj cs) 1, inAt (app pO cj cs) 2, inAt (app pO cj cs) 3, inAt (app pO cj cs) 4, inAt (app pO cj cs) 5, inAt (app pO cj cs) 6, inAt (app pO cj cs) 7] (p := ⟨bb, off + i * 4, none⟩) (by simp; omega)).trans p0), ((cell_row_far w9 gA #[inAt (app pO cj cs) 0, inAt (app pO cj cs) 1, inAt (app pO cj cs) 2, inAt (app pO cj cs) 3, inAt (app pO cj cs) 4, inAt (app pO cj cs) 5, inAt (app pO cj cs) 6, inAt (app pO cj cs) 7] (p := ⟨bb, off + i * 4 + 1, none⟩) (by simp; omega)).trans p1), ((cell_row_far w9 gA #[inAt (app pO cj cs) 0, inAt (app pO cj cs) 1, inAt (app pO cj cs) 2, inAt (app pO cj cs) 3, inAt (app pO cj cs) 4, inAt (app pO cj cs) 5, inAt (app pO cj cs) 6, inAt (app pO cj cs) 7] (p := ⟨bb, off + i * 4 + 2, none⟩) (by simp; omega)).trans p2), ((cell_row_far w9 gA #[inAt (app pO cj cs) 0, inAt (app pO cj cs) 1, inAt (app pO cj cs) 2, inAt (app pO cj cs) 3, inAt (app pO cj cs) 4, inAt (app pO cj cs) 5, inAt (app pO cj cs) 6, inAt (app pO cj cs) 7] (p := ⟨bb, off + i * 4 + 3, none⟩) (by simp; omega)).trans p3)⟩) ?_
  clear hK K
  try simp only [Act.put]
  refine HP.done ?_
  have bz := ba9.row #[inAt (app pO cj cs) 0, inAt (app pO cj cs) 1, inAt (app pO cj cs) 2, inAt (app pO cj cs) 3, inAt (app pO cj cs) 4, inAt (app pO cj cs) 5, inAt (app pO cj cs) 6, inAt (app pO cj cs) 7]
  have vz := vb9.rowfar hneA #[inAt (app pO cj cs) 0, inAt (app pO cj cs) 1, inAt (app pO cj cs) 2, inAt (app pO cj cs) 3, inAt (app pO cj cs) 4, inAt (app pO cj cs) 5, inAt (app pO cj cs) 6, inAt (app pO cj cs) 7]
  have rz := rr9.rowfar hneAR #[inAt (app pO cj cs) 0, inAt (app pO cj cs) 1, inAt (app pO cj cs) 2, inAt (app pO cj cs) 3, inAt (app pO cj cs) 4, inAt (app pO cj cs) 5, inAt (app pO cj cs) 6, inAt (app pO cj cs) 7]
  have hnxz := hnx9.setRow hgA #[inAt (app pO cj cs) 0, inAt (app pO cj cs) 1, inAt (app pO cj cs) 2, inAt (app pO cj cs) 3, inAt (app pO cj cs) 4, inAt (app pO cj cs) 5, inAt (app pO cj cs) 6, inAt (app pO cj cs) 7]
  generalize w9.setRow gA #[inAt (app pO cj cs) 0, inAt (app pO cj cs) 1, inAt (app pO cj cs) 2, inAt (app pO cj cs) 3, inAt (app pO cj cs) 4, inAt (app pO cj cs) 5, inAt (app pO cj cs) 6, inAt (app pO cj cs) 7] = Wz at *
  go_wp2
  go_roundw
  case rel => exact ⟨i, by have := Hke.out; omega, by omega, rfl, by rw [Hm1.out, Hsuc.out]; exact bz, hnxz, vz, rz⟩
  case measure => (simp [intOf] <;> omega)
end Go.Proofs.Ytihpadelfpogmaa
/- ContentAt, of the program. Conditions: what is read can be read, and holds at most 1048576 elements of a kind. -/
namespace Go.Proofs.Ytihpadelfpogmaa
set_option linter.unusedVariables false
set_option maxRecDepth 100000
open Go.RowKit

set_option maxHeartbeats 2000000 in
theorem implContentAt_c (V : Vl) (x : Int) (B : Nat) (w : World) (h : Vlt w B V) (hB : B ≤ w.heap.size) (hn : VlN V 1048576) (hc : V.xs.length ≤ V.c) (hc3 : V.gs.length ≤ V.c3) (hm : AllM V.ms) :
    Calls Try.prog 30 #[V.v, .int .i64 x] w (RetIC w (ctR V x).1 (ctR V x).2) := by
  have hOK := vaultRight_c V B
  have hIs := isRetained_c V x B
  have hCt := contentAt_c V x B
  have hVW := view_c V B
  cases hv : V.ok with
  | false =>
    have HT := Lib.hid (ctR_no (x := x) hv)
    rw [HT.out]
    have HOK := Lib.hid (fun (w' : World) (hx : Nx w w') => hOK w' (h.below hx hB) (Nat.le_trans hB hx.size) hn hc hc3 hm)
    rw [hv] at HOK
    clear hOK h hn hc hc3 hm hv HT hIs hCt hVW
    obtain ⟨g, b, p, t, A, c, xs, A2, c2, ms, A3, c3, gs, A4, c4, im⟩ := V
    simp only [Vl.v, Vl.cells] at *
    have hx0 := (Nx.refl w).alloc (.cells #[.int .i64 g, .int .i64 b, .int .i64 p, .int .i64 t, .slice A xs.length c, .slice A2 ms.length c2, .slice A3 gs.length c3, .slice A4 im.length c4] 36)
    go_enter Try.func30, Try.ntmps30
    go_wp2_with fail
    generalize w.alloc (.cells #[.int .i64 g, .int .i64 b, .int .i64 p, .int .i64 t, .slice A xs.length c, .slice A2 ms.length c2, .slice A3 gs.length c3, .slice A4 im.length c4] 36) = W at *
    refine (HOK.out W hx0).mono ?_
    rintro e w1 ⟨rfl, hk⟩
    have hx := hx0.trans hk
    go_wp2
    go_ret2
    exact ⟨_, _, rfl, Sl.none_ _ _ _ _ _, hx⟩
  | true =>
    have HY := Lib.hid (Vl.y hv)
    have HOK := Lib.hid (fun (w' : World) (hx : Nx w w') => hOK w' (h.below hx hB) (Nat.le_trans hB hx.size) hn hc hc3 hm)
    have HVW := Lib.hid (fun (w' : World) (hx : Nx w w') => hVW w' (h.img.below hx hB) (Nat.le_trans hB hx.size) HY.out.l8)
    have HIs := Lib.hid (fun (w' : World) (hx : Nx w w') => hIs w' (h.sgs.below hx hB) (Nat.le_trans hB hx.size) HY.out.n4)
    have HCt := Lib.hid (fun (w' : World) (hx : Nx w w') hr => hCt w' (h.sgs.below hx hB) (Nat.le_trans hB hx.size) HY.out hr)
    have HLc := Lib.hid (show (cntV V.b V.p V.t V.gs V.im x).length = 8 by rw [cntV_len]; exact HY.out.l8)
    rw [hv] at HOK
    have HTn := Lib.hid (fun hr => ctR_none (x := x) hv hr)
    have HTy := Lib.hid (fun hr => ctR_yes (x := x) hv hr)
    obtain ⟨R, HRR⟩ : ∃ R, Hid (ctR V x = R) := ⟨_, rfl⟩
    rw [HRR.out] at HTn HTy ⊢
    clear HRR hOK h hn hc hc3 hm hv hIs hCt hVW
    obtain ⟨g, b, p, t, A, c, xs, A2, c2, ms, A3, c3, gs, A4, c4, im⟩ := V
    simp only [Vl.v, Vl.cells, Vl.w, Vl.wcells] at *
    have b0 := Box.new w 36 #[.int .i64 g, .int .i64 b, .int .i64 p, .int .i64 t, .slice A xs.length c, .slice A2 ms.length c2, .slice A3 gs.length c3, .slice A4 im.length c4]
    have hx0 := (Nx.refl w).alloc (.cells #[.int .i64 g, .int .i64 b, .int .i64 p, .int .i64 t, .slice A xs.length c, .slice A2 ms.length c2, .slice A3 gs.length c3, .slice A4 im.length c4] 36)
    go_enter Try.func30, Try.ntmps30
    go_wp2_with fail
    generalize w.alloc (.cells #[.int .i64 g, .int .i64 b, .int .i64 p, .int .i64 t, .slice A xs.length c, .slice A2 ms.length c2, .slice A3 gs.length c3, .slice A4 im.length c4] 36) = W at *
    refine (HOK.out W hx0).mono ?_
    rintro e w1 ⟨rfl, hk⟩
    have hx := hx0.trans hk
    have b1 := b0.nx hk
    clear b0 hx0 hk
    obtain ⟨y0, y1, y2, y3, y4, y5, y6, y7⟩ := b1.e8
    go_wp2_with fail
    clear y0 y1 y2 y3 y4 y5 y6 y7
    refine (HVW.out _ hx).mono ?_
    rintro e w2 ⟨rfl, hk⟩
    replace hx := hx.trans hk
    clear b1 hk
    have rz := Box.new w2 101 #[.int .i64 0, .int .i64 0, .int .i64 0, .int .i64 0, .slice none 0 0, .slice none 0 0, .slice none 0 0, .int .i64 0, .int .i64 0, .int .i64 0, .int .i64 0, .int .i64 0, .int .i64 0, .int .i64 0, .int .i64 0]
    have bv := rz.row #[.int .i64 g, .int .i64 b, .int .i64 p, .int .i64 t, .slice A xs.length c, .slice A2 ms.length c2, .slice A3 gs.length c3, inAt im 0, inAt im 1, inAt im 2, inAt im 3, inAt im 4, inAt im 5, inAt im 6, inAt im 7]
    have hx5 := (hx.alloc (.cells #[.int .i64 0, .int .i64 0, .int .i64 0, .int .i64 0, .slice none 0 0, .slice none 0 0, .slice none 0 0, .int .i64 0, .int .i64 0, .int .i64 0, .int .i64 0, .int .i64 0, .int .i64 0, .int .i64 0, .int .i64 0] 101)).setRow (g := w2.heap.size) hx.size #[.int .i64 g, .int .i64 b, .int .i64 p, .int .i64 t, .slice A xs.length c, .slice A2 ms.length c2, .slice A3 gs.length c3, inAt im 0, inAt im 1, inAt im 2, inAt im 3, inAt im 4, inAt im 5, inAt im 6, inAt im 7]
    obtain ⟨y0, y1, y2, y3, y4, y5, y6, y7, y8, y9, y10, y11, y12, y13, y14⟩ := bv.e15
    go_wp2_with (refine wpList_store_row rfl _ _ _ rfl w2.heap.size #[.int .i64 g, .int .i64 b, .int .i64 p, .int .i64 t, .slice A xs.length c, .slice A2 ms.length c2, .slice A3 gs.length c3, inAt im 0, inAt im 1, inAt im 2, inAt im 3, inAt im 4, inAt im 5, inAt im 6, inAt im 7] rfl rfl 101 #[.int .i64 0, .int .i64 0, .int .i64 0, .int .i64 0, .slice none 0 0, .slice none 0 0, .slice none 0 0, .int .i64 0, .int .i64 0, .int .i64 0, .int .i64 0, .int .i64 0, .int .i64 0, .int .i64 0, .int .i64 0] rz (by kernel_rfl) rfl (by simp [Value.oneCell', inAt]) ?_)
    clear y0 y1 y2 y3 y4 y5 y6 y7 y8 y9 y10 y11 y12 y13 y14 rz hx
    generalize (w2.alloc (.cells #[.int .i64 0, .int .i64 0, .int .i64 0, .int .i64 0, .slice none 0 0, .slice none 0 0, .slice none 0 0, .int .i64 0, .int .i64 0, .int .i64 0, .int .i64 0, .int .i64 0, .int .i64 0, .int .i64 0, .int .i64 0] 101)).setRow w2.heap.size #[.int .i64 g, .int .i64 b, .int .i64 p, .int .i64 t, .slice A xs.length c, .slice A2 ms.length c2, .slice A3 gs.length c3, inAt im 0, inAt im 1, inAt im 2, inAt im 3, inAt im 4, inAt im 5, inAt im 6, inAt im 7] = W5 at *
    generalize w2.heap.size = gV at *
    refine (HIs.out _ hx5).mono ?_
    rintro e w6 ⟨rfl, hk⟩
    have bv6 := bv.nx hk
    have hx6 := hx5.trans hk
    clear bv hx5 hk
    cases hr : isRet b gs x with
    | false =>
      have HR := Lib.hid (HTn.out hr)
      clear hr
      go_wp2
      go_ret2
      exact ⟨none, 0, by rw [HR.out]; rfl, by rw [HR.out]; exact Sl.none_ _ _ _ _ _, hx6⟩
    | true =>
    have HR := Lib.hid (HTy.out hr)
    have HCt' := Lib.hid (fun (w' : World) (hx : Nx w w') => HCt.out w' hx hr)
    clear hr
    obtain ⟨y0, y1, y2, y3, y4, y5, y6, y7, y8, y9, y10, y11, y12, y13, y14⟩ := bv6.e15
    go_wp2_with fail
    clear y0 y1 y2 y3 y4 y5 y6 y7 y8 y9 y10 y11 y12 y13 y14 bv6
    refine (HCt'.out _ hx6).mono ?_
    rintro e w7 ⟨rfl, hk⟩
    have hx7 := hx6.trans hk
    obtain ⟨ys, Hys⟩ : ∃ ys, Hid (cntV b p t gs im x = ys) := ⟨_, rfl⟩
    rw [Hys.out] at HLc HR ⊢
    go_wp2_with fail
    refine (valuesList_c ys _ HLc.out).mono ?_
    rintro e w8 ⟨A9, c9, rfl, hS, hk8⟩
    have hs := hx7.size
    go_wp2
    go_ret2
    exact ⟨A9, c9, by rw [HR.out]; rfl, by rw [HR.out]; exact hS.low hs, hx7.trans hk8⟩
end Go.Proofs.Ytihpadelfpogmaa
/- The walk of the law FnExactContentAt. Conditions: what is read can be read, and holds at most 1048576 elements of a kind. -/
namespace Go.Proofs.Ytihpadelfpogmaa
set_option linter.unusedVariables false
set_option maxRecDepth 100000
open Go.RowKit

theorem ctR_s {V V' : Vl} (h : VlS V V') (x : Int) : ctR V' x = ctR V x := by unfold ctR; rw [← h.ok, h.b, h.p, h.t, h.im, isRet_v h.gs, cntV_v h.gs]
theorem ctR_n (V : Vl) (x : Int) (h : VlN V 1048576) : (ctR V x).1.length ≤ 1048576 := by
  unfold ctR
  split
  · split
    · rw [show (cntV V.b V.p V.t V.gs V.im x, (0 : Int)).1 = cntV V.b V.p V.t V.gs V.im x from rfl, cntV_len]; have := h.im; omega
    · simp
  · simp

set_option maxHeartbeats 4000000 in
theorem lawContentAt (V : Vl) (x : Int) (w : World) (h : Vlt w w.heap.size V) (hm : AllM V.ms) (hn : VlN V (2 ^ 63 - 1)) (hw : (Lit.int .i64 x).wf = true) :
    Calls Try.prog 7 #[V.v, .int .i64 x] w fun e w' => e = .returned (.bool true) ∧ Nx w w' := by
  obtain ⟨g, b, p, t, A, c, xs, A2, c2, ms, A3, c3, gs, A4, c4, im⟩ := V
  have HTo := Lib.hid (fun (w' : World) (hx : Nx w w') (hn' : VlN ⟨g, b, p, t, A, c, xs, A2, c2, ms, A3, c3, gs, A4, c4, im⟩ 1048576) => toVault_c ⟨g, b, p, t, A, c, xs, A2, c2, ms, A3, c3, gs, A4, c4, im⟩ w.heap.size w' (h.below hx (Nat.le_refl _)) hx.size hn')
  have HSz := Lib.hid (fun (w' : World) (hx : Nx w w') => szVault_c ⟨g, b, p, t, A, c, xs, A2, c2, ms, A3, c3, gs, A4, c4, im⟩ w.heap.size 1048576 w' (h.below hx (Nat.le_refl _)) hx.size hm hn (by omega) (by omega))
  have Hcost : Hid (costV ⟨g, b, p, t, A, c, xs, A2, c2, ms, A3, c3, gs, A4, c4, im⟩ = costU xs ms + ((gs.length : Int) + (ssum gs gs.length : Int)) + im.length) := Lib.hid rfl
  have Hm := Lib.hid hm
  simp only [Vl.v, Vl.cells] at *
  have b0 := Box.new w 28 #[.int .i64 g, .int .i64 b, .int .i64 p, .int .i64 t, .slice A xs.length c, .slice A2 ms.length c2, .slice A3 gs.length c3, .slice A4 im.length c4]
  have hx0 := (Nx.refl w).alloc (.cells #[.int .i64 g, .int .i64 b, .int .i64 p, .int .i64 t, .slice A xs.length c, .slice A2 ms.length c2, .slice A3 gs.length c3, .slice A4 im.length c4] 28)
  obtain ⟨C, HC⟩ : ∃ C, Hid (costV ⟨g, b, p, t, A, c, xs, A2, c2, ms, A3, c3, gs, A4, c4, im⟩ = C) := ⟨_, rfl⟩
  rw [HC.out] at HSz Hcost
  clear h hn hm hw
  go_enter Try.func7, Try.ntmps7
  go_wp2_with fail
  generalize w.alloc (.cells #[.int .i64 g, .int .i64 b, .int .i64 p, .int .i64 t, .slice A xs.length c, .slice A2 ms.length c2, .slice A3 gs.length c3, .slice A4 im.length c4] 28) = W at *
  refine (HSz.out W hx0).mono ?_
  rintro e w1 ⟨rfl, hk⟩
  have hx1 := hx0.trans hk
  have b1 := b0.nx hk
  clear b0 hx0 hk HSz
  by_cases hle : C ≤ 1048576
  case neg =>
    rw [← szR_no (by omega)]
    go_wp2
    go_ret
    exact ⟨rfl, hx1⟩
  rw [← szR_yes hle]
  have hd : decide (1048576 - C < 0) = false := by simp; omega
  have HN : Hid (VlN ⟨g, b, p, t, A, c, xs, A2, c2, ms, A3, c3, gs, A4, c4, im⟩ 1048576) := Lib.hid (by
    have h1 := Hcost.out
    unfold costU at h1
    have hs := Int.natCast_nonneg (ssum gs gs.length)
    exact ⟨show xs.length ≤ 1048576 by omega, show ms.length ≤ 1048576 by omega, show gs.length ≤ 1048576 by omega, fun k hk => show (gs.getD k sgZ).cs.length ≤ 1048576 by have := ssum_one (show k < gs.length from hk); omega, show im.length ≤ 1048576 by omega⟩)
  replace HTo := Lib.hid (fun (w' : World) (hx : Nx w w') => HTo.out w' hx HN.out)
  have HSS : Hid (ssum gs gs.length ≤ 1048576) := Lib.hid (by have h1 := Hcost.out; unfold costU at h1; omega)
  clear hle Hcost HC
  obtain ⟨⟨ys, cd⟩, Hr⟩ : ∃ r, Hid (ctR ⟨g, b, p, t, A, c, xs, A2, c2, ms, A3, c3, gs, A4, c4, im⟩ x = r) := ⟨_, rfl⟩
  have HB := Lib.hid (ctR_n ⟨g, b, p, t, A, c, xs, A2, c2, ms, A3, c3, gs, A4, c4, im⟩ x HN.out)
  rw [Hr.out] at HB
  have hy : ys.length ≤ 1048576 := HB.out
  obtain ⟨y0, y1, y2, y3, y4, y5, y6, y7⟩ := b1.e8
  go_wp2_with fail
  clear y0 y1 y2 y3 y4 y5 y6 y7 hd
  refine (HTo.out _ hx1).mono ?_
  rintro e w2 ⟨V5, rfl, hs5, ho5, hk⟩
  obtain ⟨g5, b5, p5, t5, A5, c5, xs5, A25, c25, ms5, A35, c35, gs5, A45, c45, im5⟩ := V5
  obtain ⟨e1, e2, e3, e4, e5, e6, e7, e8⟩ := hs5
  simp only [Vl.v, Vl.cells] at *
  replace e1 := e1.symm
  replace e2 := e2.symm
  replace e3 := e3.symm
  replace e4 := e4.symm
  replace e5 := e5.symm
  replace e6 := e6.symm
  replace e8 := e8.symm
  subst e1 e2 e3 e4 e5 e6 e8
  have hS5 : VlS ⟨g, b, p, t, A, c, xs, A2, c2, ms, A3, c3, gs, A4, c4, im⟩ ⟨g, b, p, t, A5, c5, xs, A25, c25, ms, A35, c35, gs5, A45, c45, im⟩ := ⟨rfl, rfl, rfl, rfl, rfl, rfl, e7, rfl⟩
  have hX := hx1.trans hk
  have bD := b1.nx hk
  have z1 := hk.size
  have HT := Lib.hid (ctR_s hS5 x)
  have hsp := specContentAt_c ⟨g, b, p, t, A5, c5, xs, A25, c25, ms, A35, c35, gs5, A45, c45, im⟩ x w2.heap.size w2 ho5.vlt (Nat.le_refl _) (hS5.n HN.out) ho5.cap Hm.out
  rw [HT.out, Hr.out] at hsp
  have HSP := Lib.hid hsp
  have zz := b1.lt
  clear HT hsp b1 hx1 hk e7
  go_wp2_with fail
  refine HSP.out.mono ?_
  rintro e w3 ⟨A0, c0, rfl, hS0, hk⟩
  replace hS0 := hS0.sr
  have zhk := hk.size; replace bD := bD.nx hk; replace hX := hX.trans hk
  clear ho5 hS5 HSP hk
  obtain ⟨y0, y1, y2, y3, y4, y5, y6, y7⟩ := bD.e8
  go_wp2_with fail
  clear y0 y1 y2 y3 y4 y5 y6 y7
  refine (HTo.out _ hX).mono ?_
  rintro e w4 ⟨V6, rfl, hs6, ho6, hk⟩
  obtain ⟨g6, b6, p6, t6, A6, c6, xs6, A26, c26, ms6, A36, c36, gs6, A46, c46, im6⟩ := V6
  obtain ⟨e1, e2, e3, e4, e5, e6, e7, e8⟩ := hs6
  simp only [Vl.v, Vl.cells] at *
  replace e1 := e1.symm
  replace e2 := e2.symm
  replace e3 := e3.symm
  replace e4 := e4.symm
  replace e5 := e5.symm
  replace e6 := e6.symm
  replace e8 := e8.symm
  subst e1 e2 e3 e4 e5 e6 e8
  have hS6 : VlS ⟨g, b, p, t, A, c, xs, A2, c2, ms, A3, c3, gs, A4, c4, im⟩ ⟨g, b, p, t, A6, c6, xs, A26, c26, ms, A36, c36, gs6, A46, c46, im⟩ := ⟨rfl, rfl, rfl, rfl, rfl, rfl, e7, rfl⟩
  have zk4 := hk.size; replace bD := bD.nx hk; replace hS0 := hS0.nx hk; replace hX := hX.trans hk
  clear hk e7
  have bx := Box.new w4 36 #[.int .i64 g, .int .i64 b, .int .i64 p, .int .i64 t, .slice A6 xs.length c6, .slice A26 ms.length c26, .slice A36 gs6.length c36, .slice A46 im.length c46]
  have hka := (Nx.refl w4).alloc (.cells #[.int .i64 g, .int .i64 b, .int .i64 p, .int .i64 t, .slice A6 xs.length c6, .slice A26 ms.length c26, .slice A36 gs6.length c36, .slice A46 im.length c46] 36)
  have zW : w4.heap.size < (w4.alloc (.cells #[.int .i64 g, .int .i64 b, .int .i64 p, .int .i64 t, .slice A6 xs.length c6, .slice A26 ms.length c26, .slice A36 gs6.length c36, .slice A46 im.length c46] 36)).heap.size := by simp
  have hY := hka
  have zhka := hka.size; replace bD := bD.nx hka; replace hS0 := hS0.nx hka; replace hX := hX.trans hka
  obtain ⟨y0, y1, y2, y3, y4, y5, y6, y7⟩ := bx.e8
  go_wp2_with fail
  clear y0 y1 y2 y3 y4 y5 y6 y7
  clear hka
  generalize w4.alloc (.cells #[.int .i64 g, .int .i64 b, .int .i64 p, .int .i64 t, .slice A6 xs.length c6, .slice A26 ms.length c26, .slice A36 gs6.length c36, .slice A46 im.length c46] 36) = W4 at *
  have HT := Lib.hid (ctR_s hS6 x)
  have hip := implContentAt_c ⟨g, b, p, t, A6, c6, xs, A26, c26, ms, A36, c36, gs6, A46, c46, im⟩ x W4.heap.size W4 (ho6.nx hY).vlt (Nat.le_refl _) (hS6.n HN.out) ho6.cap ho6.cap3 Hm.out
  rw [HT.out, Hr.out] at hip
  clear HT
  refine hip.mono ?_
  rintro e w5 ⟨A8, c8, rfl, hS8, hk⟩
  replace hS8 := hS8.sr
  replace hY := hY.trans hk
  have zk5 := hk.size; replace bD := bD.nx hk; replace hS0 := hS0.nx hk; replace bx := bx.nx hk; replace hX := hX.trans hk
  clear hk hip
  go_wp2_with fail
  refine (eqIntS_c A8 A0 c8 c0 _ ys _ hS8.sl.row hS0.sl.row (Nat.le_refl _) hy).mono ?_
  rintro e w7 ⟨rfl, hk⟩
  replace hY := hY.trans hk
  have zk7 := hk.size; replace bD := bD.nx hk; replace hS0 := hS0.nx hk; replace bx := bx.nx hk; replace hS8 := hS8.nx hk; replace hX := hX.trans hk
  clear hk
  have ho7 := ho6.nx hY
  have hcc : (cd != cd) = false := by simp
  go_wp2_with fail
  refine wp_region_plan (.t 0 (.t 1 (.c 2 (.c 3 (.t 4 .e))))) (fun w' => (w'.cell? ⟨w4.heap.size, 0, none⟩ = some (.int .i64 g) ∧ w'.cell? ⟨w4.heap.size, 1, none⟩ = some (.int .i64 b) ∧ w'.cell? ⟨w4.heap.size, 2, none⟩ = some (.int .i64 p) ∧ w'.cell? ⟨w4.heap.size, 3, none⟩ = some (.int .i64 t) ∧ w'.cell? ⟨w4.heap.size, 4, none⟩ = some (.slice A6 xs.length c6) ∧ w'.cell? ⟨w4.heap.size, 5, none⟩ = some (.slice A26 ms.length c26) ∧ w'.cell? ⟨w4.heap.size, 6, none⟩ = some (.slice A36 gs6.length c36) ∧ w'.cell? ⟨w4.heap.size, 7, none⟩ = some (.slice A46 im.length c46)) ∧ w'.cell? ⟨w.heap.size, 0, none⟩ = some (.int .i64 g) ∧ w'.cell? ⟨w.heap.size, 1, none⟩ = some (.int .i64 b) ∧ w'.cell? ⟨w.heap.size, 2, none⟩ = some (.int .i64 p) ∧ w'.cell? ⟨w.heap.size, 3, none⟩ = some (.int .i64 t) ∧ w'.cell? ⟨w.heap.size, 4, none⟩ = some (.slice A xs.length c) ∧ w'.cell? ⟨w.heap.size, 5, none⟩ = some (.slice A2 ms.length c2) ∧ w'.cell? ⟨w.heap.size, 6, none⟩ = some (.slice A3 gs.length c3) ∧ w'.cell? ⟨w.heap.size, 7, none⟩ = some (.slice A4 im.length c4)) (by kernel_rfl) (by kernel_rfl) rfl (by kernel_rfl) (fun _ _ d _ _ h => by cases d <;> exact h) (by exact ⟨(bx.nx (Nx.refl _).drew).e8, (bD.nx (Nx.refl _).drew).e8⟩) ?_
  simp only [psOf, List.getD_cons_zero, List.getD_cons_succ]
  repeat (first | (refine HP.take (v := ?_) (by rfl) ?_ ?_; rotate_left; (· (intro w hSw; (try dsimp only at hSw); go_simp; try with_reducible rfl)); (try simp only [Act.put, List.setIfInBounds_toArray, List.set_cons_zero, List.set_cons_succ])) | (refine HP.skip (by rfl) ?_; (try simp only [Act.put, List.setIfInBounds_toArray, List.set_cons_zero, List.set_cons_succ])))
  refine HP.call ?_
  refine CallStep.mk (by rfl) (fun K hK => ?_)
  go_simp
  refine (HTo.out _ hX.drew).mono ?_; rintro e w8 ⟨V9, rfl, hs9, ho9, hk⟩; obtain ⟨g9, b9, p9, t9, A9, c9, xs9, A29, c29, ms9, A39, c39, gs9, A49, c49, im9⟩ := V9; obtain ⟨e1, e2, e3, e4, e5, e6, e7, e8⟩ := hs9; simp only [Vl.v, Vl.cells] at *; replace e1 := e1.symm; replace e2 := e2.symm; replace e3 := e3.symm; replace e4 := e4.symm; replace e5 := e5.symm; replace e6 := e6.symm; replace e8 := e8.symm; subst e1 e2 e3 e4 e5 e6 e8; have bx8 := (bx.nx (Nx.refl _).drew).nx hk; have bl8 := (bD.nx (Nx.refl _).drew).nx hk; have hx8 := hX.drew.trans hk; have ho8 := (ho7.nx (Nx.refl _).drew).nx hk; have zk8 := hk.size; have hkA := hk; clear hk
  go_wp2_with fail
  refine hK.out _ _ (by exact ⟨bx8.e8, bl8.e8⟩) ?_
  clear hK K
  try simp only [Act.put, List.setIfInBounds_toArray, List.set_cons_zero, List.set_cons_succ]
  refine HP.call ?_
  refine CallStep.mk (by rfl) (fun K hK => ?_)
  go_simp
  refine (eqVault_c ⟨g, b, p, t, A6, c6, xs, A26, c26, ms, A36, c36, gs6, A46, c46, im⟩ ⟨g, b, p, t, A9, c9, xs, A29, c29, ms, A39, c39, gs9, A49, c49, im⟩ w8.heap.size w8 (ho8.vlt) (ho9.vlt) (hS6.symm.trans ⟨rfl, rfl, rfl, rfl, rfl, rfl, e7, rfl⟩) (Nat.le_refl _) (hS6.n HN.out)).mono ?_; rintro e w9 ⟨rfl, hk⟩; have bx9 := bx8.nx hk; have bl9 := bl8.nx hk; have hx9 := hx8.trans hk; have ho9 := ho8.nx hk; replace hS0 := (((hS0.nx (Nx.refl _).drew).nx hkA)).nx hk; replace hS8 := (((hS8.nx (Nx.refl _).drew).nx hkA)).nx hk; replace hY := ((hY.drew).trans hkA).trans hk; have zk9 := hk.size; clear hk hkA
  go_wp2_with fail
  refine hK.out _ _ (by exact ⟨bx9.e8, bl9.e8⟩) ?_
  clear hK K
  try simp only [Act.put, List.setIfInBounds_toArray, List.set_cons_zero, List.set_cons_succ]
  repeat (first | (refine HP.take (v := ?_) (by rfl) ?_ ?_; rotate_left; (· (intro w hSw; (try dsimp only at hSw); go_simp; try with_reducible rfl)); (try simp only [Act.put, List.setIfInBounds_toArray, List.set_cons_zero, List.set_cons_succ])) | (refine HP.skip (by rfl) ?_; (try simp only [Act.put, List.setIfInBounds_toArray, List.set_cons_zero, List.set_cons_succ])))
  refine HP.done ?_
  have zd : w7.drew.heap.size = w7.heap.size := rfl
  clear bD bx hX ho7 ho8 ho9 e7 hcc bx8 bl8 hx8
  have bD := bl9
  have bx := bx9
  have hX := hx9
  clear bl9 bx9 hx9
  obtain ⟨y0, y1, y2, y3, y4, y5, y6, y7⟩ := bx.e8
  go_wp2_with fail
  clear y0 y1 y2 y3 y4 y5 y6 y7
  refine (markVault_c ⟨g, b, p, t, A6, c6, xs, A26, c26, ms, A36, c36, gs6, A46, c46, im⟩ w3.heap.size w4.heap.size w9 w4 ho6 rfl hY (hS6.n HN.out) (by rw [hS6.ss]; exact HSS.out)).mono ?_
  rintro e wc ⟨⟨q1, rfl⟩, hr1⟩
  have zr1 := hr1.size; replace bD := bD.rg hr1 (by omega); replace hS0 := hS0.rg hr1 (by omega); replace bx := bx.rg hr1 (by omega); replace hS8 := hS8.rg hr1 (by omega); replace hX := Rg.nx_of hX hr1 (by omega)
  clear hr1 hY ho6
  have hd2 : decide ((q1 : Int) < 0) = false := decide_eq_false (by omega)
  have hcc : (cd != cd) = false := by simp
  go_wp2_with fail
  refine (eqIntS_c A8 A0 c8 c0 _ ys _ hS8.sl.row hS0.sl.row (Nat.le_refl _) hy).mono ?_
  rintro e we ⟨rfl, hk⟩
  have zke := hk.size; replace bD := bD.nx hk; replace hS0 := hS0.nx hk; replace bx := bx.nx hk; replace hS8 := hS8.nx hk; replace hX := hX.trans hk
  clear hk
  go_wp2_with fail
  refine (markIntS_c A8 ys.length c8 1 _ _ _ _ hS8 hy (by omega)).mono ?_
  rintro e wf ⟨rfl, hS8b, hr3⟩
  have zr3 := hr3.size; replace bD := bD.rg hr3 (by omega); replace hS0 := hS0.rg hr3 (by omega); replace bx := bx.rg hr3 (by omega); replace hX := Rg.nx_of hX hr3 (by omega)
  clear hS8 hr3
  obtain ⟨q3, Hq3⟩ : ∃ q, Hid (1 + ys.length = q) := ⟨_, rfl⟩
  have hd3 : decide ((q3 : Int) < 0) = false := decide_eq_false (by omega)
  have hqq : ((q3 : Int) != (q3 : Int)) = false := by simp
  rw [Hq3.out]
  go_wp2_with fail
  refine (heldIntS_c A8 ys.length c8 1 _ _ hS8b.sl.row hy (by omega)).mono ?_
  rintro e w' ⟨rfl, rfl⟩
  rw [Hq3.out]
  obtain ⟨y0, y1, y2, y3, y4, y5, y6, y7⟩ := bD.e8
  go_wp2_with fail
  clear y0 y1 y2 y3 y4 y5 y6 y7
  refine (HTo.out _ hX).mono ?_
  rintro e u2 ⟨V7, rfl, hs7, ho7, hk⟩
  obtain ⟨g7, b7, p7, t7, A7, c7, xs7, A27, c27, ms7, A37, c37, gs7, A47, c47, im7⟩ := V7
  obtain ⟨e1, e2, e3, e4, e5, e6, e7, e8⟩ := hs7
  simp only [Vl.v, Vl.cells] at *
  replace e1 := e1.symm
  replace e2 := e2.symm
  replace e3 := e3.symm
  replace e4 := e4.symm
  replace e5 := e5.symm
  replace e6 := e6.symm
  replace e8 := e8.symm
  subst e1 e2 e3 e4 e5 e6 e8
  have hS7 : VlS ⟨g, b, p, t, A, c, xs, A2, c2, ms, A3, c3, gs, A4, c4, im⟩ ⟨g, b, p, t, A7, c7, xs, A27, c27, ms, A37, c37, gs7, A47, c47, im⟩ := ⟨rfl, rfl, rfl, rfl, rfl, rfl, e7, rfl⟩
  have zku := hk.size; replace bD := bD.nx hk; replace hS0 := hS0.nx hk; replace hS8b := hS8b.nx hk; replace hX := hX.trans hk
  clear hk e7
  have HT := Lib.hid (ctR_s hS7 x)
  have hip := implContentAt_c ⟨g, b, p, t, A7, c7, xs, A27, c27, ms, A37, c37, gs7, A47, c47, im⟩ x u2.heap.size u2 ho7.vlt (Nat.le_refl _) (hS7.n HN.out) ho7.cap ho7.cap3 Hm.out
  rw [HT.out, Hr.out] at hip
  have HIP := Lib.hid hip
  clear HT hip ho7
  go_wp2_with fail
  refine HIP.out.mono ?_
  rintro e u3 ⟨A15, c15, rfl, hS15, hk⟩
  have zkv := hk.size; replace bD := bD.nx hk; replace hS0 := hS0.nx hk; replace hS8b := hS8b.nx hk; replace hX := hX.trans hk
  clear hk HIP hS7
  go_wp2_with fail
  refine (eqIntS_c A15 A0 c15 c0 _ ys _ hS15.row hS0.sl.row (Nat.le_refl _) hy).mono ?_
  rintro e wg ⟨rfl, hk⟩
  have zkw := hk.size; replace bD := bD.nx hk; replace hS0 := hS0.nx hk; replace hS8b := hS8b.nx hk; replace hX := hX.trans hk
  clear hk hS15
  go_wp2_with fail
  refine (heldIntS_c A8 ys.length c8 1 _ _ hS8b.sl.row hy (by omega)).mono ?_
  rintro e w' ⟨rfl, rfl⟩
  rw [Hq3.out]
  go_wp2
  go_ret
  exact ⟨rfl, hX⟩
end Go.Proofs.Ytihpadelfpogmaa
