/-
  The program's view of a vault: what fits forwards.
  Conditions: what is read can be read, and holds at most 1048576 elements of a kind.
-/
import Derived.Test.YtihpadelfpogmaaNqa
namespace Go.Proofs.Ytihpadelfpogmaa
set_option linter.unusedVariables false
set_option maxRecDepth 100000
open Go.RowKit

set_option maxHeartbeats 4000000 in
theorem fitsForward_c (V : Vl) (B : Nat) (w : World) (h : Sgs w B V.A3 V.gs) (hB : B ≤ w.heap.size) (hl : Lead V.b V.gs) (hc3 : V.gs.length ≤ V.c3) (h8 : V.im.length = 8) (hp : plcB V.b V.p V.t V.gs V.ms = true) :
    Calls Try.prog 133 #[V.w] w fun e w' => e = .returned (.bool (fitF (stp V.b V.p V.t V.gs V.im).1 V.gs (stp V.b V.p V.t V.gs V.im).2)) ∧ Nx w w' := by
  have hSD := stepDone_c V B
  obtain ⟨g, b, p, t, A, c, xs, A2, c2, ms, A3, c3, gs, A4, c4, im⟩ := V
  simp only [Vl.w, Vl.wcells] at *
  have hsl := stp_le (t := t) im hl hp
  have HSD := Lib.hid (fun (w' : World) (hx : Nx w w') => hSD w' (h.below hx hB) (Nat.le_trans hB hx.size) hl h8 (by unfold plcB at hp; simp only [Bool.and_eq_true] at hp; exact hp.1.2) hsl.2)
  have HL0 : Hid ((stp b p t gs im).1.length = 8) := Lib.hid (by rw [stp_len]; exact h8)
  have hat := hsl.1
  obtain ⟨n, Hn⟩ : ∃ n, Hid (gs.length = n) := ⟨_, rfl⟩
  have HSg := Lib.hid (fun (k : Nat) (hk : k < gs.length) (w' : World) (hx : Nx w w') => (h.below hx hB).row.at4 hk)
  have HCh := Lib.hid (fun (k : Nat) (hk : k < gs.length) (w' : World) (hx : Nx w w') => (h.chs k hk).below hx hB)
  have HOKs := Lib.hid (fun k (hk : k < n) => hl.ok k (by rw [Hn.out]; exact hk))
  have hn9 : n ≤ 4096 := by have := hl.short; rw [Hn.out] at this; exact this
  rw [Hn.out] at HSD HSg HCh hc3 hat ⊢
  obtain ⟨c0, Hc0⟩ : ∃ c0, Hid ((stp b p t gs im).1 = c0) := ⟨_, rfl⟩
  obtain ⟨a, Hat⟩ : ∃ a, Hid ((stp b p t gs im).2 = a) := ⟨_, rfl⟩
  rw [Hc0.out, Hat.out] at HSD ⊢
  rw [Hc0.out] at HL0
  rw [Hat.out] at hat
  have b0 := Box.new w 101 #[.int .i64 g, .int .i64 b, .int .i64 p, .int .i64 t, .slice A xs.length c, .slice A2 ms.length c2, .slice A3 n c3, inAt im 0, inAt im 1, inAt im 2, inAt im 3, inAt im 4, inAt im 5, inAt im 6, inAt im 7]
  have hx0 := (Nx.refl w).alloc (.cells #[.int .i64 g, .int .i64 b, .int .i64 p, .int .i64 t, .slice A xs.length c, .slice A2 ms.length c2, .slice A3 n c3, inAt im 0, inAt im 1, inAt im 2, inAt im 3, inAt im 4, inAt im 5, inAt im 6, inAt im 7] 101)
  clear hSD h hl h8 hp hsl
  go_enter Try.func133, Try.ntmps133
  go_wp2_with fail
  generalize w.alloc (.cells #[.int .i64 g, .int .i64 b, .int .i64 p, .int .i64 t, .slice A xs.length c, .slice A2 ms.length c2, .slice A3 n c3, inAt im 0, inAt im 1, inAt im 2, inAt im 3, inAt im 4, inAt im 5, inAt im 6, inAt im 7] 101) = W at *
  refine (HSD.out _ hx0).mono ?_
  rintro e w1 ⟨rfl, hk⟩
  unfold vA
  have b1 := b0.nx hk
  replace hx0 := hx0.trans hk
  have rz := Box.new w1 99 #[.int .i64 0, .int .i64 0, .int .i64 0, .int .i64 0, .int .i64 0, .int .i64 0, .int .i64 0, .int .i64 0]
  have b2 := (b1.alloc (.cells #[.int .i64 0, .int .i64 0, .int .i64 0, .int .i64 0, .int .i64 0, .int .i64 0, .int .i64 0, .int .i64 0] 99)).rowfar (show w.heap.size ≠ w1.heap.size by have := b1.lt; omega) #[inAt c0 0, inAt c0 1, inAt c0 2, inAt c0 3, inAt c0 4, inAt c0 5, inAt c0 6, inAt c0 7]
  have ba := rz.row #[inAt c0 0, inAt c0 1, inAt c0 2, inAt c0 3, inAt c0 4, inAt c0 5, inAt c0 6, inAt c0 7]
  have hx2 := (hx0.alloc (.cells #[.int .i64 0, .int .i64 0, .int .i64 0, .int .i64 0, .int .i64 0, .int .i64 0, .int .i64 0, .int .i64 0] 99)).setRow (g := w1.heap.size) hx0.size #[inAt c0 0, inAt c0 1, inAt c0 2, inAt c0 3, inAt c0 4, inAt c0 5, inAt c0 6, inAt c0 7]
  obtain ⟨y0, y1, y2, y3, y4, y5, y6, y7, y8, y9, y10, y11, y12, y13, y14⟩ := b2.e15
  have ha0 : (0 : Int) ≤ (a : Int) := by omega
  have han : (a : Int) ≤ (n : Int) := by omega
  clear b0 hk
  by_cases hlt : a < n
  case neg =>
    have hz : n - a = 0 := by omega
    have HR := Lib.hid (show fitF c0 gs a = true from FitF.all (by rw [Hn.out, hz]; exact FitF.zero _ _ _))
    clear hlt
    by_cases hce : c3 = a
    · go_wp2_with (refine wpList_store_row rfl _ _ _ rfl w1.heap.size #[inAt c0 0, inAt c0 1, inAt c0 2, inAt c0 3, inAt c0 4, inAt c0 5, inAt c0 6, inAt c0 7] rfl rfl 99 #[.int .i64 0, .int .i64 0, .int .i64 0, .int .i64 0, .int .i64 0, .int .i64 0, .int .i64 0, .int .i64 0] rz (by kernel_rfl) rfl (by simp [Value.oneCell', inAt]) ?_)
      go_loopw [17] (fun i wr => i = .int .i64 0 ∧ Nx w wr) (fun _ _ => 0)
      case atStart => exact ⟨rfl, hx2⟩
      case round =>
        obtain ⟨rfl, hnx⟩ := hrel
        go_wp2
        go_ret
        exact ⟨ret_bool HR.out.symm, hnx⟩
    · go_wp2_with (refine wpList_store_row rfl _ _ _ rfl w1.heap.size #[inAt c0 0, inAt c0 1, inAt c0 2, inAt c0 3, inAt c0 4, inAt c0 5, inAt c0 6, inAt c0 7] rfl rfl 99 #[.int .i64 0, .int .i64 0, .int .i64 0, .int .i64 0, .int .i64 0, .int .i64 0, .int .i64 0, .int .i64 0] rz (by kernel_rfl) rfl (by simp [Value.oneCell', inAt]) ?_)
      go_loopw [17] (fun i wr => i = .int .i64 0 ∧ Nx w wr) (fun _ _ => 0)
      case atStart => exact ⟨rfl, hx2⟩
      case round =>
        obtain ⟨rfl, hnx⟩ := hrel
        go_wp2
        go_ret
        exact ⟨ret_bool HR.out.symm, hnx⟩
  have hce : ¬ c3 = a := by omega
  obtain ⟨bb, off, rfl, hbb, _, _, _, _⟩ := HSg.out a hlt _ hx2
  go_wp2_with (refine wpList_store_row rfl _ _ _ rfl w1.heap.size #[inAt c0 0, inAt c0 1, inAt c0 2, inAt c0 3, inAt c0 4, inAt c0 5, inAt c0 6, inAt c0 7] rfl rfl 99 #[.int .i64 0, .int .i64 0, .int .i64 0, .int .i64 0, .int .i64 0, .int .i64 0, .int .i64 0, .int .i64 0] rz (by kernel_rfl) rfl (by simp [Value.oneCell', inAt]) ?_)
  have hgA : w.heap.size ≤ w1.heap.size := hx0.size
  clear b1 rz y0 y1 y2 y3 y4 y5 y6 y7 y8 y9 y10 y11 y12 y13 y14 b2 hce ha0 han hx0
  generalize (w1.alloc (.cells #[.int .i64 0, .int .i64 0, .int .i64 0, .int .i64 0, .int .i64 0, .int .i64 0, .int .i64 0, .int .i64 0] 99)).setRow w1.heap.size #[inAt c0 0, inAt c0 1, inAt c0 2, inAt c0 3, inAt c0 4, inAt c0 5, inAt c0 6, inAt c0 7] = Wl at *
  generalize w1.heap.size = gA at *
  obtain ⟨m, Hm⟩ : ∃ m, Hid (n - a = m) := ⟨_, rfl⟩
  rw [Hm.out]
  have hm9 : m ≤ 4096 := by have := Hm.out; omega
  go_loopw [17] (fun i wr => ∃ j : Nat, j ≤ m ∧ i = .int .i64 j ∧ FitF c0 gs a j ∧ Box wr gA 99 #[inAt (fwK c0 gs a j) 0, inAt (fwK c0 gs a j) 1, inAt (fwK c0 gs a j) 2, inAt (fwK c0 gs a j) 3, inAt (fwK c0 gs a j) 4, inAt (fwK c0 gs a j) 5, inAt (fwK c0 gs a j) 6, inAt (fwK c0 gs a j) 7] ∧ Nx w wr) (fun i _ => m - (intOf i).toNat)
  case atStart => exact ⟨0, Nat.zero_le _, rfl, FitF.zero _ _ _, ba, hx2⟩
  case round =>
  obtain ⟨j, hj, rfl, hfit, hbx, hnx⟩ := hrel
  clear hx2 ba
  by_cases hjm : j < m
  case neg =>
    obtain rfl : m = j := by omega
    have HR := Lib.hid (show fitF c0 gs a = true from FitF.all (by rw [Hn.out, Hm.out]; exact hfit))
    go_wp2
    go_ret
    exact ⟨ret_bool HR.out.symm, hnx⟩
  have hkn : a + j < n := by have := Hm.out; omega
  obtain ⟨b', off', he, _, p0, p1, p2, p3⟩ := HSg.out (a + j) hkn wr hnx
  obtain ⟨rfl, rfl⟩ : bb = b' ∧ off = off' := by simpa using he
  clear he
  have HCk := Lib.hid (HCh.out (a + j) hkn)
  have HOKc := Lib.hid (HOKs.out (a + j) hkn)
  have HFs := Lib.hid (fun hh => hfit.succ hh)
  have HFn := Lib.hid (fun hh => fitF_no (c := c0) (gs := gs) (a := a) (k := j) (by rw [Hn.out]; exact hkn) hh)
  have HLj : Hid ((fwK c0 gs a j).length = 8) := Lib.hid (by rw [fwK_len]; exact HL0.out)
  have Hsuc : Hid (fwK c0 gs a (j + 1) = app pN (fwK c0 gs a j) (gs.getD (a + j) sgZ).cs) := Lib.hid rfl
  obtain ⟨cj, Hcj⟩ : ∃ cj, Hid (fwK c0 gs a j = cj) := ⟨_, rfl⟩
  rw [Hcj.out] at HFs HFn HLj Hsuc hbx
  obtain ⟨⟨f, t9, m9, Ac, cc, cs⟩, Hs⟩ : ∃ s, Hid (gs.getD (a + j) sgZ = s) := ⟨_, rfl⟩
  rw [Hs.out] at p0 p1 p2 p3 HCk HOKc HFs HFn Hsuc
  simp only at p0 p1 p2 p3 HCk HOKc Hsuc
  rw [show off + (a + j) * 4 = off + a * 4 + j * 4 by omega] at p0 p1 p2 p3
  have HLy : Hid ((app pO cj cs).length = 8) := Lib.hid (by rw [app_len]; exact HLj.out)
  have HLn : Hid ((app pN cj cs).length = 8) := Lib.hid (by rw [app_len]; exact HLj.out)
  have bg := Box.new wr 54 #[.int .i64 f, .int .i64 t9, .int .i64 m9, .slice Ac cs.length cc]
  have hxg := (Nx.refl wr).alloc (.cells #[.int .i64 f, .int .i64 t9, .int .i64 m9, .slice Ac cs.length cc] 54)
  have ba1 := hbx.nx hxg
  have hnxa := hnx.trans hxg
  have hjc : (j : Int) < (m : Int) := by omega
  have hj0 : (0 : Int) ≤ (j : Int) := by omega
  have hjn : j < n - a := by have := Hm.out; omega
  clear hfit hbx hxg
  go_wp2_with fail
  generalize wr.alloc (.cells #[.int .i64 f, .int .i64 t9, .int .i64 m9, .slice Ac cs.length cc] 54) = wa at *
  generalize wr.heap.size = gG at *
  have bad := ba1.nx (Nx.refl _).drew
  have bgd := bg.nx (Nx.refl _).drew
  clear p0 p1 p2 p3 ba1 bg
  refine wp_region_plan (.t 0 (.t 1 (.t 3 (.c 2 (.t 4 .e))))) (fun w' => (w'.cell? ⟨gA, 0, none⟩ = some (inAt cj 0) ∧ w'.cell? ⟨gA, 1, none⟩ = some (inAt cj 1) ∧ w'.cell? ⟨gA, 2, none⟩ = some (inAt cj 2) ∧ w'.cell? ⟨gA, 3, none⟩ = some (inAt cj 3) ∧ w'.cell? ⟨gA, 4, none⟩ = some (inAt cj 4) ∧ w'.cell? ⟨gA, 5, none⟩ = some (inAt cj 5) ∧ w'.cell? ⟨gA, 6, none⟩ = some (inAt cj 6) ∧ w'.cell? ⟨gA, 7, none⟩ = some (inAt cj 7)) ∧ (w'.cell? ⟨gG, 0, none⟩ = some (.int .i64 f) ∧ w'.cell? ⟨gG, 1, none⟩ = some (.int .i64 t9) ∧ w'.cell? ⟨gG, 2, none⟩ = some (.int .i64 m9) ∧ w'.cell? ⟨gG, 3, none⟩ = some (.slice Ac cs.length cc))) (by kernel_rfl) (by kernel_rfl) rfl (by kernel_rfl) (fun _ _ d _ _ h => by cases d <;> exact h) (by exact ⟨bad.e8, bgd.d4⟩) ?_
  simp only [psOf, List.getD_cons_zero, List.getD_cons_succ]
  repeat (first | (refine HP.take (v := ?_) (by rfl) ?_ ?_; rotate_left; (· (intro w hSw; (try dsimp only at hSw); go_simp; try with_reducible rfl)); (try simp only [Act.put, List.setIfInBounds_toArray, List.set_cons_zero, List.set_cons_succ])) | (refine HP.skip (by rfl) ?_; (try simp only [Act.put, List.setIfInBounds_toArray, List.set_cons_zero, List.set_cons_succ])))
  refine HP.call ?_
  refine CallStep.mk (by rfl) (fun K hK => ?_)
  go_simp
  have hcl := valuesBackward_c f t9 m9 Ac cc B cs cj _ (HCk.out _ hnxa.drew) (Nat.le_trans hB hnxa.drew.size) HOKc.out HLj.out; unfold vA at hcl; refine hcl.mono ?_; rintro e w8 ⟨rfl, hk8⟩; clear hcl; have ba8 := bad.nx hk8; have bg8 := bgd.nx hk8; have hnx8 := hnxa.drew.trans hk8
  go_wp2_with fail
  refine hK.out _ _ (by exact ⟨ba8.e8, bg8.d4⟩) ?_
  clear hK K
  try simp only [Act.put, List.setIfInBounds_toArray, List.set_cons_zero, List.set_cons_succ]
  refine HP.take (v := .bool (!decide (app pO cj cs = cj))) (by rfl) (fun w _ => neq_op HLy.out HLj.out w rfl rfl rfl) ?_
  try simp only [Act.put, List.setIfInBounds_toArray, List.set_cons_zero, List.set_cons_succ]
  refine HP.done ?_
  by_cases ho : app pO cj cs = cj
  case neg =>
    have HR := Lib.hid (HFn.out (decide_eq_false ho))
    rw [decide_eq_false ho]
    clear ho HFs HFn
    go_wp2
    go_ret
    exact ⟨ret_bool HR.out.symm, hnx8⟩
  have HFs' := Lib.hid (HFs.out (decide_eq_true ho))
  rw [decide_eq_true ho]
  clear ho HFs HFn
  obtain ⟨y0, y1, y2, y3, y4, y5, y6, y7⟩ := ba8.e8
  obtain ⟨q0, q1, q2, q3⟩ := bg8.d4
  go_wp2_with fail
  have hcl := valuesForward_c f t9 m9 Ac cc B cs cj _ (HCk.out _ hnx8) (Nat.le_trans hB hnx8.size) HOKc.out HLj.out
  unfold vA at hcl
  refine hcl.mono ?_
  rintro e w9 ⟨rfl, hk9⟩
  have ba9 := ba8.nx hk9
  have hnx9 := hnx8.trans hk9
  clear hcl y0 y1 y2 y3 y4 y5 y6 y7 q0 q1 q2 q3 ba8 bg8
  have bz := ba9.row #[inAt (app pN cj cs) 0, inAt (app pN cj cs) 1, inAt (app pN cj cs) 2, inAt (app pN cj cs) 3, inAt (app pN cj cs) 4, inAt (app pN cj cs) 5, inAt (app pN cj cs) 6, inAt (app pN cj cs) 7]
  have hnxz := hnx9.setRow hgA #[inAt (app pN cj cs) 0, inAt (app pN cj cs) 1, inAt (app pN cj cs) 2, inAt (app pN cj cs) 3, inAt (app pN cj cs) 4, inAt (app pN cj cs) 5, inAt (app pN cj cs) 6, inAt (app pN cj cs) 7]
  go_wp2_with (refine wpList_store_row rfl _ _ _ rfl gA #[inAt (app pN cj cs) 0, inAt (app pN cj cs) 1, inAt (app pN cj cs) 2, inAt (app pN cj cs) 3, inAt (app pN cj cs) 4, inAt (app pN cj cs) 5, inAt (app pN cj cs) 6, inAt (app pN cj cs) 7] rfl rfl 99 #[inAt cj 0, inAt cj 1, inAt cj 2, inAt cj 3, inAt cj 4, inAt cj 5, inAt cj 6, inAt cj 7] ba9 (by kernel_rfl) rfl (by simp [Value.oneCell', inAt]) ?_)
  go_roundw
  case rel => exact ⟨j + 1, by omega, by go_num, HFs'.out, by rw [Hsuc.out]; exact bz, hnxz⟩
  case measure => (simp [intOf] <;> omega)
end Go.Proofs.Ytihpadelfpogmaa
