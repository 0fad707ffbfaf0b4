/-
  The program's view of a vault: what fits back.
  Conditions: what is read can be read, and holds at most 1048576 elements of a kind.
-/
import Derived.Test.YtihpadelfpogmaaNqa
namespace Go.Proofs.Ytihpadelfpogmaa
set_option linter.unusedVariables false
set_option maxRecDepth 100000
open Go.RowKit

set_option maxHeartbeats 4000000 in
theorem fitsBack_c (V : Vl) (B : Nat) (w : World) (h : Sgs w B V.A3 V.gs) (hB : B ≤ w.heap.size) (hl : Lead V.b V.gs) (h8 : V.im.length = 8) (hp : plcB V.b V.p V.t V.gs V.ms = true) :
    Calls Try.prog 134 #[V.w] w fun e w' => e = .returned (.bool (fitB (stp V.b V.p V.t V.gs V.im).1 V.gs (stp V.b V.p V.t V.gs V.im).2)) ∧ Nx w w' := by
  have hSD := stepDone_c V B
  obtain ⟨g, b, p, t, A, c, xs, A2, c2, ms, A3, c3, gs, A4, c4, im⟩ := V
  simp only [Vl.w, Vl.wcells] at *
  have hsl := stp_le (t := t) im hl hp
  have HSD := Lib.hid (fun (w' : World) (hx : Nx w w') => hSD w' (h.below hx hB) (Nat.le_trans hB hx.size) hl h8 (by unfold plcB at hp; simp only [Bool.and_eq_true] at hp; exact hp.1.2) hsl.2)
  have HL0 : Hid ((stp b p t gs im).1.length = 8) := Lib.hid (by rw [stp_len]; exact h8)
  have hat := hsl.1
  obtain ⟨n, Hn⟩ : ∃ n, Hid (gs.length = n) := ⟨_, rfl⟩
  have HSg := Lib.hid (fun (k : Nat) (hk : k < gs.length) (w' : World) (hx : Nx w w') => (h.below hx hB).row.at4 hk)
  have HCh := Lib.hid (fun (k : Nat) (hk : k < gs.length) (w' : World) (hx : Nx w w') => (h.chs k hk).below hx hB)
  have HOKs := Lib.hid (fun k (hk : k < n) => hl.ok k (by rw [Hn.out]; exact hk))
  have hn9 : n ≤ 4096 := by have := hl.short; rw [Hn.out] at this; exact this
  rw [Hn.out] at HSD HSg HCh hat ⊢
  obtain ⟨c0, Hc0⟩ : ∃ c0, Hid ((stp b p t gs im).1 = c0) := ⟨_, rfl⟩
  obtain ⟨a, Hat⟩ : ∃ a, Hid ((stp b p t gs im).2 = a) := ⟨_, rfl⟩
  rw [Hc0.out, Hat.out] at HSD ⊢
  rw [Hc0.out] at HL0
  rw [Hat.out] at hat
  have b0 := Box.new w 101 #[.int .i64 g, .int .i64 b, .int .i64 p, .int .i64 t, .slice A xs.length c, .slice A2 ms.length c2, .slice A3 n c3, inAt im 0, inAt im 1, inAt im 2, inAt im 3, inAt im 4, inAt im 5, inAt im 6, inAt im 7]
  have hx0 := (Nx.refl w).alloc (.cells #[.int .i64 g, .int .i64 b, .int .i64 p, .int .i64 t, .slice A xs.length c, .slice A2 ms.length c2, .slice A3 n c3, inAt im 0, inAt im 1, inAt im 2, inAt im 3, inAt im 4, inAt im 5, inAt im 6, inAt im 7] 101)
  clear hSD h hl h8 hp hsl
  go_enter Try.func134, Try.ntmps134
  go_wp2_with fail
  generalize w.alloc (.cells #[.int .i64 g, .int .i64 b, .int .i64 p, .int .i64 t, .slice A xs.length c, .slice A2 ms.length c2, .slice A3 n c3, inAt im 0, inAt im 1, inAt im 2, inAt im 3, inAt im 4, inAt im 5, inAt im 6, inAt im 7] 101) = W at *
  refine (HSD.out _ hx0).mono ?_
  rintro e w1 ⟨rfl, hk⟩
  unfold vA
  have b1 := b0.nx hk
  replace hx0 := hx0.trans hk
  have rz := Box.new w1 99 #[.int .i64 0, .int .i64 0, .int .i64 0, .int .i64 0, .int .i64 0, .int .i64 0, .int .i64 0, .int .i64 0]
  have b2 := (b1.alloc (.cells #[.int .i64 0, .int .i64 0, .int .i64 0, .int .i64 0, .int .i64 0, .int .i64 0, .int .i64 0, .int .i64 0] 99)).rowfar (show w.heap.size ≠ w1.heap.size by have := b1.lt; omega) #[inAt c0 0, inAt c0 1, inAt c0 2, inAt c0 3, inAt c0 4, inAt c0 5, inAt c0 6, inAt c0 7]
  have ba := rz.row #[inAt c0 0, inAt c0 1, inAt c0 2, inAt c0 3, inAt c0 4, inAt c0 5, inAt c0 6, inAt c0 7]
  have hx2 := (hx0.alloc (.cells #[.int .i64 0, .int .i64 0, .int .i64 0, .int .i64 0, .int .i64 0, .int .i64 0, .int .i64 0, .int .i64 0] 99)).setRow (g := w1.heap.size) hx0.size #[inAt c0 0, inAt c0 1, inAt c0 2, inAt c0 3, inAt c0 4, inAt c0 5, inAt c0 6, inAt c0 7]
  have hwn : IntKind.i64.wrap ((a : Int) - 1) = (a : Int) - 1 := IntWalk.i64_in _ (by omega)
  clear b0 hk
  go_wp2_with (refine wpList_store_row rfl _ _ _ rfl w1.heap.size #[inAt c0 0, inAt c0 1, inAt c0 2, inAt c0 3, inAt c0 4, inAt c0 5, inAt c0 6, inAt c0 7] rfl rfl 99 #[.int .i64 0, .int .i64 0, .int .i64 0, .int .i64 0, .int .i64 0, .int .i64 0, .int .i64 0, .int .i64 0] rz (by kernel_rfl) rfl (by simp [Value.oneCell', inAt]) ?_)
  have hgA : w.heap.size ≤ w1.heap.size := hx0.size
  have hneA : w.heap.size ≠ w1.heap.size := by have := b1.lt; omega
  clear b1 rz hx0
  generalize (w1.alloc (.cells #[.int .i64 0, .int .i64 0, .int .i64 0, .int .i64 0, .int .i64 0, .int .i64 0, .int .i64 0, .int .i64 0] 99)).setRow w1.heap.size #[inAt c0 0, inAt c0 1, inAt c0 2, inAt c0 3, inAt c0 4, inAt c0 5, inAt c0 6, inAt c0 7] = Wl at *
  generalize w1.heap.size = gA at *
  go_loopw [5] (fun i wr => ∃ k : Nat, k ≤ a ∧ i = .int .i64 ((k : Int) - 1) ∧ FitB c0 gs a (a - k) ∧ Box wr gA 99 #[inAt (bkK c0 gs a (a - k)) 0, inAt (bkK c0 gs a (a - k)) 1, inAt (bkK c0 gs a (a - k)) 2, inAt (bkK c0 gs a (a - k)) 3, inAt (bkK c0 gs a (a - k)) 4, inAt (bkK c0 gs a (a - k)) 5, inAt (bkK c0 gs a (a - k)) 6, inAt (bkK c0 gs a (a - k)) 7] ∧ Nx w wr ∧ Box wr w.heap.size 101 #[.int .i64 g, .int .i64 b, .int .i64 p, .int .i64 t, .slice A xs.length c, .slice A2 ms.length c2, .slice A3 n c3, inAt im 0, inAt im 1, inAt im 2, inAt im 3, inAt im 4, inAt im 5, inAt im 6, inAt im 7]) (fun i _ => (intOf i + 1).toNat)
  case atStart => exact ⟨a, Nat.le_refl _, rfl, by rw [Nat.sub_self]; exact FitB.zero _ _ _, by rw [Nat.sub_self]; exact ba, hx2, b2⟩
  case round =>
  obtain ⟨k, hk, rfl, hfit, hbx, hnx, hb⟩ := hrel
  clear hx2 ba b2 hwn
  by_cases hk0 : k = 0
  case pos =>
    have HR := Lib.hid (show fitB c0 gs a = true from FitB.all (by rw [hk0, Nat.sub_zero] at hfit; exact hfit))
    rw [show ((k : Int) - 1) = -1 by omega]
    clear hk0 hfit
    go_wp2
    go_ret
    exact ⟨ret_bool HR.out.symm, hnx⟩
  obtain ⟨i, rfl⟩ : ∃ i, k = i + 1 := ⟨k - 1, by omega⟩
  rw [show ((i + 1 : Nat) : Int) - 1 = (i : Int) by omega]
  have hkn : i < n := by omega
  obtain ⟨j, Hj⟩ : ∃ j, Hid (a - (i + 1) = j) := ⟨_, rfl⟩
  have Hkj : Hid (i = a - 1 - j) := Lib.hid (by have := Hj.out; omega)
  rw [Hj.out] at hfit hbx
  obtain ⟨bb, off, rfl, hbb, p0, p1, p2, p3⟩ := HSg.out i hkn wr hnx
  have hbw : bb < wr.heap.size := Nat.lt_of_lt_of_le hbb (Nat.le_trans hB hnx.size)
  have HCk := Lib.hid (HCh.out i hkn)
  have HOKc := Lib.hid (HOKs.out i hkn)
  have HFs := Lib.hid (fun hh => hfit.succ hh)
  have HFn := Lib.hid (fun hh => fitB_no (c := c0) (gs := gs) (a := a) (k := j) (by have := Hj.out; omega) hh)
  rw [← Hkj.out] at HFs HFn
  have HLj : Hid ((bkK c0 gs a j).length = 8) := Lib.hid (by rw [bkK_len]; exact HL0.out)
  have Hsuc : Hid (bkK c0 gs a (j + 1) = app pO (bkK c0 gs a j) (gs.getD i sgZ).cs) := Lib.hid (by rw [Hkj.out]; rfl)
  obtain ⟨cj, Hcj⟩ : ∃ cj, Hid (bkK c0 gs a j = cj) := ⟨_, rfl⟩
  rw [Hcj.out] at HFs HFn HLj Hsuc hbx
  obtain ⟨⟨f, t9, m9, Ac, cc, cs⟩, Hs⟩ : ∃ s, Hid (gs.getD i sgZ = s) := ⟨_, rfl⟩
  rw [Hs.out] at p0 p1 p2 p3 HCk HOKc HFs HFn Hsuc
  simp only at p0 p1 p2 p3 HCk HOKc Hsuc
  have HLy : Hid ((app pO cj cs).length = 8) := Lib.hid (by rw [app_len]; exact HLj.out)
  have HLn : Hid ((app pN cj cs).length = 8) := Lib.hid (by rw [app_len]; exact HLj.out)
  have hkc : (i : Int) < (n : Int) := by omega
  have hk0 : (0 : Int) ≤ (i : Int) := by omega
  have hwi : IntKind.i64.wrap ((i : Int) - 1) = (i : Int) - 1 := IntWalk.i64_in _ (by omega)
  have Hin := Lib.hid hkn
  clear hfit hk0 hkn
  go_wp2_with fail
  have bad := hbx.nx (Nx.refl _).drew
  have vbd : Box wr.drew w.heap.size 101 #[.int .i64 g, .int .i64 b, .int .i64 p, .int .i64 t, .slice A xs.length c, .slice A2 ms.length c2, .slice (some ⟨bb, off, none⟩) n c3, inAt im 0, inAt im 1, inAt im 2, inAt im 3, inAt im 4, inAt im 5, inAt im 6, inAt im 7] := hb
  have hnxd := hnx.drew
  replace hbw : bb < wr.drew.heap.size := hbw
  have p0 : wr.drew.cell? ⟨bb, off + i * 4, none⟩ = _ := p0; have p1 : wr.drew.cell? ⟨bb, off + i * 4 + 1, none⟩ = _ := p1; have p2 : wr.drew.cell? ⟨bb, off + i * 4 + 2, none⟩ = _ := p2; have p3 : wr.drew.cell? ⟨bb, off + i * 4 + 3, none⟩ = _ := p3
  clear hbx hb
  refine wp_region_plan (.t 0 (.t 1 (.t 2 (.t 3 (.t 4 (.t 5 (.t 7 (.c 6 (.t 8 .e))))))))) (fun w' => (w'.cell? ⟨gA, 0, none⟩ = some (inAt cj 0) ∧ w'.cell? ⟨gA, 1, none⟩ = some (inAt cj 1) ∧ w'.cell? ⟨gA, 2, none⟩ = some (inAt cj 2) ∧ w'.cell? ⟨gA, 3, none⟩ = some (inAt cj 3) ∧ w'.cell? ⟨gA, 4, none⟩ = some (inAt cj 4) ∧ w'.cell? ⟨gA, 5, none⟩ = some (inAt cj 5) ∧ w'.cell? ⟨gA, 6, none⟩ = some (inAt cj 6) ∧ w'.cell? ⟨gA, 7, none⟩ = some (inAt cj 7)) ∧ w'.cell? ⟨w.heap.size, 6, none⟩ = some (.slice (some ⟨bb, off, none⟩) n c3) ∧ w'.cell? ⟨bb, off + i * 4, none⟩ = some (.int .i64 f) ∧ w'.cell? ⟨bb, off + i * 4 + 1, none⟩ = some (.int .i64 t9) ∧ w'.cell? ⟨bb, off + i * 4 + 2, none⟩ = some (.int .i64 m9) ∧ w'.cell? ⟨bb, off + i * 4 + 3, none⟩ = some (.slice Ac cs.length cc)) (by kernel_rfl) (by kernel_rfl) rfl (by kernel_rfl) (fun _ _ d _ _ h => by cases d <;> exact h) (by exact ⟨bad.e8, vbd.cell 6, p0, p1, p2, p3⟩) ?_
  simp only [psOf, List.getD_cons_zero, List.getD_cons_succ]
  repeat (first | (refine HP.take (v := ?_) (by rfl) ?_ ?_; rotate_left; (· (intro w hSw; (try dsimp only at hSw); go_simp; try with_reducible rfl)); (try simp only [Act.put, List.setIfInBounds_toArray, List.set_cons_zero, List.set_cons_succ])) | (refine HP.skip (by rfl) ?_; (try simp only [Act.put, List.setIfInBounds_toArray, List.set_cons_zero, List.set_cons_succ])))
  refine HP.call ?_
  refine CallStep.mk (by rfl) (fun K hK => ?_)
  go_simp
  have hcl := valuesForward_c f t9 m9 Ac cc B cs cj _ (HCk.out _ hnxd) (Nat.le_trans hB hnxd.size) HOKc.out HLj.out; unfold vA at hcl; refine hcl.mono ?_; rintro e w8 ⟨rfl, hk8⟩; clear hcl; have ba8 := bad.nx hk8; have vb8 := vbd.nx hk8; have hnx8 := hnxd.trans hk8; have hbw8 := hbw; replace hbw := Nat.lt_of_lt_of_le hbw hk8.size; have hbq8 : bb < w.heap.size := Nat.lt_of_lt_of_le hbb hB; replace p0 := (hk8.cell (p := ⟨bb, off + i * 4, none⟩) hbw8).trans p0; replace p1 := (hk8.cell (p := ⟨bb, off + i * 4 + 1, none⟩) hbw8).trans p1; replace p2 := (hk8.cell (p := ⟨bb, off + i * 4 + 2, none⟩) hbw8).trans p2; replace p3 := (hk8.cell (p := ⟨bb, off + i * 4 + 3, none⟩) hbw8).trans p3
  go_wp2_with fail
  refine hK.out _ _ (by exact ⟨ba8.e8, vb8.cell 6, p0, p1, p2, p3⟩) ?_
  clear hK K
  try simp only [Act.put, List.setIfInBounds_toArray, List.set_cons_zero, List.set_cons_succ]
  refine HP.take (v := .bool (!decide (app pN cj cs = cj))) (by rfl) (fun w _ => neq_op HLn.out HLj.out w rfl rfl rfl) ?_
  try simp only [Act.put, List.setIfInBounds_toArray, List.set_cons_zero, List.set_cons_succ]
  refine HP.done ?_
  by_cases ho : app pN cj cs = cj
  case neg =>
    have HR := Lib.hid (HFn.out (decide_eq_false ho))
    rw [decide_eq_false ho]
    clear ho HFs HFn
    go_wp2
    go_ret
    exact ⟨ret_bool HR.out.symm, hnx8⟩
  have HFs' := Lib.hid (HFs.out (decide_eq_true ho))
  rw [decide_eq_true ho]
  clear ho HFs HFn
  go_wp2_with fail
  have bae := ba8.nx (Nx.refl _).drew
  have vbe := vb8.nx (Nx.refl _).drew
  have hnxe := hnx8.drew
  replace hbw : bb < w8.drew.heap.size := hbw
  have p0 : w8.drew.cell? ⟨bb, off + i * 4, none⟩ = _ := p0; have p1 : w8.drew.cell? ⟨bb, off + i * 4 + 1, none⟩ = _ := p1; have p2 : w8.drew.cell? ⟨bb, off + i * 4 + 2, none⟩ = _ := p2; have p3 : w8.drew.cell? ⟨bb, off + i * 4 + 3, none⟩ = _ := p3
  have hneb : bb ≠ gA := by omega
  clear ba8 vb8
  refine wp_region_plan (.t 1 (.t 2 (.t 3 (.t 4 (.t 5 (.c 0 (.c 6 (.c 7 .e)))))))) (fun w' => w'.cell? ⟨w.heap.size, 6, none⟩ = some (.slice (some ⟨bb, off, none⟩) n c3) ∧ w'.cell? ⟨bb, off + i * 4, none⟩ = some (.int .i64 f) ∧ w'.cell? ⟨bb, off + i * 4 + 1, none⟩ = some (.int .i64 t9) ∧ w'.cell? ⟨bb, off + i * 4 + 2, none⟩ = some (.int .i64 m9) ∧ w'.cell? ⟨bb, off + i * 4 + 3, none⟩ = some (.slice Ac cs.length cc)) (by kernel_rfl) (by kernel_rfl) rfl (by kernel_rfl) (fun _ _ d _ _ h => by cases d <;> exact h) (by exact ⟨vbe.cell 6, p0, p1, p2, p3⟩) ?_
  simp only [psOf, List.getD_cons_zero, List.getD_cons_succ]
  repeat (first | (refine HP.take (v := ?_) (by rfl) ?_ ?_; rotate_left; (· (intro w hSw; (try dsimp only at hSw); go_simp; try with_reducible rfl)); (try simp only [Act.put, List.setIfInBounds_toArray, List.set_cons_zero, List.set_cons_succ])) | (refine HP.skip (by rfl) ?_; (try simp only [Act.put, List.setIfInBounds_toArray, List.set_cons_zero, List.set_cons_succ])))
  refine HP.call ?_
  refine CallStep.mk (by rfl) (fun K hK => ?_)
  refine wp_load_row _ _ rfl gA rfl 99 #[inAt cj 0, inAt cj 1, inAt cj 2, inAt cj 3, inAt cj 4, inAt cj 5, inAt cj 6, inAt cj 7] (0, 0) _ bae und_values rfl (by kernel_rfl) ?_
  refine hK.out _ _ (by exact ⟨vbe.cell 6, p0, p1, p2, p3⟩) ?_
  clear hK K
  try simp only [Act.put]
  refine HP.call ?_
  refine CallStep.mk (by rfl) (fun K hK => ?_)
  go_simp
  have hcl := valuesBackward_c f t9 m9 Ac cc B cs cj _ (HCk.out _ hnxe) (Nat.le_trans hB hnxe.size) HOKc.out HLj.out; unfold vA at hcl; refine hcl.mono ?_; rintro e w9 ⟨rfl, hk9⟩; clear hcl; have ba9 := bae.nx hk9; have vb9 := vbe.nx hk9; have hnx9 := hnxe.trans hk9; have hbw9 := hbw; replace hbw := Nat.lt_of_lt_of_le hbw hk9.size; have hbq9 : bb < w.heap.size := Nat.lt_of_lt_of_le hbb hB; replace p0 := (hk9.cell (p := ⟨bb, off + i * 4, none⟩) hbw9).trans p0; replace p1 := (hk9.cell (p := ⟨bb, off + i * 4 + 1, none⟩) hbw9).trans p1; replace p2 := (hk9.cell (p := ⟨bb, off + i * 4 + 2, none⟩) hbw9).trans p2; replace p3 := (hk9.cell (p := ⟨bb, off + i * 4 + 3, none⟩) hbw9).trans p3
  go_wp2_with fail
  refine hK.out _ _ (by exact ⟨vb9.cell 6, p0, p1, p2, p3⟩) ?_
  clear hK K
  try simp only [Act.put, List.setIfInBounds_toArray, List.set_cons_zero, List.set_cons_succ]
  refine HP.call ?_
  refine CallStep.mk (by rfl) (fun K hK => ?_)
  refine wp_store_row _ _ _ rfl gA #[inAt (app pO cj cs) 0, inAt (app pO cj cs) 1, inAt (app pO cj cs) 2, inAt (app pO cj cs) 3, inAt (app pO cj cs) 4, inAt (app pO cj cs) 5, inAt (app pO cj cs) 6, inAt (app pO cj cs) 7] rfl rfl 99 #[inAt cj 0, inAt cj 1, inAt cj 2, inAt cj 3, inAt cj 4, inAt cj 5, inAt cj 6, inAt cj 7] ba9 (by kernel_rfl) rfl (by simp [Value.oneCell', inAt]) ?_
  refine hK.out _ _ (by exact ⟨(vb9.rowfar hneA #[inAt (app pO cj cs) 0, inAt (app pO cj cs) 1, inAt (app pO cj cs) 2, inAt (app pO cj cs) 3, inAt (app pO cj cs) 4, inAt (app pO cj cs) 5, inAt (app pO cj cs) 6, inAt (app pO cj cs) 7]).cell 6, ((cell_row_far w9 gA #[inAt (app pO cj cs) 0, inAt (app pO cj cs) 1, inAt (app pO cj cs) 2, inAt (app pO cj cs) 3, inAt (app pO cj cs) 4, inAt (app pO cj cs) 5, inAt (app pO cj cs) 6, inAt (app pO cj cs) 7] (p := ⟨bb, off + i * 4, none⟩) (by simp; omega)).trans p0), ((cell_row_far w9 gA #[inAt (app pO cj cs) 0, inAt (app pO cj cs) 1, inAt (app pO cj cs) 2, inAt (app pO cj cs) 3, inAt (app pO cj cs) 4, inAt (app pO cj cs) 5, inAt (app pO cj cs) 6, inAt (app pO cj cs) 7] (p := ⟨bb, off + i * 4 + 1, none⟩) (by simp; omega)).trans p1), ((cell_row_far w9 gA #[inAt (app pO cj cs) 0, inAt (app pO cj cs) 1, inAt (app pO cj cs) 2, inAt (app pO cj cs) 3, inAt (app pO cj cs) 4, inAt (app pO cj cs) 5, inAt (app pO cj cs) 6, inAt (app pO cj cs) 7] (p := ⟨bb, off + i * 4 + 2, none⟩) (by simp; omega)).trans p2), ((cell_row_far w9 gA #[inAt (app pO cj cs) 0, inAt (app pO cj cs) 1, inAt (app pO cj cs) 2, inAt (app pO cj cs) 3, inAt (app pO cj cs) 4, inAt (app pO cj cs) 5, inAt (app pO cj cs) 6, inAt (app pO cj cs) 7] (p := ⟨bb, off + i * 4 + 3, none⟩) (by simp; omega)).trans p3)⟩) ?_
  clear hK K
  try simp only [Act.put]
  refine HP.done ?_
  have bz := ba9.row #[inAt (app pO cj cs) 0, inAt (app pO cj cs) 1, inAt (app pO cj cs) 2, inAt (app pO cj cs) 3, inAt (app pO cj cs) 4, inAt (app pO cj cs) 5, inAt (app pO cj cs) 6, inAt (app pO cj cs) 7]
  have vz := vb9.rowfar hneA #[inAt (app pO cj cs) 0, inAt (app pO cj cs) 1, inAt (app pO cj cs) 2, inAt (app pO cj cs) 3, inAt (app pO cj cs) 4, inAt (app pO cj cs) 5, inAt (app pO cj cs) 6, inAt (app pO cj cs) 7]
  have hnxz := hnx9.setRow hgA #[inAt (app pO cj cs) 0, inAt (app pO cj cs) 1, inAt (app pO cj cs) 2, inAt (app pO cj cs) 3, inAt (app pO cj cs) 4, inAt (app pO cj cs) 5, inAt (app pO cj cs) 6, inAt (app pO cj cs) 7]
  generalize w9.setRow gA #[inAt (app pO cj cs) 0, inAt (app pO cj cs) 1, inAt (app pO cj cs) 2, inAt (app pO cj cs) 3, inAt (app pO cj cs) 4, inAt (app pO cj cs) 5, inAt (app pO cj cs) 6, inAt (app pO cj cs) 7] = Wz at *
  go_wp2
  go_roundw
  case rel => exact ⟨i, by omega, rfl, by rw [show a - i = j + 1 by have := Hj.out; omega]; exact HFs'.out, by rw [show a - i = j + 1 by have := Hj.out; omega, Hsuc.out]; exact bz, hnxz, vz⟩
  case measure => (simp [intOf] <;> omega)
end Go.Proofs.Ytihpadelfpogmaa
