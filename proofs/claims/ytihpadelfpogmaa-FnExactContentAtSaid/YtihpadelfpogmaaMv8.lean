/-
  Texts of the proof, put together in their order: Vvg, Sio, Vvi, Vlv, Vlc, Lvo, Vtp.
  Conditions: those of each.
-/
import Derived.Test.YtihpadelfpogmaaMv7
/- The program's view of a vault: what fits back. Conditions: what is read can be read, and holds at most 1048576 elements of a kind. -/
namespace Go.Proofs.Ytihpadelfpogmaa
set_option linter.unusedVariables false
set_option maxRecDepth 100000
open Go.RowKit

set_option maxHeartbeats 4000000 in
theorem fitsBack_c (V : Vl) (B : Nat) (w : World) (h : Sgs w B V.A3 V.gs) (hB : B ≤ w.heap.size) (hl : Lead V.b V.gs) (h8 : V.im.length = 8) (hp : plcB V.b V.p V.t V.gs V.ms = true) :
    Calls Try.prog 134 #[V.w] w fun e w' => e = .returned (.bool (fitB (stp V.b V.p V.t V.gs V.im).1 V.gs (stp V.b V.p V.t V.gs V.im).2)) ∧ Nx w w' := by
  have hSD := stepDone_c V B
  obtain ⟨g, b, p, t, A, c, xs, A2, c2, ms, A3, c3, gs, A4, c4, im⟩ := V
  simp only [Vl.w, Vl.wcells] at *
  have hsl := stp_le (t := t) im hl hp
  have HSD := Lib.hid (fun (w' : World) (hx : Nx w w') => hSD w' (h.below hx hB) (Nat.le_trans hB hx.size) hl h8 (by unfold plcB at hp; simp only [Bool.and_eq_true] at hp; exact hp.1.2) hsl.2)
  have HL0 : Hid ((stp b p t gs im).1.length = 8) := Lib.hid (by rw [stp_len]; exact h8)
  have hat := hsl.1
  obtain ⟨n, Hn⟩ : ∃ n, Hid (gs.length = n) := ⟨_, rfl⟩
  have HSg := Lib.hid (fun (k : Nat) (hk : k < gs.length) (w' : World) (hx : Nx w w') => (h.below hx hB).row.at4 hk)
  have HCh := Lib.hid (fun (k : Nat) (hk : k < gs.length) (w' : World) (hx : Nx w w') => (h.chs k hk).below hx hB)
  have HOKs := Lib.hid (fun k (hk : k < n) => hl.ok k (by rw [Hn.out]; exact hk))
  have hn9 : n ≤ 4096 := by have := hl.short; rw [Hn.out] at this; exact this
  rw [Hn.out] at HSD HSg HCh hat ⊢
  obtain ⟨c0, Hc0⟩ : ∃ c0, Hid ((stp b p t gs im).1 = c0) := ⟨_, rfl⟩
  obtain ⟨a, Hat⟩ : ∃ a, Hid ((stp b p t gs im).2 = a) := ⟨_, rfl⟩
  rw [Hc0.out, Hat.out] at HSD ⊢
  rw [Hc0.out] at HL0
  rw [Hat.out] at hat
  have b0 := Box.new w 101 #[.int .i64 g, .int .i64 b, .int .i64 p, .int .i64 t, .slice A xs.length c, .slice A2 ms.length c2, .slice A3 n c3, inAt im 0, inAt im 1, inAt im 2, inAt im 3, inAt im 4, inAt im 5, inAt im 6, inAt im 7]
  have hx0 := (Nx.refl w).alloc (.cells #[.int .i64 g, .int .i64 b, .int .i64 p, .int .i64 t, .slice A xs.length c, .slice A2 ms.length c2, .slice A3 n c3, inAt im 0, inAt im 1, inAt im 2, inAt im 3, inAt im 4, inAt im 5, inAt im 6, inAt im 7] 101)
  clear hSD h hl h8 hp hsl
  go_enter Try.func134, Try.ntmps134
  go_wp2_with fail
  generalize w.alloc (.cells #[.int .i64 g, .int .i64 b, .int .i64 p, .int .i64 t, .slice A xs.length c, .slice A2 ms.length c2, .slice A3 n c3, inAt im 0, inAt im 1, inAt im 2, inAt im 3, inAt im 4, inAt im 5, inAt im 6, inAt im 7] 101) = W at *
  refine (HSD.out _ hx0).mono ?_
  rintro e w1 ⟨rfl, hk⟩
  unfold vA
  have b1 := b0.nx hk
  replace hx0 := hx0.trans hk
  have rz := Box.new w1 99 #[.int .i64 0, .int .i64 0, .int .i64 0, .int .i64 0, .int .i64 0, .int .i64 0, .int .i64 0, .int .i64 0]
  have b2 := (b1.alloc (.cells #[.int .i64 0, .int .i64 0, .int .i64 0, .int .i64 0, .int .i64 0, .int .i64 0, .int .i64 0, .int .i64 0] 99)).rowfar (show w.heap.size ≠ w1.heap.size by have := b1.lt; omega) #[inAt c0 0, inAt c0 1, inAt c0 2, inAt c0 3, inAt c0 4, inAt c0 5, inAt c0 6, inAt c0 7]
  have ba := rz.row #[inAt c0 0, inAt c0 1, inAt c0 2, inAt c0 3, inAt c0 4, inAt c0 5, inAt c0 6, inAt c0 7]
  have hx2 := (hx0.alloc (.cells #[.int .i64 0, .int .i64 0, .int .i64 0, .int .i64 0, .int .i64 0, .int .i64 0, .int .i64 0, .int .i64 0] 99)).setRow (g := w1.heap.size) hx0.size #[inAt c0 0, inAt c0 1, inAt c0 2, inAt c0 3, inAt c0 4, inAt c0 5, inAt c0 6, inAt c0 7]
  have hwn : IntKind.i64.wrap ((a : Int) - 1) = (a : Int) - 1 := IntWalk.i64_in _ (by omega)
  clear b0 hk
  go_wp2_with (refine wpList_store_row rfl _ _ _ rfl w1.heap.size #[inAt c0 0, inAt c0 1, inAt c0 2, inAt c0 3, inAt c0 4, inAt c0 5, inAt c0 6, inAt c0 7] rfl rfl 99 #[.int .i64 0, .int .i64 0, .int .i64 0, .int .i64 0, .int .i64 0, .int .i64 0, .int .i64 0, .int .i64 0] rz (by kernel_rfl) rfl (by simp [Value.oneCell', inAt]) ?_)
  have hgA : w.heap.size ≤ w1.heap.size := hx0.size
  have hneA : w.heap.size ≠ w1.heap.size := by have := b1.lt; omega
  clear b1 rz hx0
  generalize (w1.alloc (.cells #[.int .i64 0, .int .i64 0, .int .i64 0, .int .i64 0, .int .i64 0, .int .i64 0, .int .i64 0, .int .i64 0] 99)).setRow w1.heap.size #[inAt c0 0, inAt c0 1, inAt c0 2, inAt c0 3, inAt c0 4, inAt c0 5, inAt c0 6, inAt c0 7] = Wl at *
  generalize w1.heap.size = gA at *
  go_loopw [5] (fun i wr => ∃ k : Nat, k ≤ a ∧ i = .int .i64 ((k : Int) - 1) ∧ FitB c0 gs a (a - k) ∧ Box wr gA 99 #[inAt (bkK c0 gs a (a - k)) 0, inAt (bkK c0 gs a (a - k)) 1, inAt (bkK c0 gs a (a - k)) 2, inAt (bkK c0 gs a (a - k)) 3, inAt (bkK c0 gs a (a - k)) 4, inAt (bkK c0 gs a (a - k)) 5, inAt (bkK c0 gs a (a - k)) 6, inAt (bkK c0 gs a (a - k)) 7] ∧ Nx w wr ∧ Box wr w.heap.size 101 #[.int .i64 g, .int .i64 b, .int .i64 p, .int .i64 t, .slice A xs.length c, .slice A2 ms.length c2, .slice A3 n c3, inAt im 0, inAt im 1, inAt im 2, inAt im 3, inAt im 4, inAt im 5, inAt im 6, inAt im 7]) (fun i _ => (intOf i + 1).toNat)
  case atStart => exact ⟨a, Nat.le_refl _, rfl, by rw [Nat.sub_self]; exact FitB.zero _ _ _, by rw [Nat.sub_self]; exact ba, hx2, b2⟩
  case round =>
  obtain ⟨k, hk, rfl, hfit, hbx, hnx, hb⟩ := hrel
  clear hx2 ba b2 hwn
  by_cases hk0 : k = 0
  case pos =>
    have HR := Lib.hid (show fitB c0 gs a = true from FitB.all (by rw [hk0, Nat.sub_zero] at hfit; exact hfit))
    rw [show ((k : Int) - 1) = -1 by omega]
    clear hk0 hfit
    go_wp2
    go_ret
    exact ⟨ret_bool HR.out.symm, hnx⟩
  obtain ⟨i, rfl⟩ : ∃ i, k = i + 1 := ⟨k - 1, by omega⟩
  rw [show ((i + 1 : Nat) : Int) - 1 = (i : Int) by omega]
  have hkn : i < n := by omega
  obtain ⟨j, Hj⟩ : ∃ j, Hid (a - (i + 1) = j) := ⟨_, rfl⟩
  have Hkj : Hid (i = a - 1 - j) := Lib.hid (by have := Hj.out; omega)
  rw [Hj.out] at hfit hbx
  obtain ⟨bb, off, rfl, hbb, p0, p1, p2, p3⟩ := HSg.out i hkn wr hnx
  have hbw : bb < wr.heap.size := Nat.lt_of_lt_of_le hbb (Nat.le_trans hB hnx.size)
  have HCk := Lib.hid (HCh.out i hkn)
  have HOKc := Lib.hid (HOKs.out i hkn)
  have HFs := Lib.hid (fun hh => hfit.succ hh)
  have HFn := Lib.hid (fun hh => fitB_no (c := c0) (gs := gs) (a := a) (k := j) (by have := Hj.out; omega) hh)
  rw [← Hkj.out] at HFs HFn
  have HLj : Hid ((bkK c0 gs a j).length = 8) := Lib.hid (by rw [bkK_len]; exact HL0.out)
  have Hsuc : Hid (bkK c0 gs a (j + 1) = app pO (bkK c0 gs a j) (gs.getD i sgZ).cs) := Lib.hid (by rw [Hkj.out]; rfl)
  obtain ⟨cj, Hcj⟩ : ∃ cj, Hid (bkK c0 gs a j = cj) := ⟨_, rfl⟩
  rw [Hcj.out] at HFs HFn HLj Hsuc hbx
  obtain ⟨⟨f, t9, m9, Ac, cc, cs⟩, Hs⟩ : ∃ s, Hid (gs.getD i sgZ = s) := ⟨_, rfl⟩
  rw [Hs.out] at p0 p1 p2 p3 HCk HOKc HFs HFn Hsuc
  simp only at p0 p1 p2 p3 HCk HOKc Hsuc
  have HLy : Hid ((app pO cj cs).length = 8) := Lib.hid (by rw [app_len]; exact HLj.out)
  have HLn : Hid ((app pN cj cs).length = 8) := Lib.hid (by rw [app_len]; exact HLj.out)
  have hkc : (i : Int) < (n : Int) := by omega
  have hk0 : (0 : Int) ≤ (i : Int) := by omega
  have hwi : IntKind.i64.wrap ((i : Int) - 1) = (i : Int) - 1 := IntWalk.i64_in _ (by omega)
  have Hin := Lib.hid hkn
  clear hfit hk0 hkn
  go_wp2_with fail
  have bad := hbx.nx (Nx.refl _).drew
  have vbd : Box wr.drew w.heap.size 101 #[.int .i64 g, .int .i64 b, .int .i64 p, .int .i64 t, .slice A xs.length c, .slice A2 ms.length c2, .slice (some ⟨bb, off, none⟩) n c3, inAt im 0, inAt im 1, inAt im 2, inAt im 3, inAt im 4, inAt im 5, inAt im 6, inAt im 7] := hb
  have hnxd := hnx.drew
  replace hbw : bb < wr.drew.heap.size := hbw
  have p0 : wr.drew.cell? ⟨bb, off + i * 4, none⟩ = _ := p0; have p1 : wr.drew.cell? ⟨bb, off + i * 4 + 1, none⟩ = _ := p1; have p2 : wr.drew.cell? ⟨bb, off + i * 4 + 2, none⟩ = _ := p2; have p3 : wr.drew.cell? ⟨bb, off + i * 4 + 3, none⟩ = _ := p3
  clear hbx hb
  refine wp_region_plan (.t 0 (.t 1 (.t 2 (.t 3 (.t 4 (.t 5 (.t 7 (.c 6 (.t 8 .e))))))))) (fun w' => (w'.cell? ⟨gA, 0, none⟩ = some (inAt cj 0) ∧ w'.cell? ⟨gA, 1, none⟩ = some (inAt cj 1) ∧ w'.cell? ⟨gA, 2, none⟩ = some (inAt cj 2) ∧ w'.cell? ⟨gA, 3, none⟩ = some (inAt cj 3) ∧ w'.cell? ⟨gA, 4, none⟩ = some (inAt cj 4) ∧ w'.cell? ⟨gA, 5, none⟩ = some (inAt cj 5) ∧ w'.cell? ⟨gA, 6, none⟩ = some (inAt cj 6) ∧ w'.cell? ⟨gA, 7, none⟩ = some (inAt cj 7)) ∧ w'.cell? ⟨w.heap.size, 6, none⟩ = some (.slice (some ⟨bb, off, none⟩) n c3) ∧ w'.cell? ⟨bb, off + i * 4, none⟩ = some (.int .i64 f) ∧ w'.cell? ⟨bb, off + i * 4 + 1, none⟩ = some (.int .i64 t9) ∧ w'.cell? ⟨bb, off + i * 4 + 2, none⟩ = some (.int .i64 m9) ∧ w'.cell? ⟨bb, off + i * 4 + 3, none⟩ = some (.slice Ac cs.length cc)) (by kernel_rfl) (by kernel_rfl) rfl (by kernel_rfl) (fun _ _ d _ _ h => by cases d <;> exact h) (by exact ⟨bad.e8, vbd.cell 6, p0, p1, p2, p3⟩) ?_
  simp only [psOf, List.getD_cons_zero, List.getD_cons_succ]
  repeat (first | (refine HP.take (v := ?_) (by rfl) ?_ ?_; rotate_left; (· (intro w hSw; (try dsimp only at hSw); go_simp; try with_reducible rfl)); (try simp only [Act.put, List.setIfInBounds_toArray, List.set_cons_zero, List.set_cons_succ])) | (refine HP.skip (by rfl) ?_; (try simp only [Act.put, List.setIfInBounds_toArray, List.set_cons_zero, List.set_cons_succ])))
  refine HP.call ?_
  refine CallStep.mk (by rfl) (fun K hK => ?_)
  go_simp
  have hcl := valuesForward_c f t9 m9 Ac cc B cs cj _ (HCk.out _ hnxd) (Nat.le_trans hB hnxd.size) HOKc.out HLj.out; unfold vA at hcl; refine hcl.mono ?_; rintro e w8 ⟨rfl, hk8⟩; clear hcl; have ba8 := bad.nx hk8; have vb8 := vbd.nx hk8; have hnx8 := hnxd.trans hk8; have hbw8 := hbw; replace hbw := Nat.lt_of_lt_of_le hbw hk8.size; have hbq8 : bb < w.heap.size := Nat.lt_of_lt_of_le hbb hB; replace p0 := (hk8.cell (p := ⟨bb, off + i * 4, none⟩) hbw8).trans p0; replace p1 := (hk8.cell (p := ⟨bb, off + i * 4 + 1, none⟩) hbw8).trans p1; replace p2 := (hk8.cell (p := ⟨bb, off + i * 4 + 2, none⟩) hbw8).trans p2; replace p3 := (hk8.cell (p := ⟨bb, off + i * 4 + 3, none⟩) hbw8).trans p3
  go_wp2_with fail
  refine hK.out _ _ (by exact ⟨ba8.e8, vb8.cell 6, p0, p1, p2, p3⟩) ?_
  clear hK K
  try simp only [Act.put, List.setIfInBounds_toArray, List.set_cons_zero, List.set_cons_succ]
  refine HP.take (v := .bool (!decide (app pN cj cs = cj))) (by rfl) (fun w _ => neq_op HLn.out HLj.out w rfl rfl rfl) ?_
  try simp only [Act.put, List.setIfInBounds_toArray, List.set_cons_zero, List.set_cons_succ]
  refine HP.done ?_
  by_cases ho : app pN cj cs = cj
  case neg =>
    have HR := Lib.hid (HFn.out (decide_eq_false ho))
    rw [decide_eq_false ho]
    clear ho HFs HFn
    go_wp2
    go_ret
    exact ⟨ret_bool HR.out.symm, hnx8⟩
  have HFs' := Lib.hid (HFs.out (decide_eq_true ho))
  rw [decide_eq_true ho]
  clear ho HFs HFn
  go_wp2_with fail
  have bae := ba8.nx (Nx.refl _).drew
  have vbe := vb8.nx (Nx.refl _).drew
  have hnxe := hnx8.drew
  replace hbw : bb < w8.drew.heap.size := hbw
  have p0 : w8.drew.cell? ⟨bb, off + i * 4, none⟩ = _ := p0; have p1 : w8.drew.cell? ⟨bb, off + i * 4 + 1, none⟩ = _ := p1; have p2 : w8.drew.cell? ⟨bb, off + i * 4 + 2, none⟩ = _ := p2; have p3 : w8.drew.cell? ⟨bb, off + i * 4 + 3, none⟩ = _ := p3
  have hneb : bb ≠ gA := by omega
  clear ba8 vb8
  refine wp_region_plan (.t 1 (.t 2 (.t 3 (.t 4 (.t 5 (.c 0 (.c 6 (.c 7 .e)))))))) (fun w' => w'.cell? ⟨w.heap.size, 6, none⟩ = some (.slice (some ⟨bb, off, none⟩) n c3) ∧ w'.cell? ⟨bb, off + i * 4, none⟩ = some (.int .i64 f) ∧ w'.cell? ⟨bb, off + i * 4 + 1, none⟩ = some (.int .i64 t9) ∧ w'.cell? ⟨bb, off + i * 4 + 2, none⟩ = some (.int .i64 m9) ∧ w'.cell? ⟨bb, off + i * 4 + 3, none⟩ = some (.slice Ac cs.length cc)) (by kernel_rfl) (by kernel_rfl) rfl (by kernel_rfl) (fun _ _ d _ _ h => by cases d <;> exact h) (by exact ⟨vbe.cell 6, p0, p1, p2, p3⟩) ?_
  simp only [psOf, List.getD_cons_zero, List.getD_cons_succ]
  repeat (first | (refine HP.take (v := ?_) (by rfl) ?_ ?_; rotate_left; (· (intro w hSw; (try dsimp only at hSw); go_simp; try with_reducible rfl)); (try simp only [Act.put, List.setIfInBounds_toArray, List.set_cons_zero, List.set_cons_succ])) | (refine HP.skip (by rfl) ?_; (try simp only [Act.put, List.setIfInBounds_toArray, List.set_cons_zero, List.set_cons_succ])))
  refine HP.call ?_
  refine CallStep.mk (by rfl) (fun K hK => ?_)
  refine wp_load_row _ _ rfl gA rfl 99 #[inAt cj 0, inAt cj 1, inAt cj 2, inAt cj 3, inAt cj 4, inAt cj 5, inAt cj 6, inAt cj 7] (0, 0) _ bae und_values rfl (by kernel_rfl) ?_
  refine hK.out _ _ (by exact ⟨vbe.cell 6, p0, p1, p2, p3⟩) ?_
  clear hK K
  try simp only [Act.put]
  refine HP.call ?_
  refine CallStep.mk (by rfl) (fun K hK => ?_)
  go_simp
  have hcl := valuesBackward_c f t9 m9 Ac cc B cs cj _ (HCk.out _ hnxe) (Nat.le_trans hB hnxe.size) HOKc.out HLj.out; unfold vA at hcl; refine hcl.mono ?_; rintro e w9 ⟨rfl, hk9⟩; clear hcl; have ba9 := bae.nx hk9; have vb9 := vbe.nx hk9; have hnx9 := hnxe.trans hk9; have hbw9 := hbw; replace hbw := Nat.lt_of_lt_of_le hbw hk9.size; have hbq9 : bb < w.heap.size := Nat.lt_of_lt_of_le hbb hB; replace p0 := (hk9.cell (p := ⟨bb, off + i * 4, none⟩) hbw9).trans p0; replace p1 := (hk9.cell (p := ⟨bb, off + i * 4 + 1, none⟩) hbw9).trans p1; replace p2 := (hk9.cell (p := ⟨bb, off + i * 4 + 2, none⟩) hbw9).trans p2; replace p3 := (hk9.cell (p := ⟨bb, off + i * 4 + 3, none⟩) hbw9).trans p3
  go_wp2_with fail
  refine hK.out _ _ (by exact ⟨vb9.cell 6, p0, p1, p2, p3⟩) ?_
  clear hK K
  try simp only [Act.put, List.setIfInBounds_toArray, List.set_cons_zero, List.set_cons_succ]
  refine HP.call ?_
  refine CallStep.mk (by rfl) (fun K hK => ?_)
  refine wp_store_row _ _ _ rfl gA #[inAt (app pO cj cs) 0, inAt (app pO cj cs) 1, inAt (app pO cj cs) 2, inAt (app pO cj cs) 3, inAt (app pO cj cs) 4, inAt (app pO cj cs) 5, inAt (app pO cj cs) 6, inAt (app pO cj cs) 7] rfl rfl 99 #[inAt cj 0, inAt cj 1, inAt cj 2, inAt cj 3, inAt cj 4, inAt cj 5, inAt cj 6, inAt cj 7] ba9 (by kernel_rfl) rfl (by simp [Value.oneCell', inAt]) ?_
  refine hK.out _ _ (by exact ⟨(vb9.rowfar hneA #[inAt (app pO cj cs) 0, inAt (app pO cj cs) 1, inAt (app pO cj cs) 2, inAt (app pO cj cs) 3, inAt (app pO cj cs) 4, inAt (app pO cj cs) 5, inAt (app pO cj cs) 6, inAt (app pO cj cs) 7]).cell 6, ((cell_row_far w9 gA #[inAt (app pO cj cs) 0, inAt (app pO cj cs) 1, inAt (app pO cj cs) 2, inAt (app pO cj cs) 3, inAt (app pO cj cs) 4, inAt (app pO cj cs) 5, inAt (app pO cj cs) 6, inAt (app pO cj cs) 7] (p := ⟨bb, off + i * 4, none⟩) (by simp; omega)).trans p0), ((cell_row_far w9 gA #[inAt (app pO cj cs) 0, inAt (app pO cj cs) 1, inAt (app pO cj cs) 2, inAt (app pO cj cs) 3, inAt (app pO cj cs) 4, inAt (app pO cj cs) 5, inAt (app pO cj cs) 6, inAt (app pO cj cs) 7] (p := ⟨bb, off + i * 4 + 1, none⟩) (by simp; omega)).trans p1), ((cell_row_far w9 gA #[inAt (app pO cj cs) 0, inAt (app pO cj cs) 1, inAt (app pO cj cs) 2, inAt (app pO cj cs) 3, inAt (app pO cj cs) 4, inAt (app pO cj cs) 5, inAt (app pO cj cs) 6, inAt (app pO cj cs) 7] (p := ⟨bb, off + i * 4 + 2, none⟩) (by simp; omega)).trans p2), ((cell_row_far w9 gA #[inAt (app pO cj cs) 0, inAt (app pO cj cs) 1, inAt (app pO cj cs) 2, inAt (app pO cj cs) 3, inAt (app pO cj cs) 4, inAt (app pO cj cs) 5, inAt (app pO cj cs) 6, inAt (app pO cj cs) 7] (p := ⟨bb, off + i * 4 + 3, none⟩) (by simp; omega)).trans p3)⟩) ?_
  clear hK K
  try simp only [Act.put]
  refine HP.done ?_
  have bz := ba9.row #[inAt (app pO cj cs) 0, inAt (app pO cj cs) 1, inAt (app pO cj cs) 2, inAt (app pO cj cs) 3, inAt (app pO cj cs) 4, inAt (app pO cj cs) 5, inAt (app pO cj cs) 6, inAt (app pO cj cs) 7]
  have vz := vb9.rowfar hneA #[inAt (app pO cj cs) 0, inAt (app pO cj cs) 1, inAt (app pO cj cs) 2, inAt (app pO cj cs) 3, inAt (app pO cj cs) 4, inAt (app pO cj cs) 5, inAt (app pO cj cs) 6, inAt (app pO cj cs) 7]
  have hnxz := hnx9.setRow hgA #[inAt (app pO cj cs) 0, inAt (app pO cj cs) 1, inAt (app pO cj cs) 2, inAt (app pO cj cs) 3, inAt (app pO cj cs) 4, inAt (app pO cj cs) 5, inAt (app pO cj cs) 6, inAt (app pO cj cs) 7]
  generalize w9.setRow gA #[inAt (app pO cj cs) 0, inAt (app pO cj cs) 1, inAt (app pO cj cs) 2, inAt (app pO cj cs) 3, inAt (app pO cj cs) 4, inAt (app pO cj cs) 5, inAt (app pO cj cs) 6, inAt (app pO cj cs) 7] = Wz at *
  go_wp2
  go_roundw
  case rel => exact ⟨i, by omega, rfl, by rw [show a - i = j + 1 by have := Hj.out; omega]; exact HFs'.out, by rw [show a - i = j + 1 by have := Hj.out; omega, Hsuc.out]; exact bz, hnxz, vz⟩
  case measure => (simp [intOf] <;> omega)
end Go.Proofs.Ytihpadelfpogmaa
/- Contracts of SuperOK, as the program has it. Conditions: the super can be read, and holds at most 1048576 elements of a kind; its table is no longer than its capacity. -/
namespace Go.Proofs.Ytihpadelfpogmaa
set_option linter.unusedVariables false
set_option maxRecDepth 100000
open Go.RowKit

theorem bl_asym : ∀ a b : List UInt8, Op.bytesLess a b = true → Op.bytesLess b a = false
  | _, [], h => by simp [Op.bytesLess] at h
  | [], _ :: _, _ => by simp [Op.bytesLess]
  | x :: a, y :: b, h => by
    simp only [Op.bytesLess, Bool.or_eq_true, Bool.and_eq_true, decide_eq_true_eq, beq_iff_eq] at h
    simp only [Op.bytesLess, Bool.or_eq_false_iff, Bool.and_eq_false_iff, decide_eq_false_iff_not, beq_eq_false_iff_ne]
    rcases h with h | ⟨rfl, h⟩
    · have h' : x.toNat < y.toNat := h
      refine ⟨fun h2 => ?_, .inl fun e => ?_⟩
      · have h2' : y.toNat < x.toNat := h2
        omega
      · subst e; omega
    · refine ⟨fun h2 => ?_, .inr (bl_asym a b h)⟩
      have h2' : x.toNat < x.toNat := h2
      omega
theorem bl_irr : ∀ a : List UInt8, Op.bytesLess a a = false
  | [] => by simp [Op.bytesLess]
  | x :: a => by
    simp only [Op.bytesLess, Bool.or_eq_false_iff, Bool.and_eq_false_iff, decide_eq_false_iff_not]
    refine ⟨fun h2 => ?_, .inr (bl_irr a)⟩
    have h2' : x.toNat < x.toNat := h2
    omega
theorem bl_ne (a b : List UInt8) (h : Op.bytesLess a b = true) : (b == a) = false := by
  rw [beq_eq_false_iff_ne]
  rintro rfl
  rw [bl_irr] at h
  cases h
theorem bl_total : ∀ a b : List UInt8, Op.bytesLess a b = false → (Op.bytesLess b a || b == a) = true
  | [], [], _ => by simp
  | _ :: _, [], _ => by simp [Op.bytesLess]
  | [], _ :: _, h => by simp [Op.bytesLess] at h
  | x :: a, y :: b, h => by
    simp only [Op.bytesLess, Bool.or_eq_false_iff, Bool.and_eq_false_iff, decide_eq_false_iff_not, beq_eq_false_iff_ne] at h
    obtain ⟨h1, h2⟩ := h
    have h1' : ¬ x.toNat < y.toNat := h1
    by_cases e : x = y
    · subst e
      have h3 := bl_total a b (by rcases h2 with h2 | h2; exact absurd rfl h2; exact h2)
      simp only [Op.bytesLess, Bool.or_eq_true, Bool.and_eq_true, decide_eq_true_eq, beq_iff_eq, List.cons.injEq, true_and] at h3 ⊢
      rcases h3 with h3 | h3
      · exact .inl (.inr h3)
      · exact .inr h3
    · have hne : x.toNat ≠ y.toNat := fun h => e (UInt8.toNat_inj.1 h)
      have h4 : y < x := (show y.toNat < x.toNat by omega)
      simp [Op.bytesLess, h4]
set_option maxHeartbeats 2000000 in
theorem isTable_c (A : Option Addr) (c B : Nat) (xs : List Int) (w : World) (h : Ins w B A xs) (hn : xs.length ≤ 1048576) (hc : xs.length ≤ c) :
    Calls Try.prog 145 #[.slice A xs.length c] w fun e w' => e = .returned (.bool (tbB xs)) ∧ w = w' := by
  by_cases hl : xs.length ≤ 20
  case neg =>
    have hd : decide (20 < (xs.length : Int)) = true := by simp; omega
    have HR := Lib.hid (tbB_len (xs := xs) (by omega)).symm
    go_enter Try.func145, Try.ntmps145
    go_wp2
    go_ret
    exact ⟨ret_bool HR.out, rfl⟩
  have hd : decide (20 < (xs.length : Int)) = false := by simp; omega
  go_enter Try.func145, Try.ntmps145
  go_wp2
  go_loop [10] (fun i => ∃ k : Nat, k ≤ xs.length ∧ i = .int .i64 k ∧ TbTo xs k) (fun i => xs.length - (intOf i).toNat)
  case atStart => exact ⟨0, Nat.zero_le _, rfl, TbTo.zero _⟩
  case round =>
    obtain ⟨k, hk, rfl, hto⟩ := hrel
    by_cases hlt : k < xs.length
    · obtain ⟨bb, off, rfl, hb, k0⟩ := h.at_ hlt
      obtain ⟨q, Hq⟩ : ∃ q, Hid (xs.getD k 0 = q) := ⟨_, rfl⟩
      rw [Hq.out] at k0
      have hkc : (k : Int) ≤ (c : Int) := by omega
      cases hin : inB 10 63 q with
      | false =>
        have HC := Lib.hid hin
        have HR := Lib.hid (tbB_no hlt (by unfold tbOk; rw [Hq.out, hin]; rfl)).symm
        clear hin
        go_wp2_with (go_at_call 144; refine (isWithin_c _ _ _ _).mono ?_; rintro e w' ⟨rfl, rfl⟩; rw [HC.out])
        go_ret
        exact ⟨ret_bool HR.out, rfl⟩
      | true =>
        have HC := Lib.hid hin
        clear hin
        cases hh : hasB xs k q with
        | true =>
          have HX := Lib.hid hh
          have HR := Lib.hid (tbB_no hlt (by unfold tbOk; rw [Hq.out, hh]; simp)).symm
          clear hh
          go_wp2_with (first | (go_at_call 144; refine (isWithin_c _ _ _ _).mono ?_; rintro e w' ⟨rfl, rfl⟩; rw [HC.out]) | (go_at_call 135; refine (contains_c (some ⟨bb, off, none⟩) k c B xs q _ h (by omega) hn).mono ?_; rintro e w' ⟨rfl, rfl⟩; rw [HX.out]))
          go_ret
          exact ⟨ret_bool HR.out, rfl⟩
        | false =>
          have HX := Lib.hid hh
          have HT := Lib.hid (hto.succ (by unfold tbOk; rw [Hq.out, HC.out, hh]; rfl))
          clear hh
          go_wp2_with (first | (go_at_call 144; refine (isWithin_c _ _ _ _).mono ?_; rintro e w' ⟨rfl, rfl⟩; rw [HC.out]) | (go_at_call 135; refine (contains_c (some ⟨bb, off, none⟩) k c B xs q _ h (by omega) hn).mono ?_; rintro e w' ⟨rfl, rfl⟩; rw [HX.out]))
          go_round
          case rel => exact ⟨k + 1, by omega, by go_num, HT.out⟩
          case measure => simp [intOf]; omega
    · obtain rfl : k = xs.length := by omega
      have HR := Lib.hid (tbB_mk hl hto).symm
      go_wp2
      go_ret
      exact ⟨ret_bool HR.out, rfl⟩
set_option maxHeartbeats 4000000 in
theorem areMarks_c (A2 : Option Addr) (c2 B : Nat) (ms : List Mrk) (w : World) (h2 : Mks w B A2 ms) (hB : B ≤ w.heap.size) (hn : ms.length ≤ 1048576) (hm : AllM ms) :
    Calls Try.prog 146 #[.slice A2 ms.length c2] w fun e w' => e = .returned (.bool (msB ms)) ∧ Nx w w' := by
  by_cases hl : ms.length ≤ 4
  case neg =>
    have hd : decide (4 < (ms.length : Int)) = true := by simp; omega
    have HR := Lib.hid (msB_len (ms := ms) (by omega)).symm
    go_enter Try.func146, Try.ntmps146
    go_wp2
    go_ret
    exact ⟨ret_bool HR.out, Nx.refl _⟩
  have hd : decide (4 < (ms.length : Int)) = false := by simp; omega
  go_enter Try.func146, Try.ntmps146
  go_wp2
  go_loopw [10] (fun i wr => ∃ k : Nat, k ≤ ms.length ∧ i = .int .i64 k ∧ MkTo ms k ∧ Nx w wr) (fun i _ => ms.length - (intOf i).toNat)
  case atStart => exact ⟨0, Nat.zero_le _, rfl, MkTo.zero _, Nx.refl _⟩
  case round =>
    obtain ⟨k, hk, rfl, hto, hnx⟩ := hrel
    by_cases hlt : k < ms.length
    · obtain ⟨bb, off, rfl, hb, k0, k1⟩ := (h2.below hnx hB).at_ hlt
      have hsz := hm k
      obtain ⟨⟨q0, q1⟩, Hq⟩ : ∃ q, Hid (ms.getD k mrZ = q) := ⟨_, rfl⟩
      rw [Hq.out] at k0 k1 hsz
      go_wp2_with fail
      have bq := Box.new wr 87 #[.string q0, .int .i64 q1]
      have hnxq := hnx.alloc (.cells #[.string q0, .int .i64 q1] 87)
      have hMq := h2.below hnxq hB
      generalize wr.alloc (.cells #[.string q0, .int .i64 q1] 87) = wq at *
      clear k0 k1
      have k0 := bq.c0
      have k1 := bq.c1
      cases hnm : nmB q0 with
      | false =>
        have HN := Lib.hid hnm
        have HR := Lib.hid (msB_no hlt (by unfold okMk mkB; rw [Hq.out]; simp [hnm])).symm
        clear hnm
        refine wp_region_lex [false, false, true, false, false, false, false, false, false, false, false, false, false, false, false, false, false, false, false, false, false, false, false, false, false] (fun w' => w'.cell? ⟨wr.heap.size, 0, none⟩ = some (.string q0) ∧ w'.cell? ⟨wr.heap.size, 1, none⟩ = some (.int .i64 q1)) (by kernel_rfl) (by kernel_rfl) rfl (by kernel_rfl) (fun _ _ d _ _ h => by cases d <;> exact h) (by exact ⟨k0, k1⟩) ?_
        repeat (first | (refine HL.take (v := ?_) (by rfl) ?_ ?_; rotate_left; (· (intro w hSw; (try dsimp only at hSw); go_simp; try with_reducible rfl)); (try simp only [Act.put, List.setIfInBounds_toArray, List.set_cons_zero, List.set_cons_succ])) | (refine HL.skip (by rfl) ?_; (try simp only [Act.put, List.setIfInBounds_toArray, List.set_cons_zero, List.set_cons_succ])))
        refine HL.call (by rfl) (fun K hK => ?_)
        go_simp
        refine (isMarkName_c q0 _ hsz).mono ?_; rintro e w' ⟨rfl, rfl⟩; rw [HN.out]
        go_wp2_with fail
        refine hK.out _ _ (by exact ⟨k0, k1⟩) ?_
        clear hK K
        try simp only [Act.put, List.setIfInBounds_toArray, List.set_cons_zero, List.set_cons_succ]
        repeat (first | (refine HL.take (v := ?_) (by rfl) ?_ ?_; rotate_left; (· (intro w hSw; (try dsimp only at hSw); go_simp; try with_reducible rfl)); (try simp only [Act.put, List.setIfInBounds_toArray, List.set_cons_zero, List.set_cons_succ])) | (refine HL.skip (by rfl) ?_; (try simp only [Act.put, List.setIfInBounds_toArray, List.set_cons_zero, List.set_cons_succ])))
        refine HL.done ?_
        go_wp2
        go_ret
        exact ⟨ret_bool HR.out, hnxq.drew⟩
      | true =>
        have HN := Lib.hid hnm
        clear hnm
        cases hps : inB 0 999999 q1 with
        | false =>
          have HP := Lib.hid hps
          have HR := Lib.hid (msB_no hlt (by unfold okMk mkB; rw [Hq.out]; simp [hps])).symm
          clear hps
          refine wp_region_lex [false, false, true, false, false, false, false, true, false, false, false, false, false, false, false, false, false, false, false, false, false, false, false, false, false] (fun w' => w'.cell? ⟨wr.heap.size, 0, none⟩ = some (.string q0) ∧ w'.cell? ⟨wr.heap.size, 1, none⟩ = some (.int .i64 q1)) (by kernel_rfl) (by kernel_rfl) rfl (by kernel_rfl) (fun _ _ d _ _ h => by cases d <;> exact h) (by exact ⟨k0, k1⟩) ?_
          repeat (first | (refine HL.take (v := ?_) (by rfl) ?_ ?_; rotate_left; (· (intro w hSw; (try dsimp only at hSw); go_simp; try with_reducible rfl)); (try simp only [Act.put, List.setIfInBounds_toArray, List.set_cons_zero, List.set_cons_succ])) | (refine HL.skip (by rfl) ?_; (try simp only [Act.put, List.setIfInBounds_toArray, List.set_cons_zero, List.set_cons_succ])))
          refine HL.call (by rfl) (fun K hK => ?_)
          go_simp
          refine (isMarkName_c q0 _ hsz).mono ?_; rintro e w' ⟨rfl, rfl⟩; rw [HN.out]
          go_wp2_with fail
          refine hK.out _ _ (by exact ⟨k0, k1⟩) ?_
          clear hK K
          try simp only [Act.put, List.setIfInBounds_toArray, List.set_cons_zero, List.set_cons_succ]
          repeat (first | (refine HL.take (v := ?_) (by rfl) ?_ ?_; rotate_left; (· (intro w hSw; (try dsimp only at hSw); go_simp; try with_reducible rfl)); (try simp only [Act.put, List.setIfInBounds_toArray, List.set_cons_zero, List.set_cons_succ])) | (refine HL.skip (by rfl) ?_; (try simp only [Act.put, List.setIfInBounds_toArray, List.set_cons_zero, List.set_cons_succ])))
          refine HL.call (by rfl) (fun K hK => ?_)
          go_simp
          refine (isPosition_c q1 _).mono ?_; rintro e w' ⟨rfl, rfl⟩; rw [HP.out]
          go_wp2_with fail
          refine hK.out _ _ (by exact ⟨k0, k1⟩) ?_
          clear hK K
          try simp only [Act.put, List.setIfInBounds_toArray, List.set_cons_zero, List.set_cons_succ]
          repeat (first | (refine HL.take (v := ?_) (by rfl) ?_ ?_; rotate_left; (· (intro w hSw; (try dsimp only at hSw); go_simp; try with_reducible rfl)); (try simp only [Act.put, List.setIfInBounds_toArray, List.set_cons_zero, List.set_cons_succ])) | (refine HL.skip (by rfl) ?_; (try simp only [Act.put, List.setIfInBounds_toArray, List.set_cons_zero, List.set_cons_succ])))
          refine HL.done ?_
          go_wp2
          go_ret
          exact ⟨ret_bool HR.out, hnxq.drew⟩
        | true =>
          have HP := Lib.hid hps
          clear hps
          by_cases hk0 : k = 0
          · have hd0 : decide (0 < (k : Int)) = false := by simp; omega
            have hd1 : decide (0 < k) = false := by simp; omega
            have HO := Lib.hid (hto.succ (by unfold okMk mkB; rw [Hq.out, HN.out, HP.out, hk0]; rfl))
            clear hk0
            refine wp_region_lex [false, false, true, false, false, false, false, true, false, false, false, false, false, false, false, false, false, false, false, false, false, false, false, false, false] (fun w' => w'.cell? ⟨wr.heap.size, 0, none⟩ = some (.string q0) ∧ w'.cell? ⟨wr.heap.size, 1, none⟩ = some (.int .i64 q1)) (by kernel_rfl) (by kernel_rfl) rfl (by kernel_rfl) (fun _ _ d _ _ h => by cases d <;> exact h) (by exact ⟨k0, k1⟩) ?_
            repeat (first | (refine HL.take (v := ?_) (by rfl) ?_ ?_; rotate_left; (· (intro w hSw; (try dsimp only at hSw); go_simp; try with_reducible rfl)); (try simp only [Act.put, List.setIfInBounds_toArray, List.set_cons_zero, List.set_cons_succ])) | (refine HL.skip (by rfl) ?_; (try simp only [Act.put, List.setIfInBounds_toArray, List.set_cons_zero, List.set_cons_succ])))
            refine HL.call (by rfl) (fun K hK => ?_)
            go_simp
            refine (isMarkName_c q0 _ hsz).mono ?_; rintro e w' ⟨rfl, rfl⟩; rw [HN.out]
            go_wp2_with fail
            refine hK.out _ _ (by exact ⟨k0, k1⟩) ?_
            clear hK K
            try simp only [Act.put, List.setIfInBounds_toArray, List.set_cons_zero, List.set_cons_succ]
            repeat (first | (refine HL.take (v := ?_) (by rfl) ?_ ?_; rotate_left; (· (intro w hSw; (try dsimp only at hSw); go_simp; try with_reducible rfl)); (try simp only [Act.put, List.setIfInBounds_toArray, List.set_cons_zero, List.set_cons_succ])) | (refine HL.skip (by rfl) ?_; (try simp only [Act.put, List.setIfInBounds_toArray, List.set_cons_zero, List.set_cons_succ])))
            refine HL.call (by rfl) (fun K hK => ?_)
            go_simp
            refine (isPosition_c q1 _).mono ?_; rintro e w' ⟨rfl, rfl⟩; rw [HP.out]
            go_wp2_with fail
            refine hK.out _ _ (by exact ⟨k0, k1⟩) ?_
            clear hK K
            try simp only [Act.put, List.setIfInBounds_toArray, List.set_cons_zero, List.set_cons_succ]
            repeat (first | (refine HL.take (v := ?_) (by rfl) ?_ ?_; rotate_left; (· (intro w hSw; (try dsimp only at hSw); go_simp; try with_reducible rfl)); (try simp only [Act.put, List.setIfInBounds_toArray, List.set_cons_zero, List.set_cons_succ])) | (refine HL.skip (by rfl) ?_; (try simp only [Act.put, List.setIfInBounds_toArray, List.set_cons_zero, List.set_cons_succ])))
            refine HL.done ?_
            go_wp2
            go_roundw
            case rel => exact ⟨k + 1, by omega, by go_num, HO.out, hnxq.drew⟩
            case measure => simp [intOf]; omega
          · obtain ⟨j, rfl⟩ : ∃ j, k = j + 1 := ⟨k - 1, by omega⟩
            obtain ⟨b', off', he, _, m0, _⟩ := hMq.at_ (k := j) (by omega)
            obtain ⟨rfl, rfl⟩ : bb = b' ∧ off = off' := by simpa using he
            clear he
            obtain ⟨⟨r0, r1⟩, Hr⟩ : ∃ q, Hid (ms.getD j mrZ = q) := ⟨_, rfl⟩
            rw [Hr.out] at m0
            have hd0 : decide (0 < ((j : Int) + 1)) = true := by simp
            have hd1 : decide (0 < j + 1) = true := by simp
            have hi1 : (0 : Int) ≤ (j : Int) + 1 := by omega
            have hi2 : (j : Int) + 1 < (ms.length : Int) := by omega
            have hi4 : (j : Int) < (ms.length : Int) := by omega
            have hi5 : j < ms.length := by omega
            have hi3 : ((j : Int) + 1).toNat = j + 1 := by omega
            have hw1 : IntKind.i64.wrap ((j : Int) + 1 - 1) = (j : Int) := by rw [Int.add_sub_cancel]; exact IntWalk.i64_in _ (by omega)
            have hw2 : IntKind.i64.wrap (j : Int) = (j : Int) := IntWalk.i64_in _ (by omega)
            have hi6 : (0 : Int) ≤ (j : Int) := by omega
            cases hlt2 : Op.bytesLess r0.toList q0.toList with
            | true =>
              have HO := Lib.hid (hto.succ (by unfold okMk mkB; rw [Hq.out, HN.out, HP.out, Nat.add_sub_cancel, Hr.out, hlt2]; simp))
              have hg1 : Op.bytesLess q0.toList r0.toList = false := bl_asym _ _ hlt2
              have hg2 : (q0.toList == r0.toList) = false := bl_ne _ _ hlt2
              clear hlt2
              refine wp_region_lex [false, false, true, false, false, false, false, true, false, false, false, false, false, false, false, false, false, false, false, false, false, false, false, false, false] (fun w' => w'.cell? ⟨wr.heap.size, 0, none⟩ = some (.string q0) ∧ w'.cell? ⟨wr.heap.size, 1, none⟩ = some (.int .i64 q1) ∧ w'.cell? ⟨bb, off + j * 2, none⟩ = some (.string r0)) (by kernel_rfl) (by kernel_rfl) rfl (by kernel_rfl) (fun _ _ d _ _ h => by cases d <;> exact h) (by exact ⟨k0, k1, m0⟩) ?_
              repeat (first | (refine HL.take (v := ?_) (by rfl) ?_ ?_; rotate_left; (· (intro w hSw; (try dsimp only at hSw); go_simp; try with_reducible rfl)); (try simp only [Act.put, List.setIfInBounds_toArray, List.set_cons_zero, List.set_cons_succ])) | (refine HL.skip (by rfl) ?_; (try simp only [Act.put, List.setIfInBounds_toArray, List.set_cons_zero, List.set_cons_succ])))
              refine HL.call (by rfl) (fun K hK => ?_)
              go_simp
              refine (isMarkName_c q0 _ hsz).mono ?_; rintro e w' ⟨rfl, rfl⟩; rw [HN.out]
              go_wp2_with fail
              refine hK.out _ _ (by exact ⟨k0, k1, m0⟩) ?_
              clear hK K
              try simp only [Act.put, List.setIfInBounds_toArray, List.set_cons_zero, List.set_cons_succ]
              repeat (first | (refine HL.take (v := ?_) (by rfl) ?_ ?_; rotate_left; (· (intro w hSw; (try dsimp only at hSw); go_simp; try with_reducible rfl)); (try simp only [Act.put, List.setIfInBounds_toArray, List.set_cons_zero, List.set_cons_succ])) | (refine HL.skip (by rfl) ?_; (try simp only [Act.put, List.setIfInBounds_toArray, List.set_cons_zero, List.set_cons_succ])))
              refine HL.call (by rfl) (fun K hK => ?_)
              go_simp
              refine (isPosition_c q1 _).mono ?_; rintro e w' ⟨rfl, rfl⟩; rw [HP.out]
              go_wp2_with fail
              refine hK.out _ _ (by exact ⟨k0, k1, m0⟩) ?_
              clear hK K
              try simp only [Act.put, List.setIfInBounds_toArray, List.set_cons_zero, List.set_cons_succ]
              repeat (first | (refine HL.take (v := ?_) (by rfl) ?_ ?_; rotate_left; (· (intro w hSw; (try dsimp only at hSw); go_simp; try with_reducible rfl)); (try simp only [Act.put, List.setIfInBounds_toArray, List.set_cons_zero, List.set_cons_succ])) | (refine HL.skip (by rfl) ?_; (try simp only [Act.put, List.setIfInBounds_toArray, List.set_cons_zero, List.set_cons_succ])))
              refine HL.done ?_
              clear hw1 hw2 hi6 hi1 hi2 hi3 hi4 hi5
              go_wp2
              go_roundw
              case rel => exact ⟨j + 1 + 1, by omega, by go_num, HO.out, hnxq.drew⟩
              case measure => simp [intOf]; omega
            | false =>
              have HR := Lib.hid (msB_no hlt (by unfold okMk mkB; rw [Hq.out]; rw [Nat.add_sub_cancel, Hr.out, hlt2]; simp)).symm
              have hg : (Op.bytesLess q0.toList r0.toList || q0.toList == r0.toList) = true := bl_total _ _ hlt2
              clear hlt2
              cases hg1 : Op.bytesLess q0.toList r0.toList with
              | true =>
                clear hg
                refine wp_region_lex [false, false, true, false, false, false, false, true, false, false, false, false, false, false, false, false, false, false, false, false, false, false, false, false, false] (fun w' => w'.cell? ⟨wr.heap.size, 0, none⟩ = some (.string q0) ∧ w'.cell? ⟨wr.heap.size, 1, none⟩ = some (.int .i64 q1) ∧ w'.cell? ⟨bb, off + j * 2, none⟩ = some (.string r0)) (by kernel_rfl) (by kernel_rfl) rfl (by kernel_rfl) (fun _ _ d _ _ h => by cases d <;> exact h) (by exact ⟨k0, k1, m0⟩) ?_
                repeat (first | (refine HL.take (v := ?_) (by rfl) ?_ ?_; rotate_left; (· (intro w hSw; (try dsimp only at hSw); go_simp; try with_reducible rfl)); (try simp only [Act.put, List.setIfInBounds_toArray, List.set_cons_zero, List.set_cons_succ])) | (refine HL.skip (by rfl) ?_; (try simp only [Act.put, List.setIfInBounds_toArray, List.set_cons_zero, List.set_cons_succ])))
                refine HL.call (by rfl) (fun K hK => ?_)
                go_simp
                refine (isMarkName_c q0 _ hsz).mono ?_; rintro e w' ⟨rfl, rfl⟩; rw [HN.out]
                go_wp2_with fail
                refine hK.out _ _ (by exact ⟨k0, k1, m0⟩) ?_
                clear hK K
                try simp only [Act.put, List.setIfInBounds_toArray, List.set_cons_zero, List.set_cons_succ]
                repeat (first | (refine HL.take (v := ?_) (by rfl) ?_ ?_; rotate_left; (· (intro w hSw; (try dsimp only at hSw); go_simp; try with_reducible rfl)); (try simp only [Act.put, List.setIfInBounds_toArray, List.set_cons_zero, List.set_cons_succ])) | (refine HL.skip (by rfl) ?_; (try simp only [Act.put, List.setIfInBounds_toArray, List.set_cons_zero, List.set_cons_succ])))
                refine HL.call (by rfl) (fun K hK => ?_)
                go_simp
                refine (isPosition_c q1 _).mono ?_; rintro e w' ⟨rfl, rfl⟩; rw [HP.out]
                go_wp2_with fail
                refine hK.out _ _ (by exact ⟨k0, k1, m0⟩) ?_
                clear hK K
                try simp only [Act.put, List.setIfInBounds_toArray, List.set_cons_zero, List.set_cons_succ]
                repeat (first | (refine HL.take (v := ?_) (by rfl) ?_ ?_; rotate_left; (· (intro w hSw; (try dsimp only at hSw); go_simp; try with_reducible rfl)); (try simp only [Act.put, List.setIfInBounds_toArray, List.set_cons_zero, List.set_cons_succ])) | (refine HL.skip (by rfl) ?_; (try simp only [Act.put, List.setIfInBounds_toArray, List.set_cons_zero, List.set_cons_succ])))
                refine HL.done ?_
                clear hw1 hw2 hi6 hi1 hi2 hi3 hi4 hi5
                go_wp2
                go_ret
                exact ⟨ret_bool HR.out, hnxq.drew⟩
              | false =>
                rw [hg1, Bool.false_or] at hg
                refine wp_region_lex [false, false, true, false, false, false, false, true, false, false, false, false, false, false, false, false, false, false, false, false, false, false, false, false, false] (fun w' => w'.cell? ⟨wr.heap.size, 0, none⟩ = some (.string q0) ∧ w'.cell? ⟨wr.heap.size, 1, none⟩ = some (.int .i64 q1) ∧ w'.cell? ⟨bb, off + j * 2, none⟩ = some (.string r0)) (by kernel_rfl) (by kernel_rfl) rfl (by kernel_rfl) (fun _ _ d _ _ h => by cases d <;> exact h) (by exact ⟨k0, k1, m0⟩) ?_
                repeat (first | (refine HL.take (v := ?_) (by rfl) ?_ ?_; rotate_left; (· (intro w hSw; (try dsimp only at hSw); go_simp; try with_reducible rfl)); (try simp only [Act.put, List.setIfInBounds_toArray, List.set_cons_zero, List.set_cons_succ])) | (refine HL.skip (by rfl) ?_; (try simp only [Act.put, List.setIfInBounds_toArray, List.set_cons_zero, List.set_cons_succ])))
                refine HL.call (by rfl) (fun K hK => ?_)
                go_simp
                refine (isMarkName_c q0 _ hsz).mono ?_; rintro e w' ⟨rfl, rfl⟩; rw [HN.out]
                go_wp2_with fail
                refine hK.out _ _ (by exact ⟨k0, k1, m0⟩) ?_
                clear hK K
                try simp only [Act.put, List.setIfInBounds_toArray, List.set_cons_zero, List.set_cons_succ]
                repeat (first | (refine HL.take (v := ?_) (by rfl) ?_ ?_; rotate_left; (· (intro w hSw; (try dsimp only at hSw); go_simp; try with_reducible rfl)); (try simp only [Act.put, List.setIfInBounds_toArray, List.set_cons_zero, List.set_cons_succ])) | (refine HL.skip (by rfl) ?_; (try simp only [Act.put, List.setIfInBounds_toArray, List.set_cons_zero, List.set_cons_succ])))
                refine HL.call (by rfl) (fun K hK => ?_)
                go_simp
                refine (isPosition_c q1 _).mono ?_; rintro e w' ⟨rfl, rfl⟩; rw [HP.out]
                go_wp2_with fail
                refine hK.out _ _ (by exact ⟨k0, k1, m0⟩) ?_
                clear hK K
                try simp only [Act.put, List.setIfInBounds_toArray, List.set_cons_zero, List.set_cons_succ]
                repeat (first | (refine HL.take (v := ?_) (by rfl) ?_ ?_; rotate_left; (· (intro w hSw; (try dsimp only at hSw); go_simp; try with_reducible rfl)); (try simp only [Act.put, List.setIfInBounds_toArray, List.set_cons_zero, List.set_cons_succ])) | (refine HL.skip (by rfl) ?_; (try simp only [Act.put, List.setIfInBounds_toArray, List.set_cons_zero, List.set_cons_succ])))
                refine HL.done ?_
                clear hw1 hw2 hi6 hi1 hi2 hi3 hi4 hi5
                go_wp2
                go_ret
                exact ⟨ret_bool HR.out, hnxq.drew⟩
    · obtain rfl : k = ms.length := by omega
      have HR := Lib.hid (msB_mk hl hto).symm
      go_wp2
      go_ret
      exact ⟨ret_bool HR.out, hnx⟩
set_option maxHeartbeats 4000000 in
theorem superRight_c (g b p t : Int) (A A2 : Option Addr) (c c2 B : Nat) (xs : List Int) (ms : List Mrk) (w : World) (h : Ins w B A xs) (h2 : Mks w B A2 ms) (hB : B ≤ w.heap.size) (hn : xs.length ≤ 1048576) (hn2 : ms.length ≤ 1048576) (hc : xs.length ≤ c) (hm : AllM ms) :
    Calls Try.prog 101 #[.agg #[.int .i64 g, .int .i64 b, .int .i64 p, .int .i64 t, .slice A xs.length c, .slice A2 ms.length c2]] w fun e w' => e = .returned (.bool (superB g b p t xs ms)) ∧ Nx w w' := by
  cases x0 : inB 1 999999 g with
  | false =>
    have H0 := Lib.hid x0
    clear x0
    have HR := Lib.hid (superB_no (g := g) (b := b) (p := p) (t := t) (xs := xs) (ms := ms) (by simp [H0.out])).symm
    go_enter Try.func101, Try.ntmps101
    go_wp2_with (first | (go_at_call 144; refine (isWithin_c _ _ _ _).mono ?_; rintro e w' ⟨rfl, rfl⟩; first | rw [H0.out]))
    go_ret
    exact ⟨ret_bool HR.out, (Nx.refl _).alloc _⟩
  | true =>
  have H0 := Lib.hid x0
  clear x0
  cases x1 : inB 0 999999 b with
  | false =>
    have H1 := Lib.hid x1
    clear x1
    have HR := Lib.hid (superB_no (g := g) (b := b) (p := p) (t := t) (xs := xs) (ms := ms) (by simp [H1.out])).symm
    go_enter Try.func101, Try.ntmps101
    go_wp2_with (first | (go_at_call 144; refine (isWithin_c _ _ _ _).mono ?_; rintro e w' ⟨rfl, rfl⟩; first | rw [H0.out]) | (go_at_call 114; refine (isPosition_c _ _).mono ?_; rintro e w' ⟨rfl, rfl⟩; rw [H1.out]))
    go_ret
    exact ⟨ret_bool HR.out, (Nx.refl _).alloc _⟩
  | true =>
  have H1 := Lib.hid x1
  clear x1
  cases x2 : inB b 999999 p with
  | false =>
    have H2 := Lib.hid x2
    clear x2
    have HR := Lib.hid (superB_no (g := g) (b := b) (p := p) (t := t) (xs := xs) (ms := ms) (by simp [H2.out])).symm
    go_enter Try.func101, Try.ntmps101
    go_wp2_with (first | (go_at_call 144; refine (isWithin_c _ _ _ _).mono ?_; rintro e w' ⟨rfl, rfl⟩; first | rw [H0.out] | rw [H2.out]) | (go_at_call 114; refine (isPosition_c _ _).mono ?_; rintro e w' ⟨rfl, rfl⟩; rw [H1.out]))
    go_ret
    exact ⟨ret_bool HR.out, (Nx.refl _).alloc _⟩
  | true =>
  have H2 := Lib.hid x2
  clear x2
  cases x3 : inB b 999999 t with
  | false =>
    have H3 := Lib.hid x3
    clear x3
    have HR := Lib.hid (superB_no (g := g) (b := b) (p := p) (t := t) (xs := xs) (ms := ms) (by simp [H3.out])).symm
    go_enter Try.func101, Try.ntmps101
    go_wp2_with (first | (go_at_call 144; refine (isWithin_c _ _ _ _).mono ?_; rintro e w' ⟨rfl, rfl⟩; first | rw [H0.out] | rw [H2.out] | rw [H3.out]) | (go_at_call 114; refine (isPosition_c _ _).mono ?_; rintro e w' ⟨rfl, rfl⟩; rw [H1.out]))
    go_ret
    exact ⟨ret_bool HR.out, (Nx.refl _).alloc _⟩
  | true =>
  have H3 := Lib.hid x3
  clear x3
  cases x4 : tbB xs with
  | false =>
    have H4 := Lib.hid x4
    clear x4
    have HR := Lib.hid (superB_no (g := g) (b := b) (p := p) (t := t) (xs := xs) (ms := ms) (by simp [H4.out])).symm
    go_enter Try.func101, Try.ntmps101
    go_wp2_with (first | (go_at_call 144; refine (isWithin_c _ _ _ _).mono ?_; rintro e w' ⟨rfl, rfl⟩; first | rw [H0.out] | rw [H2.out] | rw [H3.out]) | (go_at_call 114; refine (isPosition_c _ _).mono ?_; rintro e w' ⟨rfl, rfl⟩; rw [H1.out]) | (go_at_call 145; refine (isTable_c A c B xs _ (h.below ((Nx.refl w).alloc _) hB) hn hc).mono ?_; rintro e w' ⟨rfl, rfl⟩; rw [H4.out]))
    go_ret
    exact ⟨ret_bool HR.out, (Nx.refl _).alloc _⟩
  | true =>
  have H4 := Lib.hid x4
  clear x4
  have HR := Lib.hid (show msB ms = superB g b p t xs ms by unfold superB; rw [H0.out, H1.out, H2.out, H3.out, H4.out]; rfl)
  go_enter Try.func101, Try.ntmps101
  go_wp2_with (first | (go_at_call 144; refine (isWithin_c _ _ _ _).mono ?_; rintro e w' ⟨rfl, rfl⟩; first | rw [H0.out] | rw [H2.out] | rw [H3.out]) | (go_at_call 114; refine (isPosition_c _ _).mono ?_; rintro e w' ⟨rfl, rfl⟩; rw [H1.out]) | (go_at_call 145; refine (isTable_c A c B xs _ (h.below ((Nx.refl w).alloc _) hB) hn hc).mono ?_; rintro e w' ⟨rfl, rfl⟩; rw [H4.out]))
  have hx0 := (Nx.refl w).alloc (.cells #[.int .i64 g, .int .i64 b, .int .i64 p, .int .i64 t, .slice A xs.length c, .slice A2 ms.length c2] 33)
  refine (areMarks_c A2 c2 B ms _ (h2.below hx0 hB) (Nat.le_trans hB hx0.size) hn2 hm).mono ?_
  rintro e w1 ⟨rfl, hnx1⟩
  go_wp2
  go_ret
  exact ⟨ret_bool HR.out, hx0.trans hnx1⟩
set_option maxHeartbeats 1000000 in
theorem implSuperOK_c (g b p t : Int) (A A2 : Option Addr) (c c2 B : Nat) (xs : List Int) (ms : List Mrk) (w : World) (h : Ins w B A xs) (h2 : Mks w B A2 ms) (hB : B ≤ w.heap.size) (hn : xs.length ≤ 1048576) (hn2 : ms.length ≤ 1048576) (hc : xs.length ≤ c) (hm : AllM ms) :
    Calls Try.prog 46 #[.agg #[.int .i64 g, .int .i64 b, .int .i64 p, .int .i64 t, .slice A xs.length c, .slice A2 ms.length c2]] w fun e w' => e = .returned (.bool (superB g b p t xs ms)) ∧ Nx w w' := by
  have hx0 := (Nx.refl w).alloc (.cells #[.int .i64 g, .int .i64 b, .int .i64 p, .int .i64 t, .slice A xs.length c, .slice A2 ms.length c2] 33)
  go_enter Try.func46, Try.ntmps46
  go_wp2_with fail
  refine (superRight_c g b p t A A2 c c2 B xs ms _ (h.below hx0 hB) (h2.below hx0 hB) (Nat.le_trans hB hx0.size) hn hn2 hc hm).mono ?_
  rintro e w1 ⟨rfl, hnx⟩
  go_wp2
  go_ret
  exact ⟨rfl, hx0.trans hnx⟩
end Go.Proofs.Ytihpadelfpogmaa
/- The program's VaultOK. Conditions: what is read can be read, and holds at most 1048576 elements of a kind. -/
namespace Go.Proofs.Ytihpadelfpogmaa
set_option linter.unusedVariables false
set_option maxRecDepth 100000
open Go.RowKit

set_option maxHeartbeats 4000000 in
theorem vaultRight_c (V : Vl) (B : Nat) (w : World) (h : Vlt w B V) (hB : B ≤ w.heap.size) (hn : VlN V 1048576) (hc : V.xs.length ≤ V.c) (hc3 : V.gs.length ≤ V.c3) (hm : AllM V.ms) :
    Calls Try.prog 78 #[V.v] w fun e w' => e = .returned (.bool V.ok) ∧ Nx w w' := by
  have hVW := view_c V B
  have hPL := hasPlaces_c V B
  have hFF := fitsForward_c V B
  have hFB := fitsBack_c V B
  obtain ⟨g, b, p, t, A, c, xs, A2, c2, ms, A3, c3, gs, A4, c4, im⟩ := V
  obtain ⟨h, h2, h3, h4⟩ := h
  obtain ⟨hn, hn2, hn3, hn4, hn5⟩ := hn
  simp only [Vl.v, Vl.cells] at *
  simp only [Vl.w, Vl.wcells] at *
  have HOKv : Hid (Vl.ok ⟨g, b, p, t, A, c, xs, A2, c2, ms, A3, c3, gs, A4, c4, im⟩ = vltB g b p t xs ms gs im) := Lib.hid rfl
  rw [HOKv.out]
  have HNo := Lib.hid (vltB_no (g := g) (b := b) (p := p) (t := t) (xs := xs) (ms := ms) (gs := gs) (im := im))
  have HYes := Lib.hid (fun h => VltY.b (g := g) (b := b) (p := p) (t := t) (xs := xs) (ms := ms) (gs := gs) (im := im) h)
  have HSup := Lib.hid (fun (w' : World) (hx : Nx w w') => superRight_c g b p t A A2 c c2 B xs ms w' (h.below hx hB) (h2.below hx hB) (Nat.le_trans hB hx.size) hn hn2 hc hm)
  have HCon := Lib.hid (fun (w' : World) (hx : Nx w w') => implContentOK_c A4 c4 B im w' (h4.below hx hB) (Nat.le_trans hB hx.size) hn5)
  have HCha := Lib.hid (fun (w' : World) (hx : Nx w w') => implChainOK_c b A3 c3 B gs w' (h3.below hx hB) (Nat.le_trans hB hx.size) hn3 hn4)
  have HVW := Lib.hid (fun (w' : World) (hx : Nx w w') (h8 : im.length = 8) => hVW w' (h4.below hx hB) (Nat.le_trans hB hx.size) h8)
  have HPL := Lib.hid (fun (w' : World) (hx : Nx w w') (hN : gs.length ≤ 4096) => hPL w' (h3.below hx hB) (h2.below hx hB) (Nat.le_trans hB hx.size) hN hn2)
  have HFF := Lib.hid (fun (w' : World) (hx : Nx w w') (hl : Lead b gs) (h8 : im.length = 8) (hp : plcB b p t gs ms = true) => hFF w' (h3.below hx hB) (Nat.le_trans hB hx.size) hl hc3 h8 hp)
  have HFB := Lib.hid (fun (w' : World) (hx : Nx w w') (hl : Lead b gs) (h8 : im.length = 8) (hp : plcB b p t gs ms = true) => hFB w' (h3.below hx hB) (Nat.le_trans hB hx.size) hl h8 hp)
  clear hVW hPL hFF hFB
  obtain ⟨n, Hn⟩ : ∃ n, Hid (gs.length = n) := ⟨_, rfl⟩
  obtain ⟨q, Hq⟩ : ∃ q, Hid (im.length = q) := ⟨_, rfl⟩
  obtain ⟨r, Hr⟩ : ∃ r, Hid (ms.length = r) := ⟨_, rfl⟩
  obtain ⟨z, Hz⟩ : ∃ z, Hid (xs.length = z) := ⟨_, rfl⟩
  rw [Hz.out, Hr.out] at HSup
  rw [Hq.out] at HCon
  rw [Hn.out] at HCha hn3
  rw [Hn.out, Hq.out, Hr.out, Hz.out] at HVW
  rw [Hn.out, Hr.out, Hz.out] at HPL
  rw [Hn.out, Hq.out, Hr.out, Hz.out] at HFF HFB
  rw [Hr.out] at hn2
  rw [Hz.out] at hn
  rw [Hq.out] at hn5
  rw [Hn.out, Hq.out, Hr.out, Hz.out]
  have b0 := Box.new w 36 #[.int .i64 g, .int .i64 b, .int .i64 p, .int .i64 t, .slice A z c, .slice A2 r c2, .slice A3 n c3, .slice A4 q c4]
  have hx0 := (Nx.refl w).alloc (.cells #[.int .i64 g, .int .i64 b, .int .i64 p, .int .i64 t, .slice A z c, .slice A2 r c2, .slice A3 n c3, .slice A4 q c4] 36)
  clear h h2 h3 h4 hn4 hc hm hc3
  go_enter Try.func78, Try.ntmps78
  go_wp2_with fail
  generalize w.alloc (.cells #[.int .i64 g, .int .i64 b, .int .i64 p, .int .i64 t, .slice A z c, .slice A2 r c2, .slice A3 n c3, .slice A4 q c4] 36) = W at *
  refine (HSup.out W hx0).mono ?_
  rintro e w1 ⟨rfl, hk⟩
  have b1 := b0.nx hk
  have hx := hx0.trans hk
  clear hx0 b0 hk
  cases h1 : superB g b p t xs ms with
  | false =>
    have HR := Lib.hid (HNo.out (.inl h1))
    clear h1
    go_wp2
    go_ret
    exact ⟨ret_bool HR.out.symm, hx⟩
  | true =>
  have H1 := Lib.hid h1
  clear h1
  obtain ⟨y0, y1, y2, y3, y4, y5, y6, y7⟩ := b1.e8
  go_wp2_with fail
  refine (HCon.out _ hx).mono ?_
  clear y0 y1 y2 y3 y4 y5 y6 y7
  rintro e w2 ⟨rfl, hk⟩
  have b2 := b1.nx hk
  replace hx := hx.trans hk
  clear b1 hk
  cases h2 : contB im with
  | false =>
    have HR := Lib.hid (HNo.out (.inr (.inl h2)))
    clear h2
    go_wp2
    go_ret
    exact ⟨ret_bool HR.out.symm, hx⟩
  | true =>
  have H2 := Lib.hid h2
  clear h2
  obtain ⟨y0, y1, y2, y3, y4, y5, y6, y7⟩ := b2.e8
  by_cases hle : n = z
  case neg =>
    have hd : ((n : Int) != (z : Int)) = true := by simp; omega
    have HR := Lib.hid (HNo.out (.inr (.inr (.inl (by rw [Hn.out, Hz.out]; exact hle)))))
    clear hle
    go_wp2
    go_ret
    exact ⟨ret_bool HR.out.symm, hx⟩
  have hd : ((n : Int) != (z : Int)) = false := by simp; omega
  have H4 := Lib.hid hle
  clear hle
  go_wp2_with fail
  refine (HCha.out _ hx).mono ?_
  clear y0 y1 y2 y3 y4 y5 y6 y7 hd
  rintro e w3 ⟨rfl, hk⟩
  have b3 := b2.nx hk
  replace hx := hx.trans hk
  clear b2 hk
  cases h3 : chainB b gs with
  | false =>
    have HR := Lib.hid (HNo.out (.inr (.inr (.inr (.inl h3)))))
    clear h3
    go_wp2
    go_ret
    exact ⟨ret_bool HR.out.symm, hx⟩
  | true =>
  have H3 := Lib.hid h3
  clear h3
  have HLd := Lib.hid (chainB_lead H3.out)
  have hn4 : n ≤ 4096 := by have := HLd.out.short; rw [Hn.out] at this; exact this
  have H8 : Hid (q = 8) := Lib.hid (by rw [← Hq.out]; exact (contB_yes H2.out).1)
  obtain rfl : q = 8 := H8.out
  obtain ⟨y0, y1, y2, y3, y4, y5, y6, y7⟩ := b3.e8
  go_wp2_with fail
  refine (HVW.out _ hx (by trivial)).mono ?_
  clear y0 y1 y2 y3 y4 y5 y6 y7
  rintro e w4 ⟨rfl, hk⟩
  have b4 := b3.nx hk
  replace hx := hx.trans hk
  clear b3 hk
  have rz := Box.new w4 101 #[.int .i64 0, .int .i64 0, .int .i64 0, .int .i64 0, .slice none 0 0, .slice none 0 0, .slice none 0 0, .int .i64 0, .int .i64 0, .int .i64 0, .int .i64 0, .int .i64 0, .int .i64 0, .int .i64 0, .int .i64 0]
  have bv := rz.row #[.int .i64 g, .int .i64 b, .int .i64 p, .int .i64 t, .slice A z c, .slice A2 r c2, .slice A3 n c3, inAt im 0, inAt im 1, inAt im 2, inAt im 3, inAt im 4, inAt im 5, inAt im 6, inAt im 7]
  have hx5 := (hx.alloc (.cells #[.int .i64 0, .int .i64 0, .int .i64 0, .int .i64 0, .slice none 0 0, .slice none 0 0, .slice none 0 0, .int .i64 0, .int .i64 0, .int .i64 0, .int .i64 0, .int .i64 0, .int .i64 0, .int .i64 0, .int .i64 0] 101)).setRow (g := w4.heap.size) hx.size #[.int .i64 g, .int .i64 b, .int .i64 p, .int .i64 t, .slice A z c, .slice A2 r c2, .slice A3 n c3, inAt im 0, inAt im 1, inAt im 2, inAt im 3, inAt im 4, inAt im 5, inAt im 6, inAt im 7]
  obtain ⟨y0, y1, y2, y3, y4, y5, y6, y7, y8, y9, y10, y11, y12, y13, y14⟩ := bv.e15
  go_wp2_with (refine wpList_store_row rfl _ _ _ rfl w4.heap.size #[.int .i64 g, .int .i64 b, .int .i64 p, .int .i64 t, .slice A z c, .slice A2 r c2, .slice A3 n c3, inAt im 0, inAt im 1, inAt im 2, inAt im 3, inAt im 4, inAt im 5, inAt im 6, inAt im 7] rfl rfl 101 #[.int .i64 0, .int .i64 0, .int .i64 0, .int .i64 0, .slice none 0 0, .slice none 0 0, .slice none 0 0, .int .i64 0, .int .i64 0, .int .i64 0, .int .i64 0, .int .i64 0, .int .i64 0, .int .i64 0, .int .i64 0] rz (by kernel_rfl) rfl (by simp [Value.oneCell', inAt]) ?_)
  clear y0 y1 y2 y3 y4 y5 y6 y7 y8 y9 y10 y11 y12 y13 y14 rz hx
  generalize (w4.alloc (.cells #[.int .i64 0, .int .i64 0, .int .i64 0, .int .i64 0, .slice none 0 0, .slice none 0 0, .slice none 0 0, .int .i64 0, .int .i64 0, .int .i64 0, .int .i64 0, .int .i64 0, .int .i64 0, .int .i64 0, .int .i64 0] 101)).setRow w4.heap.size #[.int .i64 g, .int .i64 b, .int .i64 p, .int .i64 t, .slice A z c, .slice A2 r c2, .slice A3 n c3, inAt im 0, inAt im 1, inAt im 2, inAt im 3, inAt im 4, inAt im 5, inAt im 6, inAt im 7] = W5 at *
  generalize w4.heap.size = gV at *
  refine (HPL.out _ hx5 hn4).mono ?_
  rintro e w6 ⟨rfl, hk⟩
  have bv6 := bv.nx hk
  have hx6 := hx5.trans hk
  clear bv hx5 hk
  cases h5 : plcB b p t gs ms with
  | false =>
    have HR := Lib.hid (HNo.out (.inr (.inr (.inr (.inr (.inl h5))))))
    clear h5
    go_wp2
    go_ret
    exact ⟨ret_bool HR.out.symm, hx6⟩
  | true =>
  have H5 := Lib.hid h5
  clear h5
  obtain ⟨y0, y1, y2, y3, y4, y5, y6, y7, y8, y9, y10, y11, y12, y13, y14⟩ := bv6.e15
  go_wp2_with fail
  clear y0 y1 y2 y3 y4 y5 y6 y7 y8 y9 y10 y11 y12 y13 y14
  refine (HFF.out _ hx6 HLd.out (by trivial) H5.out).mono ?_
  rintro e w7 ⟨rfl, hk⟩
  have bv7 := bv6.nx hk
  have hx7 := hx6.trans hk
  clear bv6 hx6 hk
  cases h6 : fitF (stp b p t gs im).1 gs (stp b p t gs im).2 with
  | false =>
    have HR := Lib.hid (HNo.out (.inr (.inr (.inr (.inr (.inr (.inl h6)))))))
    clear h6
    go_wp2
    go_ret
    exact ⟨ret_bool HR.out.symm, hx7⟩
  | true =>
  have H6 := Lib.hid h6
  clear h6
  obtain ⟨y0, y1, y2, y3, y4, y5, y6, y7, y8, y9, y10, y11, y12, y13, y14⟩ := bv7.e15
  go_wp2_with fail
  clear y0 y1 y2 y3 y4 y5 y6 y7 y8 y9 y10 y11 y12 y13 y14
  refine (HFB.out _ hx7 HLd.out (by trivial) H5.out).mono ?_
  rintro e w8 ⟨rfl, hk⟩
  have hx8 := hx7.trans hk
  clear hx7 hk
  cases h7 : fitB (stp b p t gs im).1 gs (stp b p t gs im).2 with
  | false =>
    have HR := Lib.hid (HNo.out (.inr (.inr (.inr (.inr (.inr (.inr h7)))))))
    clear h7
    go_wp2
    go_ret
    exact ⟨ret_bool HR.out.symm, hx8⟩
  | true =>
    have HR := Lib.hid (HYes.out ⟨H1.out, H2.out, by rw [Hn.out, Hz.out]; exact H4.out, H3.out, H5.out, H6.out, h7⟩)
    clear h7
    go_wp2
    go_ret
    exact ⟨ret_bool HR.out.symm, hx8⟩
set_option maxHeartbeats 1000000 in
theorem implVaultOK_c (V : Vl) (B : Nat) (w : World) (h : Vlt w B V) (hB : B ≤ w.heap.size) (hn : VlN V 1048576) (hc : V.xs.length ≤ V.c) (hc3 : V.gs.length ≤ V.c3) (hm : AllM V.ms) :
    Calls Try.prog 20 #[V.v] w fun e w' => e = .returned (.bool V.ok) ∧ Nx w w' := by
  have hR := vaultRight_c V B
  obtain ⟨v, Hv⟩ : ∃ v, Hid (V.ok = v) := ⟨_, rfl⟩
  rw [Hv.out] at hR ⊢
  have HR := Lib.hid (fun (w' : World) (hx : Nx w w') => hR w' (h.below hx hB) (Nat.le_trans hB hx.size) hn hc hc3 hm)
  clear hR Hv h hn hc hc3 hm
  obtain ⟨g, b, p, t, A, c, xs, A2, c2, ms, A3, c3, gs, A4, c4, im⟩ := V
  simp only [Vl.v, Vl.cells] at *
  have hx0 := (Nx.refl w).alloc (.cells #[.int .i64 g, .int .i64 b, .int .i64 p, .int .i64 t, .slice A xs.length c, .slice A2 ms.length c2, .slice A3 gs.length c3, .slice A4 im.length c4] 36)
  go_enter Try.func20, Try.ntmps20
  go_wp2_with fail
  generalize w.alloc (.cells #[.int .i64 g, .int .i64 b, .int .i64 p, .int .i64 t, .slice A xs.length c, .slice A2 ms.length c2, .slice A3 gs.length c3, .slice A4 im.length c4] 36) = W at *
  refine (HR.out W hx0).mono ?_
  rintro e w1 ⟨rfl, hk⟩
  have hx := hx0.trans hk
  go_wp2
  go_ret
  exact ⟨rfl, hx⟩
end Go.Proofs.Ytihpadelfpogmaa
/- Vaults in memory; contracts of the laws' functions that make vaults; a vault that comes in, opened. Conditions: what is read can be read; copied or compared: at most 1048576 elements of a kind. -/
namespace Go.Proofs.Ytihpadelfpogmaa
set_option linter.unusedVariables false
set_option maxRecDepth 100000
open Go.Joins Go.ChangeShapes Go.WideShapes Go.RowKit Go.Deep


set_option maxHeartbeats 4000000 in
theorem toVault_c (V : Vl) (B : Nat) (w : World) (h : Vlt w B V) (hB : B ≤ w.heap.size) (hn : VlN V 1048576) :
    Calls Try.prog 16 #[V.v] w (RetVl w V) := by
  obtain ⟨g, b, p, t, A, c, xs, A2, c2, ms, A3, c3, gs, A4, c4, im⟩ := V
  obtain ⟨h, h2, h3, h4⟩ := h
  obtain ⟨hn, hn2, hn3, hn4, hn5⟩ := hn
  simp only [Vl.v, Vl.cells] at *
  have b0 := ((Box.new w 28 #[.int .i64 g, .int .i64 b, .int .i64 p, .int .i64 t, .slice A xs.length c, .slice A2 ms.length c2, .slice A3 gs.length c3, .slice A4 im.length c4]).alloc (.cells #[.int .i64 0, .int .i64 0, .int .i64 0, .int .i64 0, .slice none 0 0, .slice none 0 0, .slice none 0 0, .slice none 0 0] 36)).alloc (.cells #[.int .i64 0, .int .i64 0, .int .i64 0, .int .i64 0, .slice none 0 0, .slice none 0 0, .slice none 0 0, .slice none 0 0] 36)
  have b1 := (Box.new (w.alloc (.cells #[.int .i64 g, .int .i64 b, .int .i64 p, .int .i64 t, .slice A xs.length c, .slice A2 ms.length c2, .slice A3 gs.length c3, .slice A4 im.length c4] 28)) 36 #[.int .i64 0, .int .i64 0, .int .i64 0, .int .i64 0, .slice none 0 0, .slice none 0 0, .slice none 0 0, .slice none 0 0]).alloc (.cells #[.int .i64 0, .int .i64 0, .int .i64 0, .int .i64 0, .slice none 0 0, .slice none 0 0, .slice none 0 0, .slice none 0 0] 36)
  have b2 := Box.new ((w.alloc (.cells #[.int .i64 g, .int .i64 b, .int .i64 p, .int .i64 t, .slice A xs.length c, .slice A2 ms.length c2, .slice A3 gs.length c3, .slice A4 im.length c4] 28)).alloc (.cells #[.int .i64 0, .int .i64 0, .int .i64 0, .int .i64 0, .slice none 0 0, .slice none 0 0, .slice none 0 0, .slice none 0 0] 36)) 36 #[.int .i64 0, .int .i64 0, .int .i64 0, .int .i64 0, .slice none 0 0, .slice none 0 0, .slice none 0 0, .slice none 0 0]
  have hx0 := (((Nx.refl w).alloc (.cells #[.int .i64 g, .int .i64 b, .int .i64 p, .int .i64 t, .slice A xs.length c, .slice A2 ms.length c2, .slice A3 gs.length c3, .slice A4 im.length c4] 28)).alloc (.cells #[.int .i64 0, .int .i64 0, .int .i64 0, .int .i64 0, .slice none 0 0, .slice none 0 0, .slice none 0 0, .slice none 0 0] 36)).alloc (.cells #[.int .i64 0, .int .i64 0, .int .i64 0, .int .i64 0, .slice none 0 0, .slice none 0 0, .slice none 0 0, .slice none 0 0] 36)
  have hsz : (((w.alloc (.cells #[.int .i64 g, .int .i64 b, .int .i64 p, .int .i64 t, .slice A xs.length c, .slice A2 ms.length c2, .slice A3 gs.length c3, .slice A4 im.length c4] 28)).alloc (.cells #[.int .i64 0, .int .i64 0, .int .i64 0, .int .i64 0, .slice none 0 0, .slice none 0 0, .slice none 0 0, .slice none 0 0] 36)).alloc (.cells #[.int .i64 0, .int .i64 0, .int .i64 0, .int .i64 0, .slice none 0 0, .slice none 0 0, .slice none 0 0, .slice none 0 0] 36)).heap.size = w.heap.size + 1 + 1 + 1 := by simp only [World.size_alloc]
  simp only [World.size_alloc] at b1 b2
  go_enter Try.func16, Try.ntmps16
  go_wp2_with fail
  generalize (((w.alloc (.cells #[.int .i64 g, .int .i64 b, .int .i64 p, .int .i64 t, .slice A xs.length c, .slice A2 ms.length c2, .slice A3 gs.length c3, .slice A4 im.length c4] 28)).alloc (.cells #[.int .i64 0, .int .i64 0, .int .i64 0, .int .i64 0, .slice none 0 0, .slice none 0 0, .slice none 0 0, .slice none 0 0] 36)).alloc (.cells #[.int .i64 0, .int .i64 0, .int .i64 0, .int .i64 0, .slice none 0 0, .slice none 0 0, .slice none 0 0, .slice none 0 0] 36)) = W at *
  have Hsz := Lib.hid hsz
  clear hsz
  refine (toSuper_c g b p t A A2 c c2 B xs ms _ (h.below hx0 hB) (h2.below hx0 hB) (Nat.le_trans hB hx0.size) hn hn2).mono ?_
  rintro e w1 ⟨B1, d1, B2, d2, rfl, hd1, hS1, hM1, hnx1⟩
  have HD1 := Lib.hid hd1
  clear hd1
  have q0 := b0.nx hnx1
  have q1 := b1.nx hnx1
  have q2 := b2.nx hnx1
  have hx1 := hx0.trans hnx1
  have hl2 := q2.lt
  obtain ⟨m0, m1, m2, m3, m4, m5, m6, m7⟩ := q2.e8
  have mf0 := q2.frozen 0
  have mf1 := q2.frozen 1
  have mf2 := q2.frozen 2
  have mf3 := q2.frozen 3
  have mf4 := q2.frozen 4
  have mf5 := q2.frozen 5
  obtain ⟨_, _, _, _, _, _, y6, y7⟩ := q0.e8
  clear b0 b1 b2 hx0 hnx1
  go_wp2_with fail
  have r2 := ((((((q2.set 0 (.int .i64 g)).set 1 (.int .i64 b)).set 2 (.int .i64 p)).set 3 (.int .i64 t)).set 4 (.slice B1 xs.length d1)).set 5 (.slice B2 ms.length d2))
  simp only [List.setIfInBounds_toArray, List.set_cons_zero, List.set_cons_succ] at r2
  have r1 := ((((((q1.far (p := ⟨w.heap.size + 1 + 1, 0, none⟩) (by simp) (.int .i64 g)).far (p := ⟨w.heap.size + 1 + 1, 1, none⟩) (by simp) (.int .i64 b)).far (p := ⟨w.heap.size + 1 + 1, 2, none⟩) (by simp) (.int .i64 p)).far (p := ⟨w.heap.size + 1 + 1, 3, none⟩) (by simp) (.int .i64 t)).far (p := ⟨w.heap.size + 1 + 1, 4, none⟩) (by simp) (.slice B1 xs.length d1)).far (p := ⟨w.heap.size + 1 + 1, 5, none⟩) (by simp) (.slice B2 ms.length d2))
  have r0 := ((((((q0.far (p := ⟨w.heap.size + 1 + 1, 0, none⟩) (by simp; try omega) (.int .i64 g)).far (p := ⟨w.heap.size + 1 + 1, 1, none⟩) (by simp; try omega) (.int .i64 b)).far (p := ⟨w.heap.size + 1 + 1, 2, none⟩) (by simp; try omega) (.int .i64 p)).far (p := ⟨w.heap.size + 1 + 1, 3, none⟩) (by simp; try omega) (.int .i64 t)).far (p := ⟨w.heap.size + 1 + 1, 4, none⟩) (by simp; try omega) (.slice B1 xs.length d1)).far (p := ⟨w.heap.size + 1 + 1, 5, none⟩) (by simp; try omega) (.slice B2 ms.length d2))
  have s1 := ((((((hS1.far (p := ⟨w.heap.size + 1 + 1, 0, none⟩) (by have := Hsz.out; simp; omega) (.int .i64 g)).far (p := ⟨w.heap.size + 1 + 1, 1, none⟩) (by have := Hsz.out; simp; omega) (.int .i64 b)).far (p := ⟨w.heap.size + 1 + 1, 2, none⟩) (by have := Hsz.out; simp; omega) (.int .i64 p)).far (p := ⟨w.heap.size + 1 + 1, 3, none⟩) (by have := Hsz.out; simp; omega) (.int .i64 t)).far (p := ⟨w.heap.size + 1 + 1, 4, none⟩) (by have := Hsz.out; simp; omega) (.slice B1 xs.length d1)).far (p := ⟨w.heap.size + 1 + 1, 5, none⟩) (by have := Hsz.out; simp; omega) (.slice B2 ms.length d2))
  have t1 := ((((((hM1.far (p := ⟨w.heap.size + 1 + 1, 0, none⟩) (by have := Hsz.out; simp; omega) (.int .i64 g)).far (p := ⟨w.heap.size + 1 + 1, 1, none⟩) (by have := Hsz.out; simp; omega) (.int .i64 b)).far (p := ⟨w.heap.size + 1 + 1, 2, none⟩) (by have := Hsz.out; simp; omega) (.int .i64 p)).far (p := ⟨w.heap.size + 1 + 1, 3, none⟩) (by have := Hsz.out; simp; omega) (.int .i64 t)).far (p := ⟨w.heap.size + 1 + 1, 4, none⟩) (by have := Hsz.out; simp; omega) (.slice B1 xs.length d1)).far (p := ⟨w.heap.size + 1 + 1, 5, none⟩) (by have := Hsz.out; simp; omega) (.slice B2 ms.length d2))
  have hx2 := ((((((hx1.setCell (p := ⟨w.heap.size + 1 + 1, 0, none⟩) (by simp; omega) (.int .i64 g)).setCell (p := ⟨w.heap.size + 1 + 1, 1, none⟩) (by simp; omega) (.int .i64 b)).setCell (p := ⟨w.heap.size + 1 + 1, 2, none⟩) (by simp; omega) (.int .i64 p)).setCell (p := ⟨w.heap.size + 1 + 1, 3, none⟩) (by simp; omega) (.int .i64 t)).setCell (p := ⟨w.heap.size + 1 + 1, 4, none⟩) (by simp; omega) (.slice B1 xs.length d1)).setCell (p := ⟨w.heap.size + 1 + 1, 5, none⟩) (by simp; omega) (.slice B2 ms.length d2))
  generalize ((((((w1.setCell ⟨w.heap.size + 1 + 1, 0, none⟩ (.int .i64 g)).setCell ⟨w.heap.size + 1 + 1, 1, none⟩ (.int .i64 b)).setCell ⟨w.heap.size + 1 + 1, 2, none⟩ (.int .i64 p)).setCell ⟨w.heap.size + 1 + 1, 3, none⟩ (.int .i64 t)).setCell ⟨w.heap.size + 1 + 1, 4, none⟩ (.slice B1 xs.length d1)).setCell ⟨w.heap.size + 1 + 1, 5, none⟩ (.slice B2 ms.length d2)) = W2 at *
  clear q0 q1 q2 hx1 hS1 hM1 m0 m1 m2 m3 m4 m5 m6 m7 mf0 mf1 mf2 mf3 mf4 mf5 y6 y7 hl2
  have hlW2 := r2.lt
  refine (toSegSc_c A3 c3 B gs _ (h3.below hx2 hB) (Nat.le_trans hB hx2.size) hn3 hn4).mono ?_
  rintro e w3 ⟨B3, d3, gs9, rfl, hv9, hc9, hS9, hnx3⟩
  have HC9 := Lib.hid hc9
  clear hc9
  have Hv := Lib.hid hv9
  clear hv9
  replace r0 := r0.nx hnx3
  replace r1 := r1.nx hnx3
  replace r2 := r2.nx hnx3
  replace s1 := s1.nx hnx3
  replace t1 := t1.nx hnx3
  have hx3 := hx2.trans hnx3
  have hl2 := r2.lt
  have hW2 := hx2.size
  clear hx2 hnx3
  obtain ⟨_, _, _, _, _, _, y6, y7⟩ := r0.e8
  obtain ⟨m0, m1, m2, m3, m4, m5, m6, m7⟩ := r2.e8
  have mf6 := r2.frozen 6
  go_wp2_with fail
  have r2' := r2.set 6 (.slice B3 gs9.length d3)
  simp only [List.setIfInBounds_toArray, List.set_cons_zero, List.set_cons_succ] at r2'
  have r1' := r1.far (p := ⟨w.heap.size + 1 + 1, 6, none⟩) (by simp) (.slice B3 gs9.length d3)
  have r0' := r0.far (p := ⟨w.heap.size + 1 + 1, 6, none⟩) (by simp; try omega) (.slice B3 gs9.length d3)
  have s1' := s1.far (p := ⟨w.heap.size + 1 + 1, 6, none⟩) (by have := Hsz.out; simp; omega) (.slice B3 gs9.length d3)
  have t1' := t1.far (p := ⟨w.heap.size + 1 + 1, 6, none⟩) (by have := Hsz.out; simp; omega) (.slice B3 gs9.length d3)
  have u1' := Sl.far_sg hS9 (p := ⟨w.heap.size + 1 + 1, 6, none⟩) (by have := Hsz.out; simp; omega) (.slice B3 gs9.length d3)
  have hx4 := hx3.setCell (p := ⟨w.heap.size + 1 + 1, 6, none⟩) (by simp; omega) (.slice B3 gs9.length d3)
  generalize w3.setCell ⟨w.heap.size + 1 + 1, 6, none⟩ (.slice B3 gs9.length d3) = W4 at *
  clear r0 r1 r2 s1 t1 hS9 hx3 y6 y7 m0 m1 m2 m3 m4 m5 m6 m7 mf6 hl2
  refine (toIntS_c A4 c4 B im _ (h4.below hx4 hB) (Nat.le_trans hB hx4.size) hn5).mono ?_
  rintro e w5 ⟨B4, d4, rfl, hS5, hnx5⟩
  have r0 := r0'.nx hnx5
  have r1 := r1'.nx hnx5
  have r2 := r2'.nx hnx5
  have s1 := s1'.nx hnx5
  have t1 := t1'.nx hnx5
  have u1 := u1'.nx hnx5
  have hx5 := hx4.trans hnx5
  have hW4 := hx4.size
  have hl4 := r2'.lt
  clear r0' r1' r2' s1' t1' u1' hx4 hnx5
  obtain ⟨m0, m1, m2, m3, m4, m5, m6, m7⟩ := r2.e8
  obtain ⟨n0, n1, n2, n3, n4, n5, n6, n7⟩ := r1.e8
  have mf7 := r2.frozen 7
  have nf0 := r1.frozen 0
  have nf1 := r1.frozen 1
  have nf2 := r1.frozen 2
  have nf3 := r1.frozen 3
  have nf4 := r1.frozen 4
  have nf5 := r1.frozen 5
  have nf6 := r1.frozen 6
  have nf7 := r1.frozen 7
  have hl1 := r1.lt
  have hl2 := r2.lt
  go_wp2
  have hz := Hsz.out
  have q := (((((((((r1.far (p := ⟨w.heap.size + 1 + 1, 7, none⟩) (by simp) (.slice B4 im.length d4)).set 0 (.int .i64 g)).set 1 (.int .i64 b)).set 2 (.int .i64 p)).set 3 (.int .i64 t)).set 4 (.slice B1 xs.length d1)).set 5 (.slice B2 ms.length d2)).set 6 (.slice B3 gs9.length d3)).set 7 (.slice B4 im.length d4))
  have sf := (((((((((s1.far (p := ⟨w.heap.size + 1 + 1, 7, none⟩) (by simp; omega) (.slice B4 im.length d4)).far (p := ⟨w.heap.size + 1, 0, none⟩) (by simp; omega) (.int .i64 g)).far (p := ⟨w.heap.size + 1, 1, none⟩) (by simp; omega) (.int .i64 b)).far (p := ⟨w.heap.size + 1, 2, none⟩) (by simp; omega) (.int .i64 p)).far (p := ⟨w.heap.size + 1, 3, none⟩) (by simp; omega) (.int .i64 t)).far (p := ⟨w.heap.size + 1, 4, none⟩) (by simp; omega) (.slice B1 xs.length d1)).far (p := ⟨w.heap.size + 1, 5, none⟩) (by simp; omega) (.slice B2 ms.length d2)).far (p := ⟨w.heap.size + 1, 6, none⟩) (by simp; omega) (.slice B3 gs9.length d3)).far (p := ⟨w.heap.size + 1, 7, none⟩) (by simp; omega) (.slice B4 im.length d4))
  have tf := (((((((((t1.far (p := ⟨w.heap.size + 1 + 1, 7, none⟩) (by simp; omega) (.slice B4 im.length d4)).far (p := ⟨w.heap.size + 1, 0, none⟩) (by simp; omega) (.int .i64 g)).far (p := ⟨w.heap.size + 1, 1, none⟩) (by simp; omega) (.int .i64 b)).far (p := ⟨w.heap.size + 1, 2, none⟩) (by simp; omega) (.int .i64 p)).far (p := ⟨w.heap.size + 1, 3, none⟩) (by simp; omega) (.int .i64 t)).far (p := ⟨w.heap.size + 1, 4, none⟩) (by simp; omega) (.slice B1 xs.length d1)).far (p := ⟨w.heap.size + 1, 5, none⟩) (by simp; omega) (.slice B2 ms.length d2)).far (p := ⟨w.heap.size + 1, 6, none⟩) (by simp; omega) (.slice B3 gs9.length d3)).far (p := ⟨w.heap.size + 1, 7, none⟩) (by simp; omega) (.slice B4 im.length d4))
  have uf := (Sl.far_sg (Sl.far_sg (Sl.far_sg (Sl.far_sg (Sl.far_sg (Sl.far_sg (Sl.far_sg (Sl.far_sg (Sl.far_sg u1 (p := ⟨w.heap.size + 1 + 1, 7, none⟩) (by simp; omega) (.slice B4 im.length d4)) (p := ⟨w.heap.size + 1, 0, none⟩) (by simp; omega) (.int .i64 g)) (p := ⟨w.heap.size + 1, 1, none⟩) (by simp; omega) (.int .i64 b)) (p := ⟨w.heap.size + 1, 2, none⟩) (by simp; omega) (.int .i64 p)) (p := ⟨w.heap.size + 1, 3, none⟩) (by simp; omega) (.int .i64 t)) (p := ⟨w.heap.size + 1, 4, none⟩) (by simp; omega) (.slice B1 xs.length d1)) (p := ⟨w.heap.size + 1, 5, none⟩) (by simp; omega) (.slice B2 ms.length d2)) (p := ⟨w.heap.size + 1, 6, none⟩) (by simp; omega) (.slice B3 gs9.length d3)) (p := ⟨w.heap.size + 1, 7, none⟩) (by simp; omega) (.slice B4 im.length d4))
  have vf := (((((((((hS5.far (p := ⟨w.heap.size + 1 + 1, 7, none⟩) (by simp; omega) (.slice B4 im.length d4)).far (p := ⟨w.heap.size + 1, 0, none⟩) (by simp; omega) (.int .i64 g)).far (p := ⟨w.heap.size + 1, 1, none⟩) (by simp; omega) (.int .i64 b)).far (p := ⟨w.heap.size + 1, 2, none⟩) (by simp; omega) (.int .i64 p)).far (p := ⟨w.heap.size + 1, 3, none⟩) (by simp; omega) (.int .i64 t)).far (p := ⟨w.heap.size + 1, 4, none⟩) (by simp; omega) (.slice B1 xs.length d1)).far (p := ⟨w.heap.size + 1, 5, none⟩) (by simp; omega) (.slice B2 ms.length d2)).far (p := ⟨w.heap.size + 1, 6, none⟩) (by simp; omega) (.slice B3 gs9.length d3)).far (p := ⟨w.heap.size + 1, 7, none⟩) (by simp; omega) (.slice B4 im.length d4))
  have hnf := (((((((((hx5.setCell (p := ⟨w.heap.size + 1 + 1, 7, none⟩) (by simp; try omega) (.slice B4 im.length d4)).setCell (p := ⟨w.heap.size + 1, 0, none⟩) (by simp; try omega) (.int .i64 g)).setCell (p := ⟨w.heap.size + 1, 1, none⟩) (by simp; try omega) (.int .i64 b)).setCell (p := ⟨w.heap.size + 1, 2, none⟩) (by simp; try omega) (.int .i64 p)).setCell (p := ⟨w.heap.size + 1, 3, none⟩) (by simp; try omega) (.int .i64 t)).setCell (p := ⟨w.heap.size + 1, 4, none⟩) (by simp; try omega) (.slice B1 xs.length d1)).setCell (p := ⟨w.heap.size + 1, 5, none⟩) (by simp; try omega) (.slice B2 ms.length d2)).setCell (p := ⟨w.heap.size + 1, 6, none⟩) (by simp; try omega) (.slice B3 gs9.length d3)).setCell (p := ⟨w.heap.size + 1, 7, none⟩) (by simp; try omega) (.slice B4 im.length d4))
  generalize (((((((((w5.setCell ⟨w.heap.size + 1 + 1, 7, none⟩ (.slice B4 im.length d4)).setCell ⟨w.heap.size + 1, 0, none⟩ (.int .i64 g)).setCell ⟨w.heap.size + 1, 1, none⟩ (.int .i64 b)).setCell ⟨w.heap.size + 1, 2, none⟩ (.int .i64 p)).setCell ⟨w.heap.size + 1, 3, none⟩ (.int .i64 t)).setCell ⟨w.heap.size + 1, 4, none⟩ (.slice B1 xs.length d1)).setCell ⟨w.heap.size + 1, 5, none⟩ (.slice B2 ms.length d2)).setCell ⟨w.heap.size + 1, 6, none⟩ (.slice B3 gs9.length d3)).setCell ⟨w.heap.size + 1, 7, none⟩ (.slice B4 im.length d4)) = Wf at *
  have g0 := q.cell 0
  have g1 := q.cell 1
  have g2 := q.cell 2
  have g3 := q.cell 3
  have g4 := q.cell 4
  have g5 := q.cell 5
  have g6 := q.cell 6
  have g7 := q.cell 7
  simp at g0 g1 g2 g3 g4 g5 g6 g7
  exact bodyPost_ret (v := .agg #[.int .i64 g, .int .i64 b, .int .i64 p, .int .i64 t, .slice B1 xs.length d1, .slice B2 ms.length d2, .slice B3 gs9.length d3, .slice B4 im.length d4]) (by simp [results, Try.results16, go_sem, g0, g1, g2, g3, g4, g5, g6, g7]) rfl
    ⟨⟨g, b, p, t, B1, d1, xs, B2, d2, ms, B3, d3, gs9, B4, d4, im⟩, rfl, ⟨rfl, rfl, rfl, rfl, rfl, rfl, Hv.out, rfl⟩, ⟨sf.low (by omega), tf.low (by omega), uf.low (by omega), vf.low (by omega), HD1.out, HC9.out⟩, hnf⟩

theorem cLV : Try.prog.cellsOf 28 = 8 := by kernel_rfl
theorem cLVi : Try.prog.cellsOf 22 = 1 := by kernel_rfl
theorem cLVm : Try.prog.cellsOf 23 = 1 := by kernel_rfl
theorem cLVs : Try.prog.cellsOf 26 = 1 := by kernel_rfl
section
variable {H : Type} {enc : TypeId × Value → H} {w : World} {base : Nat} {spare : Nat → Bool} {held : Bool}
theorem array8 {α : Type} {cs : Array α} (h : cs.size = 8) : ∃ c0 c1 c2 c3 c4 c5 c6 c7, cs = #[c0, c1, c2, c3, c4, c5, c6, c7] := by
  obtain ⟨l⟩ := cs
  match l, h with
  | [c0, c1, c2, c3, c4, c5, c6, c7], _ => exact ⟨c0, c1, c2, c3, c4, c5, c6, c7, rfl⟩
theorem trod_struct3 {P : Program} {t : TypeId} {f0 f1 f2 : Field} {fuel : Nat} {cs : List Value} {x : DataW H × List MemPlace} (ht : P.underlying t = some (.struct #[f0, f1, f2])) (h : DataW.trod enc P w base spare held fuel t cs = some x) :
    ∃ y0 y1 y2 n, DataW.trod enc P w base spare held n f0.type ((cs.drop f0.offset).take (P.cellsOf f0.type)) = some y0 ∧
      DataW.trod enc P w base spare held n f1.type ((cs.drop f1.offset).take (P.cellsOf f1.type)) = some y1 ∧ DataW.trod enc P w base spare held n f2.type ((cs.drop f2.offset).take (P.cellsOf f2.type)) = some y2 := by
  obtain ⟨xs, n, _, rfl, hl, hlen, hf⟩ := DataW.trod_struct ht h
  match xs, hlen with
  | [y0, y1, y2], _ => exact ⟨y0, y1, y2, n, by simpa using hf 0 f0 rfl, by simpa using hf 1 f1 rfl, by simpa using hf 2 f2 rfl⟩
theorem open_vault {r : Reach} {b0 : Nat} {v : Value} {d : DataW H} {pl : List MemPlace} (hv : Value.okWide Try.prog w r b0 28 v) (h : DataW.Trod enc Try.prog w base spare held 28 v d pl) :
    ∃ V : Vl, v = V.v ∧ Vlt w w.heap.size V ∧ AllM V.ms ∧ VlN V (2 ^ 63 - 1) := by
  obtain ⟨cs, rfl, hsz⟩ := okWide_struct Try.underlying28 hv
  obtain ⟨v0, v1, v2, v3, v4, v5, v6, v7, rfl⟩ := array8 (hsz.trans cLV)
  obtain ⟨fuel, hf⟩ := h
  obtain ⟨y0, y1, y2, n, h0, h1, h2⟩ := trod_struct3 Try.underlying28 hf
  have e0 : DataW.trod enc Try.prog w base spare held n 25 [v0, v1, v2, v3, v4, v5] = some y0 := by simpa [Value.cells, cLU] using h0
  have e1 : DataW.trod enc Try.prog w base spare held n 26 [v6] = some y1 := by simpa [Value.cells, cLVs] using h1
  have e2 : DataW.trod enc Try.prog w base spare held n 22 [v7] = some y2 := by simpa [Value.cells, cLVi] using h2
  obtain ⟨x0, x1, x2, x3, x4, x5, k, k0, k1, k2, k3, k4, k5⟩ := trod_struct6 Try.underlying25 e0
  obtain ⟨q0, rfl, _⟩ := one_int (show DataW.trod enc Try.prog w base spare held k 3 [v0] = some x0 by simpa [ci_] using k0)
  obtain ⟨q1, rfl, _⟩ := one_int (show DataW.trod enc Try.prog w base spare held k 3 [v1] = some x1 by simpa [ci_] using k1)
  obtain ⟨q2, rfl, _⟩ := one_int (show DataW.trod enc Try.prog w base spare held k 3 [v2] = some x2 by simpa [ci_] using k2)
  obtain ⟨q3, rfl, _⟩ := one_int (show DataW.trod enc Try.prog w base spare held k 3 [v3] = some x3 by simpa [ci_] using k3)
  have t4 : DataW.trod enc Try.prog w base spare held k 22 [v4] = some x4 := by simpa [cLVi] using k4
  have t5 : DataW.trod enc Try.prog w base spare held k 23 [v5] = some x5 := by simpa [cLVm] using k5
  obtain ⟨A, l, c, e4⟩ := slice_form Try.underlying22 t4
  have e4' : v4 = .slice A l c := by simpa using e4
  obtain ⟨xs, rfl, hI, hn⟩ := trod_ints_ e4' t4
  subst e4'
  obtain ⟨A2, c2, ms, rfl, hM, hm, hn2⟩ := open_marks_ t5
  obtain ⟨A3, c3, gs, rfl, hG, hn3, hn4⟩ := open_segs_ e1
  obtain ⟨A4, l4, c4, e5⟩ := slice_form Try.underlying22 e2
  have e5' : v7 = .slice A4 l4 c4 := by simpa using e5
  obtain ⟨im, rfl, hJ, hn5⟩ := trod_ints_ e5' e2
  subst e5'
  exact ⟨⟨q0, q1, q2, q3, A, c, xs, A2, c2, ms, A3, c3, gs, A4, c4, im⟩, rfl, ⟨hI, hM, hG, hJ⟩, hm, ⟨hn, hn2, hn3, hn4, hn5⟩⟩
end
end Go.Proofs.Ytihpadelfpogmaa
/- What vaults that are alike have in common. Conditions: what is read can be read, and holds at most 1048576 elements of a kind. -/
namespace Go.Proofs.Ytihpadelfpogmaa
set_option linter.unusedVariables false
set_option maxRecDepth 100000
open Go.RowKit

section
variable {gs hs : List SgR} (hv : gs.map SgR.v = hs.map SgR.v)
include hv
theorem retL_v (b : Int) : retL b gs = retL b hs := by
  have : gs.map SgR.t = hs.map SgR.t := by
    have := congrArg (List.map (fun q : Sg4 => q.2.1)) hv
    rw [List.map_map, List.map_map] at this
    exact this
  unfold retL; rw [this]
theorem isRet_v (b n : Int) : isRet b gs n = isRet b hs n := by unfold isRet; rw [retL_v hv, v_len hv]
theorem ahd_v (b n : Int) : ahd b gs n = ahd b hs n := by unfold ahd; rw [retL_v hv]
theorem stp_v (b p t : Int) (im : List Int) : stp b p t gs im = stp b p t hs im := by
  unfold stp
  rw [ahd_v hv, (v_parts hv (ahd b hs p)).2.2.2, (v_parts hv (ahd b hs p - 1)).2.2.2]
theorem fwK_v (c : List Int) (a : Nat) : ∀ j, fwK c gs a j = fwK c hs a j
  | 0 => rfl
  | j + 1 => by show app pN _ _ = app pN _ _; rw [fwK_v c a j, (v_parts hv (a + j)).2.2.2]
theorem bkK_v (c : List Int) (a : Nat) : ∀ j, bkK c gs a j = bkK c hs a j
  | 0 => rfl
  | j + 1 => by show app pO _ _ = app pO _ _; rw [bkK_v c a j, (v_parts hv (a - 1 - j)).2.2.2]
theorem fitF_v (c : List Int) (a : Nat) : fitF c gs a = fitF c hs a := by
  unfold fitF
  rw [v_len hv]
  congr 1
  funext j
  unfold oldB
  rw [fwK_v hv, (v_parts hv (a + j)).2.2.2]
theorem fitB_v (c : List Int) (a : Nat) : fitB c gs a = fitB c hs a := by
  unfold fitB
  congr 1
  funext j
  unfold newB
  rw [bkK_v hv, (v_parts hv (a - 1 - j)).2.2.2]
theorem plcB_v (b p t : Int) (ms : List Mrk) : plcB b p t gs ms = plcB b p t hs ms := by
  unfold plcB mksR
  rw [isRet_v hv, isRet_v hv]
  congr 2
  congr 1
  funext k
  exact isRet_v hv b _
theorem vltB_v (g b p t : Int) (xs : List Int) (ms : List Mrk) (im : List Int) : vltB g b p t xs ms gs im = vltB g b p t xs ms hs im := by
  unfold vltB
  rw [v_len hv, chainB_v hv, plcB_v hv, stp_v hv, fitF_v hv, fitB_v hv]
theorem cntV_v (b p t : Int) (im : List Int) (n : Int) : cntV b p t gs im n = cntV b p t hs im n := by
  unfold cntV
  rw [stp_v hv, ahd_v hv, fwK_v hv, bkK_v hv]
theorem tipV_v (b : Int) : tipV b gs = tipV b hs := by unfold tipV; rw [v_len hv, atK_v hv]
end
theorem VlS.ok {V V' : Vl} (h : VlS V V') : V.ok = V'.ok := by
  unfold Vl.ok
  rw [h.g, h.b, h.p, h.t, h.xs, h.ms, h.im, vltB_v h.gs]
end Go.Proofs.Ytihpadelfpogmaa
/- The walk of the law FnExactVaultOK. Conditions: what is read can be read, and holds at most 1048576 elements of a kind. -/
namespace Go.Proofs.Ytihpadelfpogmaa
set_option linter.unusedVariables false
set_option maxRecDepth 100000
open Go.RowKit

set_option maxHeartbeats 2000000 in
theorem lawVaultOK (V : Vl) (w : World) (h : Vlt w w.heap.size V) (hm : AllM V.ms) (hn : VlN V (2 ^ 63 - 1)) :
    Calls Try.prog 4 #[V.v] w fun e w' => e = .returned (.bool true) ∧ Nx w w' := by
  obtain ⟨g, b, p, t, A, c, xs, A2, c2, ms, A3, c3, gs, A4, c4, im⟩ := V
  have HTo := Lib.hid (fun (w' : World) (hx : Nx w w') (hn' : VlN ⟨g, b, p, t, A, c, xs, A2, c2, ms, A3, c3, gs, A4, c4, im⟩ 1048576) => toVault_c ⟨g, b, p, t, A, c, xs, A2, c2, ms, A3, c3, gs, A4, c4, im⟩ w.heap.size w' (h.below hx (Nat.le_refl _)) hx.size hn')
  have HSz := Lib.hid (fun (w' : World) (hx : Nx w w') => szVault_c ⟨g, b, p, t, A, c, xs, A2, c2, ms, A3, c3, gs, A4, c4, im⟩ w.heap.size 1048576 w' (h.below hx (Nat.le_refl _)) hx.size hm hn (by omega) (by omega))
  have Hcost : Hid (costV ⟨g, b, p, t, A, c, xs, A2, c2, ms, A3, c3, gs, A4, c4, im⟩ = costU xs ms + ((gs.length : Int) + (ssum gs gs.length : Int)) + im.length) := Lib.hid rfl
  have Hm := Lib.hid hm
  simp only [Vl.v, Vl.cells] at *
  have b0 := Box.new w 28 #[.int .i64 g, .int .i64 b, .int .i64 p, .int .i64 t, .slice A xs.length c, .slice A2 ms.length c2, .slice A3 gs.length c3, .slice A4 im.length c4]
  have hx0 := (Nx.refl w).alloc (.cells #[.int .i64 g, .int .i64 b, .int .i64 p, .int .i64 t, .slice A xs.length c, .slice A2 ms.length c2, .slice A3 gs.length c3, .slice A4 im.length c4] 28)
  obtain ⟨C, HC⟩ : ∃ C, Hid (costV ⟨g, b, p, t, A, c, xs, A2, c2, ms, A3, c3, gs, A4, c4, im⟩ = C) := ⟨_, rfl⟩
  rw [HC.out] at HSz Hcost
  clear h hn hm
  go_enter Try.func4, Try.ntmps4
  go_wp2_with fail
  generalize w.alloc (.cells #[.int .i64 g, .int .i64 b, .int .i64 p, .int .i64 t, .slice A xs.length c, .slice A2 ms.length c2, .slice A3 gs.length c3, .slice A4 im.length c4] 28) = W at *
  refine (HSz.out W hx0).mono ?_
  rintro e w1 ⟨rfl, hk⟩
  have hx1 := hx0.trans hk
  have b1 := b0.nx hk
  clear b0 hx0 hk HSz
  by_cases hle : C ≤ 1048576
  case neg =>
    rw [← szR_no (by omega)]
    go_wp2
    go_ret
    exact ⟨rfl, hx1⟩
  rw [← szR_yes hle]
  have hd : decide (1048576 - C < 0) = false := by simp; omega
  have HN : Hid (VlN ⟨g, b, p, t, A, c, xs, A2, c2, ms, A3, c3, gs, A4, c4, im⟩ 1048576) := Lib.hid (by
    have h1 := Hcost.out
    unfold costU at h1
    have hs := Int.natCast_nonneg (ssum gs gs.length)
    exact ⟨show xs.length ≤ 1048576 by omega, show ms.length ≤ 1048576 by omega, show gs.length ≤ 1048576 by omega, fun k hk => show (gs.getD k sgZ).cs.length ≤ 1048576 by have := ssum_one (show k < gs.length from hk); omega, show im.length ≤ 1048576 by omega⟩)
  replace HTo := Lib.hid (fun (w' : World) (hx : Nx w w') => HTo.out w' hx HN.out)
  clear hle Hcost HC
  obtain ⟨y0, y1, y2, y3, y4, y5, y6, y7⟩ := b1.e8
  go_wp2_with fail
  clear y0 y1 y2 y3 y4 y5 y6 y7 hd
  refine (HTo.out _ hx1).mono ?_
  rintro e w2 ⟨V5, rfl, hs5, ho5, hk⟩
  obtain ⟨g5, b5, p5, t5, A5, c5, xs5, A25, c25, ms5, A35, c35, gs5, A45, c45, im5⟩ := V5
  obtain ⟨e1, e2, e3, e4, e5, e6, e7, e8⟩ := hs5
  simp only [Vl.v, Vl.cells] at *
  replace e1 := e1.symm
  replace e2 := e2.symm
  replace e3 := e3.symm
  replace e4 := e4.symm
  replace e5 := e5.symm
  replace e6 := e6.symm
  replace e8 := e8.symm
  subst e1 e2 e3 e4 e5 e6 e8
  have hS5 : VlS ⟨g, b, p, t, A, c, xs, A2, c2, ms, A3, c3, gs, A4, c4, im⟩ ⟨g, b, p, t, A5, c5, xs, A25, c25, ms, A35, c35, gs5, A45, c45, im⟩ := ⟨rfl, rfl, rfl, rfl, rfl, rfl, e7, rfl⟩
  have b2 := b1.nx hk
  have hx2 := hx1.trans hk
  clear b1 hx1 hk e7
  go_wp2_with fail
  refine (specVaultOK_c ⟨g, b, p, t, A5, c5, xs, A25, c25, ms, A35, c35, gs5, A45, c45, im⟩ w2.heap.size w2 ho5.vlt (Nat.le_refl _) (hS5.n HN.out) ho5.cap Hm.out).mono ?_
  rintro e w3 ⟨rfl, hk⟩
  have b3 := b2.nx hk
  have hx3 := hx2.trans hk
  have HOK := Lib.hid (hS5.ok)
  clear b2 hx2 hk ho5 hS5
  rw [← HOK.out]
  obtain ⟨y0, y1, y2, y3, y4, y5, y6, y7⟩ := b3.e8
  go_wp2_with fail
  clear y0 y1 y2 y3 y4 y5 y6 y7 HOK
  refine (HTo.out _ hx3).mono ?_
  rintro e w4 ⟨V6, rfl, hs6, ho6, hk⟩
  obtain ⟨g6, b6, p6, t6, A6, c6, xs6, A26, c26, ms6, A36, c36, gs6, A46, c46, im6⟩ := V6
  obtain ⟨e1, e2, e3, e4, e5, e6, e7, e8⟩ := hs6
  simp only [Vl.v, Vl.cells] at *
  replace e1 := e1.symm
  replace e2 := e2.symm
  replace e3 := e3.symm
  replace e4 := e4.symm
  replace e5 := e5.symm
  replace e6 := e6.symm
  replace e8 := e8.symm
  subst e1 e2 e3 e4 e5 e6 e8
  have hS6 : VlS ⟨g, b, p, t, A, c, xs, A2, c2, ms, A3, c3, gs, A4, c4, im⟩ ⟨g, b, p, t, A6, c6, xs, A26, c26, ms, A36, c36, gs6, A46, c46, im⟩ := ⟨rfl, rfl, rfl, rfl, rfl, rfl, e7, rfl⟩
  have b4 := b3.nx hk
  have hx4 := hx3.trans hk
  clear b3 hx3 hk e7
  have bx := Box.new w4 36 #[.int .i64 g, .int .i64 b, .int .i64 p, .int .i64 t, .slice A6 xs.length c6, .slice A26 ms.length c26, .slice A36 gs6.length c36, .slice A46 im.length c46]
  have hka := (Nx.refl w4).alloc (.cells #[.int .i64 g, .int .i64 b, .int .i64 p, .int .i64 t, .slice A6 xs.length c6, .slice A26 ms.length c26, .slice A36 gs6.length c36, .slice A46 im.length c46] 36)
  have b5 := b4.nx hka
  have hx5 := hx4.trans hka
  have ho6a := ho6.nx hka
  obtain ⟨y0, y1, y2, y3, y4, y5, y6, y7⟩ := bx.e8
  go_wp2_with fail
  clear y0 y1 y2 y3 y4 y5 y6 y7 b4 hx4 ho6
  generalize w4.alloc (.cells #[.int .i64 g, .int .i64 b, .int .i64 p, .int .i64 t, .slice A6 xs.length c6, .slice A26 ms.length c26, .slice A36 gs6.length c36, .slice A46 im.length c46] 36) = wa at *
  generalize w4.heap.size = gX at *
  refine (implVaultOK_c ⟨g, b, p, t, A6, c6, xs, A26, c26, ms, A36, c36, gs6, A46, c46, im⟩ wa.heap.size wa ho6a.vlt (Nat.le_refl _) (hS6.n HN.out) ho6a.cap ho6a.cap3 Hm.out).mono ?_
  rintro e w5 ⟨rfl, hk⟩
  have bx5 := bx.nx hk
  have b6 := b5.nx hk
  have hx6 := hx5.trans hk
  have ho7 := ho6a.nx hk
  have HOK := Lib.hid (hS6.ok)
  clear bx hka b5 hx5 hk ho6a
  rw [← HOK.out]
  obtain ⟨v, Hv⟩ : ∃ v, Hid (Vl.ok ⟨g, b, p, t, A, c, xs, A2, c2, ms, A3, c3, gs, A4, c4, im⟩ = v) := ⟨_, rfl⟩
  rw [Hv.out]
  have hvv : (v != v) = false := by simp
  go_wp2_with fail
  refine wp_region_plan (.t 0 (.t 1 (.c 2 (.c 3 (.t 4 .e))))) (fun w' => (w'.cell? ⟨gX, 0, none⟩ = some (.int .i64 g) ∧ w'.cell? ⟨gX, 1, none⟩ = some (.int .i64 b) ∧ w'.cell? ⟨gX, 2, none⟩ = some (.int .i64 p) ∧ w'.cell? ⟨gX, 3, none⟩ = some (.int .i64 t) ∧ w'.cell? ⟨gX, 4, none⟩ = some (.slice A6 xs.length c6) ∧ w'.cell? ⟨gX, 5, none⟩ = some (.slice A26 ms.length c26) ∧ w'.cell? ⟨gX, 6, none⟩ = some (.slice A36 gs6.length c36) ∧ w'.cell? ⟨gX, 7, none⟩ = some (.slice A46 im.length c46)) ∧ w'.cell? ⟨w.heap.size, 0, none⟩ = some (.int .i64 g) ∧ w'.cell? ⟨w.heap.size, 1, none⟩ = some (.int .i64 b) ∧ w'.cell? ⟨w.heap.size, 2, none⟩ = some (.int .i64 p) ∧ w'.cell? ⟨w.heap.size, 3, none⟩ = some (.int .i64 t) ∧ w'.cell? ⟨w.heap.size, 4, none⟩ = some (.slice A xs.length c) ∧ w'.cell? ⟨w.heap.size, 5, none⟩ = some (.slice A2 ms.length c2) ∧ w'.cell? ⟨w.heap.size, 6, none⟩ = some (.slice A3 gs.length c3) ∧ w'.cell? ⟨w.heap.size, 7, none⟩ = some (.slice A4 im.length c4)) (by kernel_rfl) (by kernel_rfl) rfl (by kernel_rfl) (fun _ _ d _ _ h => by cases d <;> exact h) (by exact ⟨(bx5.nx (Nx.refl _).drew).e8, (b6.nx (Nx.refl _).drew).e8⟩) ?_
  simp only [psOf, List.getD_cons_zero, List.getD_cons_succ]
  repeat (first | (refine HP.take (v := ?_) (by rfl) ?_ ?_; rotate_left; (· (intro w hSw; (try dsimp only at hSw); go_simp; try with_reducible rfl)); (try simp only [Act.put, List.setIfInBounds_toArray, List.set_cons_zero, List.set_cons_succ])) | (refine HP.skip (by rfl) ?_; (try simp only [Act.put, List.setIfInBounds_toArray, List.set_cons_zero, List.set_cons_succ])))
  refine HP.call ?_
  refine CallStep.mk (by rfl) (fun K hK => ?_)
  go_simp
  refine (HTo.out _ hx6.drew).mono ?_; rintro e w8 ⟨V9, rfl, hs9, ho9, hk⟩; obtain ⟨g9, b9, p9, t9, A9, c9, xs9, A29, c29, ms9, A39, c39, gs9, A49, c49, im9⟩ := V9; obtain ⟨e1, e2, e3, e4, e5, e6, e7, e8⟩ := hs9; simp only [Vl.v, Vl.cells] at *; replace e1 := e1.symm; replace e2 := e2.symm; replace e3 := e3.symm; replace e4 := e4.symm; replace e5 := e5.symm; replace e6 := e6.symm; replace e8 := e8.symm; subst e1 e2 e3 e4 e5 e6 e8; have bx8 := (bx5.nx (Nx.refl _).drew).nx hk; have bl8 := (b6.nx (Nx.refl _).drew).nx hk; have hx8 := hx6.drew.trans hk; have ho8 := (ho7.nx (Nx.refl _).drew).nx hk; clear hk
  go_wp2_with fail
  refine hK.out _ _ (by exact ⟨bx8.e8, bl8.e8⟩) ?_
  clear hK K
  try simp only [Act.put, List.setIfInBounds_toArray, List.set_cons_zero, List.set_cons_succ]
  refine HP.call ?_
  refine CallStep.mk (by rfl) (fun K hK => ?_)
  go_simp
  refine (eqVault_c ⟨g, b, p, t, A6, c6, xs, A26, c26, ms, A36, c36, gs6, A46, c46, im⟩ ⟨g, b, p, t, A9, c9, xs, A29, c29, ms, A39, c39, gs9, A49, c49, im⟩ w8.heap.size w8 (ho8.vlt) (ho9.vlt) (hS6.symm.trans ⟨rfl, rfl, rfl, rfl, rfl, rfl, e7, rfl⟩) (Nat.le_refl _) (hS6.n HN.out)).mono ?_; rintro e w9 ⟨rfl, hk⟩; have bx9 := bx8.nx hk; have bl9 := bl8.nx hk; have hx9 := hx8.trans hk; have ho9 := ho8.nx hk; clear hk
  go_wp2_with fail
  refine hK.out _ _ (by exact ⟨bx9.e8, bl9.e8⟩) ?_
  clear hK K
  try simp only [Act.put, List.setIfInBounds_toArray, List.set_cons_zero, List.set_cons_succ]
  repeat (first | (refine HP.take (v := ?_) (by rfl) ?_ ?_; rotate_left; (· (intro w hSw; (try dsimp only at hSw); go_simp; try with_reducible rfl)); (try simp only [Act.put, List.setIfInBounds_toArray, List.set_cons_zero, List.set_cons_succ])) | (refine HP.skip (by rfl) ?_; (try simp only [Act.put, List.setIfInBounds_toArray, List.set_cons_zero, List.set_cons_succ])))
  refine HP.done ?_
  go_wp2
  go_ret
  exact ⟨rfl, hx9⟩
end Go.Proofs.Ytihpadelfpogmaa
/- TipOf, of the model and of the program. Conditions: what is read can be read, and holds at most 1048576 elements of a kind. -/
namespace Go.Proofs.Ytihpadelfpogmaa
set_option linter.unusedVariables false
set_option maxRecDepth 100000
open Go.RowKit

def tipR (V : Vl) : Int × Int := if V.ok then (tipV V.b V.gs, 0) else (0, 1)
theorem tipR_yes {V : Vl} (h : V.ok = true) : tipR V = (tipV V.b V.gs, 0) := by unfold tipR; rw [h]; rfl
theorem tipR_no {V : Vl} (h : V.ok = false) : tipR V = (0, 1) := by unfold tipR; rw [h]; rfl
theorem Vl.y {V : Vl} (h : V.ok = true) : VltY V.g V.b V.p V.t V.xs V.ms V.gs V.im := vltB_yes h
theorem VltY.ahd {g b p t : Int} {xs : List Int} {ms : List Mrk} {gs : List SgR} {im : List Int} (h : VltY g b p t xs ms gs im) : isRet b gs p = true ∧ (p < t → ahd b gs p < gs.length) ∧ (t < p → 0 < ahd b gs p) :=
  ⟨by have := h.places; unfold plcB at this; simp only [Bool.and_eq_true] at this; exact this.1.2, (stp_le (t := t) im (chainB_lead h.chain) h.places).2⟩
theorem VltY.l8 {g b p t : Int} {xs : List Int} {ms : List Mrk} {gs : List SgR} {im : List Int} (h : VltY g b p t xs ms gs im) : im.length = 8 := (contB_yes h.cont).1
theorem VltY.n4 {g b p t : Int} {xs : List Int} {ms : List Mrk} {gs : List SgR} {im : List Int} (h : VltY g b p t xs ms gs im) : gs.length ≤ 4096 := (chainB_lead h.chain).short
set_option maxHeartbeats 1000000 in
theorem l05Tip_c (V : Vl) (B : Nat) (w : World) (h : Vlt w B V) (hB : B ≤ w.heap.size) (hn : VlN V 1048576) :
    Calls Try.prog 79 #[V.v] w fun e w' => e = .returned (.int .i64 (tipV V.b V.gs)) ∧ Nx w w' := by
  have hR := l05Retained_c V B
  obtain ⟨g, b, p, t, A, c, xs, A2, c2, ms, A3, c3, gs, A4, c4, im⟩ := V
  simp only [Vl.v, Vl.cells] at *
  have hx0 := (Nx.refl w).alloc (.cells #[.int .i64 g, .int .i64 b, .int .i64 p, .int .i64 t, .slice A xs.length c, .slice A2 ms.length c2, .slice A3 gs.length c3, .slice A4 im.length c4] 36)
  have HR := Lib.hid hR
  have h9 := hn.gs
  have hn0 : gs.length ≤ 1048576 := h9
  clear hR h9
  go_enter Try.func79, Try.ntmps79
  go_wp2_with fail
  generalize w.alloc (.cells #[.int .i64 g, .int .i64 b, .int .i64 p, .int .i64 t, .slice A xs.length c, .slice A2 ms.length c2, .slice A3 gs.length c3, .slice A4 im.length c4] 36) = W at *
  refine (HR.out W (h.below hx0 hB) (Nat.le_trans hB hx0.size) hn).mono ?_
  rintro e w1 ⟨A9, c9, rfl, _, hS, hx1⟩
  have hI : Ins w1 w1.heap.size A9 (retL b gs) := hS.row
  have Hl := Lib.hid (retL_len b gs)
  have HT := Lib.hid (retL_at b gs gs.length (Nat.le_refl _))
  obtain ⟨bb, off, rfl, _, q0⟩ := hI.at_ (k := gs.length) (by rw [Hl.out]; omega)
  obtain ⟨m, Hm⟩ : ∃ m, Hid (gs.length = m) := ⟨_, rfl⟩
  rw [Hm.out] at Hl HT hn0 q0
  rw [HT.out] at q0
  rw [Hl.out]
  obtain ⟨T, HTv⟩ : ∃ T, Hid (atK b gs m = T) := ⟨_, rfl⟩
  rw [HTv.out] at q0
  have HR2 : Hid (tipV b gs = T) := Lib.hid (by unfold tipV; rw [Hm.out]; exact HTv.out)
  have hw1 : IntKind.i64.wrap (m : Int) = (m : Int) := IntWalk.i64_in _ (by omega)
  have hm1 : (m : Int) < (m : Int) + 1 := by omega
  have hx := hx0.trans hx1
  clear HR h hn hS hI hx0 hx1
  go_wp2
  go_ret
  exact ⟨ret_int HR2.out.symm, hx⟩
set_option maxHeartbeats 1000000 in
theorem tip_c (V : Vl) (B : Nat) (w : World) (h : Sgs w B V.A3 V.gs) (hB : B ≤ w.heap.size) (hn : V.gs.length ≤ 1048576) :
    Calls Try.prog 81 #[V.w] w fun e w' => e = .returned (.int .i64 (tipV V.b V.gs)) ∧ Nx w w' := by
  obtain ⟨g, b, p, t, A, c, xs, A2, c2, ms, A3, c3, gs, A4, c4, im⟩ := V
  simp only [Vl.w, Vl.wcells] at *
  have HSg := Lib.hid (fun (k : Nat) (hk : k < gs.length) (w' : World) (hx : Nx w w') => (h.below hx hB).row.at4 hk)
  have HTv : Hid (tipV b gs = atK b gs gs.length) := Lib.hid rfl
  obtain ⟨m, Hm⟩ : ∃ m, Hid (gs.length = m) := ⟨_, rfl⟩
  rw [Hm.out] at HSg HTv hn ⊢
  have hx0 := (Nx.refl w).alloc (.cells #[.int .i64 g, .int .i64 b, .int .i64 p, .int .i64 t, .slice A xs.length c, .slice A2 ms.length c2, .slice A3 m c3, inAt im 0, inAt im 1, inAt im 2, inAt im 3, inAt im 4, inAt im 5, inAt im 6, inAt im 7] 101)
  clear h
  rw [HTv.out]
  by_cases h0 : m = 0
  · have hd : ((m : Int) == 0) = true := by simp; omega
    have HZ := Lib.hid (show atK b gs m = b by rw [h0]; rfl)
    rw [HZ.out]
    clear h0
    go_enter Try.func81, Try.ntmps81
    go_wp2
    go_ret
    exact ⟨rfl, hx0⟩
  obtain ⟨k, rfl⟩ : ∃ k, m = k + 1 := ⟨m - 1, by omega⟩
  have hd : (((k + 1 : Nat) : Int) == 0) = false := by simp; omega
  obtain ⟨bb, off, rfl, hbb, _, p1, _, _⟩ := HSg.out k (by omega) _ hx0
  have Hk : Hid (atK b gs (k + 1) = (gs.getD k sgZ).t) := Lib.hid rfl
  obtain ⟨s, Hs⟩ : ∃ s, Hid (gs.getD k sgZ = s) := ⟨_, rfl⟩
  rw [Hs.out] at p1 Hk
  rw [Hk.out]
  obtain ⟨f, t9, m9, Ac, cc, cs⟩ := s
  simp only at p1 ⊢
  have hk0 : (0 : Int) ≤ (k : Int) := by omega
  have hk1 : (k : Int) < (k : Int) + 1 := by omega
  have hwk : IntKind.i64.wrap (k : Int) = (k : Int) := IntWalk.i64_in _ (by omega)
  have hd' : ((k : Int) + 1 == 0) = false := by simp; omega
  have hbd := Box.new w 101 #[.int .i64 g, .int .i64 b, .int .i64 p, .int .i64 t, .slice A xs.length c, .slice A2 ms.length c2, .slice (some ⟨bb, off, none⟩) (k + 1) c3, inAt im 0, inAt im 1, inAt im 2, inAt im 3, inAt im 4, inAt im 5, inAt im 6, inAt im 7]
  obtain ⟨_, y1, _, _, _, _, y6, _, _, _, _, _, _, _, _⟩ := hbd.e15
  go_enter Try.func81, Try.ntmps81
  go_wp2
  go_ret
  exact ⟨rfl, hx0⟩
def RetIC2 (w : World) (R : Int × Int) (e : Ending) (w' : World) : Prop := e = .returned (.tuple #[.int .i64 R.1, .int .i64 R.2]) ∧ Nx w w'
set_option maxHeartbeats 1000000 in
theorem specTipOf_c (V : Vl) (B : Nat) (w : World) (h : Vlt w B V) (hB : B ≤ w.heap.size) (hn : VlN V 1048576) (hc : V.xs.length ≤ V.c) (hm : AllM V.ms) :
    Calls Try.prog 21 #[V.v] w (RetIC2 w (tipR V)) := by
  have hOK := specVaultOK_c V B
  have hTip := l05Tip_c V B
  cases hv : V.ok with
  | false =>
    have HT := Lib.hid (tipR_no hv)
    rw [HT.out]
    have HOK := Lib.hid (fun (w' : World) (hx : Nx w w') => hOK w' (h.below hx hB) (Nat.le_trans hB hx.size) hn hc hm)
    rw [hv] at HOK
    clear hOK h hn hc hm hv hTip HT
    obtain ⟨g, b, p, t, A, c, xs, A2, c2, ms, A3, c3, gs, A4, c4, im⟩ := V
    simp only [Vl.v, Vl.cells] at *
    have hx0 := (Nx.refl w).alloc (.cells #[.int .i64 g, .int .i64 b, .int .i64 p, .int .i64 t, .slice A xs.length c, .slice A2 ms.length c2, .slice A3 gs.length c3, .slice A4 im.length c4] 36)
    go_enter Try.func21, Try.ntmps21
    go_wp2_with fail
    generalize w.alloc (.cells #[.int .i64 g, .int .i64 b, .int .i64 p, .int .i64 t, .slice A xs.length c, .slice A2 ms.length c2, .slice A3 gs.length c3, .slice A4 im.length c4] 36) = W at *
    refine (HOK.out W hx0).mono ?_
    rintro e w1 ⟨rfl, hk⟩
    have hx := hx0.trans hk
    go_wp2
    go_ret2
    exact ⟨rfl, hx⟩
  | true =>
    have HT := Lib.hid (tipR_yes hv)
    rw [HT.out]
    have HY := Lib.hid (Vl.y hv)
    have HOK := Lib.hid (fun (w' : World) (hx : Nx w w') => hOK w' (h.below hx hB) (Nat.le_trans hB hx.size) hn hc hm)
    have HTip := Lib.hid (fun (w' : World) (hx : Nx w w') => hTip w' (h.below hx hB) (Nat.le_trans hB hx.size) hn)
    rw [hv] at HOK
    clear hOK h hn hc hm hv hTip HT
    obtain ⟨g, b, p, t, A, c, xs, A2, c2, ms, A3, c3, gs, A4, c4, im⟩ := V
    simp only [Vl.v, Vl.cells] at *
    have b0 := Box.new w 36 #[.int .i64 g, .int .i64 b, .int .i64 p, .int .i64 t, .slice A xs.length c, .slice A2 ms.length c2, .slice A3 gs.length c3, .slice A4 im.length c4]
    have hx0 := (Nx.refl w).alloc (.cells #[.int .i64 g, .int .i64 b, .int .i64 p, .int .i64 t, .slice A xs.length c, .slice A2 ms.length c2, .slice A3 gs.length c3, .slice A4 im.length c4] 36)
    go_enter Try.func21, Try.ntmps21
    go_wp2_with fail
    generalize w.alloc (.cells #[.int .i64 g, .int .i64 b, .int .i64 p, .int .i64 t, .slice A xs.length c, .slice A2 ms.length c2, .slice A3 gs.length c3, .slice A4 im.length c4] 36) = W at *
    refine (HOK.out W hx0).mono ?_
    rintro e w1 ⟨rfl, hk⟩
    have hx := hx0.trans hk
    have b1 := b0.nx hk
    obtain ⟨y0, y1, y2, y3, y4, y5, y6, y7⟩ := b1.e8
    go_wp2_with fail
    clear y0 y1 y2 y3 y4 y5 y6 y7
    refine (HTip.out _ hx).mono ?_
    rintro e w2 ⟨rfl, hk⟩
    replace hx := hx.trans hk
    go_wp2
    go_ret2
    exact ⟨rfl, hx⟩
set_option maxHeartbeats 1000000 in
theorem implTipOf_c (V : Vl) (B : Nat) (w : World) (h : Vlt w B V) (hB : B ≤ w.heap.size) (hn : VlN V 1048576) (hc : V.xs.length ≤ V.c) (hc3 : V.gs.length ≤ V.c3) (hm : AllM V.ms) :
    Calls Try.prog 22 #[V.v] w (RetIC2 w (tipR V)) := by
  have hOK := vaultRight_c V B
  have hVW := view_c V B
  have hTip := tip_c V B
  cases hv : V.ok with
  | false =>
    have HT := Lib.hid (tipR_no hv)
    rw [HT.out]
    have HOK := Lib.hid (fun (w' : World) (hx : Nx w w') => hOK w' (h.below hx hB) (Nat.le_trans hB hx.size) hn hc hc3 hm)
    rw [hv] at HOK
    clear hOK h hn hc hc3 hm hv hVW hTip HT
    obtain ⟨g, b, p, t, A, c, xs, A2, c2, ms, A3, c3, gs, A4, c4, im⟩ := V
    simp only [Vl.v, Vl.cells] at *
    have hx0 := (Nx.refl w).alloc (.cells #[.int .i64 g, .int .i64 b, .int .i64 p, .int .i64 t, .slice A xs.length c, .slice A2 ms.length c2, .slice A3 gs.length c3, .slice A4 im.length c4] 36)
    go_enter Try.func22, Try.ntmps22
    go_wp2_with fail
    generalize w.alloc (.cells #[.int .i64 g, .int .i64 b, .int .i64 p, .int .i64 t, .slice A xs.length c, .slice A2 ms.length c2, .slice A3 gs.length c3, .slice A4 im.length c4] 36) = W at *
    refine (HOK.out W hx0).mono ?_
    rintro e w1 ⟨rfl, hk⟩
    have hx := hx0.trans hk
    go_wp2
    go_ret2
    exact ⟨rfl, hx⟩
  | true =>
    have HT := Lib.hid (tipR_yes hv)
    rw [HT.out]
    have HY := Lib.hid (Vl.y hv)
    have HOK := Lib.hid (fun (w' : World) (hx : Nx w w') => hOK w' (h.below hx hB) (Nat.le_trans hB hx.size) hn hc hc3 hm)
    have HVW := Lib.hid (fun (w' : World) (hx : Nx w w') => hVW w' (h.img.below hx hB) (Nat.le_trans hB hx.size) HY.out.l8)
    have HTip := Lib.hid (fun (w' : World) (hx : Nx w w') => hTip w' (h.sgs.below hx hB) (Nat.le_trans hB hx.size) hn.gs)
    rw [hv] at HOK
    clear hOK h hn hc hc3 hm hv hVW hTip HT
    obtain ⟨g, b, p, t, A, c, xs, A2, c2, ms, A3, c3, gs, A4, c4, im⟩ := V
    simp only [Vl.v, Vl.cells, Vl.w, Vl.wcells] at *
    have b0 := Box.new w 36 #[.int .i64 g, .int .i64 b, .int .i64 p, .int .i64 t, .slice A xs.length c, .slice A2 ms.length c2, .slice A3 gs.length c3, .slice A4 im.length c4]
    have hx0 := (Nx.refl w).alloc (.cells #[.int .i64 g, .int .i64 b, .int .i64 p, .int .i64 t, .slice A xs.length c, .slice A2 ms.length c2, .slice A3 gs.length c3, .slice A4 im.length c4] 36)
    go_enter Try.func22, Try.ntmps22
    go_wp2_with fail
    generalize w.alloc (.cells #[.int .i64 g, .int .i64 b, .int .i64 p, .int .i64 t, .slice A xs.length c, .slice A2 ms.length c2, .slice A3 gs.length c3, .slice A4 im.length c4] 36) = W at *
    refine (HOK.out W hx0).mono ?_
    rintro e w1 ⟨rfl, hk⟩
    have hx := hx0.trans hk
    have b1 := b0.nx hk
    obtain ⟨y0, y1, y2, y3, y4, y5, y6, y7⟩ := b1.e8
    go_wp2_with fail
    clear y0 y1 y2 y3 y4 y5 y6 y7
    refine (HVW.out _ hx).mono ?_
    rintro e w2 ⟨rfl, hk⟩
    replace hx := hx.trans hk
    go_wp2_with fail
    refine (HTip.out _ hx).mono ?_
    rintro e w3 ⟨rfl, hk⟩
    replace hx := hx.trans hk
    go_wp2
    go_ret2
    exact ⟨rfl, hx⟩
end Go.Proofs.Ytihpadelfpogmaa
