/-
  Texts of the proof, put together in their order: Vvf, Vvg, Vvi, Vtp, Vra, Fov.
  Conditions: those of each.
-/
import Derived.Test.YtehahodomfbpjaaGreatDoorMm14
/- The program's view of a vault: what fits forwards. Conditions: what is read can be read, and holds at most 1048576 elements of a kind. -/
namespace Go.Proofs.YtehahodomfbpjaaGreatDoor
set_option linter.unusedVariables false
set_option maxRecDepth 100000
open Go.RowKit

set_option maxHeartbeats 4000000 in
theorem fitsForward_c (V : Vl) (B : Nat) (w : World) (h : Sgs w B V.A3 V.gs) (hB : B ≤ w.heap.size) (hl : Lead V.b V.gs) (hc3 : V.gs.length ≤ V.c3) (h8 : V.im.length = 8) (hp : plcB V.b V.p V.t V.gs V.ms = true) :
    Calls Tryz.prog 172 #[V.w] w fun e w' => e = .returned (.bool (fitF (stp V.b V.p V.t V.gs V.im).1 V.gs (stp V.b V.p V.t V.gs V.im).2)) ∧ Nx w w' := by
  have hSD := stepDone_c V B
  obtain ⟨g, b, p, t, A, c, xs, A2, c2, ms, A3, c3, gs, A4, c4, im⟩ := V
  simp only [Vl.w, Vl.wcells] at *
  have hsl := stp_le (t := t) im hl hp
  have HSD := Lib.hid (fun (w' : World) (hx : Nx w w') => hSD w' (h.below hx hB) (Nat.le_trans hB hx.size) hl h8 (by unfold plcB at hp; simp only [Bool.and_eq_true] at hp; exact hp.1.2) hsl.2)
  have HL0 : Hid ((stp b p t gs im).1.length = 8) := Lib.hid (by rw [stp_len]; exact h8)
  have hat := hsl.1
  obtain ⟨n, Hn⟩ : ∃ n, Hid (gs.length = n) := ⟨_, rfl⟩
  have HSg := Lib.hid (fun (k : Nat) (hk : k < gs.length) (w' : World) (hx : Nx w w') => (h.below hx hB).row.at4 hk)
  have HCh := Lib.hid (fun (k : Nat) (hk : k < gs.length) (w' : World) (hx : Nx w w') => (h.chs k hk).below hx hB)
  have HOKs := Lib.hid (fun k (hk : k < n) => hl.ok k (by rw [Hn.out]; exact hk))
  have hn9 : n ≤ 4096 := by have := hl.short; rw [Hn.out] at this; exact this
  rw [Hn.out] at HSD HSg HCh hc3 hat ⊢
  obtain ⟨c0, Hc0⟩ : ∃ c0, Hid ((stp b p t gs im).1 = c0) := ⟨_, rfl⟩
  obtain ⟨a, Hat⟩ : ∃ a, Hid ((stp b p t gs im).2 = a) := ⟨_, rfl⟩
  rw [Hc0.out, Hat.out] at HSD ⊢
  rw [Hc0.out] at HL0
  rw [Hat.out] at hat
  have b0 := Box.new w 118 #[.int .i64 g, .int .i64 b, .int .i64 p, .int .i64 t, .slice A xs.length c, .slice A2 ms.length c2, .slice A3 n c3, inAt im 0, inAt im 1, inAt im 2, inAt im 3, inAt im 4, inAt im 5, inAt im 6, inAt im 7]
  have hx0 := (Nx.refl w).alloc (.cells #[.int .i64 g, .int .i64 b, .int .i64 p, .int .i64 t, .slice A xs.length c, .slice A2 ms.length c2, .slice A3 n c3, inAt im 0, inAt im 1, inAt im 2, inAt im 3, inAt im 4, inAt im 5, inAt im 6, inAt im 7] 118)
  clear hSD h hl h8 hp hsl
  go_enter Tryz.func172, Tryz.ntmps172
  go_wp2_with fail
  generalize w.alloc (.cells #[.int .i64 g, .int .i64 b, .int .i64 p, .int .i64 t, .slice A xs.length c, .slice A2 ms.length c2, .slice A3 n c3, inAt im 0, inAt im 1, inAt im 2, inAt im 3, inAt im 4, inAt im 5, inAt im 6, inAt im 7] 118) = W at *
  refine (HSD.out _ hx0).mono ?_
  rintro e w1 ⟨rfl, hk⟩
  unfold vA
  have b1 := b0.nx hk
  replace hx0 := hx0.trans hk
  have rz := Box.new w1 116 #[.int .i64 0, .int .i64 0, .int .i64 0, .int .i64 0, .int .i64 0, .int .i64 0, .int .i64 0, .int .i64 0]
  have b2 := (b1.alloc (.cells #[.int .i64 0, .int .i64 0, .int .i64 0, .int .i64 0, .int .i64 0, .int .i64 0, .int .i64 0, .int .i64 0] 116)).rowfar (show w.heap.size ≠ w1.heap.size by have := b1.lt; omega) #[inAt c0 0, inAt c0 1, inAt c0 2, inAt c0 3, inAt c0 4, inAt c0 5, inAt c0 6, inAt c0 7]
  have ba := rz.row #[inAt c0 0, inAt c0 1, inAt c0 2, inAt c0 3, inAt c0 4, inAt c0 5, inAt c0 6, inAt c0 7]
  have hx2 := (hx0.alloc (.cells #[.int .i64 0, .int .i64 0, .int .i64 0, .int .i64 0, .int .i64 0, .int .i64 0, .int .i64 0, .int .i64 0] 116)).setRow (g := w1.heap.size) hx0.size #[inAt c0 0, inAt c0 1, inAt c0 2, inAt c0 3, inAt c0 4, inAt c0 5, inAt c0 6, inAt c0 7]
  obtain ⟨y0, y1, y2, y3, y4, y5, y6, y7, y8, y9, y10, y11, y12, y13, y14⟩ := b2.e15
  have ha0 : (0 : Int) ≤ (a : Int) := by omega
  have han : (a : Int) ≤ (n : Int) := by omega
  clear b0 hk
  by_cases hlt : a < n
  case neg =>
    have hz : n - a = 0 := by omega
    have HR := Lib.hid (show fitF c0 gs a = true from FitF.all (by rw [Hn.out, hz]; exact FitF.zero _ _ _))
    clear hlt
    by_cases hce : c3 = a
    · go_wp2_with (refine wpList_store_row rfl _ _ _ rfl w1.heap.size #[inAt c0 0, inAt c0 1, inAt c0 2, inAt c0 3, inAt c0 4, inAt c0 5, inAt c0 6, inAt c0 7] rfl rfl 116 #[.int .i64 0, .int .i64 0, .int .i64 0, .int .i64 0, .int .i64 0, .int .i64 0, .int .i64 0, .int .i64 0] rz (by kernel_rfl) rfl (by simp [Value.oneCell', inAt]) ?_)
      go_loopw [17] (fun i wr => i = .int .i64 0 ∧ Nx w wr) (fun _ _ => 0)
      case atStart => exact ⟨rfl, hx2⟩
      case round =>
        obtain ⟨rfl, hnx⟩ := hrel
        go_wp2
        go_ret
        exact ⟨ret_bool HR.out.symm, hnx⟩
    · go_wp2_with (refine wpList_store_row rfl _ _ _ rfl w1.heap.size #[inAt c0 0, inAt c0 1, inAt c0 2, inAt c0 3, inAt c0 4, inAt c0 5, inAt c0 6, inAt c0 7] rfl rfl 116 #[.int .i64 0, .int .i64 0, .int .i64 0, .int .i64 0, .int .i64 0, .int .i64 0, .int .i64 0, .int .i64 0] rz (by kernel_rfl) rfl (by simp [Value.oneCell', inAt]) ?_)
      go_loopw [17] (fun i wr => i = .int .i64 0 ∧ Nx w wr) (fun _ _ => 0)
      case atStart => exact ⟨rfl, hx2⟩
      case round =>
        obtain ⟨rfl, hnx⟩ := hrel
        go_wp2
        go_ret
        exact ⟨ret_bool HR.out.symm, hnx⟩
  have hce : ¬ c3 = a := by omega
  obtain ⟨bb, off, rfl, hbb, _, _, _, _⟩ := HSg.out a hlt _ hx2
  go_wp2_with (refine wpList_store_row rfl _ _ _ rfl w1.heap.size #[inAt c0 0, inAt c0 1, inAt c0 2, inAt c0 3, inAt c0 4, inAt c0 5, inAt c0 6, inAt c0 7] rfl rfl 116 #[.int .i64 0, .int .i64 0, .int .i64 0, .int .i64 0, .int .i64 0, .int .i64 0, .int .i64 0, .int .i64 0] rz (by kernel_rfl) rfl (by simp [Value.oneCell', inAt]) ?_)
  have hgA : w.heap.size ≤ w1.heap.size := hx0.size
  clear b1 rz y0 y1 y2 y3 y4 y5 y6 y7 y8 y9 y10 y11 y12 y13 y14 b2 hce ha0 han hx0
  generalize (w1.alloc (.cells #[.int .i64 0, .int .i64 0, .int .i64 0, .int .i64 0, .int .i64 0, .int .i64 0, .int .i64 0, .int .i64 0] 116)).setRow w1.heap.size #[inAt c0 0, inAt c0 1, inAt c0 2, inAt c0 3, inAt c0 4, inAt c0 5, inAt c0 6, inAt c0 7] = Wl at *
  generalize w1.heap.size = gA at *
  obtain ⟨m, Hm⟩ : ∃ m, Hid (n - a = m) := ⟨_, rfl⟩
  rw [Hm.out]
  have hm9 : m ≤ 4096 := by have := Hm.out; omega
  go_loopw [17] (fun i wr => ∃ j : Nat, j ≤ m ∧ i = .int .i64 j ∧ FitF c0 gs a j ∧ Box wr gA 116 #[inAt (fwK c0 gs a j) 0, inAt (fwK c0 gs a j) 1, inAt (fwK c0 gs a j) 2, inAt (fwK c0 gs a j) 3, inAt (fwK c0 gs a j) 4, inAt (fwK c0 gs a j) 5, inAt (fwK c0 gs a j) 6, inAt (fwK c0 gs a j) 7] ∧ Nx w wr) (fun i _ => m - (intOf i).toNat)
  case atStart => exact ⟨0, Nat.zero_le _, rfl, FitF.zero _ _ _, ba, hx2⟩
  case round =>
  obtain ⟨j, hj, rfl, hfit, hbx, hnx⟩ := hrel
  clear hx2 ba
  by_cases hjm : j < m
  case neg =>
    obtain rfl : m = j := by omega
    have HR := Lib.hid (show fitF c0 gs a = true from FitF.all (by rw [Hn.out, Hm.out]; exact hfit))
    go_wp2
    go_ret
    exact ⟨ret_bool HR.out.symm, hnx⟩
  have hkn : a + j < n := by have := Hm.out; omega
  obtain ⟨b', off', he, _, p0, p1, p2, p3⟩ := HSg.out (a + j) hkn wr hnx
  obtain ⟨rfl, rfl⟩ : bb = b' ∧ off = off' := by simpa using he
  clear he
  have HCk := Lib.hid (HCh.out (a + j) hkn)
  have HOKc := Lib.hid (HOKs.out (a + j) hkn)
  have HFs := Lib.hid (fun hh => hfit.succ hh)
  have HFn := Lib.hid (fun hh => fitF_no (c := c0) (gs := gs) (a := a) (k := j) (by rw [Hn.out]; exact hkn) hh)
  have HLj : Hid ((fwK c0 gs a j).length = 8) := Lib.hid (by rw [fwK_len]; exact HL0.out)
  have Hsuc : Hid (fwK c0 gs a (j + 1) = app pN (fwK c0 gs a j) (gs.getD (a + j) sgZ).cs) := Lib.hid rfl
  obtain ⟨cj, Hcj⟩ : ∃ cj, Hid (fwK c0 gs a j = cj) := ⟨_, rfl⟩
  rw [Hcj.out] at HFs HFn HLj Hsuc hbx
  obtain ⟨⟨f, t9, m9, Ac, cc, cs⟩, Hs⟩ : ∃ s, Hid (gs.getD (a + j) sgZ = s) := ⟨_, rfl⟩
  rw [Hs.out] at p0 p1 p2 p3 HCk HOKc HFs HFn Hsuc
  simp only at p0 p1 p2 p3 HCk HOKc Hsuc
  rw [show off + (a + j) * 4 = off + a * 4 + j * 4 by omega] at p0 p1 p2 p3
  have HLy : Hid ((app pO cj cs).length = 8) := Lib.hid (by rw [app_len]; exact HLj.out)
  have HLn : Hid ((app pN cj cs).length = 8) := Lib.hid (by rw [app_len]; exact HLj.out)
  have bg := Box.new wr 130 #[.int .i64 f, .int .i64 t9, .int .i64 m9, .slice Ac cs.length cc]
  have hxg := (Nx.refl wr).alloc (.cells #[.int .i64 f, .int .i64 t9, .int .i64 m9, .slice Ac cs.length cc] 130)
  have ba1 := hbx.nx hxg
  have hnxa := hnx.trans hxg
  have hjc : (j : Int) < (m : Int) := by omega
  have hj0 : (0 : Int) ≤ (j : Int) := by omega
  have hjn : j < n - a := by have := Hm.out; omega
  clear hfit hbx hxg
  go_wp2_with fail
  generalize wr.alloc (.cells #[.int .i64 f, .int .i64 t9, .int .i64 m9, .slice Ac cs.length cc] 130) = wa at *
  generalize wr.heap.size = gG at *
  have bad := ba1.nx (Nx.refl _).drew
  have bgd := bg.nx (Nx.refl _).drew
  clear p0 p1 p2 p3 ba1 bg
  refine wp_region_plan (.t 0 (.t 1 (.t 3 (.c 2 (.t 4 .e))))) (fun w' => (w'.cell? ⟨gA, 0, none⟩ = some (inAt cj 0) ∧ w'.cell? ⟨gA, 1, none⟩ = some (inAt cj 1) ∧ w'.cell? ⟨gA, 2, none⟩ = some (inAt cj 2) ∧ w'.cell? ⟨gA, 3, none⟩ = some (inAt cj 3) ∧ w'.cell? ⟨gA, 4, none⟩ = some (inAt cj 4) ∧ w'.cell? ⟨gA, 5, none⟩ = some (inAt cj 5) ∧ w'.cell? ⟨gA, 6, none⟩ = some (inAt cj 6) ∧ w'.cell? ⟨gA, 7, none⟩ = some (inAt cj 7)) ∧ (w'.cell? ⟨gG, 0, none⟩ = some (.int .i64 f) ∧ w'.cell? ⟨gG, 1, none⟩ = some (.int .i64 t9) ∧ w'.cell? ⟨gG, 2, none⟩ = some (.int .i64 m9) ∧ w'.cell? ⟨gG, 3, none⟩ = some (.slice Ac cs.length cc))) (by kernel_rfl) (by kernel_rfl) rfl (by kernel_rfl) (fun _ _ d _ _ h => by cases d <;> exact h) (by exact ⟨bad.e8, bgd.d4⟩) ?_
  simp only [psOf, List.getD_cons_zero, List.getD_cons_succ]
  repeat (first | (refine HP.take (v := ?_) (by rfl) ?_ ?_; rotate_left; (· (intro w hSw; (try dsimp only at hSw); go_simp; try with_reducible rfl)); (try simp only [Act.put, List.setIfInBounds_toArray, List.set_cons_zero, List.set_cons_succ])) | (refine HP.skip (by rfl) ?_; (try simp only [Act.put, List.setIfInBounds_toArray, List.set_cons_zero, List.set_cons_succ])))
  refine HP.call ?_
  refine CallStep.mk (by rfl) (fun K hK => ?_)
  go_simp
  have hcl := valuesBackward_c f t9 m9 Ac cc B cs cj _ (HCk.out _ hnxa.drew) (Nat.le_trans hB hnxa.drew.size) HOKc.out HLj.out; unfold vA at hcl; refine hcl.mono ?_; rintro e w8 ⟨rfl, hk8⟩; clear hcl; have ba8 := bad.nx hk8; have bg8 := bgd.nx hk8; have hnx8 := hnxa.drew.trans hk8
  go_wp2_with fail
  refine hK.out _ _ (by exact ⟨ba8.e8, bg8.d4⟩) ?_
  clear hK K
  try simp only [Act.put, List.setIfInBounds_toArray, List.set_cons_zero, List.set_cons_succ]
  refine HP.take (v := .bool (!decide (app pO cj cs = cj))) (by rfl) (fun w _ => neq_op HLy.out HLj.out w rfl rfl rfl) ?_
  try simp only [Act.put, List.setIfInBounds_toArray, List.set_cons_zero, List.set_cons_succ]
  refine HP.done ?_
  by_cases ho : app pO cj cs = cj
  case neg =>
    have HR := Lib.hid (HFn.out (decide_eq_false ho))
    rw [decide_eq_false ho]
    clear ho HFs HFn
    go_wp2
    go_ret
    exact ⟨ret_bool HR.out.symm, hnx8⟩
  have HFs' := Lib.hid (HFs.out (decide_eq_true ho))
  rw [decide_eq_true ho]
  clear ho HFs HFn
  obtain ⟨y0, y1, y2, y3, y4, y5, y6, y7⟩ := ba8.e8
  obtain ⟨q0, q1, q2, q3⟩ := bg8.d4
  go_wp2_with fail
  have hcl := valuesForward_c f t9 m9 Ac cc B cs cj _ (HCk.out _ hnx8) (Nat.le_trans hB hnx8.size) HOKc.out HLj.out
  unfold vA at hcl
  refine hcl.mono ?_
  rintro e w9 ⟨rfl, hk9⟩
  have ba9 := ba8.nx hk9
  have hnx9 := hnx8.trans hk9
  clear hcl y0 y1 y2 y3 y4 y5 y6 y7 q0 q1 q2 q3 ba8 bg8
  have bz := ba9.row #[inAt (app pN cj cs) 0, inAt (app pN cj cs) 1, inAt (app pN cj cs) 2, inAt (app pN cj cs) 3, inAt (app pN cj cs) 4, inAt (app pN cj cs) 5, inAt (app pN cj cs) 6, inAt (app pN cj cs) 7]
  have hnxz := hnx9.setRow hgA #[inAt (app pN cj cs) 0, inAt (app pN cj cs) 1, inAt (app pN cj cs) 2, inAt (app pN cj cs) 3, inAt (app pN cj cs) 4, inAt (app pN cj cs) 5, inAt (app pN cj cs) 6, inAt (app pN cj cs) 7]
  go_wp2_with (refine wpList_store_row rfl _ _ _ rfl gA #[inAt (app pN cj cs) 0, inAt (app pN cj cs) 1, inAt (app pN cj cs) 2, inAt (app pN cj cs) 3, inAt (app pN cj cs) 4, inAt (app pN cj cs) 5, inAt (app pN cj cs) 6, inAt (app pN cj cs) 7] rfl rfl 116 #[inAt cj 0, inAt cj 1, inAt cj 2, inAt cj 3, inAt cj 4, inAt cj 5, inAt cj 6, inAt cj 7] ba9 (by kernel_rfl) rfl (by simp [Value.oneCell', inAt]) ?_)
  go_roundw
  case rel => exact ⟨j + 1, by omega, by go_num, HFs'.out, by rw [Hsuc.out]; exact bz, hnxz⟩
  case measure => (simp [intOf] <;> omega)
end Go.Proofs.YtehahodomfbpjaaGreatDoor
/- The program's view of a vault: what fits back. Conditions: what is read can be read, and holds at most 1048576 elements of a kind. -/
namespace Go.Proofs.YtehahodomfbpjaaGreatDoor
set_option linter.unusedVariables false
set_option maxRecDepth 100000
open Go.RowKit

set_option maxHeartbeats 4000000 in
theorem fitsBack_c (V : Vl) (B : Nat) (w : World) (h : Sgs w B V.A3 V.gs) (hB : B ≤ w.heap.size) (hl : Lead V.b V.gs) (h8 : V.im.length = 8) (hp : plcB V.b V.p V.t V.gs V.ms = true) :
    Calls Tryz.prog 173 #[V.w] w fun e w' => e = .returned (.bool (fitB (stp V.b V.p V.t V.gs V.im).1 V.gs (stp V.b V.p V.t V.gs V.im).2)) ∧ Nx w w' := by
  have hSD := stepDone_c V B
  obtain ⟨g, b, p, t, A, c, xs, A2, c2, ms, A3, c3, gs, A4, c4, im⟩ := V
  simp only [Vl.w, Vl.wcells] at *
  have hsl := stp_le (t := t) im hl hp
  have HSD := Lib.hid (fun (w' : World) (hx : Nx w w') => hSD w' (h.below hx hB) (Nat.le_trans hB hx.size) hl h8 (by unfold plcB at hp; simp only [Bool.and_eq_true] at hp; exact hp.1.2) hsl.2)
  have HL0 : Hid ((stp b p t gs im).1.length = 8) := Lib.hid (by rw [stp_len]; exact h8)
  have hat := hsl.1
  obtain ⟨n, Hn⟩ : ∃ n, Hid (gs.length = n) := ⟨_, rfl⟩
  have HSg := Lib.hid (fun (k : Nat) (hk : k < gs.length) (w' : World) (hx : Nx w w') => (h.below hx hB).row.at4 hk)
  have HCh := Lib.hid (fun (k : Nat) (hk : k < gs.length) (w' : World) (hx : Nx w w') => (h.chs k hk).below hx hB)
  have HOKs := Lib.hid (fun k (hk : k < n) => hl.ok k (by rw [Hn.out]; exact hk))
  have hn9 : n ≤ 4096 := by have := hl.short; rw [Hn.out] at this; exact this
  rw [Hn.out] at HSD HSg HCh hat ⊢
  obtain ⟨c0, Hc0⟩ : ∃ c0, Hid ((stp b p t gs im).1 = c0) := ⟨_, rfl⟩
  obtain ⟨a, Hat⟩ : ∃ a, Hid ((stp b p t gs im).2 = a) := ⟨_, rfl⟩
  rw [Hc0.out, Hat.out] at HSD ⊢
  rw [Hc0.out] at HL0
  rw [Hat.out] at hat
  have b0 := Box.new w 118 #[.int .i64 g, .int .i64 b, .int .i64 p, .int .i64 t, .slice A xs.length c, .slice A2 ms.length c2, .slice A3 n c3, inAt im 0, inAt im 1, inAt im 2, inAt im 3, inAt im 4, inAt im 5, inAt im 6, inAt im 7]
  have hx0 := (Nx.refl w).alloc (.cells #[.int .i64 g, .int .i64 b, .int .i64 p, .int .i64 t, .slice A xs.length c, .slice A2 ms.length c2, .slice A3 n c3, inAt im 0, inAt im 1, inAt im 2, inAt im 3, inAt im 4, inAt im 5, inAt im 6, inAt im 7] 118)
  clear hSD h hl h8 hp hsl
  go_enter Tryz.func173, Tryz.ntmps173
  go_wp2_with fail
  generalize w.alloc (.cells #[.int .i64 g, .int .i64 b, .int .i64 p, .int .i64 t, .slice A xs.length c, .slice A2 ms.length c2, .slice A3 n c3, inAt im 0, inAt im 1, inAt im 2, inAt im 3, inAt im 4, inAt im 5, inAt im 6, inAt im 7] 118) = W at *
  refine (HSD.out _ hx0).mono ?_
  rintro e w1 ⟨rfl, hk⟩
  unfold vA
  have b1 := b0.nx hk
  replace hx0 := hx0.trans hk
  have rz := Box.new w1 116 #[.int .i64 0, .int .i64 0, .int .i64 0, .int .i64 0, .int .i64 0, .int .i64 0, .int .i64 0, .int .i64 0]
  have b2 := (b1.alloc (.cells #[.int .i64 0, .int .i64 0, .int .i64 0, .int .i64 0, .int .i64 0, .int .i64 0, .int .i64 0, .int .i64 0] 116)).rowfar (show w.heap.size ≠ w1.heap.size by have := b1.lt; omega) #[inAt c0 0, inAt c0 1, inAt c0 2, inAt c0 3, inAt c0 4, inAt c0 5, inAt c0 6, inAt c0 7]
  have ba := rz.row #[inAt c0 0, inAt c0 1, inAt c0 2, inAt c0 3, inAt c0 4, inAt c0 5, inAt c0 6, inAt c0 7]
  have hx2 := (hx0.alloc (.cells #[.int .i64 0, .int .i64 0, .int .i64 0, .int .i64 0, .int .i64 0, .int .i64 0, .int .i64 0, .int .i64 0] 116)).setRow (g := w1.heap.size) hx0.size #[inAt c0 0, inAt c0 1, inAt c0 2, inAt c0 3, inAt c0 4, inAt c0 5, inAt c0 6, inAt c0 7]
  have hwn : IntKind.i64.wrap ((a : Int) - 1) = (a : Int) - 1 := IntWalk.i64_in _ (by omega)
  clear b0 hk
  go_wp2_with (refine wpList_store_row rfl _ _ _ rfl w1.heap.size #[inAt c0 0, inAt c0 1, inAt c0 2, inAt c0 3, inAt c0 4, inAt c0 5, inAt c0 6, inAt c0 7] rfl rfl 116 #[.int .i64 0, .int .i64 0, .int .i64 0, .int .i64 0, .int .i64 0, .int .i64 0, .int .i64 0, .int .i64 0] rz (by kernel_rfl) rfl (by simp [Value.oneCell', inAt]) ?_)
  have hgA : w.heap.size ≤ w1.heap.size := hx0.size
  have hneA : w.heap.size ≠ w1.heap.size := by have := b1.lt; omega
  clear b1 rz hx0
  generalize (w1.alloc (.cells #[.int .i64 0, .int .i64 0, .int .i64 0, .int .i64 0, .int .i64 0, .int .i64 0, .int .i64 0, .int .i64 0] 116)).setRow w1.heap.size #[inAt c0 0, inAt c0 1, inAt c0 2, inAt c0 3, inAt c0 4, inAt c0 5, inAt c0 6, inAt c0 7] = Wl at *
  generalize w1.heap.size = gA at *
  go_loopw [5] (fun i wr => ∃ k : Nat, k ≤ a ∧ i = .int .i64 ((k : Int) - 1) ∧ FitB c0 gs a (a - k) ∧ Box wr gA 116 #[inAt (bkK c0 gs a (a - k)) 0, inAt (bkK c0 gs a (a - k)) 1, inAt (bkK c0 gs a (a - k)) 2, inAt (bkK c0 gs a (a - k)) 3, inAt (bkK c0 gs a (a - k)) 4, inAt (bkK c0 gs a (a - k)) 5, inAt (bkK c0 gs a (a - k)) 6, inAt (bkK c0 gs a (a - k)) 7] ∧ Nx w wr ∧ Box wr w.heap.size 118 #[.int .i64 g, .int .i64 b, .int .i64 p, .int .i64 t, .slice A xs.length c, .slice A2 ms.length c2, .slice A3 n c3, inAt im 0, inAt im 1, inAt im 2, inAt im 3, inAt im 4, inAt im 5, inAt im 6, inAt im 7]) (fun i _ => (intOf i + 1).toNat)
  case atStart => exact ⟨a, Nat.le_refl _, rfl, by rw [Nat.sub_self]; exact FitB.zero _ _ _, by rw [Nat.sub_self]; exact ba, hx2, b2⟩
  case round =>
  obtain ⟨k, hk, rfl, hfit, hbx, hnx, hb⟩ := hrel
  clear hx2 ba b2 hwn
  by_cases hk0 : k = 0
  case pos =>
    have HR := Lib.hid (show fitB c0 gs a = true from FitB.all (by rw [hk0, Nat.sub_zero] at hfit; exact hfit))
    rw [show ((k : Int) - 1) = -1 by omega]
    clear hk0 hfit
    go_wp2
    go_ret
    exact ⟨ret_bool HR.out.symm, hnx⟩
  obtain ⟨i, rfl⟩ : ∃ i, k = i + 1 := ⟨k - 1, by omega⟩
  rw [show ((i + 1 : Nat) : Int) - 1 = (i : Int) by omega]
  have hkn : i < n := by omega
  obtain ⟨j, Hj⟩ : ∃ j, Hid (a - (i + 1) = j) := ⟨_, rfl⟩
  have Hkj : Hid (i = a - 1 - j) := Lib.hid (by have := Hj.out; omega)
  rw [Hj.out] at hfit hbx
  obtain ⟨bb, off, rfl, hbb, p0, p1, p2, p3⟩ := HSg.out i hkn wr hnx
  have hbw : bb < wr.heap.size := Nat.lt_of_lt_of_le hbb (Nat.le_trans hB hnx.size)
  have HCk := Lib.hid (HCh.out i hkn)
  have HOKc := Lib.hid (HOKs.out i hkn)
  have HFs := Lib.hid (fun hh => hfit.succ hh)
  have HFn := Lib.hid (fun hh => fitB_no (c := c0) (gs := gs) (a := a) (k := j) (by have := Hj.out; omega) hh)
  rw [← Hkj.out] at HFs HFn
  have HLj : Hid ((bkK c0 gs a j).length = 8) := Lib.hid (by rw [bkK_len]; exact HL0.out)
  have Hsuc : Hid (bkK c0 gs a (j + 1) = app pO (bkK c0 gs a j) (gs.getD i sgZ).cs) := Lib.hid (by rw [Hkj.out]; rfl)
  obtain ⟨cj, Hcj⟩ : ∃ cj, Hid (bkK c0 gs a j = cj) := ⟨_, rfl⟩
  rw [Hcj.out] at HFs HFn HLj Hsuc hbx
  obtain ⟨⟨f, t9, m9, Ac, cc, cs⟩, Hs⟩ : ∃ s, Hid (gs.getD i sgZ = s) := ⟨_, rfl⟩
  rw [Hs.out] at p0 p1 p2 p3 HCk HOKc HFs HFn Hsuc
  simp only at p0 p1 p2 p3 HCk HOKc Hsuc
  have HLy : Hid ((app pO cj cs).length = 8) := Lib.hid (by rw [app_len]; exact HLj.out)
  have HLn : Hid ((app pN cj cs).length = 8) := Lib.hid (by rw [app_len]; exact HLj.out)
  have hkc : (i : Int) < (n : Int) := by omega
  have hk0 : (0 : Int) ≤ (i : Int) := by omega
  have hwi : IntKind.i64.wrap ((i : Int) - 1) = (i : Int) - 1 := IntWalk.i64_in _ (by omega)
  have Hin := Lib.hid hkn
  clear hfit hk0 hkn
  go_wp2_with fail
  have bad := hbx.nx (Nx.refl _).drew
  have vbd : Box wr.drew w.heap.size 118 #[.int .i64 g, .int .i64 b, .int .i64 p, .int .i64 t, .slice A xs.length c, .slice A2 ms.length c2, .slice (some ⟨bb, off, none⟩) n c3, inAt im 0, inAt im 1, inAt im 2, inAt im 3, inAt im 4, inAt im 5, inAt im 6, inAt im 7] := hb
  have hnxd := hnx.drew
  replace hbw : bb < wr.drew.heap.size := hbw
  have p0 : wr.drew.cell? ⟨bb, off + i * 4, none⟩ = _ := p0; have p1 : wr.drew.cell? ⟨bb, off + i * 4 + 1, none⟩ = _ := p1; have p2 : wr.drew.cell? ⟨bb, off + i * 4 + 2, none⟩ = _ := p2; have p3 : wr.drew.cell? ⟨bb, off + i * 4 + 3, none⟩ = _ := p3
  clear hbx hb
  refine wp_region_plan (.t 0 (.t 1 (.t 2 (.t 3 (.t 4 (.t 5 (.t 7 (.c 6 (.t 8 .e))))))))) (fun w' => (w'.cell? ⟨gA, 0, none⟩ = some (inAt cj 0) ∧ w'.cell? ⟨gA, 1, none⟩ = some (inAt cj 1) ∧ w'.cell? ⟨gA, 2, none⟩ = some (inAt cj 2) ∧ w'.cell? ⟨gA, 3, none⟩ = some (inAt cj 3) ∧ w'.cell? ⟨gA, 4, none⟩ = some (inAt cj 4) ∧ w'.cell? ⟨gA, 5, none⟩ = some (inAt cj 5) ∧ w'.cell? ⟨gA, 6, none⟩ = some (inAt cj 6) ∧ w'.cell? ⟨gA, 7, none⟩ = some (inAt cj 7)) ∧ w'.cell? ⟨w.heap.size, 6, none⟩ = some (.slice (some ⟨bb, off, none⟩) n c3) ∧ w'.cell? ⟨bb, off + i * 4, none⟩ = some (.int .i64 f) ∧ w'.cell? ⟨bb, off + i * 4 + 1, none⟩ = some (.int .i64 t9) ∧ w'.cell? ⟨bb, off + i * 4 + 2, none⟩ = some (.int .i64 m9) ∧ w'.cell? ⟨bb, off + i * 4 + 3, none⟩ = some (.slice Ac cs.length cc)) (by kernel_rfl) (by kernel_rfl) rfl (by kernel_rfl) (fun _ _ d _ _ h => by cases d <;> exact h) (by exact ⟨bad.e8, vbd.cell 6, p0, p1, p2, p3⟩) ?_
  simp only [psOf, List.getD_cons_zero, List.getD_cons_succ]
  repeat (first | (refine HP.take (v := ?_) (by rfl) ?_ ?_; rotate_left; (· (intro w hSw; (try dsimp only at hSw); go_simp; try with_reducible rfl)); (try simp only [Act.put, List.setIfInBounds_toArray, List.set_cons_zero, List.set_cons_succ])) | (refine HP.skip (by rfl) ?_; (try simp only [Act.put, List.setIfInBounds_toArray, List.set_cons_zero, List.set_cons_succ])))
  refine HP.call ?_
  refine CallStep.mk (by rfl) (fun K hK => ?_)
  go_simp
  have hcl := valuesForward_c f t9 m9 Ac cc B cs cj _ (HCk.out _ hnxd) (Nat.le_trans hB hnxd.size) HOKc.out HLj.out; unfold vA at hcl; refine hcl.mono ?_; rintro e w8 ⟨rfl, hk8⟩; clear hcl; have ba8 := bad.nx hk8; have vb8 := vbd.nx hk8; have hnx8 := hnxd.trans hk8; have hbw8 := hbw; replace hbw := Nat.lt_of_lt_of_le hbw hk8.size; have hbq8 : bb < w.heap.size := Nat.lt_of_lt_of_le hbb hB; replace p0 := (hk8.cell (p := ⟨bb, off + i * 4, none⟩) hbw8).trans p0; replace p1 := (hk8.cell (p := ⟨bb, off + i * 4 + 1, none⟩) hbw8).trans p1; replace p2 := (hk8.cell (p := ⟨bb, off + i * 4 + 2, none⟩) hbw8).trans p2; replace p3 := (hk8.cell (p := ⟨bb, off + i * 4 + 3, none⟩) hbw8).trans p3
  go_wp2_with fail
  refine hK.out _ _ (by exact ⟨ba8.e8, vb8.cell 6, p0, p1, p2, p3⟩) ?_
  clear hK K
  try simp only [Act.put, List.setIfInBounds_toArray, List.set_cons_zero, List.set_cons_succ]
  refine HP.take (v := .bool (!decide (app pN cj cs = cj))) (by rfl) (fun w _ => neq_op HLn.out HLj.out w rfl rfl rfl) ?_
  try simp only [Act.put, List.setIfInBounds_toArray, List.set_cons_zero, List.set_cons_succ]
  refine HP.done ?_
  by_cases ho : app pN cj cs = cj
  case neg =>
    have HR := Lib.hid (HFn.out (decide_eq_false ho))
    rw [decide_eq_false ho]
    clear ho HFs HFn
    go_wp2
    go_ret
    exact ⟨ret_bool HR.out.symm, hnx8⟩
  have HFs' := Lib.hid (HFs.out (decide_eq_true ho))
  rw [decide_eq_true ho]
  clear ho HFs HFn
  go_wp2_with fail
  have bae := ba8.nx (Nx.refl _).drew
  have vbe := vb8.nx (Nx.refl _).drew
  have hnxe := hnx8.drew
  replace hbw : bb < w8.drew.heap.size := hbw
  have p0 : w8.drew.cell? ⟨bb, off + i * 4, none⟩ = _ := p0; have p1 : w8.drew.cell? ⟨bb, off + i * 4 + 1, none⟩ = _ := p1; have p2 : w8.drew.cell? ⟨bb, off + i * 4 + 2, none⟩ = _ := p2; have p3 : w8.drew.cell? ⟨bb, off + i * 4 + 3, none⟩ = _ := p3
  have hneb : bb ≠ gA := by omega
  clear ba8 vb8
  refine wp_region_plan (.t 1 (.t 2 (.t 3 (.t 4 (.t 5 (.c 0 (.c 6 (.c 7 .e)))))))) (fun w' => w'.cell? ⟨w.heap.size, 6, none⟩ = some (.slice (some ⟨bb, off, none⟩) n c3) ∧ w'.cell? ⟨bb, off + i * 4, none⟩ = some (.int .i64 f) ∧ w'.cell? ⟨bb, off + i * 4 + 1, none⟩ = some (.int .i64 t9) ∧ w'.cell? ⟨bb, off + i * 4 + 2, none⟩ = some (.int .i64 m9) ∧ w'.cell? ⟨bb, off + i * 4 + 3, none⟩ = some (.slice Ac cs.length cc)) (by kernel_rfl) (by kernel_rfl) rfl (by kernel_rfl) (fun _ _ d _ _ h => by cases d <;> exact h) (by exact ⟨vbe.cell 6, p0, p1, p2, p3⟩) ?_
  simp only [psOf, List.getD_cons_zero, List.getD_cons_succ]
  repeat (first | (refine HP.take (v := ?_) (by rfl) ?_ ?_; rotate_left; (· (intro w hSw; (try dsimp only at hSw); go_simp; try with_reducible rfl)); (try simp only [Act.put, List.setIfInBounds_toArray, List.set_cons_zero, List.set_cons_succ])) | (refine HP.skip (by rfl) ?_; (try simp only [Act.put, List.setIfInBounds_toArray, List.set_cons_zero, List.set_cons_succ])))
  refine HP.call ?_
  refine CallStep.mk (by rfl) (fun K hK => ?_)
  refine wp_load_row _ _ rfl gA rfl 116 #[inAt cj 0, inAt cj 1, inAt cj 2, inAt cj 3, inAt cj 4, inAt cj 5, inAt cj 6, inAt cj 7] (0, 0) _ bae und_values rfl (by kernel_rfl) ?_
  refine hK.out _ _ (by exact ⟨vbe.cell 6, p0, p1, p2, p3⟩) ?_
  clear hK K
  try simp only [Act.put]
  refine HP.call ?_
  refine CallStep.mk (by rfl) (fun K hK => ?_)
  go_simp
  have hcl := valuesBackward_c f t9 m9 Ac cc B cs cj _ (HCk.out _ hnxe) (Nat.le_trans hB hnxe.size) HOKc.out HLj.out; unfold vA at hcl; refine hcl.mono ?_; rintro e w9 ⟨rfl, hk9⟩; clear hcl; have ba9 := bae.nx hk9; have vb9 := vbe.nx hk9; have hnx9 := hnxe.trans hk9; have hbw9 := hbw; replace hbw := Nat.lt_of_lt_of_le hbw hk9.size; have hbq9 : bb < w.heap.size := Nat.lt_of_lt_of_le hbb hB; replace p0 := (hk9.cell (p := ⟨bb, off + i * 4, none⟩) hbw9).trans p0; replace p1 := (hk9.cell (p := ⟨bb, off + i * 4 + 1, none⟩) hbw9).trans p1; replace p2 := (hk9.cell (p := ⟨bb, off + i * 4 + 2, none⟩) hbw9).trans p2; replace p3 := (hk9.cell (p := ⟨bb, off + i * 4 + 3, none⟩) hbw9).trans p3
  go_wp2_with fail
  refine hK.out _ _ (by exact ⟨vb9.cell 6, p0, p1, p2, p3⟩) ?_
  clear hK K
  try simp only [Act.put, List.setIfInBounds_toArray, List.set_cons_zero, List.set_cons_succ]
  refine HP.call ?_
  refine CallStep.mk (by rfl) (fun K hK => ?_)
  refine wp_store_row _ _ _ rfl gA #[inAt (app pO cj cs) 0, inAt (app pO cj cs) 1, inAt (app pO cj cs) 2, inAt (app pO cj cs) 3, inAt (app pO cj cs) 4, inAt (app pO cj cs) 5, inAt (app pO cj cs) 6, inAt (app pO cj cs) 7] rfl rfl 116 #[inAt cj 0, inAt cj 1, inAt cj 2, inAt cj 3, inAt cj 4, inAt cj 5, inAt cj 6, inAt cj 7] ba9 (by kernel_rfl) rfl (by simp [Value.oneCell', inAt]) ?_
  refine hK.out _ _ (by exact ⟨(vb9.rowfar hneA #[inAt (app pO cj cs) 0, inAt (app pO cj cs) 1, inAt (app pO cj cs) 2, inAt (app pO cj cs) 3, inAt (app pO cj cs) 4, inAt (app pO cj cs) 5, inAt (app pO cj cs) 6, inAt (app pO cj cs) 7]).cell 6, ((cell_row_far w9 gA #[inAt (app pO cj cs) 0, inAt (app pO cj cs) 1, inAt (app pO cj cs) 2, inAt (app pO cj cs) 3, inAt (app pO cj cs) 4, inAt (app pO cj cs) 5, inAt (app pO cj cs) 6, inAt (app pO cj cs) 7] (p := ⟨bb, off + i * 4, none⟩) (by simp; omega)).trans p0), ((cell_row_far w9 gA #[inAt (app pO cj cs) 0, inAt (app pO cj cs) 1, inAt (app pO cj cs) 2, inAt (app pO cj cs) 3, inAt (app pO cj cs) 4, inAt (app pO cj cs) 5, inAt (app pO cj cs) 6, inAt (app pO cj cs) 7] (p := ⟨bb, off + i * 4 + 1, none⟩) (by simp; omega)).trans p1), ((cell_row_far w9 gA #[inAt (app pO cj cs) 0, inAt (app pO cj cs) 1, inAt (app pO cj cs) 2, inAt (app pO cj cs) 3, inAt (app pO cj cs) 4, inAt (app pO cj cs) 5, inAt (app pO cj cs) 6, inAt (app pO cj cs) 7] (p := ⟨bb, off + i * 4 + 2, none⟩) (by simp; omega)).trans p2), ((cell_row_far w9 gA #[inAt (app pO cj cs) 0, inAt (app pO cj cs) 1, inAt (app pO cj cs) 2, inAt (app pO cj cs) 3, inAt (app pO cj cs) 4, inAt (app pO cj cs) 5, inAt (app pO cj cs) 6, inAt (app pO cj cs) 7] (p := ⟨bb, off + i * 4 + 3, none⟩) (by simp; omega)).trans p3)⟩) ?_
  clear hK K
  try simp only [Act.put]
  refine HP.done ?_
  have bz := ba9.row #[inAt (app pO cj cs) 0, inAt (app pO cj cs) 1, inAt (app pO cj cs) 2, inAt (app pO cj cs) 3, inAt (app pO cj cs) 4, inAt (app pO cj cs) 5, inAt (app pO cj cs) 6, inAt (app pO cj cs) 7]
  have vz := vb9.rowfar hneA #[inAt (app pO cj cs) 0, inAt (app pO cj cs) 1, inAt (app pO cj cs) 2, inAt (app pO cj cs) 3, inAt (app pO cj cs) 4, inAt (app pO cj cs) 5, inAt (app pO cj cs) 6, inAt (app pO cj cs) 7]
  have hnxz := hnx9.setRow hgA #[inAt (app pO cj cs) 0, inAt (app pO cj cs) 1, inAt (app pO cj cs) 2, inAt (app pO cj cs) 3, inAt (app pO cj cs) 4, inAt (app pO cj cs) 5, inAt (app pO cj cs) 6, inAt (app pO cj cs) 7]
  generalize w9.setRow gA #[inAt (app pO cj cs) 0, inAt (app pO cj cs) 1, inAt (app pO cj cs) 2, inAt (app pO cj cs) 3, inAt (app pO cj cs) 4, inAt (app pO cj cs) 5, inAt (app pO cj cs) 6, inAt (app pO cj cs) 7] = Wz at *
  go_wp2
  go_roundw
  case rel => exact ⟨i, by omega, rfl, by rw [show a - i = j + 1 by have := Hj.out; omega]; exact HFs'.out, by rw [show a - i = j + 1 by have := Hj.out; omega, Hsuc.out]; exact bz, hnxz, vz⟩
  case measure => (simp [intOf] <;> omega)
end Go.Proofs.YtehahodomfbpjaaGreatDoor
/- The program's VaultOK. Conditions: what is read can be read, and holds at most 1048576 elements of a kind. -/
namespace Go.Proofs.YtehahodomfbpjaaGreatDoor
set_option linter.unusedVariables false
set_option maxRecDepth 100000
open Go.RowKit

set_option maxHeartbeats 4000000 in
theorem vaultRight_c (V : Vl) (B : Nat) (w : World) (h : Vlt w B V) (hB : B ≤ w.heap.size) (hn : VlN V 1048576) (hc : V.xs.length ≤ V.c) (hc3 : V.gs.length ≤ V.c3) (hm : AllM V.ms) :
    Calls Tryz.prog 94 #[V.v] w fun e w' => e = .returned (.bool V.ok) ∧ Nx w w' := by
  have hVW := view_c V B
  have hPL := hasPlaces_c V B
  have hFF := fitsForward_c V B
  have hFB := fitsBack_c V B
  obtain ⟨g, b, p, t, A, c, xs, A2, c2, ms, A3, c3, gs, A4, c4, im⟩ := V
  obtain ⟨h, h2, h3, h4⟩ := h
  obtain ⟨hn, hn2, hn3, hn4, hn5⟩ := hn
  simp only [Vl.v, Vl.cells] at *
  simp only [Vl.w, Vl.wcells] at *
  have HOKv : Hid (Vl.ok ⟨g, b, p, t, A, c, xs, A2, c2, ms, A3, c3, gs, A4, c4, im⟩ = vltB g b p t xs ms gs im) := Lib.hid rfl
  rw [HOKv.out]
  have HNo := Lib.hid (vltB_no (g := g) (b := b) (p := p) (t := t) (xs := xs) (ms := ms) (gs := gs) (im := im))
  have HYes := Lib.hid (fun h => VltY.b (g := g) (b := b) (p := p) (t := t) (xs := xs) (ms := ms) (gs := gs) (im := im) h)
  have HSup := Lib.hid (fun (w' : World) (hx : Nx w w') => superRight_c g b p t A A2 c c2 B xs ms w' (h.below hx hB) (h2.below hx hB) (Nat.le_trans hB hx.size) hn hn2 hc hm)
  have HCon := Lib.hid (fun (w' : World) (hx : Nx w w') => implContentOK_c A4 c4 B im w' (h4.below hx hB) (Nat.le_trans hB hx.size) hn5)
  have HCha := Lib.hid (fun (w' : World) (hx : Nx w w') => implChainOK_c b A3 c3 B gs w' (h3.below hx hB) (Nat.le_trans hB hx.size) hn3 hn4)
  have HVW := Lib.hid (fun (w' : World) (hx : Nx w w') (h8 : im.length = 8) => hVW w' (h4.below hx hB) (Nat.le_trans hB hx.size) h8)
  have HPL := Lib.hid (fun (w' : World) (hx : Nx w w') (hN : gs.length ≤ 4096) => hPL w' (h3.below hx hB) (h2.below hx hB) (Nat.le_trans hB hx.size) hN hn2)
  have HFF := Lib.hid (fun (w' : World) (hx : Nx w w') (hl : Lead b gs) (h8 : im.length = 8) (hp : plcB b p t gs ms = true) => hFF w' (h3.below hx hB) (Nat.le_trans hB hx.size) hl hc3 h8 hp)
  have HFB := Lib.hid (fun (w' : World) (hx : Nx w w') (hl : Lead b gs) (h8 : im.length = 8) (hp : plcB b p t gs ms = true) => hFB w' (h3.below hx hB) (Nat.le_trans hB hx.size) hl h8 hp)
  clear hVW hPL hFF hFB
  obtain ⟨n, Hn⟩ : ∃ n, Hid (gs.length = n) := ⟨_, rfl⟩
  obtain ⟨q, Hq⟩ : ∃ q, Hid (im.length = q) := ⟨_, rfl⟩
  obtain ⟨r, Hr⟩ : ∃ r, Hid (ms.length = r) := ⟨_, rfl⟩
  obtain ⟨z, Hz⟩ : ∃ z, Hid (xs.length = z) := ⟨_, rfl⟩
  rw [Hz.out, Hr.out] at HSup
  rw [Hq.out] at HCon
  rw [Hn.out] at HCha hn3
  rw [Hn.out, Hq.out, Hr.out, Hz.out] at HVW
  rw [Hn.out, Hr.out, Hz.out] at HPL
  rw [Hn.out, Hq.out, Hr.out, Hz.out] at HFF HFB
  rw [Hr.out] at hn2
  rw [Hz.out] at hn
  rw [Hq.out] at hn5
  rw [Hn.out, Hq.out, Hr.out, Hz.out]
  have b0 := Box.new w 33 #[.int .i64 g, .int .i64 b, .int .i64 p, .int .i64 t, .slice A z c, .slice A2 r c2, .slice A3 n c3, .slice A4 q c4]
  have hx0 := (Nx.refl w).alloc (.cells #[.int .i64 g, .int .i64 b, .int .i64 p, .int .i64 t, .slice A z c, .slice A2 r c2, .slice A3 n c3, .slice A4 q c4] 33)
  clear h h2 h3 h4 hn4 hc hm hc3
  go_enter Tryz.func94, Tryz.ntmps94
  go_wp2_with fail
  generalize w.alloc (.cells #[.int .i64 g, .int .i64 b, .int .i64 p, .int .i64 t, .slice A z c, .slice A2 r c2, .slice A3 n c3, .slice A4 q c4] 33) = W at *
  refine (HSup.out W hx0).mono ?_
  rintro e w1 ⟨rfl, hk⟩
  have b1 := b0.nx hk
  have hx := hx0.trans hk
  clear hx0 b0 hk
  cases h1 : superB g b p t xs ms with
  | false =>
    have HR := Lib.hid (HNo.out (.inl h1))
    clear h1
    go_wp2
    go_ret
    exact ⟨ret_bool HR.out.symm, hx⟩
  | true =>
  have H1 := Lib.hid h1
  clear h1
  obtain ⟨y0, y1, y2, y3, y4, y5, y6, y7⟩ := b1.e8
  go_wp2_with fail
  refine (HCon.out _ hx).mono ?_
  clear y0 y1 y2 y3 y4 y5 y6 y7
  rintro e w2 ⟨rfl, hk⟩
  have b2 := b1.nx hk
  replace hx := hx.trans hk
  clear b1 hk
  cases h2 : contB im with
  | false =>
    have HR := Lib.hid (HNo.out (.inr (.inl h2)))
    clear h2
    go_wp2
    go_ret
    exact ⟨ret_bool HR.out.symm, hx⟩
  | true =>
  have H2 := Lib.hid h2
  clear h2
  obtain ⟨y0, y1, y2, y3, y4, y5, y6, y7⟩ := b2.e8
  by_cases hle : n = z
  case neg =>
    have hd : ((n : Int) != (z : Int)) = true := by simp; omega
    have HR := Lib.hid (HNo.out (.inr (.inr (.inl (by rw [Hn.out, Hz.out]; exact hle)))))
    clear hle
    go_wp2
    go_ret
    exact ⟨ret_bool HR.out.symm, hx⟩
  have hd : ((n : Int) != (z : Int)) = false := by simp; omega
  have H4 := Lib.hid hle
  clear hle
  go_wp2_with fail
  refine (HCha.out _ hx).mono ?_
  clear y0 y1 y2 y3 y4 y5 y6 y7 hd
  rintro e w3 ⟨rfl, hk⟩
  have b3 := b2.nx hk
  replace hx := hx.trans hk
  clear b2 hk
  cases h3 : chainB b gs with
  | false =>
    have HR := Lib.hid (HNo.out (.inr (.inr (.inr (.inl h3)))))
    clear h3
    go_wp2
    go_ret
    exact ⟨ret_bool HR.out.symm, hx⟩
  | true =>
  have H3 := Lib.hid h3
  clear h3
  have HLd := Lib.hid (chainB_lead H3.out)
  have hn4 : n ≤ 4096 := by have := HLd.out.short; rw [Hn.out] at this; exact this
  have H8 : Hid (q = 8) := Lib.hid (by rw [← Hq.out]; exact (contB_yes H2.out).1)
  obtain rfl : q = 8 := H8.out
  obtain ⟨y0, y1, y2, y3, y4, y5, y6, y7⟩ := b3.e8
  go_wp2_with fail
  refine (HVW.out _ hx (by trivial)).mono ?_
  clear y0 y1 y2 y3 y4 y5 y6 y7
  rintro e w4 ⟨rfl, hk⟩
  have b4 := b3.nx hk
  replace hx := hx.trans hk
  clear b3 hk
  have rz := Box.new w4 118 #[.int .i64 0, .int .i64 0, .int .i64 0, .int .i64 0, .slice none 0 0, .slice none 0 0, .slice none 0 0, .int .i64 0, .int .i64 0, .int .i64 0, .int .i64 0, .int .i64 0, .int .i64 0, .int .i64 0, .int .i64 0]
  have bv := rz.row #[.int .i64 g, .int .i64 b, .int .i64 p, .int .i64 t, .slice A z c, .slice A2 r c2, .slice A3 n c3, inAt im 0, inAt im 1, inAt im 2, inAt im 3, inAt im 4, inAt im 5, inAt im 6, inAt im 7]
  have hx5 := (hx.alloc (.cells #[.int .i64 0, .int .i64 0, .int .i64 0, .int .i64 0, .slice none 0 0, .slice none 0 0, .slice none 0 0, .int .i64 0, .int .i64 0, .int .i64 0, .int .i64 0, .int .i64 0, .int .i64 0, .int .i64 0, .int .i64 0] 118)).setRow (g := w4.heap.size) hx.size #[.int .i64 g, .int .i64 b, .int .i64 p, .int .i64 t, .slice A z c, .slice A2 r c2, .slice A3 n c3, inAt im 0, inAt im 1, inAt im 2, inAt im 3, inAt im 4, inAt im 5, inAt im 6, inAt im 7]
  obtain ⟨y0, y1, y2, y3, y4, y5, y6, y7, y8, y9, y10, y11, y12, y13, y14⟩ := bv.e15
  go_wp2_with (refine wpList_store_row rfl _ _ _ rfl w4.heap.size #[.int .i64 g, .int .i64 b, .int .i64 p, .int .i64 t, .slice A z c, .slice A2 r c2, .slice A3 n c3, inAt im 0, inAt im 1, inAt im 2, inAt im 3, inAt im 4, inAt im 5, inAt im 6, inAt im 7] rfl rfl 118 #[.int .i64 0, .int .i64 0, .int .i64 0, .int .i64 0, .slice none 0 0, .slice none 0 0, .slice none 0 0, .int .i64 0, .int .i64 0, .int .i64 0, .int .i64 0, .int .i64 0, .int .i64 0, .int .i64 0, .int .i64 0] rz (by kernel_rfl) rfl (by simp [Value.oneCell', inAt]) ?_)
  clear y0 y1 y2 y3 y4 y5 y6 y7 y8 y9 y10 y11 y12 y13 y14 rz hx
  generalize (w4.alloc (.cells #[.int .i64 0, .int .i64 0, .int .i64 0, .int .i64 0, .slice none 0 0, .slice none 0 0, .slice none 0 0, .int .i64 0, .int .i64 0, .int .i64 0, .int .i64 0, .int .i64 0, .int .i64 0, .int .i64 0, .int .i64 0] 118)).setRow w4.heap.size #[.int .i64 g, .int .i64 b, .int .i64 p, .int .i64 t, .slice A z c, .slice A2 r c2, .slice A3 n c3, inAt im 0, inAt im 1, inAt im 2, inAt im 3, inAt im 4, inAt im 5, inAt im 6, inAt im 7] = W5 at *
  generalize w4.heap.size = gV at *
  refine (HPL.out _ hx5 hn4).mono ?_
  rintro e w6 ⟨rfl, hk⟩
  have bv6 := bv.nx hk
  have hx6 := hx5.trans hk
  clear bv hx5 hk
  cases h5 : plcB b p t gs ms with
  | false =>
    have HR := Lib.hid (HNo.out (.inr (.inr (.inr (.inr (.inl h5))))))
    clear h5
    go_wp2
    go_ret
    exact ⟨ret_bool HR.out.symm, hx6⟩
  | true =>
  have H5 := Lib.hid h5
  clear h5
  obtain ⟨y0, y1, y2, y3, y4, y5, y6, y7, y8, y9, y10, y11, y12, y13, y14⟩ := bv6.e15
  go_wp2_with fail
  clear y0 y1 y2 y3 y4 y5 y6 y7 y8 y9 y10 y11 y12 y13 y14
  refine (HFF.out _ hx6 HLd.out (by trivial) H5.out).mono ?_
  rintro e w7 ⟨rfl, hk⟩
  have bv7 := bv6.nx hk
  have hx7 := hx6.trans hk
  clear bv6 hx6 hk
  cases h6 : fitF (stp b p t gs im).1 gs (stp b p t gs im).2 with
  | false =>
    have HR := Lib.hid (HNo.out (.inr (.inr (.inr (.inr (.inr (.inl h6)))))))
    clear h6
    go_wp2
    go_ret
    exact ⟨ret_bool HR.out.symm, hx7⟩
  | true =>
  have H6 := Lib.hid h6
  clear h6
  obtain ⟨y0, y1, y2, y3, y4, y5, y6, y7, y8, y9, y10, y11, y12, y13, y14⟩ := bv7.e15
  go_wp2_with fail
  clear y0 y1 y2 y3 y4 y5 y6 y7 y8 y9 y10 y11 y12 y13 y14
  refine (HFB.out _ hx7 HLd.out (by trivial) H5.out).mono ?_
  rintro e w8 ⟨rfl, hk⟩
  have hx8 := hx7.trans hk
  clear hx7 hk
  cases h7 : fitB (stp b p t gs im).1 gs (stp b p t gs im).2 with
  | false =>
    have HR := Lib.hid (HNo.out (.inr (.inr (.inr (.inr (.inr (.inr h7)))))))
    clear h7
    go_wp2
    go_ret
    exact ⟨ret_bool HR.out.symm, hx8⟩
  | true =>
    have HR := Lib.hid (HYes.out ⟨H1.out, H2.out, by rw [Hn.out, Hz.out]; exact H4.out, H3.out, H5.out, H6.out, h7⟩)
    clear h7
    go_wp2
    go_ret
    exact ⟨ret_bool HR.out.symm, hx8⟩
end Go.Proofs.YtehahodomfbpjaaGreatDoor
/- TipOf, of the model and of the program. Conditions: what is read can be read, and holds at most 1048576 elements of a kind. -/
namespace Go.Proofs.YtehahodomfbpjaaGreatDoor
set_option linter.unusedVariables false
set_option maxRecDepth 100000
open Go.RowKit

theorem Vl.y {V : Vl} (h : V.ok = true) : VltY V.g V.b V.p V.t V.xs V.ms V.gs V.im := vltB_yes h
theorem VltY.ahd {g b p t : Int} {xs : List Int} {ms : List Mrk} {gs : List SgR} {im : List Int} (h : VltY g b p t xs ms gs im) : isRet b gs p = true ∧ (p < t → ahd b gs p < gs.length) ∧ (t < p → 0 < ahd b gs p) :=
  ⟨by have := h.places; unfold plcB at this; simp only [Bool.and_eq_true] at this; exact this.1.2, (stp_le (t := t) im (chainB_lead h.chain) h.places).2⟩
theorem VltY.l8 {g b p t : Int} {xs : List Int} {ms : List Mrk} {gs : List SgR} {im : List Int} (h : VltY g b p t xs ms gs im) : im.length = 8 := (contB_yes h.cont).1
theorem VltY.n4 {g b p t : Int} {xs : List Int} {ms : List Mrk} {gs : List SgR} {im : List Int} (h : VltY g b p t xs ms gs im) : gs.length ≤ 4096 := (chainB_lead h.chain).short
end Go.Proofs.YtehahodomfbpjaaGreatDoor
/- RetainedOf, of the model and of the program. Conditions: what is read can be read, and holds at most 1048576 elements of a kind. -/
namespace Go.Proofs.YtehahodomfbpjaaGreatDoor
set_option linter.unusedVariables false
set_option maxRecDepth 100000
open Go.RowKit

def rtR (V : Vl) : List Int × Int := if V.ok then (retL V.b V.gs, 0) else ([], 1)
theorem rtR_yes {V : Vl} (h : V.ok = true) : rtR V = (retL V.b V.gs, 0) := by unfold rtR; rw [h]; rfl
theorem rtR_no {V : Vl} (h : V.ok = false) : rtR V = ([], 1) := by unfold rtR; rw [h]; rfl
def ctR (V : Vl) (x : Int) : List Int × Int := if V.ok then (if isRet V.b V.gs x then (cntV V.b V.p V.t V.gs V.im x, 0) else ([], 11)) else ([], 1)
theorem ctR_yes {V : Vl} {x : Int} (h : V.ok = true) (hr : isRet V.b V.gs x = true) : ctR V x = (cntV V.b V.p V.t V.gs V.im x, 0) := by unfold ctR; rw [h, hr]; rfl
theorem ctR_none {V : Vl} {x : Int} (h : V.ok = true) (hr : isRet V.b V.gs x = false) : ctR V x = ([], 11) := by unfold ctR; rw [h, hr]; rfl
theorem ctR_no {V : Vl} {x : Int} (h : V.ok = false) : ctR V x = ([], 1) := by unfold ctR; rw [h]; rfl

set_option maxHeartbeats 2000000 in
theorem implRetainedOf_c (V : Vl) (B : Nat) (w : World) (h : Vlt w B V) (hB : B ≤ w.heap.size) (hn : VlN V 1048576) (hc : V.xs.length ≤ V.c) (hc3 : V.gs.length ≤ V.c3) (hm : AllM V.ms) :
    Calls Tryz.prog 32 #[V.v] w (RetIC w (rtR V).1 (rtR V).2) := by
  have hOK := vaultRight_c V B
  have hRt := retained_c V B
  have hVW := view_c V B
  cases hv : V.ok with
  | false =>
    have HT := Lib.hid (rtR_no hv)
    rw [HT.out]
    have HOK := Lib.hid (fun (w' : World) (hx : Nx w w') => hOK w' (h.below hx hB) (Nat.le_trans hB hx.size) hn hc hc3 hm)
    rw [hv] at HOK
    clear hOK h hn hc hc3 hm hv HT hRt hVW
    obtain ⟨g, b, p, t, A, c, xs, A2, c2, ms, A3, c3, gs, A4, c4, im⟩ := V
    simp only [Vl.v, Vl.cells] at *
    have hx0 := (Nx.refl w).alloc (.cells #[.int .i64 g, .int .i64 b, .int .i64 p, .int .i64 t, .slice A xs.length c, .slice A2 ms.length c2, .slice A3 gs.length c3, .slice A4 im.length c4] 33)
    go_enter Tryz.func32, Tryz.ntmps32
    go_wp2_with fail
    generalize w.alloc (.cells #[.int .i64 g, .int .i64 b, .int .i64 p, .int .i64 t, .slice A xs.length c, .slice A2 ms.length c2, .slice A3 gs.length c3, .slice A4 im.length c4] 33) = W at *
    refine (HOK.out W hx0).mono ?_
    rintro e w1 ⟨rfl, hk⟩
    have hx := hx0.trans hk
    go_wp2
    go_ret2
    exact ⟨_, _, rfl, Sl.none_ _ _ _ _ _, hx⟩
  | true =>
    have HY := Lib.hid (Vl.y hv)
    have HOK := Lib.hid (fun (w' : World) (hx : Nx w w') => hOK w' (h.below hx hB) (Nat.le_trans hB hx.size) hn hc hc3 hm)
    have HVW := Lib.hid (fun (w' : World) (hx : Nx w w') => hVW w' (h.img.below hx hB) (Nat.le_trans hB hx.size) HY.out.l8)
    have HRt := Lib.hid (fun (w' : World) (hx : Nx w w') => hRt w' (h.sgs.below hx hB) (Nat.le_trans hB hx.size) hn.gs)
    rw [hv] at HOK
    have HT := Lib.hid (rtR_yes hv)
    rw [HT.out]
    clear hOK h hn hc hc3 hm hv hRt hVW
    obtain ⟨g, b, p, t, A, c, xs, A2, c2, ms, A3, c3, gs, A4, c4, im⟩ := V
    simp only [Vl.v, Vl.cells, Vl.w, Vl.wcells] at *
    have b0 := Box.new w 33 #[.int .i64 g, .int .i64 b, .int .i64 p, .int .i64 t, .slice A xs.length c, .slice A2 ms.length c2, .slice A3 gs.length c3, .slice A4 im.length c4]
    have hx0 := (Nx.refl w).alloc (.cells #[.int .i64 g, .int .i64 b, .int .i64 p, .int .i64 t, .slice A xs.length c, .slice A2 ms.length c2, .slice A3 gs.length c3, .slice A4 im.length c4] 33)
    go_enter Tryz.func32, Tryz.ntmps32
    go_wp2_with fail
    generalize w.alloc (.cells #[.int .i64 g, .int .i64 b, .int .i64 p, .int .i64 t, .slice A xs.length c, .slice A2 ms.length c2, .slice A3 gs.length c3, .slice A4 im.length c4] 33) = W at *
    refine (HOK.out W hx0).mono ?_
    rintro e w1 ⟨rfl, hk⟩
    have hx := hx0.trans hk
    have b1 := b0.nx hk
    clear b0 hx0 hk
    obtain ⟨y0, y1, y2, y3, y4, y5, y6, y7⟩ := b1.e8
    go_wp2_with fail
    clear y0 y1 y2 y3 y4 y5 y6 y7
    refine (HVW.out _ hx).mono ?_
    rintro e w2 ⟨rfl, hk⟩
    replace hx := hx.trans hk
    go_wp2_with fail
    refine (HRt.out _ hx).mono ?_
    rintro e w3 ⟨A9, c9, rfl, _, hS, hk⟩
    have hs := hx.size
    go_wp2
    go_ret2
    exact ⟨A9, c9, rfl, hS.low hs, hx.trans hk⟩
end Go.Proofs.YtehahodomfbpjaaGreatDoor
/- A new vault is loaded as what it is (values alone). Conditions: a right content. -/
namespace Go.Proofs.YtehahodomfbpjaaGreatDoor
set_option linter.unusedVariables false
set_option maxRecDepth 100000
open Go.RowKit

theorem getD_setB (ss : List ByteArray) (a i : Nat) (s : ByteArray) (ha : a < ss.length) : (ss.set a s).getD i ByteArray.empty = if i = a then s else ss.getD i ByteArray.empty := by
  rw [List.getD_eq_getElem?_getD, List.getElem?_set]
  by_cases h : a = i
  · subst h; rw [if_pos rfl, if_pos rfl, if_pos ha]; rfl
  · rw [if_neg h, if_neg (fun e => h e.symm), ← List.getD_eq_getElem?_getD]
def imT (c : List Int) (j : Nat) : ByteArray := sealS (numsS [(c.getD j 0).toNat])
theorem fmT_at (c : List Int) : ∀ k i, k ≤ 8 → i < 64 → (fmT c k).getD i ByteArray.empty = if i = 0 then supT 1 0 0 0 [] [] else if 2 ≤ i ∧ i < 2 + k then imT c (i - 2) else ByteArray.empty
  | 0, i, _, hi => by
    show (noS.set 0 _).getD i ByteArray.empty = _
    rw [getD_setB _ _ _ _ (by rw [noS_len]; omega), noS_at hi]
    by_cases h : i = 0
    · rw [if_pos h, if_pos h]
    · rw [if_neg h, if_neg h, if_neg (by omega)]
  | k + 1, i, hk, hi => by
    show ((fmT c k).set (2 + k) _).getD i ByteArray.empty = _
    rw [getD_setB _ _ _ _ (by rw [fmT_len]; omega), fmT_at c k i (by omega) hi]
    by_cases h : i = 2 + k
    · rw [if_pos h, if_neg (by omega), if_pos (by omega), h, show 2 + k - 2 = k by omega]; rfl
    · rw [if_neg h]
      by_cases h0 : i = 0
      · rw [if_pos h0, if_pos h0]
      · rw [if_neg h0, if_neg h0]
        by_cases h2 : 2 ≤ i ∧ i < 2 + k
        · rw [if_pos h2, if_pos (by omega)]
        · rw [if_neg h2, if_neg (by omega)]
theorem readP_nil (ss : List ByteArray) (a : Nat) : readP ss [] a = ss.getD a ByteArray.empty := rfl
theorem supT0_size : (supT 1 0 0 0 [] []).size ≤ 300 := by
  unfold supT
  rw [sealS_size, ByteArray.size_append, ByteArray.size_append, numsS_size, supN_len, show wds [] = [] from rfl, jn_nil]
  show 4 * 6 + 1 + 0 + 3 ≤ 300
  omega
theorem imT_size (c : List Int) (j : Nat) : (imT c j).size ≤ 300 := by unfold imT; rw [sealS_size, numsS_size]; simp
theorem fmT_disk (c : List Int) : diskB (fmT c 8) [] = true := by
  unfold diskB
  rw [fmT_len]
  have h : (fmT c 8).all sOk = true := List.all_eq_true.2 fun x hx => by
    obtain ⟨i, hi, e⟩ := List.getElem_of_mem hx
    have hi' : i < 64 := by rw [fmT_len] at hi; exact hi
    have h2 := fmT_at c 8 i (Nat.le_refl _) hi'
    rw [List.getD_eq_getElem?_getD, List.getElem?_eq_getElem hi, Option.getD_some, e] at h2
    unfold sOk
    rw [h2]
    by_cases h0 : i = 0
    · rw [if_pos h0]; exact decide_eq_true supT0_size
    · rw [if_neg h0]
      by_cases h3 : 2 ≤ i ∧ i < 2 + 8
      · rw [if_pos h3]; exact decide_eq_true (imT_size c _)
      · rw [if_neg h3]; rfl
  rw [h]; rfl
def fmV (c : List Int) : Vl := ⟨1, 0, 0, 0, none, 0, [], none, 0, [], none, 0, [], none, 0, c⟩
theorem fmT_im {c : List Int} (hc : contB c = true) {j : Nat} (hj : j < 8) : ldI (fmT c 8) [] j = some (c.getD j 0) := by
  have hv := (contB_yes hc).2 j hj
  unfold ldI
  rw [readP_nil, fmT_at c 8 (2 + j) (Nat.le_refl _) (by omega), if_neg (by omega), if_pos (by omega), show 2 + j - 2 = j by omega]
  unfold imT
  rw [rdN_seal _ (one_six hv.1 hv.2)]
  show some (((c.getD j 0).toNat : Nat) : Int) = _
  rw [Int.toNat_of_nonneg hv.1]
theorem fmV_y {c : List Int} (hc : contB c = true) : VltY 1 0 0 0 [] [] [] c :=
  ⟨super_new, hc, rfl, by decide, by decide, by unfold fitF; simp, by unfold fitB stp; simp [ahd, retL, idx]⟩
theorem fmV_ok {c : List Int} (hc : contB c = true) : (fmV c).ok = true := (fmV_y hc).b
theorem fmT_new (c : List Int) : newU (rdU (readP (fmT c 8) [] 0)) (rdU (readP (fmT c 8) [] 1)) = some ((1, 0, 0, 0, [], []), 0) := by
  rw [readP_nil, readP_nil, fmT_at c 8 0 (Nat.le_refl _) (by omega), fmT_at c 8 1 (Nat.le_refl _) (by omega), if_pos rfl, if_neg (by omega), if_neg (by omega), rdU_back super_new, rdU_shut (opensB_short (by decide))]; rfl
theorem fmT_ld {c : List Int} (hc : contB c = true) : ldA (fmT c 8) [] = (fmV c, 0) := by
  rw [ldA_yes (fmT_disk c)]
  have hW : ldW (fmT c 8) [] (1, 0, 0, 0, [], []) = fmV c := by
    have e : (List.range 8).map (ldX (fmT c 8) []) = c := by
      refine ext8 (by simp) (contB_yes hc).1 fun j hj => ?_
      rw [List.getD_eq_getElem?_getD, List.getElem?_map, List.getElem?_range hj]
      show (ldI (fmT c 8) [] j).getD 0 = _
      rw [fmT_im hc hj]; rfl
    unfold ldW vlU fmV
    simp only [List.map_nil]
    rw [e]
  have hO : ldOk (fmT c 8) [] (1, 0, 0, 0, [], []) = true := by
    unfold ldOk
    rw [Bool.and_eq_true]
    exact ⟨rfl, List.all_eq_true.2 fun j hj => by rw [fmT_im hc (by simpa using hj)]; rfl⟩
  have := ldV_yes (fmT_new c) hO (by rw [hW]; exact fmV_ok hc)
  rw [this, hW]
theorem fmV_ct0 {c : List Int} (hc : contB c = true) : ctR (fmV c) 0 = (c, 0) := by
  rw [ctR_yes (fmV_ok hc) (by show isRet 0 [] 0 = true; decide)]
  congr 1
theorem fmV_ct1 {c : List Int} (hc : contB c = true) : ctR (fmV c) 1 = ([], 11) := ctR_none (fmV_ok hc) (by show isRet 0 [] 1 = false; decide)
theorem fmV_rt {c : List Int} (hc : contB c = true) : rtR (fmV c) = ([0], 0) := by rw [rtR_yes (fmV_ok hc)]; rfl
end Go.Proofs.YtehahodomfbpjaaGreatDoor
