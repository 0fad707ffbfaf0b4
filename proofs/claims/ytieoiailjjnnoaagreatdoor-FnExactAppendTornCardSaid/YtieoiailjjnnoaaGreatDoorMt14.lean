/-
  Texts of the proof, in their order.
  Conditions: those of each.
-/
import Derived.Test.YtieoiailjjnnoaaGreatDoorMt13
namespace Go.Proofs.YtieoiailjjnnoaaGreatDoor
set_option linter.unusedVariables false
set_option maxRecDepth 100000
set_option maxHeartbeats 16000000
open Go.RowKit
theorem contentAt_c (V : Vl) (x : Int) (B : Nat) (w : World) (h : Sgs w B V.A3 V.gs) (hB : B ≤ w.heap.size) (hy : VltY V.g V.b V.p V.t V.xs V.ms V.gs V.im) (hr : isRet V.b V.gs x = true) :
 Calls Tryz.prog 71 #[V.w, ii x] w fun e w' => e = .returned (vA (cntV V.b V.p V.t V.gs V.im x)) ∧ Nx w w' := by
 have hSD := stepDone_c V B
 have hSA := segsAhead_c V x B
 obtain ⟨g, b, p, t, A, c, xs, A2, c2, ms, A3, c3, gs, A4, c4, im⟩ := V
 simp only [Vl.w, Vl.wcells] at *
 have HLd := qh (chainB_lead hy.chain)
 have HSD := qh (fun (w' : World) (hx : Nx w w') => hSD w' (h.below hx hB) (ntr hB hx.size) HLd.out hy.l8 hy.ahd.1 hy.ahd.2)
 have HSA := qh (fun (w' : World) (hx : Nx w w') => hSA w' (h.below hx hB) (ntr hB hx.size) hy.n4 hr)
 have HSL := qh (stp_le (t := t) im HLd.out hy.places)
 have HSg := qh (fun (k : Nat) (hk : k < gs.length) (w' : World) (hx : Nx w w') => (h.below hx hB).row.at4 hk)
 have HCh := qh (fun (k : Nat) (hk : k < gs.length) (w' : World) (hx : Nx w w') => (h.chs k hk).below hx hB)
 have HAx := qh (ahd_at hr)
 have Hct : Hid (cntV b p t gs im x = bkK (fwK (stp b p t gs im).1 gs (stp b p t gs im).2 (ahd b gs x - (stp b p t gs im).2)) gs (stp b p t gs im).2 ((stp b p t gs im).2 - ahd b gs x)) := qh (by
  unfold cntV
  by_cases hle : (stp b p t gs im).2 ≤ ahd b gs x
  · rw [if_pos hle, show (stp b p t gs im).2 - ahd b gs x = 0 by omega]; rfl
  · rw [if_neg hle, show ahd b gs x - (stp b p t gs im).2 = 0 by omega]; rfl)
 have H8 := qh hy.l8
 have hn9 := hy.n4
 obtain ⟨n, Hn⟩ : ∃ n, Hid (gs.length = n) := ⟨_, rfl⟩
 rw [Hn.out] at HSg HCh HAx hn9 HSD HSA
 rw [Hct.out]
 obtain ⟨c0, Hc0⟩ : ∃ c0, Hid ((stp b p t gs im).1 = c0) := ⟨_, rfl⟩
 obtain ⟨a, Hat⟩ : ∃ a, Hid ((stp b p t gs im).2 = a) := ⟨_, rfl⟩
 obtain ⟨e9, He⟩ : ∃ e9, Hid (ahd b gs x = e9) := ⟨_, rfl⟩
 have HL0 : Hid (c0.length = 8) := qh (by rw [← Hc0.out, stp_len]; exact H8.out)
 rw [Hc0.out, Hat.out] at HSD
 rw [He.out] at HAx HSA
 rw [Hc0.out, Hat.out, He.out, Hn.out]
 have hat : a ≤ n := by have := HSL.out.1; rw [Hat.out, Hn.out] at this; exact this
 have hen : e9 ≤ n := HAx.out.1
 have HOKs := qh (fun k (hk : k < n) => HLd.out.ok k (by rw [Hn.out]; exact hk))
 have b0 : Box ((w.alloc (.cells #[ii g, ii b, ii p, ii t, .slice A xs.length c, .slice A2 ms.length c2, .slice A3 n c3, inAt im 0, inAt im 1, inAt im 2, inAt im 3, inAt im 4, inAt im 5, inAt im 6, inAt im 7] 107)).alloc (.cells #[ii 0, ii 0, ii 0, ii 0, ii 0, ii 0, ii 0, ii 0] 105)) w.heap.size 107 #[ii g, ii b, ii p, ii t, .slice A xs.length c, .slice A2 ms.length c2, .slice A3 n c3, inAt im 0, inAt im 1, inAt im 2, inAt im 3, inAt im 4, inAt im 5, inAt im 6, inAt im 7] := (Box.new w _ _).alloc _
 have r0 : Box ((w.alloc (.cells #[ii g, ii b, ii p, ii t, .slice A xs.length c, .slice A2 ms.length c2, .slice A3 n c3, inAt im 0, inAt im 1, inAt im 2, inAt im 3, inAt im 4, inAt im 5, inAt im 6, inAt im 7] 107)).alloc (.cells #[ii 0, ii 0, ii 0, ii 0, ii 0, ii 0, ii 0, ii 0] 105)) (w.heap.size + 1) 105 #[ii 0, ii 0, ii 0, ii 0, ii 0, ii 0, ii 0, ii 0] := by have := Box.new (w.alloc (.cells #[ii g, ii b, ii p, ii t, .slice A xs.length c, .slice A2 ms.length c2, .slice A3 n c3, inAt im 0, inAt im 1, inAt im 2, inAt im 3, inAt im 4, inAt im 5, inAt im 6, inAt im 7] 107)) 105 #[ii 0, ii 0, ii 0, ii 0, ii 0, ii 0, ii 0, ii 0]; rwa [World.size_alloc] at this
 have hx0 := ((Nx.refl w).alloc (.cells #[ii g, ii b, ii p, ii t, .slice A xs.length c, .slice A2 ms.length c2, .slice A3 n c3, inAt im 0, inAt im 1, inAt im 2, inAt im 3, inAt im 4, inAt im 5, inAt im 6, inAt im 7] 107)).alloc (.cells #[ii 0, ii 0, ii 0, ii 0, ii 0, ii 0, ii 0, ii 0] 105)
 clear hSD hSA h hy hr
 go_enter Tryz.func71, Tryz.ntmps71
 go_wp2_with fail
 generalize ((w.alloc (.cells #[ii g, ii b, ii p, ii t, .slice A xs.length c, .slice A2 ms.length c2, .slice A3 n c3, inAt im 0, inAt im 1, inAt im 2, inAt im 3, inAt im 4, inAt im 5, inAt im 6, inAt im 7] 107)).alloc (.cells #[ii 0, ii 0, ii 0, ii 0, ii 0, ii 0, ii 0, ii 0] 105)) = W at *
 obtain ⟨gR, HgR⟩ : ∃ g, Hid (w.heap.size + 1 = g) := ⟨_, rfl⟩
 have hgR : w.heap.size ≤ gR := by have := HgR.out; omega
 rw [HgR.out]
 rw [HgR.out] at r0
 refine (HSD.out _ hx0).mono ?_
 rintro e w1 ⟨rfl, hk⟩
 unfold vA
 have b1 := b0.nx hk
 have r1 := r0.nx hk
 replace hx0 := hx0.trans hk
 have rz := Box.new w1 105 #[ii 0, ii 0, ii 0, ii 0, ii 0, ii 0, ii 0, ii 0]
 have b2 := (b1.alloc (.cells #[ii 0, ii 0, ii 0, ii 0, ii 0, ii 0, ii 0, ii 0] 105)).rowfar (show w.heap.size ≠ w1.heap.size by have := b1.lt; omega) #[inAt c0 0, inAt c0 1, inAt c0 2, inAt c0 3, inAt c0 4, inAt c0 5, inAt c0 6, inAt c0 7]
 have r2 := (r1.alloc (.cells #[ii 0, ii 0, ii 0, ii 0, ii 0, ii 0, ii 0, ii 0] 105)).rowfar (show gR ≠ w1.heap.size by have := r1.lt; omega) #[inAt c0 0, inAt c0 1, inAt c0 2, inAt c0 3, inAt c0 4, inAt c0 5, inAt c0 6, inAt c0 7]
 have ba := rz.row #[inAt c0 0, inAt c0 1, inAt c0 2, inAt c0 3, inAt c0 4, inAt c0 5, inAt c0 6, inAt c0 7]
 have hx2 := (hx0.alloc (.cells #[ii 0, ii 0, ii 0, ii 0, ii 0, ii 0, ii 0, ii 0] 105)).setRow (g := w1.heap.size) hx0.size #[inAt c0 0, inAt c0 1, inAt c0 2, inAt c0 3, inAt c0 4, inAt c0 5, inAt c0 6, inAt c0 7]
 have hneA : w.heap.size ≠ w1.heap.size := by have := b1.lt; omega
 have hneAR : gR ≠ w1.heap.size := by have := r1.lt; omega
 have hgA : w.heap.size ≤ w1.heap.size := hx0.size
 obtain ⟨y0, y1, y2, y3, y4, y5, y6, y7, y8, y9, y10, y11, y12, y13, y14⟩ := b2.e15
 clear b0 r0 hk b1 r1
 go_wp2_with (refine wpList_store_row rfl _ _ _ rfl w1.heap.size #[inAt c0 0, inAt c0 1, inAt c0 2, inAt c0 3, inAt c0 4, inAt c0 5, inAt c0 6, inAt c0 7] rfl rfl 105 #[ii 0, ii 0, ii 0, ii 0, ii 0, ii 0, ii 0, ii 0] rz (by kernel_rfl) rfl (by simp [Value.oneCell', inAt]) ?_)
 clear y0 y1 y2 y3 y4 y5 y6 y7 y8 y9 y10 y11 y12 y13 y14 rz hx0
 generalize (w1.alloc (.cells #[ii 0, ii 0, ii 0, ii 0, ii 0, ii 0, ii 0, ii 0] 105)).setRow w1.heap.size #[inAt c0 0, inAt c0 1, inAt c0 2, inAt c0 3, inAt c0 4, inAt c0 5, inAt c0 6, inAt c0 7] = Wl at *
 generalize w1.heap.size = gA at *
 refine (HSA.out _ hx2).mono ?_
 rintro e w3 ⟨rfl, hk⟩
 have ba3 := ba.nx hk
 have b3 := b2.nx hk
 have r3 := r2.nx hk
 have hx3 := hx2.trans hk
 clear ba b2 r2 hx2 hk
 go_wp2_with fail
 go_loopw [6] (fun i wr => ∃ k : Nat, a ≤ k ∧ k ≤ max a e9 ∧ i = ii k ∧ Box wr gA 105 #[inAt (fwK c0 gs a (k - a)) 0, inAt (fwK c0 gs a (k - a)) 1, inAt (fwK c0 gs a (k - a)) 2, inAt (fwK c0 gs a (k - a)) 3, inAt (fwK c0 gs a (k - a)) 4, inAt (fwK c0 gs a (k - a)) 5, inAt (fwK c0 gs a (k - a)) 6, inAt (fwK c0 gs a (k - a)) 7] ∧ Nx w wr ∧ Box wr w.heap.size 107 #[ii g, ii b, ii p, ii t, .slice A xs.length c, .slice A2 ms.length c2, .slice A3 n c3, inAt im 0, inAt im 1, inAt im 2, inAt im 3, inAt im 4, inAt im 5, inAt im 6, inAt im 7] ∧ Box wr gR 105 #[ii 0, ii 0, ii 0, ii 0, ii 0, ii 0, ii 0, ii 0]) (fun i _ => max a e9 - (intOf i).toNat)
 case atStart => exact ⟨a, Nat.le_refl _, by omega, rfl, by rw [Nat.sub_self]; exact ba3, hx3, b3, r3⟩
 case round =>
 obtain ⟨k, hka, hkm, rfl, hbx, hnx, hb, hr⟩ := hrel
 clear ba3 hx3 b3 r3
 by_cases hke : k < e9
 · have hd : decide ((k : Int) < (e9 : Int)) = true := decide_eq_true (by omega)
   have hdN : decide (k < e9) = true := decide_eq_true hke
   have hkn : k < n := by omega
   obtain ⟨j, Hj⟩ : ∃ j, Hid (k - a = j) := ⟨_, rfl⟩
   have Hkj : Hid (a + j = k) := qh (by have := Hj.out; omega)
   rw [Hj.out] at hbx
   obtain ⟨bb, off, rfl, hbb, p0, p1, p2, p3⟩ := HSg.out k hkn wr hnx
   have hbw : bb < wr.heap.size := Nat.lt_of_lt_of_le hbb (ntr hB hnx.size)
   have HCk := qh (HCh.out k hkn)
   have HOKc := qh (HOKs.out k hkn)
   have HLj : Hid ((fwK c0 gs a j).length = 8) := qh (by rw [fwK_len]; exact HL0.out)
   have Hsuc : Hid (fwK c0 gs a (j + 1) = app pN (fwK c0 gs a j) (gs.getD k sgZ).cs) := qh (by rw [← Hkj.out]; rfl)
   obtain ⟨cj, Hcj⟩ : ∃ cj, Hid (fwK c0 gs a j = cj) := ⟨_, rfl⟩
   rw [Hcj.out] at HLj Hsuc hbx
   obtain ⟨⟨f, t9, m9, Ac, cc, cs⟩, Hs⟩ : ∃ s, Hid (gs.getD k sgZ = s) := ⟨_, rfl⟩
   rw [Hs.out] at p0 p1 p2 p3 HCk HOKc Hsuc
   simp only at p0 p1 p2 p3 HCk HOKc Hsuc
   have hkc : (k : Int) < (n : Int) := by omega
   have hk0 : (0 : Int) ≤ (k : Int) := by omega
   have Hin := qh hkn
   clear hkn
   have Hke := qh hke
   clear hke
   go_wp2_with fail
   have bae := hbx.nx (Nx.refl _).drew
   have vbe : Box wr.drew w.heap.size 107 #[ii g, ii b, ii p, ii t, .slice A xs.length c, .slice A2 ms.length c2, .slice (some ⟨bb, off, none⟩) n c3, inAt im 0, inAt im 1, inAt im 2, inAt im 3, inAt im 4, inAt im 5, inAt im 6, inAt im 7] := hb
   have rre := hr.nx (Nx.refl _).drew
   have hnxe := hnx.drew
   replace hbw : bb < wr.drew.heap.size := hbw
   have p0 : wr.drew.cell? ⟨bb, off + k * 4, none⟩ = _ := p0; have p1 : wr.drew.cell? ⟨bb, off + k * 4 + 1, none⟩ = _ := p1; have p2 : wr.drew.cell? ⟨bb, off + k * 4 + 2, none⟩ = _ := p2; have p3 : wr.drew.cell? ⟨bb, off + k * 4 + 3, none⟩ = _ := p3
   have hneb : bb ≠ gA := by omega
   clear hbx hb hr
   refine wp_planA (.t 1 (.t 2 (.t 3 (.t 4 (.t 5 (.c 0 (.c 6 (.c 7 .e)))))))) (fun w' => w'.cell? ⟨w.heap.size, 6, none⟩ = some (.slice (some ⟨bb, off, none⟩) n c3) ∧ w'.cell? ⟨bb, off + k * 4, none⟩ = some (ii f) ∧ w'.cell? ⟨bb, off + k * 4 + 1, none⟩ = some (ii t9) ∧ w'.cell? ⟨bb, off + k * 4 + 2, none⟩ = some (ii m9) ∧ w'.cell? ⟨bb, off + k * 4 + 3, none⟩ = some (.slice Ac cs.length cc)) (by exact ⟨vbe.cell 6, p0, p1, p2, p3⟩) ?_
   simp only [psOf, List.getD_cons_zero, List.getD_cons_succ]
   repeat ((first | refine HP.tk ?_ | refine HP.sk ?_); try simp only [Act.put, qqA, qqB, qqC])
   refine hPc fun K hK => ?_
   refine wp_load_row _ _ rfl gA rfl 105 #[inAt cj 0, inAt cj 1, inAt cj 2, inAt cj 3, inAt cj 4, inAt cj 5, inAt cj 6, inAt cj 7] (0, 0) _ bae und_values rfl (by kernel_rfl) ?_
   refine hK.out _ _ (by exact ⟨vbe.cell 6, p0, p1, p2, p3⟩) ?_
   clear hK K
   try simp only [Act.put]
   refine hPc fun K hK => ?_
   go_simp
   have hcl := valuesForward_c f t9 m9 Ac cc B cs cj _ (HCk.out _ hnxe) (ntr hB hnxe.size) HOKc.out HLj.out; unfold vA at hcl; refine hcl.mono ?_; rintro e w9 ⟨rfl, hk9⟩; clear hcl; have ba9 := bae.nx hk9; have vb9 := vbe.nx hk9; have hnx9 := hnxe.trans hk9; have hbw9 := hbw; replace hbw := Nat.lt_of_lt_of_le hbw hk9.size; have hbq9 : bb < w.heap.size := Nat.lt_of_lt_of_le hbb hB; replace p0 := (hk9.cell (p := ⟨bb, off + k * 4, none⟩) hbw9).trans p0; replace p1 := (hk9.cell (p := ⟨bb, off + k * 4 + 1, none⟩) hbw9).trans p1; replace p2 := (hk9.cell (p := ⟨bb, off + k * 4 + 2, none⟩) hbw9).trans p2; replace p3 := (hk9.cell (p := ⟨bb, off + k * 4 + 3, none⟩) hbw9).trans p3; have rr9 := rre.nx hk9
   go_wp2_with fail
   refine hK.out _ _ (by exact ⟨vb9.cell 6, p0, p1, p2, p3⟩) ?_
   clear hK K
   try simp only [Act.put, qqA, qqB, qqC]
   refine hPc fun K hK => ?_
   refine wp_store_row _ _ _ rfl gA #[inAt (app pN cj cs) 0, inAt (app pN cj cs) 1, inAt (app pN cj cs) 2, inAt (app pN cj cs) 3, inAt (app pN cj cs) 4, inAt (app pN cj cs) 5, inAt (app pN cj cs) 6, inAt (app pN cj cs) 7] rfl rfl 105 #[inAt cj 0, inAt cj 1, inAt cj 2, inAt cj 3, inAt cj 4, inAt cj 5, inAt cj 6, inAt cj 7] ba9 (by kernel_rfl) rfl (by simp [Value.oneCell', inAt]) ?_
   refine hK.out _ _ (by exact ⟨(vb9.rowfar hneA #[inAt (app pN cj cs) 0, inAt (app pN cj cs) 1, inAt (app pN cj cs) 2, inAt (app pN cj cs) 3, inAt (app pN cj cs) 4, inAt (app pN cj cs) 5, inAt (app pN cj cs) 6, inAt (app pN cj cs) 7]).cell 6, ((cell_row_far w9 gA #[inAt (app pN cj cs) 0, inAt (app pN cj cs) 1, inAt (app pN cj cs) 2, inAt (app pN cj cs) 3, inAt (app pN cj cs) 4, inAt (app pN cj cs) 5, inAt (app pN cj cs) 6, inAt (app pN cj cs) 7] (p := ⟨bb, off + k * 4, none⟩) (by simp; omega)).trans p0), ((cell_row_far w9 gA #[inAt (app pN cj cs) 0, inAt (app pN cj cs) 1, inAt (app pN cj cs) 2, inAt (app pN cj cs) 3, inAt (app pN cj cs) 4, inAt (app pN cj cs) 5, inAt (app pN cj cs) 6, inAt (app pN cj cs) 7] (p := ⟨bb, off + k * 4 + 1, none⟩) (by simp; omega)).trans p1), ((cell_row_far w9 gA #[inAt (app pN cj cs) 0, inAt (app pN cj cs) 1, inAt (app pN cj cs) 2, inAt (app pN cj cs) 3, inAt (app pN cj cs) 4, inAt (app pN cj cs) 5, inAt (app pN cj cs) 6, inAt (app pN cj cs) 7] (p := ⟨bb, off + k * 4 + 2, none⟩) (by simp; omega)).trans p2), ((cell_row_far w9 gA #[inAt (app pN cj cs) 0, inAt (app pN cj cs) 1, inAt (app pN cj cs) 2, inAt (app pN cj cs) 3, inAt (app pN cj cs) 4, inAt (app pN cj cs) 5, inAt (app pN cj cs) 6, inAt (app pN cj cs) 7] (p := ⟨bb, off + k * 4 + 3, none⟩) (by simp; omega)).trans p3)⟩) ?_
   clear hK K
   try simp only [Act.put]
   refine HP.done ?_
   have bz := ba9.row #[inAt (app pN cj cs) 0, inAt (app pN cj cs) 1, inAt (app pN cj cs) 2, inAt (app pN cj cs) 3, inAt (app pN cj cs) 4, inAt (app pN cj cs) 5, inAt (app pN cj cs) 6, inAt (app pN cj cs) 7]
   have vz := vb9.rowfar hneA #[inAt (app pN cj cs) 0, inAt (app pN cj cs) 1, inAt (app pN cj cs) 2, inAt (app pN cj cs) 3, inAt (app pN cj cs) 4, inAt (app pN cj cs) 5, inAt (app pN cj cs) 6, inAt (app pN cj cs) 7]
   have rz := rr9.rowfar hneAR #[inAt (app pN cj cs) 0, inAt (app pN cj cs) 1, inAt (app pN cj cs) 2, inAt (app pN cj cs) 3, inAt (app pN cj cs) 4, inAt (app pN cj cs) 5, inAt (app pN cj cs) 6, inAt (app pN cj cs) 7]
   have hnxz := hnx9.setRow hgA #[inAt (app pN cj cs) 0, inAt (app pN cj cs) 1, inAt (app pN cj cs) 2, inAt (app pN cj cs) 3, inAt (app pN cj cs) 4, inAt (app pN cj cs) 5, inAt (app pN cj cs) 6, inAt (app pN cj cs) 7]
   generalize w9.setRow gA #[inAt (app pN cj cs) 0, inAt (app pN cj cs) 1, inAt (app pN cj cs) 2, inAt (app pN cj cs) 3, inAt (app pN cj cs) 4, inAt (app pN cj cs) 5, inAt (app pN cj cs) 6, inAt (app pN cj cs) 7] = Wz at *
   go_wp2
   go_roundw
   case rel => exact ⟨k + 1, by omega, by have := Hke.out; omega, by go_num, by rw [show k + 1 - a = j + 1 by have := Hkj.out; omega, Hsuc.out]; exact bz, hnxz, vz, rz⟩
   case measure => (have := Hke.out; simp [intOf] <;> omega)
 have hd : decide ((k : Int) < (e9 : Int)) = false := decide_eq_false (by omega)
 have hdN : decide (k < e9) = false := decide_eq_false hke
 have Hkm : Hid (k = max a e9) := qh (by omega)
 obtain ⟨d0, Hd0⟩ : ∃ d0, Hid (fwK c0 gs a (e9 - a) = d0) := ⟨_, rfl⟩
 have HLd0 : Hid (d0.length = 8) := qh (by rw [← Hd0.out, fwK_len]; exact HL0.out)
 rw [show k - a = e9 - a by have := Hkm.out; omega, Hd0.out] at hbx
 have Hke := qh hke
 clear hke
 go_wp2_with fail
 clear hd hdN
 go_loopw [6] (fun i wr => ∃ k : Nat, e9 ≤ k ∧ k ≤ max a e9 ∧ i = ii k ∧ Box wr gA 105 #[inAt (bkK d0 gs a (a - k)) 0, inAt (bkK d0 gs a (a - k)) 1, inAt (bkK d0 gs a (a - k)) 2, inAt (bkK d0 gs a (a - k)) 3, inAt (bkK d0 gs a (a - k)) 4, inAt (bkK d0 gs a (a - k)) 5, inAt (bkK d0 gs a (a - k)) 6, inAt (bkK d0 gs a (a - k)) 7] ∧ Nx w wr ∧ Box wr w.heap.size 107 #[ii g, ii b, ii p, ii t, .slice A xs.length c, .slice A2 ms.length c2, .slice A3 n c3, inAt im 0, inAt im 1, inAt im 2, inAt im 3, inAt im 4, inAt im 5, inAt im 6, inAt im 7] ∧ Box wr gR 105 #[ii 0, ii 0, ii 0, ii 0, ii 0, ii 0, ii 0, ii 0]) (fun i _ => (intOf i).toNat)
 case atStart => exact ⟨k, by have := Hke.out; omega, hkm, rfl, by rw [show a - k = 0 by omega]; exact hbx, hnx, hb, hr⟩
 case round =>
 clear hbx hnx hb hr hka hkm Hke Hkm
 obtain ⟨u, hka, hkm, rfl, hbx, hnx, hb, hr⟩ := hrel
 by_cases hke : e9 < u
 case neg =>
  obtain rfl : e9 = u := by omega
  have hd : decide ((e9 : Int) < (e9 : Int)) = false := by simp
  obtain ⟨y0, y1, y2, y3, y4, y5, y6, y7⟩ := hbx.e8
  have Hfin : Hid (bkK (fwK c0 gs a (e9 - a)) gs a (a - e9) = bkK d0 gs a (a - e9)) := qh (by rw [Hd0.out])
  obtain ⟨z, Hz⟩ : ∃ z, Hid (bkK d0 gs a (a - e9) = z) := ⟨_, rfl⟩
  rw [Hz.out] at hbx y0 y1 y2 y3 y4 y5 y6 y7
  have q := hr.row #[inAt z 0, inAt z 1, inAt z 2, inAt z 3, inAt z 4, inAt z 5, inAt z 6, inAt z 7]
  have hnf := hnx.setRow hgR #[inAt z 0, inAt z 1, inAt z 2, inAt z 3, inAt z 4, inAt z 5, inAt z 6, inAt z 7]
  go_wp2_with (refine wpList_store_row rfl _ _ _ rfl gR #[inAt z 0, inAt z 1, inAt z 2, inAt z 3, inAt z 4, inAt z 5, inAt z 6, inAt z 7] rfl rfl 105 #[ii 0, ii 0, ii 0, ii 0, ii 0, ii 0, ii 0, ii 0] hr (by kernel_rfl) rfl (by simp [Value.oneCell', inAt]) ?_)
  generalize wr.setRow gR #[inAt z 0, inAt z 1, inAt z 2, inAt z 3, inAt z 4, inAt z 5, inAt z 6, inAt z 7] = Wf at *
  obtain ⟨g0, g1, g2, g3, g4, g5, g6, g7⟩ := q.e8
  exact bodyPost_ret (v := .agg #[inAt z 0, inAt z 1, inAt z 2, inAt z 3, inAt z 4, inAt z 5, inAt z 6, inAt z 7]) (by simp [results, Tryz.results71, go_sem, g0, g1, g2, g3, g4, g5, g6, g7]) rfl ⟨by rw [Hfin.out, Hz.out]; rfl, hnf⟩
 obtain ⟨i, rfl⟩ : ∃ i, u = i + 1 := ⟨u - 1, by omega⟩
 have hd : decide ((e9 : Int) < ((i + 1 : Nat) : Int)) = true := decide_eq_true (by omega)
 have hd2 : decide ((e9 : Int) < (i : Int) + 1) = true := decide_eq_true (by omega)
 have hdN : decide (e9 < i + 1) = true := decide_eq_true hke
 have hkn : i < n := by omega
 have hwi : IntKind.i64.wrap (i : Int) = (i : Int) := IntWalk.i64_in _ (by omega)
 obtain ⟨j, Hj⟩ : ∃ j, Hid (a - (i + 1) = j) := ⟨_, rfl⟩
 have Hkj : Hid (i = a - 1 - j) := qh (by have := Hj.out; omega)
 have Hm1 : Hid (a - i = j + 1) := qh (by have := Hj.out; omega)
 rw [Hj.out] at hbx
 obtain ⟨bb, off, rfl, hbb, p0, p1, p2, p3⟩ := HSg.out i hkn wr hnx
 have hbw : bb < wr.heap.size := Nat.lt_of_lt_of_le hbb (ntr hB hnx.size)
 have HCk := qh (HCh.out i hkn)
 have HOKc := qh (HOKs.out i hkn)
 have HLj : Hid ((bkK d0 gs a j).length = 8) := qh (by rw [bkK_len]; exact HLd0.out)
 have Hsuc : Hid (bkK d0 gs a (j + 1) = app pO (bkK d0 gs a j) (gs.getD i sgZ).cs) := qh (by rw [Hkj.out]; rfl)
 obtain ⟨cj, Hcj⟩ : ∃ cj, Hid (bkK d0 gs a j = cj) := ⟨_, rfl⟩
 rw [Hcj.out] at HLj Hsuc hbx
 obtain ⟨⟨f, t9, m9, Ac, cc, cs⟩, Hs⟩ : ∃ s, Hid (gs.getD i sgZ = s) := ⟨_, rfl⟩
 rw [Hs.out] at p0 p1 p2 p3 HCk HOKc Hsuc
 simp only at p0 p1 p2 p3 HCk HOKc Hsuc
 have hkc : (i : Int) < (n : Int) := by omega
 have hk0 : (0 : Int) ≤ (i : Int) := by omega
 have Hin := qh hkn
 clear hkn
 have Hke := qh hke
 clear hke
 go_wp2_with fail
 have bae := hbx.nx (Nx.refl _).drew
 have vbe : Box wr.drew w.heap.size 107 #[ii g, ii b, ii p, ii t, .slice A xs.length c, .slice A2 ms.length c2, .slice (some ⟨bb, off, none⟩) n c3, inAt im 0, inAt im 1, inAt im 2, inAt im 3, inAt im 4, inAt im 5, inAt im 6, inAt im 7] := hb
 have rre := hr.nx (Nx.refl _).drew
 have hnxe := hnx.drew
 replace hbw : bb < wr.drew.heap.size := hbw
 have p0 : wr.drew.cell? ⟨bb, off + i * 4, none⟩ = _ := p0; have p1 : wr.drew.cell? ⟨bb, off + i * 4 + 1, none⟩ = _ := p1; have p2 : wr.drew.cell? ⟨bb, off + i * 4 + 2, none⟩ = _ := p2; have p3 : wr.drew.cell? ⟨bb, off + i * 4 + 3, none⟩ = _ := p3
 have hneb : bb ≠ gA := by omega
 clear hbx hb hr
 refine wp_planA (.t 1 (.t 2 (.t 3 (.t 4 (.t 5 (.t 6 (.c 0 (.c 7 (.c 8 .e))))))))) (fun w' => w'.cell? ⟨w.heap.size, 6, none⟩ = some (.slice (some ⟨bb, off, none⟩) n c3) ∧ w'.cell? ⟨bb, off + i * 4, none⟩ = some (ii f) ∧ w'.cell? ⟨bb, off + i * 4 + 1, none⟩ = some (ii t9) ∧ w'.cell? ⟨bb, off + i * 4 + 2, none⟩ = some (ii m9) ∧ w'.cell? ⟨bb, off + i * 4 + 3, none⟩ = some (.slice Ac cs.length cc)) (by exact ⟨vbe.cell 6, p0, p1, p2, p3⟩) ?_
 simp only [psOf, List.getD_cons_zero, List.getD_cons_succ]
 repeat ((first | refine HP.tk ?_ | refine HP.sk ?_); try simp only [Act.put, qqA, qqB, qqC])
 refine hPc fun K hK => ?_
 refine wp_load_row _ _ rfl gA rfl 105 #[inAt cj 0, inAt cj 1, inAt cj 2, inAt cj 3, inAt cj 4, inAt cj 5, inAt cj 6, inAt cj 7] (0, 0) _ bae und_values rfl (by kernel_rfl) ?_
 refine hK.out _ _ (by exact ⟨vbe.cell 6, p0, p1, p2, p3⟩) ?_
 clear hK K
 try simp only [Act.put]
 refine hPc fun K hK => ?_
 go_simp
 have hcl := valuesBackward_c f t9 m9 Ac cc B cs cj _ (HCk.out _ hnxe) (ntr hB hnxe.size) HOKc.out HLj.out; unfold vA at hcl; refine hcl.mono ?_; rintro e w9 ⟨rfl, hk9⟩; clear hcl; have ba9 := bae.nx hk9; have vb9 := vbe.nx hk9; have hnx9 := hnxe.trans hk9; have hbw9 := hbw; replace hbw := Nat.lt_of_lt_of_le hbw hk9.size; have hbq9 : bb < w.heap.size := Nat.lt_of_lt_of_le hbb hB; replace p0 := (hk9.cell (p := ⟨bb, off + i * 4, none⟩) hbw9).trans p0; replace p1 := (hk9.cell (p := ⟨bb, off + i * 4 + 1, none⟩) hbw9).trans p1; replace p2 := (hk9.cell (p := ⟨bb, off + i * 4 + 2, none⟩) hbw9).trans p2; replace p3 := (hk9.cell (p := ⟨bb, off + i * 4 + 3, none⟩) hbw9).trans p3; have rr9 := rre.nx hk9
 go_wp2_with fail
 refine hK.out _ _ (by exact ⟨vb9.cell 6, p0, p1, p2, p3⟩) ?_
 clear hK K
 try simp only [Act.put, qqA, qqB, qqC]
 refine hPc fun K hK => ?_
 refine wp_store_row _ _ _ rfl gA #[inAt (app pO cj cs) 0, inAt (app pO cj cs) 1, inAt (app pO cj cs) 2, inAt (app pO cj cs) 3, inAt (app pO cj cs) 4, inAt (app pO cj cs) 5, inAt (app pO cj cs) 6, inAt (app pO cj cs) 7] rfl rfl 105 #[inAt cj 0, inAt cj 1, inAt cj 2, inAt cj 3, inAt cj 4, inAt cj 5, inAt cj 6, inAt cj 7] ba9 (by kernel_rfl) rfl (by simp [Value.oneCell', inAt]) ?_
 refine hK.out _ _ (by exact ⟨(vb9.rowfar hneA #[inAt (app pO cj cs) 0, inAt (app pO cj cs) 1, inAt (app pO cj cs) 2, inAt (app pO cj cs) 3, inAt (app pO cj cs) 4, inAt (app pO cj cs) 5, inAt (app pO cj cs) 6, inAt (app pO cj cs) 7]).cell 6, ((cell_row_far w9 gA #[inAt (app pO cj cs) 0, inAt (app pO cj cs) 1, inAt (app pO cj cs) 2, inAt (app pO cj cs) 3, inAt (app pO cj cs) 4, inAt (app pO cj cs) 5, inAt (app pO cj cs) 6, inAt (app pO cj cs) 7] (p := ⟨bb, off + i * 4, none⟩) (by simp; omega)).trans p0), ((cell_row_far w9 gA #[inAt (app pO cj cs) 0, inAt (app pO cj cs) 1, inAt (app pO cj cs) 2, inAt (app pO cj cs) 3, inAt (app pO cj cs) 4, inAt (app pO cj cs) 5, inAt (app pO cj cs) 6, inAt (app pO cj cs) 7] (p := ⟨bb, off + i * 4 + 1, none⟩) (by simp; omega)).trans p1), ((cell_row_far w9 gA #[inAt (app pO cj cs) 0, inAt (app pO cj cs) 1, inAt (app pO cj cs) 2, inAt (app pO cj cs) 3, inAt (app pO cj cs) 4, inAt (app pO cj cs) 5, inAt (app pO cj cs) 6, inAt (app pO cj cs) 7] (p := ⟨bb, off + i * 4 + 2, none⟩) (by simp; omega)).trans p2), ((cell_row_far w9 gA #[inAt (app pO cj cs) 0, inAt (app pO cj cs) 1, inAt (app pO cj cs) 2, inAt (app pO cj cs) 3, inAt (app pO cj cs) 4, inAt (app pO cj cs) 5, inAt (app pO cj cs) 6, inAt (app pO cj cs) 7] (p := ⟨bb, off + i * 4 + 3, none⟩) (by simp; omega)).trans p3)⟩) ?_
 clear hK K
 try simp only [Act.put]
 refine HP.done ?_
 have bz := ba9.row #[inAt (app pO cj cs) 0, inAt (app pO cj cs) 1, inAt (app pO cj cs) 2, inAt (app pO cj cs) 3, inAt (app pO cj cs) 4, inAt (app pO cj cs) 5, inAt (app pO cj cs) 6, inAt (app pO cj cs) 7]
 have vz := vb9.rowfar hneA #[inAt (app pO cj cs) 0, inAt (app pO cj cs) 1, inAt (app pO cj cs) 2, inAt (app pO cj cs) 3, inAt (app pO cj cs) 4, inAt (app pO cj cs) 5, inAt (app pO cj cs) 6, inAt (app pO cj cs) 7]
 have rz := rr9.rowfar hneAR #[inAt (app pO cj cs) 0, inAt (app pO cj cs) 1, inAt (app pO cj cs) 2, inAt (app pO cj cs) 3, inAt (app pO cj cs) 4, inAt (app pO cj cs) 5, inAt (app pO cj cs) 6, inAt (app pO cj cs) 7]
 have hnxz := hnx9.setRow hgA #[inAt (app pO cj cs) 0, inAt (app pO cj cs) 1, inAt (app pO cj cs) 2, inAt (app pO cj cs) 3, inAt (app pO cj cs) 4, inAt (app pO cj cs) 5, inAt (app pO cj cs) 6, inAt (app pO cj cs) 7]
 generalize w9.setRow gA #[inAt (app pO cj cs) 0, inAt (app pO cj cs) 1, inAt (app pO cj cs) 2, inAt (app pO cj cs) 3, inAt (app pO cj cs) 4, inAt (app pO cj cs) 5, inAt (app pO cj cs) 6, inAt (app pO cj cs) 7] = Wz at *
 go_wp2
 go_roundw
 case rel => exact ⟨i, by have := Hke.out; omega, by omega, rfl, by rw [Hm1.out, Hsuc.out]; exact bz, hnxz, vz, rz⟩
 case measure => (simp [intOf] <;> omega)
theorem lastM_nil {gs : List SgR} (t : Int) (h : gs.length = 0) : lastM gs t = t := by unfold lastM; rw [if_neg (by omega)]
theorem lastM_some {gs : List SgR} (t : Int) {k : Nat} (h : gs.length = k + 1) : lastM gs t = max t (gs.getD k sgZ).m := by unfold lastM; rw [if_pos (by omega), h]; rfl
theorem viewSegOf_c (V : Vl) (P u t9 : Int) (n0 : Nat) (B : Nat) (w : World) (h : Sgs w B V.A3 V.gs) (hB : B ≤ w.heap.size) (hy : VltY V.g V.b V.p V.t V.xs V.ms V.gs V.im) (hn0 : n0 < 8) (hP1 : 1 ≤ P) (hP2 : P ≤ 9000000) :
 Calls Tryz.prog 155 #[V.w, .agg #[ii P, ii (n0 : Int), ii u, ii t9]] w (RetG w (P - 1) P (lastM V.gs t9) [((n0 : Int), u, V.top.getD n0 0)]) := by
 have hl := chainB_lead hy.chain
 have htipR := (ahd_of hl (Nat.le_refl V.gs.length)).1
 have htip := tip_c V B
 have hcon := contentAt_c V V.tip B
 have htop : V.top.length = 8 := (contB_yes (top_cont hy)).1
 have hl20 : V.gs.length ≤ 20 := by have := hy.len; have := (tbB_yes (superB_yes hy.super).2.2.2.2.1).1; omega
 have hTop : Hid (cntV V.b V.p V.t V.gs V.im V.tip = V.top) := qh rfl
 have hcon2 := fun w' h1 h2 => hcon w' h1 h2 hy htipR
 have htip2 := fun w' h1 h2 => htip w' h1 h2 (by omega)
 rw [hTop.out] at hcon2
 have HtV : Hid (tipV V.b V.gs = V.tip) := qh rfl
 rw [HtV.out] at htip2
 obtain ⟨top, HTop⟩ : ∃ q, Hid (V.top = q) := ⟨_, rfl⟩
 obtain ⟨tp, Htp⟩ : ∃ q, Hid (V.tip = q) := ⟨_, rfl⟩
 obtain ⟨T9, HTm⟩ : ∃ q, Hid (lastM V.gs t9 = q) := ⟨_, rfl⟩
 rw [HTop.out] at htop hcon2 ⊢
 rw [Htp.out] at htip2 hcon2
 have Htop := qh htop
 have HT9 := qh (fun (h0 : V.gs.length = 0) => HTm.out.symm.trans (lastM_nil t9 h0))
 have HT8 := qh (fun (k : Nat) (h0 : V.gs.length = k + 1) => HTm.out.symm.trans (lastM_some t9 h0))
 rw [HTm.out]
 clear HTm hcon htip hTop HtV htop hl htipR
 have HTm : Hid (T9 = T9) := qh rfl
 obtain ⟨g, b, p, t, A, c, xs, A2, c2, ms, A3, c3, gs, A4, c4, im⟩ := V
 obtain ⟨N, HN⟩ : ∃ q, Hid (gs.length = q) := ⟨_, rfl⟩
 simp only [Vl.w, Vl.wcells] at *
 have h3 := h
 have htip := htip2
 have hcon := hcon2
 rw [HN.out] at hl20 HT9 HT8 ⊢
 clear hy h htip2 hcon2
 have v0 : Box (((w.alloc (.cells #[ii g, ii b, ii p, ii t, .slice A xs.length c, .slice A2 ms.length c2, .slice A3 N c3, inAt im 0, inAt im 1, inAt im 2, inAt im 3, inAt im 4, inAt im 5, inAt im 6, inAt im 7] 107)).alloc (.cells #[ii P, ii (n0 : Int), ii u, ii t9] 55)).alloc (.cells #[ii 0, ii 0, ii 0, nsl] 122)) w.heap.size 107 #[ii g, ii b, ii p, ii t, .slice A xs.length c, .slice A2 ms.length c2, .slice A3 N c3, inAt im 0, inAt im 1, inAt im 2, inAt im 3, inAt im 4, inAt im 5, inAt im 6, inAt im 7] := ((Box.new w _ _).alloc _).alloc _
 have f0 : Box (((w.alloc (.cells #[ii g, ii b, ii p, ii t, .slice A xs.length c, .slice A2 ms.length c2, .slice A3 N c3, inAt im 0, inAt im 1, inAt im 2, inAt im 3, inAt im 4, inAt im 5, inAt im 6, inAt im 7] 107)).alloc (.cells #[ii P, ii (n0 : Int), ii u, ii t9] 55)).alloc (.cells #[ii 0, ii 0, ii 0, nsl] 122)) (w.heap.size + 1) 55 #[ii P, ii (n0 : Int), ii u, ii t9] := by have := (Box.new (w.alloc (.cells #[ii g, ii b, ii p, ii t, .slice A xs.length c, .slice A2 ms.length c2, .slice A3 N c3, inAt im 0, inAt im 1, inAt im 2, inAt im 3, inAt im 4, inAt im 5, inAt im 6, inAt im 7] 107)) 55 #[ii P, ii (n0 : Int), ii u, ii t9]).alloc (.cells #[ii 0, ii 0, ii 0, nsl] 122); rwa [World.size_alloc] at this
 have r0 : Box (((w.alloc (.cells #[ii g, ii b, ii p, ii t, .slice A xs.length c, .slice A2 ms.length c2, .slice A3 N c3, inAt im 0, inAt im 1, inAt im 2, inAt im 3, inAt im 4, inAt im 5, inAt im 6, inAt im 7] 107)).alloc (.cells #[ii P, ii (n0 : Int), ii u, ii t9] 55)).alloc (.cells #[ii 0, ii 0, ii 0, nsl] 122)) (w.heap.size + 1 + 1) 122 #[ii 0, ii 0, ii 0, nsl] := by have := Box.new ((w.alloc (.cells #[ii g, ii b, ii p, ii t, .slice A xs.length c, .slice A2 ms.length c2, .slice A3 N c3, inAt im 0, inAt im 1, inAt im 2, inAt im 3, inAt im 4, inAt im 5, inAt im 6, inAt im 7] 107)).alloc (.cells #[ii P, ii (n0 : Int), ii u, ii t9] 55)) 122 #[ii 0, ii 0, ii 0, nsl]; rwa [World.size_alloc, World.size_alloc] at this
 have hx0 := (((Nx.refl w).alloc (.cells #[ii g, ii b, ii p, ii t, .slice A xs.length c, .slice A2 ms.length c2, .slice A3 N c3, inAt im 0, inAt im 1, inAt im 2, inAt im 3, inAt im 4, inAt im 5, inAt im 6, inAt im 7] 107)).alloc (.cells #[ii P, ii (n0 : Int), ii u, ii t9] 55)).alloc (.cells #[ii 0, ii 0, ii 0, nsl] 122)
 have y6 := v0.cell 6
 go_enter Tryz.func155, Tryz.ntmps155
 by_cases h0 : N = 0
 · obtain rfl : t9 = T9 := (HT9.out h0).symm
   obtain rfl : N = 0 := h0
   go_wp2_with fail
   generalize ((w.alloc (.cells #[ii g, ii b, ii p, ii t, .slice A xs.length c, .slice A2 ms.length c2, .slice A3 0 c3, inAt im 0, inAt im 1, inAt im 2, inAt im 3, inAt im 4, inAt im 5, inAt im 6, inAt im 7] 107)).alloc (.cells #[ii P, ii (n0 : Int), ii u, ii t9] 55)).alloc (.cells #[ii 0, ii 0, ii 0, nsl] 122) = W at *
   obtain ⟨gF, HgF⟩ : ∃ g, Hid (w.heap.size + 1 = g) := ⟨_, rfl⟩
   obtain ⟨gR, HgR⟩ : ∃ g, Hid (w.heap.size + 1 + 1 = g) := ⟨_, rfl⟩
   have hgR : w.heap.size ≤ gR := by have := HgR.out; omega
   have hgF : w.heap.size ≤ gF := by have := HgF.out; omega
   have hneV : w.heap.size ≠ gR := by have := HgR.out; omega
   have hneF : gF ≠ gR := by have := HgR.out; have := HgF.out; omega
   have hneVF : w.heap.size ≠ gF := by have := HgF.out; omega
   rw [HgR.out] at r0 ⊢
   rw [HgF.out] at f0 ⊢
   have hgRW := r0.lt
   have hgFW := f0.lt
   have hszW : W.heap.size ≤ W.heap.size := Nat.le_refl _
   refine wp_planA (.t 0 (.t 1 (.t 4 (.c 2 (.c 3 (.c 5 (.c 6 .e))))))) (fun w' => (w'.cell? ⟨w.heap.size, 0, none⟩ = some (ii g) ∧ w'.cell? ⟨w.heap.size, 1, none⟩ = some (ii b) ∧ w'.cell? ⟨w.heap.size, 2, none⟩ = some (ii p) ∧ w'.cell? ⟨w.heap.size, 3, none⟩ = some (ii t) ∧ w'.cell? ⟨w.heap.size, 4, none⟩ = some (.slice A xs.length c) ∧ w'.cell? ⟨w.heap.size, 5, none⟩ = some (.slice A2 ms.length c2) ∧ w'.cell? ⟨w.heap.size, 6, none⟩ = some (.slice A3 0 c3) ∧ w'.cell? ⟨w.heap.size, 7, none⟩ = some (inAt im 0) ∧ w'.cell? ⟨w.heap.size, 8, none⟩ = some (inAt im 1) ∧ w'.cell? ⟨w.heap.size, 9, none⟩ = some (inAt im 2) ∧ w'.cell? ⟨w.heap.size, 10, none⟩ = some (inAt im 3) ∧ w'.cell? ⟨w.heap.size, 11, none⟩ = some (inAt im 4) ∧ w'.cell? ⟨w.heap.size, 12, none⟩ = some (inAt im 5) ∧ w'.cell? ⟨w.heap.size, 13, none⟩ = some (inAt im 6) ∧ w'.cell? ⟨w.heap.size, 14, none⟩ = some (inAt im 7)) ∧ w'.cell? ⟨gF, 0, none⟩ = some (ii P) ∧ w'.cell? ⟨gF, 1, none⟩ = some (ii (n0 : Int)) ∧ w'.cell? ⟨gF, 2, none⟩ = some (ii u) ∧ w'.cell? ⟨gF, 3, none⟩ = some (ii t9)) (by exact ⟨v0.e15, f0.d4⟩) ?_
   simp only [psOf, List.getD_cons_zero, List.getD_cons_succ]
   repeat ((first | refine HP.tk ?_ | refine HP.sk ?_); try simp only [Act.put, qqA, qqB, qqC])
   refine hPc fun K hK => ?_
   go_simp
   have HT := qh (htip W.drew (h3.below hx0.drew hB) (ntr hB hx0.drew.size)); simp only [HN.out] at HT; refine HT.out.mono ?_; rintro e v1 ⟨rfl, hk1⟩; have kA := (Nx.refl W).drew.trans hk1; have vA1 := v0.nx kA; have fA1 := f0.nx kA
   go_wp2_with fail
   refine hK.out _ _ (by exact ⟨vA1.e15, fA1.d4⟩) ?_
   clear hK K
   try simp only [Act.put, qqA, qqB, qqC]
   refine hPc fun K hK => ?_
   go_simp
   have HC := qh (hcon v1 (h3.below (hx0.trans kA) hB) (ntr hB (hx0.trans kA).size)); simp only [HN.out] at HC; refine HC.out.mono ?_; rintro e v2 ⟨rfl, hk2⟩; have kB := kA.trans hk2; have vB1 := vA1.nx hk2; have fB1 := fA1.nx hk2
   go_wp2_with fail
   refine hK.out _ _ (by exact ⟨vB1.e15, fB1.d4⟩) ?_
   clear hK K
   try simp only [Act.put, qqA, qqB, qqC]
   refine hPc fun K hK => ?_
   go_simp
   refine (valuesSegOf_c top P u t9 n0 _ Htop.out hn0 hP1 hP2).mono ?_; rintro e v3 ⟨Aq, cq, rfl, hSq, hk3⟩; have kC := kB.trans hk3; have vC1 := vB1.nx hk3; have fC1 := fB1.nx hk3; have rC1 := r0.nx kC; have hSq2 := hSq.low (lo' := W.heap.size) (by have := kB.size; omega); have hrz := rC1.d4; have hrf0 := rC1.frozen 0; have hrf1 := rC1.frozen 1; have hrf2 := rC1.frozen 2; have hrf3 := rC1.frozen 3; obtain ⟨z0, z1, z2, z3⟩ := hrz
   go_wp2_with fail
   refine hK.out _ _ (by exact ⟨vC1.e15, fC1.d4⟩) ?_
   clear hK K
   try simp only [Act.put, qqA, qqB, qqC]
   refine hPc fun K hK => ?_
   go_simp
   refine hK.out _ _ (by exact ⟨((((vC1.far (p := ⟨gR, 0, none⟩) hneV (ii (P - 1))).far (p := ⟨gR, 1, none⟩) hneV (ii P)).far (p := ⟨gR, 2, none⟩) hneV (ii t9)).far (p := ⟨gR, 3, none⟩) hneV (.slice Aq 1 cq)).e15, ((((fC1.far (p := ⟨gR, 0, none⟩) hneF (ii (P - 1))).far (p := ⟨gR, 1, none⟩) hneF (ii P)).far (p := ⟨gR, 2, none⟩) hneF (ii t9)).far (p := ⟨gR, 3, none⟩) hneF (.slice Aq 1 cq)).d4⟩) ?_
   clear hK K
   try simp only [Act.put, qqA, qqB, qqC]
   refine HP.done ?_
   have rq := put4_box rC1 (ii (P - 1)) (ii P) (ii t9) (.slice Aq 1 cq)
   have hnf := put4_nx (g := gR) (hx0.trans kC) hgR (ii (P - 1)) (ii P) (ii t9) (.slice Aq 1 cq)
   have hsf := hSq2.put4 (g := gR) hgRW (ii (P - 1)) (ii P) (ii t9) (.slice Aq 1 cq)
   unfold put4 at rq hnf hsf
   generalize (((v3.setCell ⟨gR, 0, none⟩ (ii (P - 1))).setCell ⟨gR, 1, none⟩ (ii P)).setCell ⟨gR, 2, none⟩ (ii t9)).setCell ⟨gR, 3, none⟩ (.slice Aq 1 cq) = Wf at *
   obtain ⟨y0, y1, y2, y3⟩ := rq.d4
   clear z0 z1 z2 z3
   go_wp2
   exact bodyPost_ret (v := .agg #[ii (P - 1), ii P, ii t9, .slice Aq 1 cq]) (by simp [results, Tryz.results155, go_sem, y0, y1, y2, y3]) rfl ⟨Aq, cq, rfl, hsf.low hx0.size, hnf⟩
 obtain ⟨k, rfl⟩ : ∃ k, N = k + 1 := ⟨N - 1, by omega⟩
 have hd : decide (0 < ((k + 1 : Nat) : Int)) = true := decide_eq_true (by omega)
 have hk9 : k ≤ 20 := by omega
 obtain ⟨bb, off, rfl, hbb, q0, q1, q2, q3⟩ := h3.row.at4 (k := k) (by have := HN.out; omega)
 have hT := HT8.out k rfl
 obtain ⟨m9, Hm9⟩ : ∃ q, Hid ((gs.getD k sgZ).m = q) := ⟨_, rfl⟩
 rw [Hm9.out] at q2 hT
 clear q0 q1 q3
 go_wp2_with fail
 generalize ((w.alloc (.cells #[ii g, ii b, ii p, ii t, .slice A xs.length c, .slice A2 ms.length c2, .slice (some ⟨bb, off, none⟩) (k + 1) c3, inAt im 0, inAt im 1, inAt im 2, inAt im 3, inAt im 4, inAt im 5, inAt im 6, inAt im 7] 107)).alloc (.cells #[ii P, ii (n0 : Int), ii u, ii t9] 55)).alloc (.cells #[ii 0, ii 0, ii 0, nsl] 122) = W at *
 obtain ⟨gF, HgF⟩ : ∃ g, Hid (w.heap.size + 1 = g) := ⟨_, rfl⟩
 obtain ⟨gR, HgR⟩ : ∃ g, Hid (w.heap.size + 1 + 1 = g) := ⟨_, rfl⟩
 have hgR : w.heap.size ≤ gR := by have := HgR.out; omega
 have hgF : w.heap.size ≤ gF := by have := HgF.out; omega
 have hneV : w.heap.size ≠ gR := by have := HgR.out; omega
 have hneF : gF ≠ gR := by have := HgR.out; have := HgF.out; omega
 have hneVF : w.heap.size ≠ gF := by have := HgF.out; omega
 rw [HgR.out] at r0 ⊢
 rw [HgF.out] at f0 ⊢
 have hgRW := r0.lt
 have hgFW := f0.lt
 have hsub : ((k + 1 : Nat) : Int) - 1 = (k : Int) := by omega
 have hbW : bb < W.heap.size := Nat.lt_of_lt_of_le hbb (ntr hB hx0.size)
 have hbF : bb ≠ gF := by have := HgF.out; omega
 have hlk : (k : Int) < ((k + 1 : Nat) : Int) := by omega
 have hlk2 : (k : Int) < (k : Int) + 1 := by omega
 have hwk : IntKind.i64.wrap (k : Int) = (k : Int) := IntWalk.i64_in _ (by omega)
 have p2 : W.cell? ⟨bb, off + k * 4 + 2, none⟩ = some (ii m9) := (hx0.cell (p := ⟨bb, off + k * 4 + 2, none⟩) (by show bb < _; omega)).trans q2
 have vd := v0.nx (Nx.refl W).drew
 have fd := f0.nx (Nx.refl W).drew
 have rd := r0.nx (Nx.refl W).drew
 have hxd := hx0.drew
 have pd : W.drew.cell? ⟨bb, off + k * 4 + 2, none⟩ = some (ii m9) := p2
 have yw : W.cell? ⟨gF, 3, none⟩ = some (ii t9) := f0.cell 3
 have yd : W.drew.cell? ⟨gF, 3, none⟩ = some (ii t9) := f0.cell 3
 have yz := fd.frozen 3
 have yl := fd.lt
 refine wp_planA (.t 0 (.t 2 (.t 3 (.t 4 (.t 5 (.t 6 (.t 7 (.t 8 (.c 1 (.t 9 (.t 10 (.c 11 .e)))))))))))) (fun w' => w'.cell? ⟨w.heap.size, 6, none⟩ = some (.slice (some ⟨bb, off, none⟩) (k + 1) c3) ∧ w'.cell? ⟨bb, off + k * 4 + 2, none⟩ = some (ii m9)) (by exact ⟨vd.cell 6, pd⟩) ?_
 simp only [psOf, List.getD_cons_zero, List.getD_cons_succ]
 repeat ((first | refine HP.tk ?_ | refine HP.sk ?_); try simp only [Act.put, qqA, qqB, qqC])
 refine hPc fun K hK => ?_
 go_simp
 refine hK.out _ _ (by exact ⟨vd.cell 6, pd⟩) ?_
 clear hK K
 try simp only [Act.put, qqA, qqB, qqC]
 repeat ((first | refine HP.tk ?_ | refine HP.sk ?_); try simp only [Act.put, qqA, qqB, qqC])
 refine hPc fun K hK => ?_
 go_simp
 refine hK.out _ _ (by exact ⟨(v0.far (p := ⟨gF, 3, none⟩) hneVF (ii (max t9 m9))).cell 6, ((hx0.setCell (p := ⟨gF, 3, none⟩) hgF (ii (max t9 m9))).cell (p := ⟨bb, off + k * 4 + 2, none⟩) (by show bb < _; omega)).trans q2⟩) ?_
 clear hK K
 try simp only [Act.put, qqA, qqB, qqC]
 refine HP.done ?_
 have hW' := hT.symm
 have vz := (v0.far (p := ⟨gF, 3, none⟩) hneVF (ii (max t9 m9))).nx (Nx.refl _).drew
 have fz := (f0.set 3 (ii (max t9 m9))).nx (Nx.refl _).drew
 have rz := (r0.far (p := ⟨gF, 3, none⟩) (Ne.symm hneF) (ii (max t9 m9))).nx (Nx.refl _).drew
 have hxz := (hx0.setCell (p := ⟨gF, 3, none⟩) hgF (ii (max t9 m9))).drew
 have hszW : W.heap.size ≤ (W.setCell ⟨gF, 3, none⟩ (ii (max t9 m9))).drew.heap.size := by show _ ≤ (W.setCell ⟨gF, 3, none⟩ (ii (max t9 m9))).heap.size; simp [World.setCell]
 clear v0 f0 r0 vd fd rd hxd p2 pd yw yd yz yl
 generalize (W.setCell ⟨gF, 3, none⟩ (ii (max t9 m9))).drew = wz at *
 replace fz : Box wz gF 55 #[ii P, ii (n0 : Int), ii u, ii T9] := by rw [← hW']; exact fz
 clear hT hW'
 go_wp2_with fail
 refine wp_planA (.t 0 (.t 1 (.t 4 (.c 2 (.c 3 (.c 5 (.c 6 .e))))))) (fun w' => (w'.cell? ⟨w.heap.size, 0, none⟩ = some (ii g) ∧ w'.cell? ⟨w.heap.size, 1, none⟩ = some (ii b) ∧ w'.cell? ⟨w.heap.size, 2, none⟩ = some (ii p) ∧ w'.cell? ⟨w.heap.size, 3, none⟩ = some (ii t) ∧ w'.cell? ⟨w.heap.size, 4, none⟩ = some (.slice A xs.length c) ∧ w'.cell? ⟨w.heap.size, 5, none⟩ = some (.slice A2 ms.length c2) ∧ w'.cell? ⟨w.heap.size, 6, none⟩ = some (.slice (some ⟨bb, off, none⟩) (k + 1) c3) ∧ w'.cell? ⟨w.heap.size, 7, none⟩ = some (inAt im 0) ∧ w'.cell? ⟨w.heap.size, 8, none⟩ = some (inAt im 1) ∧ w'.cell? ⟨w.heap.size, 9, none⟩ = some (inAt im 2) ∧ w'.cell? ⟨w.heap.size, 10, none⟩ = some (inAt im 3) ∧ w'.cell? ⟨w.heap.size, 11, none⟩ = some (inAt im 4) ∧ w'.cell? ⟨w.heap.size, 12, none⟩ = some (inAt im 5) ∧ w'.cell? ⟨w.heap.size, 13, none⟩ = some (inAt im 6) ∧ w'.cell? ⟨w.heap.size, 14, none⟩ = some (inAt im 7)) ∧ w'.cell? ⟨gF, 0, none⟩ = some (ii P) ∧ w'.cell? ⟨gF, 1, none⟩ = some (ii (n0 : Int)) ∧ w'.cell? ⟨gF, 2, none⟩ = some (ii u) ∧ w'.cell? ⟨gF, 3, none⟩ = some (ii T9)) (by exact ⟨vz.e15, fz.d4⟩) ?_
 simp only [psOf, List.getD_cons_zero, List.getD_cons_succ]
 repeat ((first | refine HP.tk ?_ | refine HP.sk ?_); try simp only [Act.put, qqA, qqB, qqC])
 refine hPc fun K hK => ?_
 go_simp
 have HT := qh (htip wz.drew (h3.below hxz.drew hB) (ntr hB hxz.drew.size)); simp only [HN.out] at HT; refine HT.out.mono ?_; rintro e v1 ⟨rfl, hk1⟩; have kA := (Nx.refl wz).drew.trans hk1; have vA1 := vz.nx kA; have fA1 := fz.nx kA
 go_wp2_with fail
 refine hK.out _ _ (by exact ⟨vA1.e15, fA1.d4⟩) ?_
 clear hK K
 try simp only [Act.put, qqA, qqB, qqC]
 refine hPc fun K hK => ?_
 go_simp
 have HC := qh (hcon v1 (h3.below (hxz.trans kA) hB) (ntr hB (hxz.trans kA).size)); simp only [HN.out] at HC; refine HC.out.mono ?_; rintro e v2 ⟨rfl, hk2⟩; have kB := kA.trans hk2; have vB1 := vA1.nx hk2; have fB1 := fA1.nx hk2
 go_wp2_with fail
 refine hK.out _ _ (by exact ⟨vB1.e15, fB1.d4⟩) ?_
 clear hK K
 try simp only [Act.put, qqA, qqB, qqC]
 refine hPc fun K hK => ?_
 go_simp
 refine (valuesSegOf_c top P u T9 n0 _ Htop.out hn0 hP1 hP2).mono ?_; rintro e v3 ⟨Aq, cq, rfl, hSq, hk3⟩; have kC := kB.trans hk3; have vC1 := vB1.nx hk3; have fC1 := fB1.nx hk3; have rC1 := rz.nx kC; have hSq2 := hSq.low (lo' := W.heap.size) (by have := kB.size; omega); have hrz := rC1.d4; have hrf0 := rC1.frozen 0; have hrf1 := rC1.frozen 1; have hrf2 := rC1.frozen 2; have hrf3 := rC1.frozen 3; obtain ⟨z0, z1, z2, z3⟩ := hrz
 go_wp2_with fail
 refine hK.out _ _ (by exact ⟨vC1.e15, fC1.d4⟩) ?_
 clear hK K
 try simp only [Act.put, qqA, qqB, qqC]
 refine hPc fun K hK => ?_
 go_simp
 refine hK.out _ _ (by exact ⟨((((vC1.far (p := ⟨gR, 0, none⟩) hneV (ii (P - 1))).far (p := ⟨gR, 1, none⟩) hneV (ii P)).far (p := ⟨gR, 2, none⟩) hneV (ii T9)).far (p := ⟨gR, 3, none⟩) hneV (.slice Aq 1 cq)).e15, ((((fC1.far (p := ⟨gR, 0, none⟩) hneF (ii (P - 1))).far (p := ⟨gR, 1, none⟩) hneF (ii P)).far (p := ⟨gR, 2, none⟩) hneF (ii T9)).far (p := ⟨gR, 3, none⟩) hneF (.slice Aq 1 cq)).d4⟩) ?_
 clear hK K
 try simp only [Act.put, qqA, qqB, qqC]
 refine HP.done ?_
 have rq := put4_box rC1 (ii (P - 1)) (ii P) (ii T9) (.slice Aq 1 cq)
 have hnf := put4_nx (g := gR) (hxz.trans kC) hgR (ii (P - 1)) (ii P) (ii T9) (.slice Aq 1 cq)
 have hsf := hSq2.put4 (g := gR) hgRW (ii (P - 1)) (ii P) (ii T9) (.slice Aq 1 cq)
 unfold put4 at rq hnf hsf
 generalize (((v3.setCell ⟨gR, 0, none⟩ (ii (P - 1))).setCell ⟨gR, 1, none⟩ (ii P)).setCell ⟨gR, 2, none⟩ (ii T9)).setCell ⟨gR, 3, none⟩ (.slice Aq 1 cq) = Wf at *
 obtain ⟨y0, y1, y2, y3⟩ := rq.d4
 clear z0 z1 z2 z3
 go_wp2
 exact bodyPost_ret (v := .agg #[ii (P - 1), ii P, ii T9, .slice Aq 1 cq]) (by simp [results, Tryz.results155, go_sem, y0, y1, y2, y3]) rfl ⟨Aq, cq, rfl, hsf.low hx0.size, hnf⟩
def RetAp (w : World) (R : (List BA × List (Int × BA)) × Int) (e : Ending) (w' : World) : Prop :=
 ∃ (A : Option Addr) (n c : Nat) (A2 : Option Addr) (n2 c2 : Nat), e = .returned (.tuple #[.agg #[.slice A n c, .slice A2 n2 c2], ii R.2]) ∧ Strs w' w'.heap.size A n R.1.1 ∧ Wrs w' w'.heap.size A2 n2 R.1.2 ∧ Nx w w'
theorem RetAp.mk {w w' : World} {ss : List BA} {ws : List (Int × BA)} {R : (List BA × List (Int × BA)) × Int} {k : Int} {A A2 : Option Addr} {n c n2 c2 : Nat} (hR : R = ((ss, ws), k)) (hS : Strs w' w'.heap.size A n ss) (hW : Wrs w' w'.heap.size A2 n2 ws) (hn : Nx w w') :
 RetAp w R (.returned (.tuple #[.agg #[.slice A n c, .slice A2 n2 c2], ii k])) w' := by subst hR; exact ⟨A, n, c, A2, n2, c2, rfl, hS, hW, hn⟩
theorem mergeAp {G : Nat → Option Addr → Nat → Option Addr → Nat → World → Prop} {F : Nat → Option Addr → Nat → World → Prop} {R : Prop} (main : (∀ g Aq cq As cs W, F g As cs W → G g Aq cq As cs W) → R) (key : ∀ g Aq cq As cs W, F g As cs W → G g Aq cq As cs W) : R := main key
theorem ldVN {ss : List BA} {ws : List (Int × BA)} (hD : diskB ss ws = true) : VlN (ldV ss ws).1 1048576 := by
 rcases ldV_size hD with h | ⟨hy, _, hc⟩
 · rw [h]; exact ⟨by decide, by decide, by decide, fun k hk => absurd hk (by simp [zVl]), by decide⟩
 · have h1 := hy.len
   have h2 := (tbB_yes (superB_yes hy.super).2.2.2.2.1).1
   have h3 := (msB_yes (superB_yes hy.super).2.2.2.2.2).1
   exact ⟨by omega, by omega, by omega, fun k hk => by have := hc k hk; omega, by rw [hy.l8]; decide⟩
theorem wpList_addAllI {w : World} {ops : Array Oper} {rest : List Oper} {o : Oper} {a : Act} {Q : Exit → Act → World → Prop} (hgd : o.guard = none)
 (s x : Operand) (ho : o.op = .call { callee := .builtin .append, args := #[s, x], argTypes := #[23, 23] })
 (B g0 : Nat) (A : Option Addr) (c : Nat) (xs : List Int) (hs : a.eval s = .slice (some ⟨g0, 0, none⟩) 0 0) (hx : a.eval x = .slice A xs.length c) (hown : RowI w B (.slice (some ⟨g0, 0, none⟩) 0 0) []) {B' : Nat} (hrow : Ins w B' A xs)
 (hm : xs.length ≤ 1048576) (hB : B ≤ w.heap.size)
 (hK : ∀ A' k' w', RowI w' B (.slice A' xs.length k') xs → GrewT 3 B w w' → (∀ k, k < w.heap.size → k ≠ g0 → w'.heap[k]? = w.heap[k]?) → wpList Tryz.prog ops Q rest (a.put o.dst (.slice A' xs.length k')) w') :
 wpList Tryz.prog ops Q (o :: rest) a w :=
 wpList_plain hgd fun K h => wp_addAllI s x ho B g0 A c xs hs hx hown hrow hm hB fun A' k' w' h1 h2 h3 => h _ _ (hK A' k' w' h1 h2 h3)
theorem rg_put4 (u : World) (g : Nat) (v0 v1 v2 v3 : Value) : Rg g (g + 1) u (put4 u g v0 v1 v2 v3) :=
 ((((Rg.of_nx (Nx.refl u)).setCell (p := ⟨g, 0, none⟩) nle (Nat.lt_succ_self _) v0).setCell (p := ⟨g, 1, none⟩) nle (Nat.lt_succ_self _) v1).setCell (p := ⟨g, 2, none⟩) nle (Nat.lt_succ_self _) v2).setCell (p := ⟨g, 3, none⟩) nle (Nat.lt_succ_self _) v3
theorem VlP.rgA {w w' : World} {lo mid hi a b : Nat} {V : Vl} (h : VlP w lo mid hi V) (hr : Rg a b w w') (hd : hi ≤ a) : VlP w' lo mid hi V :=
 have h2 := h.le2
 ⟨h.tab.rg hr (.inl (by omega)), h.mks.rg hr (.inl (by omega)), h.row.rg hr (.inl hd), fun k hk => (h.chs k hk).rg hr (.inl hd), h.img.rg hr (.inl hd), h.dj, h.cap, h.cap3, h.le, h.le2⟩
theorem l05Append_c (A A2 : Option Addr) (n c n2 c2 B : Nat) (ss : List BA) (p v t : Int) (n0 : Nat) (w : World) (h : Strs w B A n ss) (h2 : Wrs w B A2 n2 []) (hB : B ≤ w.heap.size) (hD : diskB ss [] = true) (hf : frameB p (n0 : Int) v t = true) :
 Calls Tryz.prog 77 #[.agg #[.slice A n c, .slice A2 n2 c2], .agg #[ii p, ii (n0 : Int), ii v, ii t]] w (RetAp w (apP ss p n0 v t)) := by
 have HD := qh hD
 have HF := qh hf
 obtain rfl : n = 64 := by rw [← h.1]; exact (diskB_len64 hD).1
 obtain rfl : n2 = 0 := h2.1.symm
 obtain ⟨⟨V, cd⟩, HL⟩ : ∃ q, Hid (ldV ss [] = q) := ⟨_, rfl⟩
 have HcdL := qh (ldV_code ss [])
 have HVN := qh (ldVN hD)
 rw [HL.out] at HcdL HVN
 have HV := fun w1 h1 h2 h3 => l05Load_c A A2 64 c 0 c2 B ss [] w1 h1 h2 h3 (by omega) (by omega) hD
 rw [HL.out] at HV
 have HV := qh HV
 obtain ⟨R, HR⟩ : ∃ q, Hid (apP ss p n0 v t = q) := ⟨_, rfl⟩
 have HN := qh (fun k (hc : apC V cd p = k ∧ k ≠ 0) => HR.out.symm.trans (apP_no (p := p) (n := n0) (v := v) (t := t) HL.out hc.1 hc.2))
 rw [HR.out]
 clear hD hf
 have zE : Box (((w.alloc (.cells #[.slice A 64 c, .slice A2 0 c2] 35)).alloc (.cells #[ii p, ii (n0 : Int), ii v, ii t] 55)).alloc (.cells #[nsl, nsl] 35)) w.heap.size 35 #[.slice A 64 c, .slice A2 0 c2] := ((Box.new w _ _).alloc _).alloc _
 have zF : Box (((w.alloc (.cells #[.slice A 64 c, .slice A2 0 c2] 35)).alloc (.cells #[ii p, ii (n0 : Int), ii v, ii t] 55)).alloc (.cells #[nsl, nsl] 35)) (w.heap.size + 1) 55 #[ii p, ii (n0 : Int), ii v, ii t] := by have := (Box.new (w.alloc (.cells #[.slice A 64 c, .slice A2 0 c2] 35)) 55 #[ii p, ii (n0 : Int), ii v, ii t]).alloc (.cells #[nsl, nsl] 35); rwa [World.size_alloc] at this
 have zR : Box (((w.alloc (.cells #[.slice A 64 c, .slice A2 0 c2] 35)).alloc (.cells #[ii p, ii (n0 : Int), ii v, ii t] 55)).alloc (.cells #[nsl, nsl] 35)) (w.heap.size + 1 + 1) 35 #[nsl, nsl] := by have := Box.new ((w.alloc (.cells #[.slice A 64 c, .slice A2 0 c2] 35)).alloc (.cells #[ii p, ii (n0 : Int), ii v, ii t] 55)) 35 #[nsl, nsl]; rwa [World.size_alloc, World.size_alloc] at this
 have zX := (((Nx.refl w).alloc (.cells #[.slice A 64 c, .slice A2 0 c2] 35)).alloc (.cells #[ii p, ii (n0 : Int), ii v, ii t] 55)).alloc (.cells #[nsl, nsl] 35)
 have y0 := zE.c0
 have y1 := zE.c1
 go_enter Tryz.func77, Tryz.ntmps77
 go_wp2_with fail
 generalize ((w.alloc (.cells #[.slice A 64 c, .slice A2 0 c2] 35)).alloc (.cells #[ii p, ii (n0 : Int), ii v, ii t] 55)).alloc (.cells #[nsl, nsl] 35) = W at *
 obtain ⟨gF, HgF⟩ : ∃ g, Hid (w.heap.size + 1 = g) := ⟨_, rfl⟩
 obtain ⟨gR, HgR⟩ : ∃ g, Hid (w.heap.size + 1 + 1 = g) := ⟨_, rfl⟩
 have hgR : w.heap.size ≤ gR := by have := HgR.out; omega
 have hneE : w.heap.size ≠ gR := by have := HgR.out; omega
 rw [HgR.out] at zR ⊢
 rw [HgF.out] at zF ⊢
 clear y0 y1
 refine (HV.out W (h.below zX hB) (h2.below zX hB) (ntr hB zX.size)).mono ?_
 rintro e w1 ⟨V1, mid, rfl, hs, hp, hk⟩
 have zP := hp.low zX.size
 replace zE := zE.nx hk; replace zF := zF.nx hk; replace zR := zR.nx hk; replace zX := zX.trans hk
 clear hk hp
 simp only [Vl.v, Vl.cells]
 have zV := Box.new w1 49 #[ii V1.g, ii V1.b, ii V1.p, ii V1.t, .slice V1.A V1.xs.length V1.c, .slice V1.A2 V1.ms.length V1.c2, .slice V1.A3 V1.gs.length V1.c3, .slice V1.A4 V1.im.length V1.c4]
 have hk := (Nx.refl w1).alloc (.cells #[ii V1.g, ii V1.b, ii V1.p, ii V1.t, .slice V1.A V1.xs.length V1.c, .slice V1.A2 V1.ms.length V1.c2, .slice V1.A3 V1.gs.length V1.c3, .slice V1.A4 V1.im.length V1.c4] 49)
 have hneVR : gR ≠ w1.heap.size := Nat.ne_of_lt zR.lt
 obtain ⟨hi1, Hhi⟩ : ∃ g, Hid (w1.heap.size = g) := ⟨_, rfl⟩
 have hRhi : gR < hi1 := by have := zR.lt; have := Hhi.out; omega
 rw [Hhi.out] at zP
 have hHi : hi1 ≤ (w1.alloc (.cells #[ii V1.g, ii V1.b, ii V1.p, ii V1.t, .slice V1.A V1.xs.length V1.c, .slice V1.A2 V1.ms.length V1.c2, .slice V1.A3 V1.gs.length V1.c3, .slice V1.A4 V1.im.length V1.c4] 49)).heap.size := by have := Hhi.out; simp; omega
 replace zE := zE.nx hk; replace zF := zF.nx hk; replace zR := zR.nx hk; replace zP := zP.nx hk; replace zX := zX.trans hk
 clear hk
 rcases Decidable.em (cd = 0) with h0 | h0
 rotate_left
 · skip
   have HR2 := qh (HN.out cd (⟨apC_code h0, h0⟩))
   have y0 := zE.c0
   have y1 := zE.c1
   have m0 := zR.c0
   have m1 := zR.c1
   have mf0 := zR.frozen 0
   have mf1 := zR.frozen 1
   go_wp2_with fail
   generalize (w1.alloc (.cells #[ii V1.g, ii V1.b, ii V1.p, ii V1.t, .slice V1.A V1.xs.length V1.c, .slice V1.A2 V1.ms.length V1.c2, .slice V1.A3 V1.gs.length V1.c3, .slice V1.A4 V1.im.length V1.c4] 49)) = w2 at *
   have rq := (zR.set0 (.slice A 64 c)).set1 (.slice A2 0 c2)
   have hnf := (zX.setCell (p := ⟨gR, 0, none⟩) hgR (.slice A 64 c)).setCell (p := ⟨gR, 1, none⟩) hgR (.slice A2 0 c2)
   generalize (w2.setCell ⟨gR, 0, none⟩ (.slice A 64 c)).setCell ⟨gR, 1, none⟩ (.slice A2 0 c2) = Wf at *
   clear y0 y1 m0 m1 mf0 mf1
   have q0 := rq.c0
   have q1 := rq.c1
   go_wp2
   exact bodyPost_ret (v := .tuple #[.agg #[.slice A 64 c, .slice A2 0 c2], ii cd]) (by simp [results, Tryz.results77, go_sem, q0, q1]) rfl (RetAp.mk HR2.out ((h.below hnf hB).more (ntr hB hnf.size)) ((h2.below hnf hB).more (ntr hB hnf.size)) hnf)
 obtain rfl : cd = 0 := h0
 obtain ⟨y0, y1, y2, y3, y4, y5, y6, y7⟩ := zV.e8
 go_wp2_with fail
 generalize (w1.alloc (.cells #[ii V1.g, ii V1.b, ii V1.p, ii V1.t, .slice V1.A V1.xs.length V1.c, .slice V1.A2 V1.ms.length V1.c2, .slice V1.A3 V1.gs.length V1.c3, .slice V1.A4 V1.im.length V1.c4] 49)) = w2 at *
 clear y0 y1 y2 y3 y4 y5 y6 y7
 obtain ⟨gV, HgV⟩ : ∃ g, Hid (w1.heap.size = g) := ⟨_, rfl⟩
 rw [HgV.out] at zV hneVR ⊢
 have HLY := qh (ldV_ldY HL.out)
 have HsV : Hid (VlS V V1) := qh hs
 have HY := qh (HsV.out.y HLY.out.ok)
 replace HVN := qh (HsV.out.n HVN.out)
 clear hs
 have hC0 := l05Tip_c V1 w2.heap.size w2 zP.own.vlt nle HVN.out
 simp only [Vl.v, Vl.cells] at hC0
 refine hC0.mono ?_
 clear hC0
 rintro e w3 ⟨rfl, hk⟩
 replace zE := zE.nx hk; replace zF := zF.nx hk; replace zV := zV.nx hk; replace zR := zR.nx hk; replace zP := zP.nx hk; replace zX := zX.trans hk; replace hHi := ntr hHi hk.size
 clear hk
 have HTp : Hid (V.tip = V1.tip) := qh HsV.out.tip.symm
 have HTr := qh ((ahd_of (chainB_lead HY.out.chain) (Nat.le_refl V1.gs.length)).1)
 have HTop : Hid (cntV V1.b V1.p V1.t V1.gs V1.im V1.tip = V1.top) := qh rfl
 have Htl := qh (contB_yes (top_cont HY.out)).1
 have hTi := HY.out.tipIn
 obtain ⟨T, HT⟩ : ∃ q, Hid (tipV V1.b V1.gs = q) := ⟨_, rfl⟩
 obtain ⟨top9, Htp⟩ : ∃ q, Hid (V1.top = q) := ⟨_, rfl⟩
 change Hid (V1.top.length = 8) at Htl
 change Hid (isRet V1.b V1.gs (tipV V1.b V1.gs) = true) at HTr
 change Hid (cntV V1.b V1.p V1.t V1.gs V1.im (tipV V1.b V1.gs) = V1.top) at HTop
 rw [HT.out] at HTr HTop hTi ⊢
 rw [Htp.out] at HTop Htl
 have hw1 : IntKind.i64.wrap (T + 1) = T + 1 := IntWalk.i64_in _ (by omega)
 have y0 := zF.cell 0
 change w3.cell? ⟨gF, 0, none⟩ = some (ii p) at y0
 by_cases h1 : p ≤ T
 · have hd1 : decide (p ≤ T) = true := decide_eq_true h1
   have HTT := qh (show V.tip = T from HTp.out.trans HT.out)
   have HR2 := qh (HN.out 9 (⟨apC_there (by rw [HTT.out]; exact h1), by decide⟩))
   have y0 := zE.c0
   have y1 := zE.c1
   have m0 := zR.c0
   have m1 := zR.c1
   have mf0 := zR.frozen 0
   have mf1 := zR.frozen 1
   go_wp2_with fail
   have rq := (zR.set0 (.slice A 64 c)).set1 (.slice A2 0 c2)
   have hnf := (zX.setCell (p := ⟨gR, 0, none⟩) hgR (.slice A 64 c)).setCell (p := ⟨gR, 1, none⟩) hgR (.slice A2 0 c2)
   generalize (w3.setCell ⟨gR, 0, none⟩ (.slice A 64 c)).setCell ⟨gR, 1, none⟩ (.slice A2 0 c2) = Wf at *
   clear y0 y1 m0 m1 mf0 mf1
   have q0 := rq.c0
   have q1 := rq.c1
   go_wp2
   exact bodyPost_ret (v := .tuple #[.agg #[.slice A 64 c, .slice A2 0 c2], ii 9]) (by simp [results, Tryz.results77, go_sem, q0, q1]) rfl (RetAp.mk HR2.out ((h.below hnf hB).more (ntr hB hnf.size)) ((h2.below hnf hB).more (ntr hB hnf.size)) hnf)
 have hd1 : decide (p ≤ T) = false := decide_eq_false h1
 by_cases h7 : T + 1 < p
 · have hd7 : decide (T + 1 < p) = true := decide_eq_true h7
   have HTT := qh (show V.tip = T from HTp.out.trans HT.out)
   have HR2 := qh (HN.out 17 (⟨apC_gap (by rw [HTT.out]; exact h7), by decide⟩))
   have y0 := zE.c0
   have y1 := zE.c1
   have m0 := zR.c0
   have m1 := zR.c1
   have mf0 := zR.frozen 0
   have mf1 := zR.frozen 1
   go_wp2_with fail
   have rq := (zR.set0 (.slice A 64 c)).set1 (.slice A2 0 c2)
   have hnf := (zX.setCell (p := ⟨gR, 0, none⟩) hgR (.slice A 64 c)).setCell (p := ⟨gR, 1, none⟩) hgR (.slice A2 0 c2)
   generalize (w3.setCell ⟨gR, 0, none⟩ (.slice A 64 c)).setCell ⟨gR, 1, none⟩ (.slice A2 0 c2) = Wf at *
   clear y0 y1 m0 m1 mf0 mf1
   have q0 := rq.c0
   have q1 := rq.c1
   go_wp2
   exact bodyPost_ret (v := .tuple #[.agg #[.slice A 64 c, .slice A2 0 c2], ii 17]) (by simp [results, Tryz.results77, go_sem, q0, q1]) rfl (RetAp.mk HR2.out ((h.below hnf hB).more (ntr hB hnf.size)) ((h2.below hnf hB).more (ntr hB hnf.size)) hnf)
 have hd7 : decide (T + 1 < p) = false := decide_eq_false h7
 have Hp1 := qh (show p = V1.tip + 1 from (show p = T + 1 by omega).trans (congrArg (· + 1) (show T = V1.tip from HT.out.symm)))
 have HP0 := qh (show p = V.tip + 1 from Hp1.out.trans (congrArg (· + 1) HsV.out.tip))
 obtain ⟨x0, x1, x2, x3, x4, x5, x6, x7⟩ := zV.e8
 by_cases h20 : V1.gs.length = 20
 · have Hl := qh (show V.gs.length = 20 from HsV.out.len.symm.trans h20)
   have hd20 : decide ((V1.gs.length : Int) = 20) = true := decide_eq_true (by omega)
   have HR2 := qh (HN.out 7 (⟨apC_full HP0.out (.inl Hl.out), by decide⟩))
   have y0 := zE.c0
   have y1 := zE.c1
   have m0 := zR.c0
   have m1 := zR.c1
   have mf0 := zR.frozen 0
   have mf1 := zR.frozen 1
   go_wp2_with fail
   have rq := (zR.set0 (.slice A 64 c)).set1 (.slice A2 0 c2)
   have hnf := (zX.setCell (p := ⟨gR, 0, none⟩) hgR (.slice A 64 c)).setCell (p := ⟨gR, 1, none⟩) hgR (.slice A2 0 c2)
   generalize (w3.setCell ⟨gR, 0, none⟩ (.slice A 64 c)).setCell ⟨gR, 1, none⟩ (.slice A2 0 c2) = Wf at *
   clear y0 y1 m0 m1 mf0 mf1
   have q0 := rq.c0
   have q1 := rq.c1
   go_wp2
   exact bodyPost_ret (v := .tuple #[.agg #[.slice A 64 c, .slice A2 0 c2], ii 7]) (by simp [results, Tryz.results77, go_sem, q0, q1]) rfl (RetAp.mk HR2.out ((h.below hnf hB).more (ntr hB hnf.size)) ((h2.below hnf hB).more (ntr hB hnf.size)) hnf)
 have hd20 : decide ((V1.gs.length : Int) = 20) = false := decide_eq_false (by omega)
 by_cases h9 : V1.g = 999999
 · have Hl := qh (show V.g = 999999 from HsV.out.g.symm.trans h9)
   have hd9 : decide (V1.g = 999999) = true := decide_eq_true h9
   have hd9b : (V1.g == 999999) = true := beq_iff_eq.2 h9
   have HR2 := qh (HN.out 7 (⟨apC_full HP0.out (.inr Hl.out), by decide⟩))
   have y0 := zE.c0
   have y1 := zE.c1
   have m0 := zR.c0
   have m1 := zR.c1
   have mf0 := zR.frozen 0
   have mf1 := zR.frozen 1
   go_wp2_with fail
   have rq := (zR.set0 (.slice A 64 c)).set1 (.slice A2 0 c2)
   have hnf := (zX.setCell (p := ⟨gR, 0, none⟩) hgR (.slice A 64 c)).setCell (p := ⟨gR, 1, none⟩) hgR (.slice A2 0 c2)
   generalize (w3.setCell ⟨gR, 0, none⟩ (.slice A 64 c)).setCell ⟨gR, 1, none⟩ (.slice A2 0 c2) = Wf at *
   clear y0 y1 m0 m1 mf0 mf1
   have q0 := rq.c0
   have q1 := rq.c1
   go_wp2
   exact bodyPost_ret (v := .tuple #[.agg #[.slice A 64 c, .slice A2 0 c2], ii 7]) (by simp [results, Tryz.results77, go_sem, q0, q1]) rfl (RetAp.mk HR2.out ((h.below hnf hB).more (ntr hB hnf.size)) ((h2.below hnf hB).more (ntr hB hnf.size)) hnf)
 have hd9 : decide (V1.g = 999999) = false := decide_eq_false h9
 have hd9b : (V1.g == 999999) = false := beq_eq_false_iff_ne.2 h9
 have H20 : Hid (V.gs.length ≠ 20) := qh (by rw [← HsV.out.len]; exact h20)
 have H9 : Hid (V.g ≠ 999999) := qh (by rw [← HsV.out.g]; exact h9)
 go_wp2_with fail
 clear y0 x0 x1 x2 x3 x4 x5 x6 x7 hd1 hd7 hd20 hd9 hd9b hw1 h1 h7
 have HAs : Hid (Asked ss V p n0 v t) := qh ⟨HD.out, HLY.out, HF.out, HP0.out, H20.out, H9.out⟩
 have HS1 : Hid (superB V1.g V1.b V1.p V1.t (V1.xs ++ [freeS V1.xs]) V1.ms = true) := qh (by rw [HsV.out.g, HsV.out.b, HsV.out.p, HsV.out.t, HsV.out.xs, HsV.out.ms]; exact HLY.out.table H20.out)
 have HS2 : Hid (superB (V1.g + 1) V1.b V1.p V1.t (V1.xs ++ [freeS V1.xs]) V1.ms = true) := qh (by rw [HsV.out.g, HsV.out.b, HsV.out.p, HsV.out.t, HsV.out.xs, HsV.out.ms]; exact HAs.out.y.super)
 have HXL : Hid (V1.xs.length ≤ 20) := qh (by rw [HsV.out.xs]; have := HLY.out.room H20.out; omega)
 have HFr := qh (frameB_yes HF.out)
 obtain ⟨m9, Hm9⟩ : ∃ q, Hid (lastM V1.gs t = q) := ⟨_, rfl⟩
 obtain ⟨o9, Ho9'⟩ : ∃ q, Hid (V1.top.getD n0 0 = q) := ⟨_, rfl⟩
 have Ho9 : Hid (top9.getD n0 0 = o9) := qh (by rw [← Htp.out]; exact Ho9'.out)
 have HGR : Hid (segB (p - 1) p m9 [((n0 : Int), v, o9)] = true) := qh (by rw [← Hm9.out, ← Ho9'.out]; exact (newG_nxt HY.out HF.out Hp1.out).seg)
 have HGT : Hid (sealS (numsS (segN (p - 1) p m9 [((n0 : Int), v, o9)])) = segT (newG V p n0 v t)) := qh (by rw [← Hm9.out, ← Ho9'.out, ← HsV.out.newG]; rfl)
 obtain ⟨x9, Hx9⟩ : ∃ q, Hid (freeS V1.xs = q) := ⟨_, rfl⟩
 obtain ⟨X9, HX9⟩ : ∃ q, Hid (V1.xs ++ [x9] = q) := ⟨_, rfl⟩
 obtain ⟨s9, Hs9⟩ : ∃ q, Hid (segT (newG V p n0 v t) = q) := ⟨_, rfl⟩
 have HXe : Hid (freeS V.xs = x9) := qh (by rw [← HsV.out.xs]; exact Hx9.out)
 have HXl : Hid (X9.length = V1.xs.length + 1) := qh (by rw [← HX9.out]; simp)
 rw [Hs9.out] at HGT
 rw [Hx9.out, HX9.out] at HS1 HS2
 obtain ⟨z9, Hz9⟩ : ∃ q, Hid (sltV ss [] = q) := ⟨_, rfl⟩
 have HSS : Hid (settleTo kpAll ss ([] ++ [(x9, s9)]) 1 = apS ss V p n0 v t) := qh (by rw [settle_put]; unfold apS; rw [HXe.out, Hs9.out])
 have HNU : Hid (newU (rdU (readP (settleTo kpAll ss ([] ++ [(x9, s9)]) 1) [] 0)) (rdU (readP (settleTo kpAll ss ([] ++ [(x9, s9)]) 1) [] 1)) = some ((V1.g, V1.b, V1.p, V1.t, V1.xs, V1.ms), z9)) := qh (by rw [HSS.out, HAs.out.keep.nu, HsV.out.g, HsV.out.b, HsV.out.p, HsV.out.t, HsV.out.xs, HsV.out.ms, HAs.out.keepS, Hz9.out])
 have HF0 : Hid ((readP (settleTo kpAll ss ([] ++ [(x9, s9)]) 1) [] 0).size ≤ 65536) := qh (by rw [HSS.out]; have := readP_size HAs.out.diskS 0; omega)
 have HF1 : Hid ((readP (settleTo kpAll ss ([] ++ [(x9, s9)]) 1) [] 1).size ≤ 65536) := qh (by rw [HSS.out]; have := readP_size HAs.out.diskS 1; omega)
 have HWo : Hid (List.all ([] ++ [(x9, s9)]) wOk = true) := qh (by rw [← HXe.out, ← Hs9.out]; exact (diskB_len64 (HLY.out.put (p := p) (n := n0) (v := v) (t := t) HD.out H20.out)).2.2.2)
 have HRy : Hid (R = ((settleTo kpAll ss ([] ++ [(x9, s9)]) 1, [(1 - z9, supT (V1.g + 1) V1.b V1.p V1.t X9 V1.ms)]), 0)) := qh (by
  rw [← HR.out, apP_yes HL.out (apC_yes HP0.out H20.out H9.out), HSS.out]
  unfold apD apS
  rw [HXe.out, Hz9.out, ← HX9.out, HsV.out.g, HsV.out.b, HsV.out.p, HsV.out.t, HsV.out.xs, HsV.out.ms])
 refine mergeAp (F := fun gz As cs Wq => Box Wq gz 122 #[ii (p - 1), ii p, ii t, .slice As 1 cs] ∧ Box Wq w.heap.size 35 #[.slice A 64 c, .slice A2 0 c2] ∧ Box Wq gF 55 #[ii p, ii (n0 : Int), ii v, ii t] ∧ Box Wq gV 49 #[ii V1.g, ii V1.b, ii V1.p, ii V1.t, .slice V1.A V1.xs.length V1.c, .slice V1.A2 V1.ms.length V1.c2, .slice V1.A3 V1.gs.length V1.c3, .slice V1.A4 V1.im.length V1.c4] ∧ Box Wq gR 35 #[nsl, nsl] ∧ VlP Wq w.heap.size mid hi1 V1 ∧ Nx w Wq ∧ Sl Wq w.heap.size As 192 3 (chAt [((n0 : Int), v, o9)]) ∧ hi1 ≤ gz ∧ gV ≠ gz) (G := ?_) (fun key => ?_) ?_
 rotate_left
 · have kd : Nx w3 w3.drew := (Nx.refl w3).drew
   replace zE := zE.nx kd; replace zF := zF.nx kd; replace zV := zV.nx kd; replace zR := zR.nx kd; replace zP := zP.nx kd; replace zX := zX.trans kd; replace hHi := ntr hHi kd.size
   clear kd
   refine wp_planA (.t 0 (.t 1 (.t 3 (.b 2 (.b 4 (.c 5 (.c 6 .e)) 5 (.c 4 (.c 6 .e))) 5 (.c 2 (.c 4 (.c 6 .e))))))) (fun w' => (w'.cell? ⟨gV, 0, none⟩ = some (ii V1.g) ∧ w'.cell? ⟨gV, 1, none⟩ = some (ii V1.b) ∧ w'.cell? ⟨gV, 2, none⟩ = some (ii V1.p) ∧ w'.cell? ⟨gV, 3, none⟩ = some (ii V1.t) ∧ w'.cell? ⟨gV, 4, none⟩ = some (.slice V1.A V1.xs.length V1.c) ∧ w'.cell? ⟨gV, 5, none⟩ = some (.slice V1.A2 V1.ms.length V1.c2) ∧ w'.cell? ⟨gV, 6, none⟩ = some (.slice V1.A3 V1.gs.length V1.c3) ∧ w'.cell? ⟨gV, 7, none⟩ = some (.slice V1.A4 V1.im.length V1.c4)) ∧ (w'.cell? ⟨gF, 0, none⟩ = some (ii p) ∧ w'.cell? ⟨gF, 1, none⟩ = some (ii (n0 : Int)) ∧ w'.cell? ⟨gF, 2, none⟩ = some (ii v) ∧ w'.cell? ⟨gF, 3, none⟩ = some (ii t))) (by exact ⟨zV.e8, zF.d4⟩) ?_
   simp only [psOf, List.getD_cons_zero, List.getD_cons_succ]
   generalize w3.drew = wv at *
   repeat' (first
    | (have hDn := hDone; have rc0 := bz.cell 0; have rf0 := bz.frozen 0; have rc1 := bz.cell 1; have rf1 := bz.frozen 1; have rc2 := bz.cell 2; have rf2 := bz.frozen 2; have rc3 := bz.cell 3; have rf3 := bz.frozen 3; have rlt := bz.lt; (with_reducible refine HP.call ?_); refine cSt fun K hK => ?_; go_simp; refine hK.out _ _ (by exact ⟨((((zV.far (p := ⟨gz, 0, none⟩) hnV (ii (p - 1))).far (p := ⟨gz, 1, none⟩) hnV (ii p)).far (p := ⟨gz, 2, none⟩) hnV (ii t)).far (p := ⟨gz, 3, none⟩) hnV (.slice As 1 cs)).e8, ((((zF.far (p := ⟨gz, 0, none⟩) hnF (ii (p - 1))).far (p := ⟨gz, 1, none⟩) hnF (ii p)).far (p := ⟨gz, 2, none⟩) hnF (ii t)).far (p := ⟨gz, 3, none⟩) hnF (.slice As 1 cs)).d4⟩) ?_; clear hK K; (try simp only [Act.put, qqA, qqB, qqC]); clear rc0 rf0 rc1 rf1 rc2 rf2 rc3 rf3; refine HP.done ?_; have rq := put4_box bz (ii (p - 1)) (ii p) (ii t) (.slice As 1 cs); unfold put4 at rq; have fzE := ((((zE.far (p := ⟨gz, 0, none⟩) hnE (ii (p - 1))).far (p := ⟨gz, 1, none⟩) hnE (ii p)).far (p := ⟨gz, 2, none⟩) hnE (ii t)).far (p := ⟨gz, 3, none⟩) hnE (.slice As 1 cs)); have fzF := ((((zF.far (p := ⟨gz, 0, none⟩) hnF (ii (p - 1))).far (p := ⟨gz, 1, none⟩) hnF (ii p)).far (p := ⟨gz, 2, none⟩) hnF (ii t)).far (p := ⟨gz, 3, none⟩) hnF (.slice As 1 cs)); have fzV := ((((zV.far (p := ⟨gz, 0, none⟩) hnV (ii (p - 1))).far (p := ⟨gz, 1, none⟩) hnV (ii p)).far (p := ⟨gz, 2, none⟩) hnV (ii t)).far (p := ⟨gz, 3, none⟩) hnV (.slice As 1 cs)); have fzR := ((((zR.far (p := ⟨gz, 0, none⟩) hnR (ii (p - 1))).far (p := ⟨gz, 1, none⟩) hnR (ii p)).far (p := ⟨gz, 2, none⟩) hnR (ii t)).far (p := ⟨gz, 3, none⟩) hnR (.slice As 1 cs)); have fX := put4_nx (g := gz) zX hgz (ii (p - 1)) (ii p) (ii t) (.slice As 1 cs); unfold put4 at fX; have fP := zP.rgA (rg_put4 _ gz (ii (p - 1)) (ii p) (ii t) (.slice As 1 cs)) hSlt; unfold put4 at fP; have fQ := slput4q hSq bz (by decide) (ii (p - 1)) (ii p) (ii t) (.slice As 1 cs); unfold put4 at fQ; generalize ((((wv.setCell ⟨gz, 0, none⟩ (ii (p - 1))).setCell ⟨gz, 1, none⟩ (ii p)).setCell ⟨gz, 2, none⟩ (ii t)).setCell ⟨gz, 3, none⟩ (.slice As 1 cs)) = Wf at *; exact key gz Aq cq As cs Wf ⟨rq, fzE, fzF, fzV, fzR, fP, fX, fQ, hSlt, hnV⟩)
    | (with_reducible refine HP.both ?_ ?_)
    | (with_reducible refine HP.three ?_ ?_ ?_)
    | (with_reducible refine HP.call ?_)
    | (refine HP.tk ?_; (try simp only [Act.put, qqA, qqB, qqC]))
    | (refine HP.sk ?_; (try simp only [Act.put, qqA, qqB, qqC]))
    | (refine cSt fun K hK => ?_; go_simp; first
      | ((with_reducible refine callAt 161 ?_); have HC := l05Content_c V1 T wv.heap.size wv zP.own.vlt nle HVN.out HY.out HTr.out; rw [HTop.out] at HC; refine HC.mono ?_; clear HC; rintro e wv ⟨Aq, cq, rfl, hC, hk⟩; (try replace bz := bz.nx hk); replace zE := zE.nx hk; replace zF := zF.nx hk; replace zV := zV.nx hk; replace zR := zR.nx hk; replace zP := zP.nx hk; replace zX := zX.trans hk; replace hHi := ntr hHi hk.size; (try replace hSq := hSq.nx hk); clear hk; go_wp2_with fail; refine hK.out _ _ (by exact ⟨zV.e8, zF.d4⟩) ?_; clear hK K; (try simp only [Act.put, qqA, qqB, qqC]))
      | ((with_reducible refine callAt 160 ?_); have HC := l03Of_c Aq cq wv.heap.size n0 top9 p v t wv hC nle (by have := Htl.out; have := HFr.out.2.1; omega) (by have := Htl.out; omega) (by have := HFr.out.1; omega) (by have := HFr.out.1; omega); rw [Htl.out, Ho9.out] at HC; refine HC.mono ?_; clear HC; rintro e wv ⟨As, cs, rfl, hSq, hk⟩; replace hSq := hSq.low zX.size; have hDone := True.intro; (try replace bz := bz.nx hk); replace zE := zE.nx hk; replace zF := zF.nx hk; replace zV := zV.nx hk; replace zR := zR.nx hk; replace zP := zP.nx hk; replace zX := zX.trans hk; replace hHi := ntr hHi hk.size; (try replace hC := (hC.below hk nle).more hk.size); clear hk; go_wp2_with fail; refine hK.out _ _ (by exact ⟨zV.e8, zF.d4⟩) ?_; clear hK K; (try simp only [Act.put, qqA, qqB, qqC]))
      | (have bz := Box.new wv 122 #[ii 0, ii 0, ii 0, nsl]; have hz := (Nx.refl wv).alloc (.cells #[ii 0, ii 0, ii 0, nsl] 122); have hnE := Nat.ne_of_lt zE.lt; have hnV := Nat.ne_of_lt zV.lt; have hnF := Nat.ne_of_lt zF.lt; have hnR := Nat.ne_of_lt zR.lt; have hgz := zX.size; have hSlt := hHi; (try replace bz := bz.nx hz); replace zE := zE.nx hz; replace zF := zF.nx hz; replace zV := zV.nx hz; replace zR := zR.nx hz; replace zP := zP.nx hz; replace zX := zX.trans hz; replace hHi := ntr hHi hz.size; (try replace hC := (hC.below hz nle).more hz.size); (try replace hSq := hSq.nx hz); refine hK.out _ _ (by exact ⟨zV.e8, zF.d4⟩) ?_; clear hK K; (try simp only [Act.put, qqA, qqB, qqC]); clear hz; change HP _ _ _ _ _ _ (wv.alloc (.cells #[ii 0, ii 0, ii 0, nsl] 122)); generalize wv.heap.size = gz at *; generalize wv.alloc (.cells #[ii 0, ii 0, ii 0, nsl] 122) = wv at *)))
 intro gz Aq cq As cs W4 ⟨zG, zE, zF, zV, zR, zP, zX, hSq, hgz, hnV⟩
 clear zF
 rcases Nat.eq_zero_or_pos V1.gs.length with hk0 | hk0
 · have hd : decide (0 < (V1.gs.length : Int)) = false := decide_eq_false (by omega)
   rw [show t = m9 from (lastM_nil t hk0).symm.trans Hm9.out] at zG
   obtain ⟨y0, y1, y2, y3, y4, y5, y6, y7⟩ := zV.e8
   go_wp2_with fail
   clear y0 y1 y2 y3 y4 y5 y6 y7
   refine (l04Free_c V1.g V1.b V1.p V1.t V1.A V1.A2 V1.c V1.c2 W4.heap.size V1.xs V1.ms W4 zP.own.vlt.tab nle (by have := HXL.out; omega)).mono ?_
   rintro e w7 ⟨A7, c7, rfl, _, hS7, hk⟩
   have HfL := qh (freeTo_some (xs := V1.xs) (by have := HXL.out; omega))
   obtain ⟨b7, o7, rfl, hb7, q7⟩ := Ins.at_ (k := 0) hS7.row HfL.out
   obtain ⟨L7, HL7⟩ : ∃ q, Hid ((freeTo V1.xs 54).length = q) := ⟨_, rfl⟩
   have hL7 : 0 < L7 := HL7.out ▸ HfL.out
   rw [HL7.out]
   have hL8 : (0 : Int) < (L7 : Int) := by omega
   change w7.cell? ⟨b7, o7, none⟩ = some (ii (freeS V1.xs)) at q7
   rw [Hx9.out] at q7
   replace zE := zE.nx hk; replace zV := zV.nx hk; replace zR := zR.nx hk; replace zP := zP.nx hk; replace zG := zG.nx hk; replace hSq := hSq.nx hk; replace zX := zX.trans hk
   clear hS7 hk HfL HL7
   obtain ⟨y0, y1, y2, y3, y4, y5, y6, y7⟩ := zV.e8
   have zS := Box.new w7 26 #[ii V1.g, ii V1.b, ii V1.p, ii V1.t, .slice V1.A V1.xs.length V1.c, .slice V1.A2 V1.ms.length V1.c2]
   have hMk : Mks w7 w7.heap.size V1.A2 V1.ms := zP.own.vlt.mks
   have hk := (Nx.refl w7).alloc (.cells #[ii V1.g, ii V1.b, ii V1.p, ii V1.t, .slice V1.A V1.xs.length V1.c, .slice V1.A2 V1.ms.length V1.c2] 26)
   have hgS := zX.size
   have hneR : gR ≠ w7.heap.size := Nat.ne_of_lt zR.lt
   have hneZ : gz ≠ w7.heap.size := Nat.ne_of_lt zG.lt
   have hneD : w.heap.size ≠ w7.heap.size := Nat.ne_of_lt zE.lt
   replace zE := zE.nx hk; replace zR := zR.nx hk; replace zP := zP.nx hk; replace zG := zG.nx hk; replace hSq := hSq.nx hk; replace zX := zX.trans hk
   replace hMk := hMk.below hk nle
   clear hk
   have zSl := zS.lt
   obtain ⟨z0, z1, z2, z3, z4, z5⟩ := zS.d6
   have hOw := RowI.new (w7.alloc (.cells #[ii V1.g, ii V1.b, ii V1.p, ii V1.t, .slice V1.A V1.xs.length V1.c, .slice V1.A2 V1.ms.length V1.c2] 26)) nle
   have hka := (Nx.refl (w7.alloc (.cells #[ii V1.g, ii V1.b, ii V1.p, ii V1.t, .slice V1.A V1.xs.length V1.c, .slice V1.A2 V1.ms.length V1.c2] 26))).alloc (.cells #[] 3)
   have hIn := (zP.nx hka).own.vlt.tab
   have hsa := hka.size
   have hsb : w7.heap.size + 1 ≤ ((w7.alloc (.cells #[ii V1.g, ii V1.b, ii V1.p, ii V1.t, .slice V1.A V1.xs.length V1.c, .slice V1.A2 V1.ms.length V1.c2] 26)).alloc (.cells #[] 3)).heap.size := by simp
   simp only [World.size_alloc] at hOw
   go_wp2_with (at_builtin; refine wpList_addAllI rfl _ _ rfl (w7.heap.size + 1) (w7.heap.size + 1) V1.A V1.c V1.xs rfl rfl hOw hIn (by have := HXL.out; omega) hsb ?_)
   intro A8 k8 w8 hr8 hg8 hs8
   have hk8 := hg8.nx (w7.alloc (.cells #[ii V1.g, ii V1.b, ii V1.p, ii V1.t, .slice V1.A V1.xs.length V1.c, .slice V1.A2 V1.ms.length V1.c2] 26)) hka (by simp)
   have hszS : (w7.alloc (.cells #[ii V1.g, ii V1.b, ii V1.p, ii V1.t, .slice V1.A V1.xs.length V1.c, .slice V1.A2 V1.ms.length V1.c2] 26)).heap.size = w7.heap.size + 1 := by simp
   clear z0 z1 z2 z3 z4 z5 y0 y1 y2 y3 y4 y5 y6 y7 hg8 hs8 hsa hsb hOw hIn hka zSl q7 hb7
   generalize w7.alloc (.cells #[ii V1.g, ii V1.b, ii V1.p, ii V1.t, .slice V1.A V1.xs.length V1.c, .slice V1.A2 V1.ms.length V1.c2] 26) = wS at *
   have hz8 : w7.heap.size + 1 ≤ w8.heap.size := by have := hk8.size; omega
   have hgS8 : w.heap.size ≤ w7.heap.size := hgS
   obtain ⟨gS, HgS⟩ : ∃ g, Hid (w7.heap.size = g) := ⟨_, rfl⟩
   rw [HgS.out] at zS hMk hr8 hz8 hgS8 hneR hneZ hneD hszS ⊢
   have hka := (Nx.refl w8).alloc (.cells #[ii x9] 3)
   have hr9 := hr8.nx hka
   have hbx := Box.new w8 3 #[ii x9]
   have hsb := ntr hz8 hka.size
   go_wp2_with (at_builtin; refine wpList_addI rfl _ _ rfl (gS + 1) w8.heap.size _ V1.xs x9 rfl rfl hr9 hbx (by have := HXL.out; omega) hsb ?_)
   intro A9 k9 w9 hr10 hg10
   have hk := hg10.nx wS (hk8.trans hka) (by omega)
   clear hk8
   replace zE := zE.nx hk; replace zR := zR.nx hk; replace zG := zG.nx hk; replace zS := zS.nx hk; replace hSq := hSq.nx hk; replace zX := zX.trans hk
   replace hMk := hMk.below hk (by omega)
   obtain ⟨A9', c9', he9, hcap9, hTb⟩ := hr10.slc
   rw [HX9.out] at he9 hTb hcap9
   rw [HXl.out] at he9 hcap9
   injection he9 with he91 he92 he93
   subst he91 he93
   clear he92 hr10 hg10 hk hr9 hbx hsb hka hr8 zP zV
   have zSl := zS.lt
   have zf := zS.frozen 4
   obtain ⟨z0, z1, z2, z3, z4, z5⟩ := zS.d6
   have hgSn : w.heap.size ≤ gS := hgS8
   have hTb := (hTb.far (p := ⟨gS, 4, none⟩) (Nat.lt_succ_self gS) (.slice A9 (V1.xs.length + 1) k9)).low hgSn.step
   have hSq := hSq.far_ty (p := ⟨gS, 4, none⟩) zS (by decide) (.slice A9 (V1.xs.length + 1) k9)
   have zE := zE.far (p := ⟨gS, 4, none⟩) hneD (.slice A9 (V1.xs.length + 1) k9)
   have zR := zR.far (p := ⟨gS, 4, none⟩) hneR (.slice A9 (V1.xs.length + 1) k9)
   have zG := zG.far (p := ⟨gS, 4, none⟩) hneZ (.slice A9 (V1.xs.length + 1) k9)
   have hMk := (hMk.below (Below.setCell (Below.refl gS w9) (p := ⟨gS, 4, none⟩) nle (.slice A9 (V1.xs.length + 1) k9)) nle).more (Nat.le_of_lt (zS.set 4 (.slice A9 (V1.xs.length + 1) k9)).lt)
   have zS := zS.set 4 (.slice A9 (V1.xs.length + 1) k9)
   have zX := zX.setCell (p := ⟨gS, 4, none⟩) hgSn (.slice A9 (V1.xs.length + 1) k9)
   simp only [List.setIfInBounds_toArray, List.set_cons_zero, List.set_cons_succ] at zS
   go_wp2_with fail
   clear z0 z1 z2 z3 z4 z5 zSl zf
   generalize w9.setCell ⟨gS, 4, none⟩ (.slice A9 (V1.xs.length + 1) k9) = w10 at *
   have hneG : gz ≠ gR := by omega
   have hneS : gS ≠ gR := hneR.symm
   have hk : Nx w10 w10.drew := (Nx.refl w10).drew
   replace zE := zE.nx hk; replace zG := zG.nx hk; replace zS := zS.nx hk; replace zR := zR.nx hk; replace hSq := hSq.nx hk; replace hTb := hTb.nx hk; replace hMk := (hMk.below hk nle).more hk.size; replace zX := zX.trans hk; clear hk
   refine wp_planA (.t 0 (.t 1 (.t 2 (.t 6 (.c 3 (.c 4 (.c 5 (.c 7 (.c 8 (.t 9 .e)))))))))) (fun w' => (w'.cell? ⟨w.heap.size, 0, none⟩ = some (.slice A 64 c) ∧ w'.cell? ⟨w.heap.size, 1, none⟩ = some (.slice A2 0 c2)) ∧ (w'.cell? ⟨gz, 0, none⟩ = some (ii (p - 1)) ∧ w'.cell? ⟨gz, 1, none⟩ = some (ii p) ∧ w'.cell? ⟨gz, 2, none⟩ = some (ii m9) ∧ w'.cell? ⟨gz, 3, none⟩ = some (.slice As 1 cs)) ∧ (w'.cell? ⟨gS, 0, none⟩ = some (ii V1.g) ∧ w'.cell? ⟨gS, 1, none⟩ = some (ii V1.b) ∧ w'.cell? ⟨gS, 2, none⟩ = some (ii V1.p) ∧ w'.cell? ⟨gS, 3, none⟩ = some (ii V1.t) ∧ w'.cell? ⟨gS, 4, none⟩ = some (.slice A9 (V1.xs.length + 1) k9) ∧ w'.cell? ⟨gS, 5, none⟩ = some (.slice V1.A2 V1.ms.length V1.c2))) (by exact ⟨⟨zE.c0, zE.c1⟩, zG.d4, zS.d6⟩) ?_
   simp only [psOf, List.getD_cons_zero, List.getD_cons_succ]
   repeat ((first | refine HP.tk ?_ | refine HP.sk ?_); try simp only [Act.put, qqA, qqB, qqC])
   refine hPc fun K hK => ?_
   go_simp
   refine (l02Text_c (p - 1) p m9 As cs _ [((n0 : Int), v, o9)] _ hSq.row nle (by simp) HGR.out).mono ?_; rintro e v1 ⟨he, hk⟩; rw [HGT.out] at he; subst he; replace zE := zE.nx hk; replace zG := zG.nx hk; replace zS := zS.nx hk; replace zR := zR.nx hk; replace hSq := hSq.nx hk; replace hTb := hTb.nx hk; replace hMk := (hMk.below hk nle).more hk.size; replace zX := zX.trans hk; clear hk
   go_wp2_with fail
   refine hK.out _ _ (by exact ⟨⟨zE.c0, zE.c1⟩, zG.d4, zS.d6⟩) ?_
   clear hK K
   try simp only [Act.put, qqA, qqB, qqC]
   refine hPc fun K hK => ?_
   go_simp
   refine (l01Write_c A A2 64 c 0 c2 B [] x9 s9 _ (h2.below zX hB) (ntr hB zX.size) (by omega)).mono ?_; rintro e v2 ⟨A5, n5, c5, rfl, hW5, hk⟩; obtain rfl : n5 = 1 := hW5.1.symm; replace zE := zE.nx hk; replace zG := zG.nx hk; replace zS := zS.nx hk; replace zR := zR.nx hk; replace hSq := hSq.nx hk; replace hTb := hTb.nx hk; replace hMk := (hMk.below hk nle).more hk.size; replace zX := zX.trans hk; clear hk
   go_wp2_with fail
   refine hK.out _ _ (by exact ⟨⟨zE.c0, zE.c1⟩, zG.d4, zS.d6⟩) ?_
   clear hK K
   try simp only [Act.put, qqA, qqB, qqC]
   refine hPc fun K hK => ?_
   go_simp
   refine (l01Flush_c A A5 c 1 c5 _ ss ([] ++ [(x9, s9)]) _ ((h.below zX hB).more (ntr hB zX.size)) hW5.wrs nle (by omega) HWo.out).mono ?_; rintro e v3 ⟨A6, n6, c6, A7, n7, c7, rfl, hS6, hW6, hk⟩; obtain rfl : n6 = 64 := (by rw [← hS6.1, settleTo_len]; exact h.1); obtain rfl : n7 = 0 := hW6.1.symm; replace zE := zE.nx hk; replace zG := zG.nx hk; replace zS := zS.nx hk; replace zR := zR.nx hk; replace hSq := hSq.nx hk; replace hTb := hTb.nx hk; replace hMk := (hMk.below hk nle).more hk.size; replace zX := zX.trans hk; clear hk
   go_wp2_with fail
   refine hK.out _ _ (by exact ⟨⟨zE.c0, zE.c1⟩, zG.d4, zS.d6⟩) ?_
   clear hK K
   try simp only [Act.put, qqA, qqB, qqC]
   refine hPc fun K hK => ?_
   go_simp
   have HC := l04Put_c A6 A7 64 c6 0 c7 v3.heap.size (settleTo kpAll ss ([] ++ [(x9, s9)]) 1) [] V1.g V1.b V1.p V1.t A9 V1.A2 k9 V1.c2 X9 V1.ms v3 hS6.strs hW6.wrs hTb.row hMk nle (by omega) (by omega) (by omega) HF0.out HF1.out _ _ HNU.out HS2.out; rw [HXl.out] at HC; refine HC.mono ?_; clear HC; rintro e v4 ⟨A8, n8, c8, rfl, hW8, hk⟩; obtain rfl : n8 = 1 := hW8.1.symm; replace hS6 := hS6.nx hk; replace zE := zE.nx hk; replace zG := zG.nx hk; replace zS := zS.nx hk; replace zR := zR.nx hk; replace hSq := hSq.nx hk; replace hTb := hTb.nx hk; replace hMk := (hMk.below hk nle).more hk.size; replace zX := zX.trans hk; clear hk; have m0 := zR.c0; have m1 := zR.c1; have mf0 := zR.frozen 0; have mf1 := zR.frozen 1; have mlt := zR.lt
   go_wp2_with fail
   refine hK.out _ _ (by exact ⟨⟨zE.c0, zE.c1⟩, zG.d4, zS.d6⟩) ?_
   clear hK K
   try simp only [Act.put, qqA, qqB, qqC]
   refine hPc fun K hK => ?_
   go_simp
   refine hK.out _ _ (by exact ⟨⟨((zE.far (p := ⟨gR, 0, none⟩) hneE (.slice A6 64 c6)).far (p := ⟨gR, 1, none⟩) hneE (.slice A8 1 c8)).c0, ((zE.far (p := ⟨gR, 0, none⟩) hneE (.slice A6 64 c6)).far (p := ⟨gR, 1, none⟩) hneE (.slice A8 1 c8)).c1⟩, ((zG.far (p := ⟨gR, 0, none⟩) hneG (.slice A6 64 c6)).far (p := ⟨gR, 1, none⟩) hneG (.slice A8 1 c8)).d4, ((zS.far (p := ⟨gR, 0, none⟩) hneS (.slice A6 64 c6)).far (p := ⟨gR, 1, none⟩) hneS (.slice A8 1 c8)).d6⟩) ?_
   clear hK K
   try simp only [Act.put, qqA, qqB, qqC]
   repeat ((first | refine HP.tk ?_ | refine HP.sk ?_); try simp only [Act.put, qqA, qqB, qqC])
   refine HP.done ?_
   clear m0 m1 mf0 mf1
   have rq := (zR.set0 (.slice A6 64 c6)).set1 (.slice A8 1 c8)
   have hnf := (zX.setCell (p := ⟨gR, 0, none⟩) hgR (.slice A6 64 c6)).setCell (p := ⟨gR, 1, none⟩) hgR (.slice A8 1 c8)
   have hSf := hS6.twoW zR (.slice A6 64 c6) (.slice A8 1 c8)
   have hWf := hW8.twoW zR (.slice A6 64 c6) (.slice A8 1 c8)
   generalize (v4.setCell ⟨gR, 0, none⟩ (.slice A6 64 c6)).setCell ⟨gR, 1, none⟩ (.slice A8 1 c8) = Wf at *
   have q0 := rq.c0
   have q1 := rq.c1
   go_wp2
   exact bodyPost_ret (v := .tuple #[.agg #[.slice A6 64 c6, .slice A8 1 c8], ii 0]) (by simp [results, Tryz.results77, go_sem, q0, q1]) rfl (RetAp.mk HRy.out hSf.strs hWf.wrs hnf)
 have hd : decide (0 < (V1.gs.length : Int)) = true := decide_eq_true (by omega)
 obtain ⟨k, hk1⟩ : ∃ k, Hid (V1.gs.length = k + 1) := ⟨V1.gs.length - 1, qh (by omega)⟩
 obtain ⟨bb, off, hA3, hbb, q0, q1, q2, q3⟩ := zP.own.vlt.sgs.row.at4 (k := k) (by have := hk1.out; omega)
 obtain ⟨g', hA, _, hg', _⟩ := zP.row (by have := hk1.out; omega)
 obtain rfl : g' = bb := by rw [hA3] at hA; injection hA with hA; injection hA with hA; exact hA.symm
 obtain ⟨q9, Hq9⟩ : ∃ q, Hid ((V1.gs.getD k sgZ).m = q) := ⟨_, rfl⟩
 rw [Hq9.out] at q2
 have HMx : Hid (max t q9 = m9) := qh (by rw [← Hm9.out, ← Hq9.out]; exact (lastM_some t hk1.out).symm)
 clear q0 q1 q3 hA
 have hk20 := HY.out.n4
 have hsub : ((V1.gs.length : Nat) : Int) - 1 = (k : Int) := by have := hk1.out; omega
 have hlk : (k : Int) < ((V1.gs.length : Nat) : Int) := by have := hk1.out; omega
 have hwk : IntKind.i64.wrap (k : Int) = (k : Int) := IntWalk.i64_in _ (by have := hk1.out; omega)
 rw [hA3] at zV ⊢
 obtain ⟨y0, y1, y2, y3, y4, y5, y6, y7⟩ := zV.e8
 go_wp2_with fail
 clear y0 y1 y2 y3 y4 y5 y6 y7
 have kd : Nx W4 W4.drew := (Nx.refl W4).drew
 have hle1 := zP.le
 have hle2 := zP.le2
 have hnE : w.heap.size ≠ gz := by omega
 have hnR : gR ≠ gz := by omega
 have hbg : g' < gz := by omega
 have hgw : w.heap.size ≤ gz := by omega
 have vd := zV.nx kd
 have gd := zG.nx kd
 have pd : W4.drew.cell? ⟨g', off + k * 4 + 2, none⟩ = some (ii q9) := q2
 have yw : W4.cell? ⟨gz, 2, none⟩ = some (ii t) := zG.cell 2
 have yd : W4.drew.cell? ⟨gz, 2, none⟩ = some (ii t) := zG.cell 2
 have yz := gd.frozen 2
 have yl := gd.lt
 refine wp_planA (.t 0 (.t 2 (.t 3 (.t 4 (.t 5 (.t 6 (.t 7 (.t 8 (.c 1 (.t 9 (.t 10 (.c 11 .e)))))))))))) (fun w' => w'.cell? ⟨gV, 6, none⟩ = some (.slice (some ⟨g', off, none⟩) V1.gs.length V1.c3) ∧ w'.cell? ⟨g', off + k * 4 + 2, none⟩ = some (ii q9)) (by exact ⟨vd.cell 6, pd⟩) ?_
 simp only [psOf, List.getD_cons_zero, List.getD_cons_succ]
 repeat ((first | refine HP.tk ?_ | refine HP.sk ?_); try simp only [Act.put, qqA, qqB, qqC])
 refine hPc fun K hK => ?_
 go_simp
 refine hK.out _ _ (by exact ⟨vd.cell 6, pd⟩) ?_
 clear hK K
 try simp only [Act.put, qqA, qqB, qqC]
 repeat ((first | refine HP.tk ?_ | refine HP.sk ?_); try simp only [Act.put, qqA, qqB, qqC])
 refine hPc fun K hK => ?_
 go_simp
 refine hK.out _ _ (by exact ⟨(zV.far (p := ⟨gz, 2, none⟩) hnV (ii (max t q9))).cell 6, ((Below.setCell (Below.refl gz W4) (p := ⟨gz, 2, none⟩) nle (ii (max t q9))).cell (p := ⟨g', off + k * 4 + 2, none⟩) hbg).trans q2⟩) ?_
 clear hK K
 try simp only [Act.put, qqA, qqB, qqC]
 refine HP.done ?_
 have zV := (zV.far (p := ⟨gz, 2, none⟩) hnV (ii (max t q9))).nx (Nx.refl _).drew
 have zE := (zE.far (p := ⟨gz, 2, none⟩) hnE (ii (max t q9))).nx (Nx.refl _).drew
 have zR := (zR.far (p := ⟨gz, 2, none⟩) hnR (ii (max t q9))).nx (Nx.refl _).drew
 have zP := (zP.rgA ((Rg.of_nx (Nx.refl W4)).setCell (p := ⟨gz, 2, none⟩) (Nat.le_refl gz) (Nat.lt_succ_self gz) (ii (max t q9))) hgz).nx (Nx.refl _).drew
 have hSq := (hSq.far_ty (p := ⟨gz, 2, none⟩) zG (by decide) (ii (max t q9))).nx (Nx.refl _).drew
 have zG := (zG.set 2 (ii (max t q9))).nx (Nx.refl _).drew
 have zX := (zX.setCell (p := ⟨gz, 2, none⟩) hgw (ii (max t q9))).drew
 simp only [List.setIfInBounds_toArray, List.set_cons_zero, List.set_cons_succ] at zG
 clear vd gd pd yw yd yz yl kd q2
 generalize (W4.setCell ⟨gz, 2, none⟩ (ii (max t q9))).drew = W5 at *
 rw [HMx.out] at zG
 obtain ⟨y0, y1, y2, y3, y4, y5, y6, y7⟩ := zV.e8
 go_wp2_with fail
 clear y0 y1 y2 y3 y4 y5 y6 y7
 refine (l04Free_c V1.g V1.b V1.p V1.t V1.A V1.A2 V1.c V1.c2 W5.heap.size V1.xs V1.ms W5 zP.own.vlt.tab nle (by have := HXL.out; omega)).mono ?_
 rintro e w7 ⟨A7, c7, rfl, _, hS7, hk⟩
 have HfL := qh (freeTo_some (xs := V1.xs) (by have := HXL.out; omega))
 obtain ⟨b7, o7, rfl, hb7, q7⟩ := Ins.at_ (k := 0) hS7.row HfL.out
 obtain ⟨L7, HL7⟩ : ∃ q, Hid ((freeTo V1.xs 54).length = q) := ⟨_, rfl⟩
 have hL7 : 0 < L7 := HL7.out ▸ HfL.out
 rw [HL7.out]
 have hL8 : (0 : Int) < (L7 : Int) := by omega
 change w7.cell? ⟨b7, o7, none⟩ = some (ii (freeS V1.xs)) at q7
 rw [Hx9.out] at q7
 replace zE := zE.nx hk; replace zV := zV.nx hk; replace zR := zR.nx hk; replace zP := zP.nx hk; replace zG := zG.nx hk; replace hSq := hSq.nx hk; replace zX := zX.trans hk
 clear hS7 hk HfL HL7
 obtain ⟨y0, y1, y2, y3, y4, y5, y6, y7⟩ := zV.e8
 have zS := Box.new w7 26 #[ii V1.g, ii V1.b, ii V1.p, ii V1.t, .slice V1.A V1.xs.length V1.c, .slice V1.A2 V1.ms.length V1.c2]
 have hMk : Mks w7 w7.heap.size V1.A2 V1.ms := zP.own.vlt.mks
 have hk := (Nx.refl w7).alloc (.cells #[ii V1.g, ii V1.b, ii V1.p, ii V1.t, .slice V1.A V1.xs.length V1.c, .slice V1.A2 V1.ms.length V1.c2] 26)
 have hgS := zX.size
 have hneR : gR ≠ w7.heap.size := Nat.ne_of_lt zR.lt
 have hneZ : gz ≠ w7.heap.size := Nat.ne_of_lt zG.lt
 have hneD : w.heap.size ≠ w7.heap.size := Nat.ne_of_lt zE.lt
 replace zE := zE.nx hk; replace zR := zR.nx hk; replace zP := zP.nx hk; replace zG := zG.nx hk; replace hSq := hSq.nx hk; replace zX := zX.trans hk
 replace hMk := hMk.below hk nle
 clear hk
 have zSl := zS.lt
 obtain ⟨z0, z1, z2, z3, z4, z5⟩ := zS.d6
 have hOw := RowI.new (w7.alloc (.cells #[ii V1.g, ii V1.b, ii V1.p, ii V1.t, .slice V1.A V1.xs.length V1.c, .slice V1.A2 V1.ms.length V1.c2] 26)) nle
 have hka := (Nx.refl (w7.alloc (.cells #[ii V1.g, ii V1.b, ii V1.p, ii V1.t, .slice V1.A V1.xs.length V1.c, .slice V1.A2 V1.ms.length V1.c2] 26))).alloc (.cells #[] 3)
 have hIn := (zP.nx hka).own.vlt.tab
 have hsa := hka.size
 have hsb : w7.heap.size + 1 ≤ ((w7.alloc (.cells #[ii V1.g, ii V1.b, ii V1.p, ii V1.t, .slice V1.A V1.xs.length V1.c, .slice V1.A2 V1.ms.length V1.c2] 26)).alloc (.cells #[] 3)).heap.size := by simp
 simp only [World.size_alloc] at hOw
 go_wp2_with (at_builtin; refine wpList_addAllI rfl _ _ rfl (w7.heap.size + 1) (w7.heap.size + 1) V1.A V1.c V1.xs rfl rfl hOw hIn (by have := HXL.out; omega) hsb ?_)
 intro A8 k8 w8 hr8 hg8 hs8
 have hk8 := hg8.nx (w7.alloc (.cells #[ii V1.g, ii V1.b, ii V1.p, ii V1.t, .slice V1.A V1.xs.length V1.c, .slice V1.A2 V1.ms.length V1.c2] 26)) hka (by simp)
 have hszS : (w7.alloc (.cells #[ii V1.g, ii V1.b, ii V1.p, ii V1.t, .slice V1.A V1.xs.length V1.c, .slice V1.A2 V1.ms.length V1.c2] 26)).heap.size = w7.heap.size + 1 := by simp
 clear z0 z1 z2 z3 z4 z5 y0 y1 y2 y3 y4 y5 y6 y7 hg8 hs8 hsa hsb hOw hIn hka zSl q7 hb7
 generalize w7.alloc (.cells #[ii V1.g, ii V1.b, ii V1.p, ii V1.t, .slice V1.A V1.xs.length V1.c, .slice V1.A2 V1.ms.length V1.c2] 26) = wS at *
 have hz8 : w7.heap.size + 1 ≤ w8.heap.size := by have := hk8.size; omega
 have hgS8 : w.heap.size ≤ w7.heap.size := hgS
 obtain ⟨gS, HgS⟩ : ∃ g, Hid (w7.heap.size = g) := ⟨_, rfl⟩
 rw [HgS.out] at zS hMk hr8 hz8 hgS8 hneR hneZ hneD hszS ⊢
 have hka := (Nx.refl w8).alloc (.cells #[ii x9] 3)
 have hr9 := hr8.nx hka
 have hbx := Box.new w8 3 #[ii x9]
 have hsb := ntr hz8 hka.size
 go_wp2_with (at_builtin; refine wpList_addI rfl _ _ rfl (gS + 1) w8.heap.size _ V1.xs x9 rfl rfl hr9 hbx (by have := HXL.out; omega) hsb ?_)
 intro A9 k9 w9 hr10 hg10
 have hk := hg10.nx wS (hk8.trans hka) (by omega)
 clear hk8
 replace zE := zE.nx hk; replace zR := zR.nx hk; replace zG := zG.nx hk; replace zS := zS.nx hk; replace hSq := hSq.nx hk; replace zX := zX.trans hk
 replace hMk := hMk.below hk (by omega)
 obtain ⟨A9', c9', he9, hcap9, hTb⟩ := hr10.slc
 rw [HX9.out] at he9 hTb hcap9
 rw [HXl.out] at he9 hcap9
 injection he9 with he91 he92 he93
 subst he91 he93
 clear he92 hr10 hg10 hk hr9 hbx hsb hka hr8 zP zV
 have zSl := zS.lt
 have zf := zS.frozen 4
 obtain ⟨z0, z1, z2, z3, z4, z5⟩ := zS.d6
 have hgSn : w.heap.size ≤ gS := hgS8
 have hTb := (hTb.far (p := ⟨gS, 4, none⟩) (Nat.lt_succ_self gS) (.slice A9 (V1.xs.length + 1) k9)).low hgSn.step
 have hSq := hSq.far_ty (p := ⟨gS, 4, none⟩) zS (by decide) (.slice A9 (V1.xs.length + 1) k9)
 have zE := zE.far (p := ⟨gS, 4, none⟩) hneD (.slice A9 (V1.xs.length + 1) k9)
 have zR := zR.far (p := ⟨gS, 4, none⟩) hneR (.slice A9 (V1.xs.length + 1) k9)
 have zG := zG.far (p := ⟨gS, 4, none⟩) hneZ (.slice A9 (V1.xs.length + 1) k9)
 have hMk := (hMk.below (Below.setCell (Below.refl gS w9) (p := ⟨gS, 4, none⟩) nle (.slice A9 (V1.xs.length + 1) k9)) nle).more (Nat.le_of_lt (zS.set 4 (.slice A9 (V1.xs.length + 1) k9)).lt)
 have zS := zS.set 4 (.slice A9 (V1.xs.length + 1) k9)
 have zX := zX.setCell (p := ⟨gS, 4, none⟩) hgSn (.slice A9 (V1.xs.length + 1) k9)
 simp only [List.setIfInBounds_toArray, List.set_cons_zero, List.set_cons_succ] at zS
 go_wp2_with fail
 clear z0 z1 z2 z3 z4 z5 zSl zf
 generalize w9.setCell ⟨gS, 4, none⟩ (.slice A9 (V1.xs.length + 1) k9) = w10 at *
 have hneG : gz ≠ gR := by omega
 have hneS : gS ≠ gR := hneR.symm
 have hk : Nx w10 w10.drew := (Nx.refl w10).drew
 replace zE := zE.nx hk; replace zG := zG.nx hk; replace zS := zS.nx hk; replace zR := zR.nx hk; replace hSq := hSq.nx hk; replace hTb := hTb.nx hk; replace hMk := (hMk.below hk nle).more hk.size; replace zX := zX.trans hk; clear hk
 refine wp_planA (.t 0 (.t 1 (.t 2 (.t 6 (.c 3 (.c 4 (.c 5 (.c 7 (.c 8 (.t 9 .e)))))))))) (fun w' => (w'.cell? ⟨w.heap.size, 0, none⟩ = some (.slice A 64 c) ∧ w'.cell? ⟨w.heap.size, 1, none⟩ = some (.slice A2 0 c2)) ∧ (w'.cell? ⟨gz, 0, none⟩ = some (ii (p - 1)) ∧ w'.cell? ⟨gz, 1, none⟩ = some (ii p) ∧ w'.cell? ⟨gz, 2, none⟩ = some (ii m9) ∧ w'.cell? ⟨gz, 3, none⟩ = some (.slice As 1 cs)) ∧ (w'.cell? ⟨gS, 0, none⟩ = some (ii V1.g) ∧ w'.cell? ⟨gS, 1, none⟩ = some (ii V1.b) ∧ w'.cell? ⟨gS, 2, none⟩ = some (ii V1.p) ∧ w'.cell? ⟨gS, 3, none⟩ = some (ii V1.t) ∧ w'.cell? ⟨gS, 4, none⟩ = some (.slice A9 (V1.xs.length + 1) k9) ∧ w'.cell? ⟨gS, 5, none⟩ = some (.slice V1.A2 V1.ms.length V1.c2))) (by exact ⟨⟨zE.c0, zE.c1⟩, zG.d4, zS.d6⟩) ?_
 simp only [psOf, List.getD_cons_zero, List.getD_cons_succ]
 repeat ((first | refine HP.tk ?_ | refine HP.sk ?_); try simp only [Act.put, qqA, qqB, qqC])
 refine hPc fun K hK => ?_
 go_simp
 refine (l02Text_c (p - 1) p m9 As cs _ [((n0 : Int), v, o9)] _ hSq.row nle (by simp) HGR.out).mono ?_; rintro e v1 ⟨he, hk⟩; rw [HGT.out] at he; subst he; replace zE := zE.nx hk; replace zG := zG.nx hk; replace zS := zS.nx hk; replace zR := zR.nx hk; replace hSq := hSq.nx hk; replace hTb := hTb.nx hk; replace hMk := (hMk.below hk nle).more hk.size; replace zX := zX.trans hk; clear hk
 go_wp2_with fail
 refine hK.out _ _ (by exact ⟨⟨zE.c0, zE.c1⟩, zG.d4, zS.d6⟩) ?_
 clear hK K
 try simp only [Act.put, qqA, qqB, qqC]
 refine hPc fun K hK => ?_
 go_simp
 refine (l01Write_c A A2 64 c 0 c2 B [] x9 s9 _ (h2.below zX hB) (ntr hB zX.size) (by omega)).mono ?_; rintro e v2 ⟨A5, n5, c5, rfl, hW5, hk⟩; obtain rfl : n5 = 1 := hW5.1.symm; replace zE := zE.nx hk; replace zG := zG.nx hk; replace zS := zS.nx hk; replace zR := zR.nx hk; replace hSq := hSq.nx hk; replace hTb := hTb.nx hk; replace hMk := (hMk.below hk nle).more hk.size; replace zX := zX.trans hk; clear hk
 go_wp2_with fail
 refine hK.out _ _ (by exact ⟨⟨zE.c0, zE.c1⟩, zG.d4, zS.d6⟩) ?_
 clear hK K
 try simp only [Act.put, qqA, qqB, qqC]
 refine hPc fun K hK => ?_
 go_simp
 refine (l01Flush_c A A5 c 1 c5 _ ss ([] ++ [(x9, s9)]) _ ((h.below zX hB).more (ntr hB zX.size)) hW5.wrs nle (by omega) HWo.out).mono ?_; rintro e v3 ⟨A6, n6, c6, A7, n7, c7, rfl, hS6, hW6, hk⟩; obtain rfl : n6 = 64 := (by rw [← hS6.1, settleTo_len]; exact h.1); obtain rfl : n7 = 0 := hW6.1.symm; replace zE := zE.nx hk; replace zG := zG.nx hk; replace zS := zS.nx hk; replace zR := zR.nx hk; replace hSq := hSq.nx hk; replace hTb := hTb.nx hk; replace hMk := (hMk.below hk nle).more hk.size; replace zX := zX.trans hk; clear hk
 go_wp2_with fail
 refine hK.out _ _ (by exact ⟨⟨zE.c0, zE.c1⟩, zG.d4, zS.d6⟩) ?_
 clear hK K
 try simp only [Act.put, qqA, qqB, qqC]
 refine hPc fun K hK => ?_
 go_simp
 have HC := l04Put_c A6 A7 64 c6 0 c7 v3.heap.size (settleTo kpAll ss ([] ++ [(x9, s9)]) 1) [] V1.g V1.b V1.p V1.t A9 V1.A2 k9 V1.c2 X9 V1.ms v3 hS6.strs hW6.wrs hTb.row hMk nle (by omega) (by omega) (by omega) HF0.out HF1.out _ _ HNU.out HS2.out; rw [HXl.out] at HC; refine HC.mono ?_; clear HC; rintro e v4 ⟨A8, n8, c8, rfl, hW8, hk⟩; obtain rfl : n8 = 1 := hW8.1.symm; replace hS6 := hS6.nx hk; replace zE := zE.nx hk; replace zG := zG.nx hk; replace zS := zS.nx hk; replace zR := zR.nx hk; replace hSq := hSq.nx hk; replace hTb := hTb.nx hk; replace hMk := (hMk.below hk nle).more hk.size; replace zX := zX.trans hk; clear hk; have m0 := zR.c0; have m1 := zR.c1; have mf0 := zR.frozen 0; have mf1 := zR.frozen 1; have mlt := zR.lt
 go_wp2_with fail
 refine hK.out _ _ (by exact ⟨⟨zE.c0, zE.c1⟩, zG.d4, zS.d6⟩) ?_
 clear hK K
 try simp only [Act.put, qqA, qqB, qqC]
 refine hPc fun K hK => ?_
 go_simp
 refine hK.out _ _ (by exact ⟨⟨((zE.far (p := ⟨gR, 0, none⟩) hneE (.slice A6 64 c6)).far (p := ⟨gR, 1, none⟩) hneE (.slice A8 1 c8)).c0, ((zE.far (p := ⟨gR, 0, none⟩) hneE (.slice A6 64 c6)).far (p := ⟨gR, 1, none⟩) hneE (.slice A8 1 c8)).c1⟩, ((zG.far (p := ⟨gR, 0, none⟩) hneG (.slice A6 64 c6)).far (p := ⟨gR, 1, none⟩) hneG (.slice A8 1 c8)).d4, ((zS.far (p := ⟨gR, 0, none⟩) hneS (.slice A6 64 c6)).far (p := ⟨gR, 1, none⟩) hneS (.slice A8 1 c8)).d6⟩) ?_
 clear hK K
 try simp only [Act.put, qqA, qqB, qqC]
 repeat ((first | refine HP.tk ?_ | refine HP.sk ?_); try simp only [Act.put, qqA, qqB, qqC])
 refine HP.done ?_
 clear m0 m1 mf0 mf1
 have rq := (zR.set0 (.slice A6 64 c6)).set1 (.slice A8 1 c8)
 have hnf := (zX.setCell (p := ⟨gR, 0, none⟩) hgR (.slice A6 64 c6)).setCell (p := ⟨gR, 1, none⟩) hgR (.slice A8 1 c8)
 have hSf := hS6.twoW zR (.slice A6 64 c6) (.slice A8 1 c8)
 have hWf := hW8.twoW zR (.slice A6 64 c6) (.slice A8 1 c8)
 generalize (v4.setCell ⟨gR, 0, none⟩ (.slice A6 64 c6)).setCell ⟨gR, 1, none⟩ (.slice A8 1 c8) = Wf at *
 have q0 := rq.c0
 have q1 := rq.c1
 go_wp2
 exact bodyPost_ret (v := .tuple #[.agg #[.slice A6 64 c6, .slice A8 1 c8], ii 0]) (by simp [results, Tryz.results77, go_sem, q0, q1]) rfl (RetAp.mk HRy.out hSf.strs hWf.wrs hnf)
end Go.Proofs.YtieoiailjjnnoaaGreatDoor
