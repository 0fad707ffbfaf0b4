/-
  Texts of the proof, in their order.
  Conditions: those of each.
-/
import Derived.Test.YtieoiailjjnnoaaGreatDoorMn9
import Derived.ChangeKeysEq
namespace Go.Proofs.YtieoiailjjnnoaaGreatDoor
set_option linter.unusedVariables false
open _root_.Go.Proofs.Tryz
set_option maxRecDepth 100000
set_option maxHeartbeats 16000000
section
open Go.RowKit
theorem cell_row_far (w : World) (g : Nat) (ds : Array Value) {p : Addr} (h : p.block ≠ g) : (w.setRow g ds).cell? p = w.cell? p := by
 unfold World.cell?
 rw [heap_setRow_ne w g ds h]
theorem stepDone_c (V : Vl) (B : Nat) (w : World) (h : Sgs w B V.A3 V.gs) (hB : B <= w.heap.size) (hl : Lead V.b V.gs) (h8 : V.im.length = 8) (hp : isRet V.b V.gs V.p = true) (hd : (V.p < V.t -> ahd V.b V.gs V.p < V.gs.length) /\ (V.t < V.p -> 0 < ahd V.b V.gs V.p)) :
 Calls Tryz.prog 148 #[V.w] w fun e w' => e = .returned (.tuple #[vA (stp V.b V.p V.t V.gs V.im).1, ii ((stp V.b V.p V.t V.gs V.im).2 : Int)]) /\ Nx w w' := by
 have hSA := segsAhead_c V V.p
 obtain ⟨g, b, p, t, A, c, xs, A2, c2, ms, A3, c3, gs, A4, c4, im⟩ := V
 simp only [Vl.w, Vl.wcells] at *
 obtain ⟨a, Ha⟩ := nM (ahd b gs p)
 have ha := ahd_at hp
 have HSA := qh (fun (w' : World) (hx : Nx w w') => hSA B w' (h.below hx hB) (ntr hB hx.size) hl.short hp)
 have Hstp : Hid (stp b p t gs im = if p < t then (app pN im (gs.getD a sgZ).cs, a + 1) else if t < p then (app pO im (gs.getD (a - 1) sgZ).cs, a - 1) else (im, a)) := qh (by rw [<- Ha.out]; rfl)
 have hsh := hl.short
 rw [Ha.out] at ha hd HSA
 obtain ⟨n, Hn⟩ := nM (gs.length)
 have h3' : ∀ k, k < n -> _ := fun k hk w' B' hw hB' => ((h.below (w' := w') (B' := B') hw hB').row.at4 (k := k) (by rw [Hn.out]; exact hk))
 have h3c : ∀ k, k < n -> _ := fun k hk => h.chs k (by rw [Hn.out]; exact hk)
 have HOKs := qh (fun k (hk : k < n) => hl.ok k (by rw [Hn.out]; exact hk))
 have ha1 := ha.1
 have H8 := qh h8
 rw [Hn.out] at hd ha1 hsh HSA ⊢
 have b0 : Box ((w.alloc (.cells #[ii g, ii b, ii p, ii t, sC A xs.length c, sC A2 ms.length c2, sC A3 n c3, inAt im 0, inAt im 1, inAt im 2, inAt im 3, inAt im 4, inAt im 5, inAt im 6, inAt im 7] 107)).alloc (.cells #[ii 0, ii 0, ii 0, ii 0, ii 0, ii 0, ii 0, ii 0] 105)) w.heap.size 107 #[ii g, ii b, ii p, ii t, sC A xs.length c, sC A2 ms.length c2, sC A3 n c3, inAt im 0, inAt im 1, inAt im 2, inAt im 3, inAt im 4, inAt im 5, inAt im 6, inAt im 7] := (Box.new w _ _).alloc _
 have r0 : Box ((w.alloc (.cells #[ii g, ii b, ii p, ii t, sC A xs.length c, sC A2 ms.length c2, sC A3 n c3, inAt im 0, inAt im 1, inAt im 2, inAt im 3, inAt im 4, inAt im 5, inAt im 6, inAt im 7] 107)).alloc (.cells #[ii 0, ii 0, ii 0, ii 0, ii 0, ii 0, ii 0, ii 0] 105)) (w.heap.size + 1) 105 #[ii 0, ii 0, ii 0, ii 0, ii 0, ii 0, ii 0, ii 0] := by have := Box.new (w.alloc (.cells #[ii g, ii b, ii p, ii t, sC A xs.length c, sC A2 ms.length c2, sC A3 n c3, inAt im 0, inAt im 1, inAt im 2, inAt im 3, inAt im 4, inAt im 5, inAt im 6, inAt im 7] 107)) 105 #[ii 0, ii 0, ii 0, ii 0, ii 0, ii 0, ii 0, ii 0]; rwa [World.size_alloc] at this
 have hx0 := ((Nx.refl w).alloc (.cells #[ii g, ii b, ii p, ii t, sC A xs.length c, sC A2 ms.length c2, sC A3 n c3, inAt im 0, inAt im 1, inAt im 2, inAt im 3, inAt im 4, inAt im 5, inAt im 6, inAt im 7] 107)).alloc (.cells #[ii 0, ii 0, ii 0, ii 0, ii 0, ii 0, ii 0, ii 0] 105)
 clear hl hp ha h h8 hSA
 go_enter func148, ntmps148
 go_wp2_with fail
 generalize ((w.alloc (.cells #[ii g, ii b, ii p, ii t, sC A xs.length c, sC A2 ms.length c2, sC A3 n c3, inAt im 0, inAt im 1, inAt im 2, inAt im 3, inAt im 4, inAt im 5, inAt im 6, inAt im 7] 107)).alloc (.cells #[ii 0, ii 0, ii 0, ii 0, ii 0, ii 0, ii 0, ii 0] 105)) = W at *
 obtain ⟨gR, HgR⟩ := nM (w.heap.size + 1)
 have hgR : w.heap.size <= gR := by have := HgR.out; omega
 have hneR : w.heap.size ≠ gR := by have := HgR.out; omega
 rw [HgR.out]
 rw [HgR.out] at r0
 refine (HSA.out _ hx0).mono ?_
 rintro e w1 ⟨rfl, hk⟩
 have b1 := b0.nx hk
 have r1 := r0.nx hk
 replace hx0 := hx0.trans hk
 clear b0 r0 hk
 obtain ⟨y0, y1, y2, y3, y4, y5, y6, y7, y8, y9, y10, y11, y12, y13, y14⟩ := b1.e15
 go_wp2_with fail
 clear y0 y1 y2 y3 y4 y5 y6 y7 y8 y9 y10 y11 y12 y13 y14
 refine (goesForward_c g b p t A A2 c c2 _ _ _).mono ?_
 rintro e wq ⟨rfl, hk⟩
 have bq := b1.nx hk
 have rq := r1.nx hk
 replace hx0 := hx0.trans hk
 clear b1 r1 hk
 by_cases hlt : p < t
 . have HSB := qh (show stp b p t gs im = (app pN im (gs.getD a sgZ).cs, a + 1) by rw [Hstp.out, if_pos hlt])
   have han := hd.1 hlt
   rw [decide_eq_true hlt]
   clear hd hlt
   obtain ⟨k, Hk⟩ := nM (a)
   have hkn : k < n := by have := Hk.out; omega
   have HOK := qh (HOKs.out k hkn)
   have hch := h3c k hkn
   obtain ⟨bb, off, rfl, hbb, p0, p1, p2, p3⟩ := h3' k hkn _ _ hx0 hB
   obtain ⟨⟨f, t9, m, Ac, cc, cs⟩, Hs⟩ := nM (gs.getD k sgZ)
   rw [Hs.out] at p0 p1 p2 p3 hch HOK
   simp only at p0 p1 p2 p3 hch HOK
   obtain ⟨ys, Hys⟩ := nM (app pN im cs)
   have hbd : Box wq.drew w.heap.size 107 #[ii g, ii b, ii p, ii t, sC A xs.length c, sC A2 ms.length c2, sC (some ⟨bb, off, none⟩) n c3, inAt im 0, inAt im 1, inAt im 2, inAt im 3, inAt im 4, inAt im 5, inAt im 6, inAt im 7] := bq
   have rd := rq.nx (Nx.refl _).drew
   have hx2 := hx0.drew
   have hbw : bb < wq.drew.heap.size := Nat.lt_of_lt_of_le hbb (ntr hB hx2.size)
   have hneb : bb ≠ gR := by have := HgR.out; omega
   have hak : (a : Int) = (k : Int) := by have := Hk.out; omega
   rw [hak]
   have hkc : (k : Int) < (n : Int) := oM
   have hk0 : (0 : Int) <= (k : Int) := oM
   have hw1 : IntKind.i64.wrap ((k : Int) + 1) = (k : Int) + 1 := IntWalk.i64_in _ oM
   clear hak
   go_wp2_with fail
   refine wp_planA (.t 0 (.t 1 (.t 2 (.t 3 (.t 4 (.t 5 (.t 6 (.t 8 (.t 9 (.c 7 (.c 10 (.t 11 .e)))))))))))) (fun w' => (CC w' w.heap.size 0 (ii g) /\ CC w' w.heap.size 1 (ii b) /\ CC w' w.heap.size 2 (ii p) /\ CC w' w.heap.size 3 (ii t) /\ CC w' w.heap.size 4 (sC A xs.length c) /\ CC w' w.heap.size 5 (sC A2 ms.length c2) /\ CC w' w.heap.size 6 (sC (some ⟨bb, off, none⟩) n c3) /\ CC w' w.heap.size 7 (inAt im 0) /\ CC w' w.heap.size 8 (inAt im 1) /\ CC w' w.heap.size 9 (inAt im 2) /\ CC w' w.heap.size 10 (inAt im 3) /\ CC w' w.heap.size 11 (inAt im 4) /\ CC w' w.heap.size 12 (inAt im 5) /\ CC w' w.heap.size 13 (inAt im 6) /\ CC w' w.heap.size 14 (inAt im 7)) /\ CC w' bb (off + k * 4) (ii f) /\ CC w' bb (off + k * 4 + 1) (ii t9) /\ CC w' bb (off + k * 4 + 2) (ii m) /\ CC w' bb (off + k * 4 + 3) (sC Ac cs.length cc)) (by exact ⟨hbd.e15, p0, p1, p2, p3⟩) ?_
   simp only [psOf, List.getD_cons_zero, List.getD_cons_succ]
   refine hPr ?_
   refine hPc fun K hK => ?_
   go_simp
   have hcl := valuesForward_c f t9 m Ac cc B cs im _ (hch.below hx2 hB) (ntr hB hx2.size) HOK.out H8.out; rw [Hys.out] at hcl; unfold vA at hcl; refine hcl.mono ?_; rintro e w2 ⟨rfl, hx3⟩; clear hcl; have hb2 := hbd.nx hx3; have r2 := rd.nx hx3; replace p0 := (hx3.cell (p := ⟨bb, off + k * 4, none⟩) hbw).trans p0; replace p1 := (hx3.cell (p := ⟨bb, off + k * 4 + 1, none⟩) hbw).trans p1; replace p2 := (hx3.cell (p := ⟨bb, off + k * 4 + 2, none⟩) hbw).trans p2; replace p3 := (hx3.cell (p := ⟨bb, off + k * 4 + 3, none⟩) hbw).trans p3; have hX3 := hx2.trans hx3
   go_wp2_with fail
   refine hK.out _ _ (by exact ⟨hb2.e15, p0, p1, p2, p3⟩) ?_
   clear hK K
   refine nZ ?_
   refine hPc fun K hK => ?_
   refine wp_store_row _ _ _ rfl gR #[inAt ys 0, inAt ys 1, inAt ys 2, inAt ys 3, inAt ys 4, inAt ys 5, inAt ys 6, inAt ys 7] rfl rfl 105 #[ii 0, ii 0, ii 0, ii 0, ii 0, ii 0, ii 0, ii 0] r2 (by kernel_rfl) rfl (by simp [Value.oneCell', inAt]) ?_
   refine hK.out _ _ (by exact ⟨(hb2.rowfar hneR #[inAt ys 0, inAt ys 1, inAt ys 2, inAt ys 3, inAt ys 4, inAt ys 5, inAt ys 6, inAt ys 7]).e15, ((cell_row_far w2 gR #[inAt ys 0, inAt ys 1, inAt ys 2, inAt ys 3, inAt ys 4, inAt ys 5, inAt ys 6, inAt ys 7] (p := ⟨bb, off + k * 4, none⟩) sM).trans p0), ((cell_row_far w2 gR #[inAt ys 0, inAt ys 1, inAt ys 2, inAt ys 3, inAt ys 4, inAt ys 5, inAt ys 6, inAt ys 7] (p := ⟨bb, off + k * 4 + 1, none⟩) sM).trans p1), ((cell_row_far w2 gR #[inAt ys 0, inAt ys 1, inAt ys 2, inAt ys 3, inAt ys 4, inAt ys 5, inAt ys 6, inAt ys 7] (p := ⟨bb, off + k * 4 + 2, none⟩) sM).trans p2), ((cell_row_far w2 gR #[inAt ys 0, inAt ys 1, inAt ys 2, inAt ys 3, inAt ys 4, inAt ys 5, inAt ys 6, inAt ys 7] (p := ⟨bb, off + k * 4 + 3, none⟩) sM).trans p3)⟩) ?_
   clear hK K
   try simp only [Act.put]
   refine hPr ?_
   refine HP.done ?_
   have q := r2.row #[inAt ys 0, inAt ys 1, inAt ys 2, inAt ys 3, inAt ys 4, inAt ys 5, inAt ys 6, inAt ys 7]
   have hnf := hX3.setRow hgR #[inAt ys 0, inAt ys 1, inAt ys 2, inAt ys 3, inAt ys 4, inAt ys 5, inAt ys 6, inAt ys 7]
   generalize w2.setRow gR #[inAt ys 0, inAt ys 1, inAt ys 2, inAt ys 3, inAt ys 4, inAt ys 5, inAt ys 6, inAt ys 7] = Wf at *
   obtain ⟨g0, g1, g2, g3, g4, g5, g6, g7⟩ := q.e8
   go_wp2
   exact bodyPost_ret (v := .tuple #[.agg #[inAt ys 0, inAt ys 1, inAt ys 2, inAt ys 3, inAt ys 4, inAt ys 5, inAt ys 6, inAt ys 7], ii ((k : Int) + 1)]) (by simp [results, results148, go_sem, g0, g1, g2, g3, g4, g5, g6, g7]) rfl ⟨by rw [HSB.out, Hk.out, Hs.out]; show _ = Ending.returned (.tuple #[vA (app _ im cs), _]); rw [Hys.out]; rfl, hnf⟩
 rw [decide_eq_false hlt]
 have Hlt := qh hlt
 clear hlt
 obtain ⟨y0, y1, y2, y3, y4, y5, y6, y7, y8, y9, y10, y11, y12, y13, y14⟩ := bq.e15
 go_wp2_with fail
 clear y0 y1 y2 y3 y4 y5 y6 y7 y8 y9 y10 y11 y12 y13 y14
 refine (goesBack_c g b p t A A2 c c2 _ _ _).mono ?_
 rintro e wz ⟨rfl, hk⟩
 replace bq := bq.nx hk
 replace rq := rq.nx hk
 replace hx0 := hx0.trans hk
 clear hk
 by_cases hgt : t < p
 . have HSB := qh (show stp b p t gs im = (app pO im (gs.getD (a - 1) sgZ).cs, a - 1) by rw [Hstp.out, if_neg (by have := Hlt.out; omega), if_pos hgt])
   have han := hd.2 hgt
   rw [decide_eq_true hgt]
   clear hd hgt
   obtain ⟨k, Hk⟩ := nM (a - 1)
   have hkn : k < n := by have := Hk.out; omega
   have HOK := qh (HOKs.out k hkn)
   have hch := h3c k hkn
   obtain ⟨bb, off, rfl, hbb, p0, p1, p2, p3⟩ := h3' k hkn _ _ hx0 hB
   obtain ⟨⟨f, t9, m, Ac, cc, cs⟩, Hs⟩ := nM (gs.getD k sgZ)
   rw [Hs.out] at p0 p1 p2 p3 hch HOK
   simp only at p0 p1 p2 p3 hch HOK
   obtain ⟨ys, Hys⟩ := nM (app pO im cs)
   have hbd : Box wz.drew w.heap.size 107 #[ii g, ii b, ii p, ii t, sC A xs.length c, sC A2 ms.length c2, sC (some ⟨bb, off, none⟩) n c3, inAt im 0, inAt im 1, inAt im 2, inAt im 3, inAt im 4, inAt im 5, inAt im 6, inAt im 7] := bq
   have rd := rq.nx (Nx.refl _).drew
   have hx2 := hx0.drew
   have hbw : bb < wz.drew.heap.size := Nat.lt_of_lt_of_le hbb (ntr hB hx2.size)
   have hneb : bb ≠ gR := by have := HgR.out; omega
   have hak : (a : Int) = (k : Int) + 1 := by have := Hk.out; omega
   rw [hak]
   have hkc : (k : Int) < (n : Int) := oM
   have hk0 : (0 : Int) <= (k : Int) := oM
   have hwk : IntKind.i64.wrap (k : Int) = (k : Int) := IntWalk.i64_in _ oM
   clear hak
   go_wp2_with fail
   refine wp_planA (.t 0 (.t 1 (.t 2 (.t 3 (.t 4 (.t 5 (.t 6 (.t 7 (.t 9 (.t 10 (.c 8 (.c 11 (.t 12 .e))))))))))))) (fun w' => (CC w' w.heap.size 0 (ii g) /\ CC w' w.heap.size 1 (ii b) /\ CC w' w.heap.size 2 (ii p) /\ CC w' w.heap.size 3 (ii t) /\ CC w' w.heap.size 4 (sC A xs.length c) /\ CC w' w.heap.size 5 (sC A2 ms.length c2) /\ CC w' w.heap.size 6 (sC (some ⟨bb, off, none⟩) n c3) /\ CC w' w.heap.size 7 (inAt im 0) /\ CC w' w.heap.size 8 (inAt im 1) /\ CC w' w.heap.size 9 (inAt im 2) /\ CC w' w.heap.size 10 (inAt im 3) /\ CC w' w.heap.size 11 (inAt im 4) /\ CC w' w.heap.size 12 (inAt im 5) /\ CC w' w.heap.size 13 (inAt im 6) /\ CC w' w.heap.size 14 (inAt im 7)) /\ CC w' bb (off + k * 4) (ii f) /\ CC w' bb (off + k * 4 + 1) (ii t9) /\ CC w' bb (off + k * 4 + 2) (ii m) /\ CC w' bb (off + k * 4 + 3) (sC Ac cs.length cc)) (by exact ⟨hbd.e15, p0, p1, p2, p3⟩) ?_
   simp only [psOf, List.getD_cons_zero, List.getD_cons_succ]
   refine hPr ?_
   refine hPc fun K hK => ?_
   go_simp
   have hcl := valuesBackward_c f t9 m Ac cc B cs im _ (hch.below hx2 hB) (ntr hB hx2.size) HOK.out H8.out; rw [Hys.out] at hcl; unfold vA at hcl; refine hcl.mono ?_; rintro e w2 ⟨rfl, hx3⟩; clear hcl; have hb2 := hbd.nx hx3; have r2 := rd.nx hx3; replace p0 := (hx3.cell (p := ⟨bb, off + k * 4, none⟩) hbw).trans p0; replace p1 := (hx3.cell (p := ⟨bb, off + k * 4 + 1, none⟩) hbw).trans p1; replace p2 := (hx3.cell (p := ⟨bb, off + k * 4 + 2, none⟩) hbw).trans p2; replace p3 := (hx3.cell (p := ⟨bb, off + k * 4 + 3, none⟩) hbw).trans p3; have hX3 := hx2.trans hx3
   go_wp2_with fail
   refine hK.out _ _ (by exact ⟨hb2.e15, p0, p1, p2, p3⟩) ?_
   clear hK K
   refine nZ ?_
   refine hPc fun K hK => ?_
   refine wp_store_row _ _ _ rfl gR #[inAt ys 0, inAt ys 1, inAt ys 2, inAt ys 3, inAt ys 4, inAt ys 5, inAt ys 6, inAt ys 7] rfl rfl 105 #[ii 0, ii 0, ii 0, ii 0, ii 0, ii 0, ii 0, ii 0] r2 (by kernel_rfl) rfl (by simp [Value.oneCell', inAt]) ?_
   refine hK.out _ _ (by exact ⟨(hb2.rowfar hneR #[inAt ys 0, inAt ys 1, inAt ys 2, inAt ys 3, inAt ys 4, inAt ys 5, inAt ys 6, inAt ys 7]).e15, ((cell_row_far w2 gR #[inAt ys 0, inAt ys 1, inAt ys 2, inAt ys 3, inAt ys 4, inAt ys 5, inAt ys 6, inAt ys 7] (p := ⟨bb, off + k * 4, none⟩) sM).trans p0), ((cell_row_far w2 gR #[inAt ys 0, inAt ys 1, inAt ys 2, inAt ys 3, inAt ys 4, inAt ys 5, inAt ys 6, inAt ys 7] (p := ⟨bb, off + k * 4 + 1, none⟩) sM).trans p1), ((cell_row_far w2 gR #[inAt ys 0, inAt ys 1, inAt ys 2, inAt ys 3, inAt ys 4, inAt ys 5, inAt ys 6, inAt ys 7] (p := ⟨bb, off + k * 4 + 2, none⟩) sM).trans p2), ((cell_row_far w2 gR #[inAt ys 0, inAt ys 1, inAt ys 2, inAt ys 3, inAt ys 4, inAt ys 5, inAt ys 6, inAt ys 7] (p := ⟨bb, off + k * 4 + 3, none⟩) sM).trans p3)⟩) ?_
   clear hK K
   try simp only [Act.put]
   refine hPr ?_
   refine HP.done ?_
   have q := r2.row #[inAt ys 0, inAt ys 1, inAt ys 2, inAt ys 3, inAt ys 4, inAt ys 5, inAt ys 6, inAt ys 7]
   have hnf := hX3.setRow hgR #[inAt ys 0, inAt ys 1, inAt ys 2, inAt ys 3, inAt ys 4, inAt ys 5, inAt ys 6, inAt ys 7]
   generalize w2.setRow gR #[inAt ys 0, inAt ys 1, inAt ys 2, inAt ys 3, inAt ys 4, inAt ys 5, inAt ys 6, inAt ys 7] = Wf at *
   obtain ⟨g0, g1, g2, g3, g4, g5, g6, g7⟩ := q.e8
   go_wp2
   exact bodyPost_ret (v := .tuple #[.agg #[inAt ys 0, inAt ys 1, inAt ys 2, inAt ys 3, inAt ys 4, inAt ys 5, inAt ys 6, inAt ys 7], ii (k : Int)]) (by simp [results, results148, go_sem, g0, g1, g2, g3, g4, g5, g6, g7]) rfl ⟨by rw [HSB.out, Hk.out, Hs.out]; show _ = Ending.returned (.tuple #[vA (app _ im cs), _]); rw [Hys.out]; rfl, hnf⟩
 rw [decide_eq_false hgt]
 have HSB := qh (show stp b p t gs im = (im, a) by rw [Hstp.out, if_neg (by have := Hlt.out; omega), if_neg hgt])
 clear hd hgt
 obtain ⟨y0, y1, y2, y3, y4, y5, y6, y7, y8, y9, y10, y11, y12, y13, y14⟩ := bq.e15
 go_wp2_with (refine wpList_store_row rfl _ _ _ rfl gR #[inAt im 0, inAt im 1, inAt im 2, inAt im 3, inAt im 4, inAt im 5, inAt im 6, inAt im 7] rfl rfl 105 #[ii 0, ii 0, ii 0, ii 0, ii 0, ii 0, ii 0, ii 0] rq (by kernel_rfl) rfl (by simp [Value.oneCell', inAt]) ?_)
 have q := rq.row #[inAt im 0, inAt im 1, inAt im 2, inAt im 3, inAt im 4, inAt im 5, inAt im 6, inAt im 7]
 have hnf := hx0.setRow hgR #[inAt im 0, inAt im 1, inAt im 2, inAt im 3, inAt im 4, inAt im 5, inAt im 6, inAt im 7]
 generalize wz.setRow gR #[inAt im 0, inAt im 1, inAt im 2, inAt im 3, inAt im 4, inAt im 5, inAt im 6, inAt im 7] = Wf at *
 obtain ⟨g0, g1, g2, g3, g4, g5, g6, g7⟩ := q.e8
 exact bodyPost_ret (v := .tuple #[.agg #[inAt im 0, inAt im 1, inAt im 2, inAt im 3, inAt im 4, inAt im 5, inAt im 6, inAt im 7], ii a]) (by simp [results, results148, go_sem, g0, g1, g2, g3, g4, g5, g6, g7]) rfl ⟨by rw [HSB.out]; rfl, hnf⟩
theorem pk_int : Tryz.prog.plainKey 3 = true := by kernel_rfl
theorem eq_step (d : Nat) (a b : Array Value) (x y : Int) (i : Nat) (is : List Nat) (w : World) (ha : a[i]? = some (ii x)) (hb : b[i]? = some (ii y)) :
 (Op.eqItems (d + 1) 3 1 a b (i :: is)).run Tryz.prog w = if x = y then (Op.eqItems (d + 1) 3 1 a b is).run Tryz.prog w else .ok false w := by
 simp only [Op.eqItems, Sem.run_bind, Nat.mul_one]
 rw [run_part_plain (P := Tryz.prog) w pk_int ha]
 simp only [Result.andThen_ok]
 rw [run_part_plain (P := Tryz.prog) w pk_int hb]
 simp only [Result.andThen_ok]
 rw [run_equalIn_int (P := Tryz.prog) w d 3 .i64 .i64 x y underlying3]
 simp only [Result.andThen_ok]
 by_cases h : x = y
 . subst h; simp
 . rw [if_neg h, show (x == y) = false by simp [h]]; simp
theorem eq_all (d : Nat) (a b : Array Value) (xs ys : List Int) (w : World) : ∀ is : List Nat, (∀ i ∈ is, a[i]? = some (inAt xs i)) -> (∀ i ∈ is, b[i]? = some (inAt ys i)) ->
 (Op.eqItems (d + 1) 3 1 a b is).run Tryz.prog w = .ok (is.all fun i => decide (xs.getD i 0 = ys.getD i 0)) w
 | [], _, _ => by simp [Op.eqItems]
 | i :: is, ha, hb => by
   rw [eq_step d a b (xs.getD i 0) (ys.getD i 0) i is w (ha i (by simp)) (hb i (by simp)), List.all_cons]
   by_cases h : xs.getD i 0 = ys.getD i 0
   . rw [if_pos h, eq_all d a b xs ys w is (fun j hj => ha j (by simp [hj])) (fun j hj => hb j (by simp [hj])), decide_eq_true h, Bool.true_and]
   . rw [if_neg h, decide_eq_false h, Bool.false_and]
def arr8 (xs : List Int) : Array Value := #[inAt xs 0, inAt xs 1, inAt xs 2, inAt xs 3, inAt xs 4, inAt xs 5, inAt xs 6, inAt xs 7]
theorem arr8_at (xs : List Int) : ∀ i ∈ List.range 8, (arr8 xs)[i]? = some (inAt xs i) := fun i hi => by
 have : i < 8 := by simpa using hi
 match i, this with
 | 0, _ => rfl
 | 1, _ => rfl
 | 2, _ => rfl
 | 3, _ => rfl
 | 4, _ => rfl
 | 5, _ => rfl
 | 6, _ => rfl
 | 7, _ => rfl
theorem all8 {xs ys : List Int} (h : xs.length = 8) (h2 : ys.length = 8) : ((List.range 8).all fun i => decide (xs.getD i 0 = ys.getD i 0)) = decide (xs = ys) := by
 by_cases e : xs = ys
 . rw [decide_eq_true e, List.all_eq_true]
   intro i _
   rw [e]; simp
 . rw [decide_eq_false e, List.all_eq_false]
   refine Classical.byContradiction fun hc => e (ext8 h h2 fun j hj => Classical.byContradiction fun hn => hc ⟨j, by simpa using hj, by simpa using hn⟩)
theorem und_values : Tryz.prog.underlying 105 = some (.array 8 3) := underlying105
theorem equal_arr (d : Nat) {xs ys : List Int} (h : xs.length = 8) (h2 : ys.length = 8) (w : World) : (Op.equalIn (d + 2) 105 (.agg (arr8 xs)) (.agg (arr8 ys))).run Tryz.prog w = .ok (decide (xs = ys)) w := by
 obtain ⟨i0, hi0, hz0, hz1, hz2⟩ := info_parts info_int
 rw [run_equalIn_array (P := Tryz.prog) w (d + 1) (arr8 xs) (arr8 ys) und_values hi0, show Tryz.prog.cellsOf 3 = 1 from ci_, eq_all d _ _ xs ys w _ (arr8_at xs) (arr8_at ys), all8 h h2]
theorem neq_arr {xs ys : List Int} (h : xs.length = 8) (h2 : ys.length = 8) (w : World) : (binOp .neq 105 (.agg (arr8 xs)) (.agg (arr8 ys))).run Tryz.prog w = .ok (.bool (!decide (xs = ys))) w := by
 rw [run_neq_struct, show (10000 : Nat) = 9998 + 2 from rfl, equal_arr 9998 h h2]; rfl
theorem eqg_values : Tryz.prog.eqGuardType Tryz.prog.depth 105 = false := by kernel_rfl
theorem neq_op {o : Oper} {a : Act} {x y : Operand} {xs ys : List Int} {t : TypeId} (h : xs.length = 8) (h2 : ys.length = 8) (w : World) (ho : o.op = .binOp .neq 105 x y t) (hx : a.eval x = .agg (arr8 xs)) (hy : a.eval y = .agg (arr8 ys)) :
 (execOp a.eval o).run Tryz.prog w = .ok (.value (.bool (!decide (xs = ys)))) w := by
 unfold execOp
 simp only [ho, hx, hy]
 simp [run_eqGuard_agg (P := Tryz.prog) w .neq 105 x y (arr8 xs) (arr8 ys) eqg_values, neq_arr h h2]
theorem fitsForward_c (V : Vl) (B : Nat) (w : World) (h : Sgs w B V.A3 V.gs) (hB : B <= w.heap.size) (hl : Lead V.b V.gs) (hc3 : V.gs.length <= V.c3) (h8 : V.im.length = 8) (hp : plcB V.b V.p V.t V.gs V.ms = true) :
 Calls Tryz.prog 144 #[V.w] w fun e w' => e = .returned (.bool (fitF (stp V.b V.p V.t V.gs V.im).1 V.gs (stp V.b V.p V.t V.gs V.im).2)) /\ Nx w w' := by
 have hSD := stepDone_c V B
 obtain ⟨g, b, p, t, A, c, xs, A2, c2, ms, A3, c3, gs, A4, c4, im⟩ := V
 simp only [Vl.w, Vl.wcells] at *
 have hsl := stp_le (t := t) im hl hp
 have HSD := qh (fun (w' : World) (hx : Nx w w') => hSD w' (h.below hx hB) (ntr hB hx.size) hl h8 (by unfold plcB at hp; simp only [Bool.and_eq_true] at hp; exact hp.1.2) hsl.2)
 have HL0 : Hid ((stp b p t gs im).1.length = 8) := qh (by rw [stp_len]; exact h8)
 have hat := hsl.1
 obtain ⟨n, Hn⟩ := nM (gs.length)
 have HSg := qh (fun (k : Nat) (hk : k < gs.length) (w' : World) (hx : Nx w w') => (h.below hx hB).row.at4 hk)
 have HCh := qh (fun (k : Nat) (hk : k < gs.length) (w' : World) (hx : Nx w w') => (h.chs k hk).below hx hB)
 have HOKs := qh (fun k (hk : k < n) => hl.ok k (by rw [Hn.out]; exact hk))
 have hn9 : n <= 4096 := by have := hl.short; rw [Hn.out] at this; exact this
 rw [Hn.out] at HSD HSg HCh hc3 hat ⊢
 obtain ⟨c0, Hc0⟩ := nM ((stp b p t gs im).1)
 obtain ⟨a, Hat⟩ := nM ((stp b p t gs im).2)
 rw [Hc0.out, Hat.out] at HSD ⊢
 rw [Hc0.out] at HL0
 rw [Hat.out] at hat
 have b0 := Box.new w 107 #[ii g, ii b, ii p, ii t, sC A xs.length c, sC A2 ms.length c2, sC A3 n c3, inAt im 0, inAt im 1, inAt im 2, inAt im 3, inAt im 4, inAt im 5, inAt im 6, inAt im 7]
 have hx0 := (Nx.refl w).alloc (.cells #[ii g, ii b, ii p, ii t, sC A xs.length c, sC A2 ms.length c2, sC A3 n c3, inAt im 0, inAt im 1, inAt im 2, inAt im 3, inAt im 4, inAt im 5, inAt im 6, inAt im 7] 107)
 clear hSD h hl h8 hp hsl
 go_enter func144, ntmps144
 go_wp2_with fail
 generalize w.alloc (.cells #[ii g, ii b, ii p, ii t, sC A xs.length c, sC A2 ms.length c2, sC A3 n c3, inAt im 0, inAt im 1, inAt im 2, inAt im 3, inAt im 4, inAt im 5, inAt im 6, inAt im 7] 107) = W at *
 refine (HSD.out _ hx0).mono ?_
 rintro e w1 ⟨rfl, hk⟩
 unfold vA
 have b1 := b0.nx hk
 replace hx0 := hx0.trans hk
 have rz := Box.new w1 105 #[ii 0, ii 0, ii 0, ii 0, ii 0, ii 0, ii 0, ii 0]
 have b2 := (b1.alloc (.cells #[ii 0, ii 0, ii 0, ii 0, ii 0, ii 0, ii 0, ii 0] 105)).rowfar (show w.heap.size ≠ w1.heap.size by have := b1.lt; omega) #[inAt c0 0, inAt c0 1, inAt c0 2, inAt c0 3, inAt c0 4, inAt c0 5, inAt c0 6, inAt c0 7]
 have ba := rz.row #[inAt c0 0, inAt c0 1, inAt c0 2, inAt c0 3, inAt c0 4, inAt c0 5, inAt c0 6, inAt c0 7]
 have hx2 := (hx0.alloc (.cells #[ii 0, ii 0, ii 0, ii 0, ii 0, ii 0, ii 0, ii 0] 105)).setRow (g := w1.heap.size) hx0.size #[inAt c0 0, inAt c0 1, inAt c0 2, inAt c0 3, inAt c0 4, inAt c0 5, inAt c0 6, inAt c0 7]
 obtain ⟨y0, y1, y2, y3, y4, y5, y6, y7, y8, y9, y10, y11, y12, y13, y14⟩ := b2.e15
 have ha0 : (0 : Int) <= (a : Int) := oM
 have han : (a : Int) <= (n : Int) := oM
 clear b0 hk
 by_cases hlt : a < n
 case neg =>
  have hz : n - a = 0 := oM
  have HR := qh (show fitF c0 gs a = true from FitF.all (by rw [Hn.out, hz]; exact FitF.zero _ _ _))
  clear hlt
  by_cases hce : c3 = a
  . go_wp2_with (refine wpList_store_row rfl _ _ _ rfl w1.heap.size #[inAt c0 0, inAt c0 1, inAt c0 2, inAt c0 3, inAt c0 4, inAt c0 5, inAt c0 6, inAt c0 7] rfl rfl 105 #[ii 0, ii 0, ii 0, ii 0, ii 0, ii 0, ii 0, ii 0] rz (by kernel_rfl) rfl (by simp [Value.oneCell', inAt]) ?_)
    go_loopw [17] (fun i wr => i = ii 0 /\ Nx w wr) (fun _ _ => 0)
    case atStart => exact ⟨rfl, hx2⟩
    case round =>
     obtain ⟨rfl, hnx⟩ := hrel
     go_wp2
     go_ret
     exact ⟨ret_bool HR.out.symm, hnx⟩
  . go_wp2_with (refine wpList_store_row rfl _ _ _ rfl w1.heap.size #[inAt c0 0, inAt c0 1, inAt c0 2, inAt c0 3, inAt c0 4, inAt c0 5, inAt c0 6, inAt c0 7] rfl rfl 105 #[ii 0, ii 0, ii 0, ii 0, ii 0, ii 0, ii 0, ii 0] rz (by kernel_rfl) rfl (by simp [Value.oneCell', inAt]) ?_)
    go_loopw [17] (fun i wr => i = ii 0 /\ Nx w wr) (fun _ _ => 0)
    case atStart => exact ⟨rfl, hx2⟩
    case round =>
     obtain ⟨rfl, hnx⟩ := hrel
     go_wp2
     go_ret
     exact ⟨ret_bool HR.out.symm, hnx⟩
 have hce : ¬ c3 = a := oM
 obtain ⟨bb, off, rfl, hbb, _, _, _, _⟩ := HSg.out a hlt _ hx2
 go_wp2_with (refine wpList_store_row rfl _ _ _ rfl w1.heap.size #[inAt c0 0, inAt c0 1, inAt c0 2, inAt c0 3, inAt c0 4, inAt c0 5, inAt c0 6, inAt c0 7] rfl rfl 105 #[ii 0, ii 0, ii 0, ii 0, ii 0, ii 0, ii 0, ii 0] rz (by kernel_rfl) rfl (by simp [Value.oneCell', inAt]) ?_)
 have hgA : w.heap.size <= w1.heap.size := hx0.size
 clear b1 rz y0 y1 y2 y3 y4 y5 y6 y7 y8 y9 y10 y11 y12 y13 y14 b2 hce ha0 han hx0
 generalize (w1.alloc (.cells #[ii 0, ii 0, ii 0, ii 0, ii 0, ii 0, ii 0, ii 0] 105)).setRow w1.heap.size #[inAt c0 0, inAt c0 1, inAt c0 2, inAt c0 3, inAt c0 4, inAt c0 5, inAt c0 6, inAt c0 7] = Wl at *
 generalize w1.heap.size = gA at *
 obtain ⟨m, Hm⟩ := nM (n - a)
 rw [Hm.out]
 have hm9 : m <= 4096 := by have := Hm.out; omega
 go_loopw [17] (fun i wr => ∃ j : Nat, j <= m /\ i = ii j /\ FitF c0 gs a j /\ Box wr gA 105 #[inAt (fwK c0 gs a j) 0, inAt (fwK c0 gs a j) 1, inAt (fwK c0 gs a j) 2, inAt (fwK c0 gs a j) 3, inAt (fwK c0 gs a j) 4, inAt (fwK c0 gs a j) 5, inAt (fwK c0 gs a j) 6, inAt (fwK c0 gs a j) 7] /\ Nx w wr) (fun i _ => m - (intOf i).toNat)
 case atStart => exact ⟨0, Nat.zero_le _, rfl, FitF.zero _ _ _, ba, hx2⟩
 case round =>
 obtain ⟨j, hj, rfl, hfit, hbx, hnx⟩ := hrel
 clear hx2 ba
 by_cases hjm : j < m
 case neg =>
  obtain rfl : m = j := oM
  have HR := qh (show fitF c0 gs a = true from FitF.all (by rw [Hn.out, Hm.out]; exact hfit))
  go_wp2
  go_ret
  exact ⟨ret_bool HR.out.symm, hnx⟩
 have hkn : a + j < n := by have := Hm.out; omega
 obtain ⟨b', off', he, _, p0, p1, p2, p3⟩ := HSg.out (a + j) hkn wr hnx
 obtain ⟨rfl, rfl⟩ : bb = b' /\ off = off' := by simpa using he
 clear he
 have HCk := qh (HCh.out (a + j) hkn)
 have HOKc := qh (HOKs.out (a + j) hkn)
 have HFs := qh (fun hh => hfit.succ hh)
 have HFn := qh (fun hh => fitF_no (c := c0) (gs := gs) (a := a) (k := j) (by rw [Hn.out]; exact hkn) hh)
 have HLj : Hid ((fwK c0 gs a j).length = 8) := qh (by rw [fwK_len]; exact HL0.out)
 have Hsuc : Hid (fwK c0 gs a (j + 1) = app pN (fwK c0 gs a j) (gs.getD (a + j) sgZ).cs) := qh rfl
 obtain ⟨cj, Hcj⟩ := nM (fwK c0 gs a j)
 rw [Hcj.out] at HFs HFn HLj Hsuc hbx
 obtain ⟨⟨f, t9, m9, Ac, cc, cs⟩, Hs⟩ := nM (gs.getD (a + j) sgZ)
 rw [Hs.out] at p0 p1 p2 p3 HCk HOKc HFs HFn Hsuc
 simp only at p0 p1 p2 p3 HCk HOKc Hsuc
 rw [show off + (a + j) * 4 = off + a * 4 + j * 4 by omega] at p0 p1 p2 p3
 have HLy : Hid ((app pO cj cs).length = 8) := qh (by rw [app_len]; exact HLj.out)
 have HLn : Hid ((app pN cj cs).length = 8) := qh (by rw [app_len]; exact HLj.out)
 have bg := Box.new wr 122 #[ii f, ii t9, ii m9, sC Ac cs.length cc]
 have hxg := (Nx.refl wr).alloc (.cells #[ii f, ii t9, ii m9, sC Ac cs.length cc] 122)
 have ba1 := hbx.nx hxg
 have hnxa := hnx.trans hxg
 have hjc : (j : Int) < (m : Int) := oM
 have hj0 : (0 : Int) <= (j : Int) := oM
 have hjn : j < n - a := by have := Hm.out; omega
 clear hfit hbx hxg
 go_wp2_with fail
 generalize wr.alloc (.cells #[ii f, ii t9, ii m9, sC Ac cs.length cc] 122) = wa at *
 generalize wr.heap.size = gG at *
 have bad := ba1.nx (Nx.refl _).drew
 have bgd := bg.nx (Nx.refl _).drew
 clear p0 p1 p2 p3 ba1 bg
 refine wp_planA (.t 0 (.t 1 (.t 3 (.c 2 (.t 4 .e))))) (fun w' => (CC w' gA 0 (inAt cj 0) /\ CC w' gA 1 (inAt cj 1) /\ CC w' gA 2 (inAt cj 2) /\ CC w' gA 3 (inAt cj 3) /\ CC w' gA 4 (inAt cj 4) /\ CC w' gA 5 (inAt cj 5) /\ CC w' gA 6 (inAt cj 6) /\ CC w' gA 7 (inAt cj 7)) /\ (CC w' gG 0 (ii f) /\ CC w' gG 1 (ii t9) /\ CC w' gG 2 (ii m9) /\ CC w' gG 3 (sC Ac cs.length cc))) (by exact ⟨bad.e8, bgd.d4⟩) ?_
 simp only [psOf, List.getD_cons_zero, List.getD_cons_succ]
 refine hPr ?_
 refine hPc fun K hK => ?_
 go_simp
 have hcl := valuesBackward_c f t9 m9 Ac cc B cs cj _ (HCk.out _ hnxa.drew) (ntr hB hnxa.drew.size) HOKc.out HLj.out; unfold vA at hcl; refine hcl.mono ?_; rintro e w8 ⟨rfl, hk8⟩; clear hcl; have ba8 := bad.nx hk8; have bg8 := bgd.nx hk8; have hnx8 := hnxa.drew.trans hk8
 go_wp2_with fail
 refine hK.out _ _ (by exact ⟨ba8.e8, bg8.d4⟩) ?_
 clear hK K
 refine nZ ?_
 refine HP.take (v := .bool (!decide (app pO cj cs = cj))) (by rfl) (fun w _ => neq_op HLy.out HLj.out w rfl rfl rfl) ?_
 refine nZ ?_
 refine HP.done ?_
 by_cases ho : app pO cj cs = cj
 case neg =>
  have HR := qh (HFn.out (decide_eq_false ho))
  rw [decide_eq_false ho]
  clear ho HFs HFn
  go_wp2
  go_ret
  exact ⟨ret_bool HR.out.symm, hnx8⟩
 have HFs' := qh (HFs.out (decide_eq_true ho))
 rw [decide_eq_true ho]
 clear ho HFs HFn
 obtain ⟨y0, y1, y2, y3, y4, y5, y6, y7⟩ := ba8.e8
 obtain ⟨q0, q1, q2, q3⟩ := bg8.d4
 go_wp2_with fail
 have hcl := valuesForward_c f t9 m9 Ac cc B cs cj _ (HCk.out _ hnx8) (ntr hB hnx8.size) HOKc.out HLj.out
 unfold vA at hcl
 refine hcl.mono ?_
 rintro e w9 ⟨rfl, hk9⟩
 have ba9 := ba8.nx hk9
 have hnx9 := hnx8.trans hk9
 clear hcl y0 y1 y2 y3 y4 y5 y6 y7 q0 q1 q2 q3 ba8 bg8
 have bz := ba9.row #[inAt (app pN cj cs) 0, inAt (app pN cj cs) 1, inAt (app pN cj cs) 2, inAt (app pN cj cs) 3, inAt (app pN cj cs) 4, inAt (app pN cj cs) 5, inAt (app pN cj cs) 6, inAt (app pN cj cs) 7]
 have hnxz := hnx9.setRow hgA #[inAt (app pN cj cs) 0, inAt (app pN cj cs) 1, inAt (app pN cj cs) 2, inAt (app pN cj cs) 3, inAt (app pN cj cs) 4, inAt (app pN cj cs) 5, inAt (app pN cj cs) 6, inAt (app pN cj cs) 7]
 go_wp2_with (refine wpList_store_row rfl _ _ _ rfl gA #[inAt (app pN cj cs) 0, inAt (app pN cj cs) 1, inAt (app pN cj cs) 2, inAt (app pN cj cs) 3, inAt (app pN cj cs) 4, inAt (app pN cj cs) 5, inAt (app pN cj cs) 6, inAt (app pN cj cs) 7] rfl rfl 105 #[inAt cj 0, inAt cj 1, inAt cj 2, inAt cj 3, inAt cj 4, inAt cj 5, inAt cj 6, inAt cj 7] ba9 (by kernel_rfl) rfl (by simp [Value.oneCell', inAt]) ?_)
 go_roundw
 case rel => exact ⟨j + 1, oM, by go_num, HFs'.out, by rw [Hsuc.out]; exact bz, hnxz⟩
 case measure => (simp [intOf] <;> omega)
theorem fitsBack_c (V : Vl) (B : Nat) (w : World) (h : Sgs w B V.A3 V.gs) (hB : B <= w.heap.size) (hl : Lead V.b V.gs) (h8 : V.im.length = 8) (hp : plcB V.b V.p V.t V.gs V.ms = true) :
 Calls Tryz.prog 145 #[V.w] w fun e w' => e = .returned (.bool (fitB (stp V.b V.p V.t V.gs V.im).1 V.gs (stp V.b V.p V.t V.gs V.im).2)) /\ Nx w w' := by
 have hSD := stepDone_c V B
 obtain ⟨g, b, p, t, A, c, xs, A2, c2, ms, A3, c3, gs, A4, c4, im⟩ := V
 simp only [Vl.w, Vl.wcells] at *
 have hsl := stp_le (t := t) im hl hp
 have HSD := qh (fun (w' : World) (hx : Nx w w') => hSD w' (h.below hx hB) (ntr hB hx.size) hl h8 (by unfold plcB at hp; simp only [Bool.and_eq_true] at hp; exact hp.1.2) hsl.2)
 have HL0 : Hid ((stp b p t gs im).1.length = 8) := qh (by rw [stp_len]; exact h8)
 have hat := hsl.1
 obtain ⟨n, Hn⟩ := nM (gs.length)
 have HSg := qh (fun (k : Nat) (hk : k < gs.length) (w' : World) (hx : Nx w w') => (h.below hx hB).row.at4 hk)
 have HCh := qh (fun (k : Nat) (hk : k < gs.length) (w' : World) (hx : Nx w w') => (h.chs k hk).below hx hB)
 have HOKs := qh (fun k (hk : k < n) => hl.ok k (by rw [Hn.out]; exact hk))
 have hn9 : n <= 4096 := by have := hl.short; rw [Hn.out] at this; exact this
 rw [Hn.out] at HSD HSg HCh hat ⊢
 obtain ⟨c0, Hc0⟩ := nM ((stp b p t gs im).1)
 obtain ⟨a, Hat⟩ := nM ((stp b p t gs im).2)
 rw [Hc0.out, Hat.out] at HSD ⊢
 rw [Hc0.out] at HL0
 rw [Hat.out] at hat
 have b0 := Box.new w 107 #[ii g, ii b, ii p, ii t, sC A xs.length c, sC A2 ms.length c2, sC A3 n c3, inAt im 0, inAt im 1, inAt im 2, inAt im 3, inAt im 4, inAt im 5, inAt im 6, inAt im 7]
 have hx0 := (Nx.refl w).alloc (.cells #[ii g, ii b, ii p, ii t, sC A xs.length c, sC A2 ms.length c2, sC A3 n c3, inAt im 0, inAt im 1, inAt im 2, inAt im 3, inAt im 4, inAt im 5, inAt im 6, inAt im 7] 107)
 clear hSD h hl h8 hp hsl
 go_enter func145, ntmps145
 go_wp2_with fail
 generalize w.alloc (.cells #[ii g, ii b, ii p, ii t, sC A xs.length c, sC A2 ms.length c2, sC A3 n c3, inAt im 0, inAt im 1, inAt im 2, inAt im 3, inAt im 4, inAt im 5, inAt im 6, inAt im 7] 107) = W at *
 refine (HSD.out _ hx0).mono ?_
 rintro e w1 ⟨rfl, hk⟩
 unfold vA
 have b1 := b0.nx hk
 replace hx0 := hx0.trans hk
 have rz := Box.new w1 105 #[ii 0, ii 0, ii 0, ii 0, ii 0, ii 0, ii 0, ii 0]
 have b2 := (b1.alloc (.cells #[ii 0, ii 0, ii 0, ii 0, ii 0, ii 0, ii 0, ii 0] 105)).rowfar (show w.heap.size ≠ w1.heap.size by have := b1.lt; omega) #[inAt c0 0, inAt c0 1, inAt c0 2, inAt c0 3, inAt c0 4, inAt c0 5, inAt c0 6, inAt c0 7]
 have ba := rz.row #[inAt c0 0, inAt c0 1, inAt c0 2, inAt c0 3, inAt c0 4, inAt c0 5, inAt c0 6, inAt c0 7]
 have hx2 := (hx0.alloc (.cells #[ii 0, ii 0, ii 0, ii 0, ii 0, ii 0, ii 0, ii 0] 105)).setRow (g := w1.heap.size) hx0.size #[inAt c0 0, inAt c0 1, inAt c0 2, inAt c0 3, inAt c0 4, inAt c0 5, inAt c0 6, inAt c0 7]
 have hwn : IntKind.i64.wrap ((a : Int) - 1) = (a : Int) - 1 := IntWalk.i64_in _ oM
 clear b0 hk
 go_wp2_with (refine wpList_store_row rfl _ _ _ rfl w1.heap.size #[inAt c0 0, inAt c0 1, inAt c0 2, inAt c0 3, inAt c0 4, inAt c0 5, inAt c0 6, inAt c0 7] rfl rfl 105 #[ii 0, ii 0, ii 0, ii 0, ii 0, ii 0, ii 0, ii 0] rz (by kernel_rfl) rfl (by simp [Value.oneCell', inAt]) ?_)
 have hgA : w.heap.size <= w1.heap.size := hx0.size
 have hneA : w.heap.size ≠ w1.heap.size := by have := b1.lt; omega
 clear b1 rz hx0
 generalize (w1.alloc (.cells #[ii 0, ii 0, ii 0, ii 0, ii 0, ii 0, ii 0, ii 0] 105)).setRow w1.heap.size #[inAt c0 0, inAt c0 1, inAt c0 2, inAt c0 3, inAt c0 4, inAt c0 5, inAt c0 6, inAt c0 7] = Wl at *
 generalize w1.heap.size = gA at *
 go_loopw [5] (fun i wr => ∃ k : Nat, k <= a /\ i = ii ((k : Int) - 1) /\ FitB c0 gs a (a - k) /\ Box wr gA 105 #[inAt (bkK c0 gs a (a - k)) 0, inAt (bkK c0 gs a (a - k)) 1, inAt (bkK c0 gs a (a - k)) 2, inAt (bkK c0 gs a (a - k)) 3, inAt (bkK c0 gs a (a - k)) 4, inAt (bkK c0 gs a (a - k)) 5, inAt (bkK c0 gs a (a - k)) 6, inAt (bkK c0 gs a (a - k)) 7] /\ Nx w wr /\ Box wr w.heap.size 107 #[ii g, ii b, ii p, ii t, sC A xs.length c, sC A2 ms.length c2, sC A3 n c3, inAt im 0, inAt im 1, inAt im 2, inAt im 3, inAt im 4, inAt im 5, inAt im 6, inAt im 7]) (fun i _ => (intOf i + 1).toNat)
 case atStart => exact ⟨a, Nat.le_refl _, rfl, by rw [Nat.sub_self]; exact FitB.zero _ _ _, by rw [Nat.sub_self]; exact ba, hx2, b2⟩
 case round =>
 obtain ⟨k, hk, rfl, hfit, hbx, hnx, hb⟩ := hrel
 clear hx2 ba b2 hwn
 by_cases hk0 : k = 0
 case pos =>
  have HR := qh (show fitB c0 gs a = true from FitB.all (by rw [hk0, Nat.sub_zero] at hfit; exact hfit))
  rw [show ((k : Int) - 1) = -1 by omega]
  clear hk0 hfit
  go_wp2
  go_ret
  exact ⟨ret_bool HR.out.symm, hnx⟩
 obtain ⟨i, rfl⟩ : ∃ i, k = i + 1 := ⟨k - 1, oM⟩
 rw [show ((i + 1 : Nat) : Int) - 1 = (i : Int) by omega]
 have hkn : i < n := oM
 obtain ⟨j, Hj⟩ := nM (a - (i + 1))
 have Hkj : Hid (i = a - 1 - j) := qh (by have := Hj.out; omega)
 rw [Hj.out] at hfit hbx
 obtain ⟨bb, off, rfl, hbb, p0, p1, p2, p3⟩ := HSg.out i hkn wr hnx
 have hbw : bb < wr.heap.size := Nat.lt_of_lt_of_le hbb (ntr hB hnx.size)
 have HCk := qh (HCh.out i hkn)
 have HOKc := qh (HOKs.out i hkn)
 have HFs := qh (fun hh => hfit.succ hh)
 have HFn := qh (fun hh => fitB_no (c := c0) (gs := gs) (a := a) (k := j) (by have := Hj.out; omega) hh)
 rw [<- Hkj.out] at HFs HFn
 have HLj : Hid ((bkK c0 gs a j).length = 8) := qh (by rw [bkK_len]; exact HL0.out)
 have Hsuc : Hid (bkK c0 gs a (j + 1) = app pO (bkK c0 gs a j) (gs.getD i sgZ).cs) := qh (by rw [Hkj.out]; rfl)
 obtain ⟨cj, Hcj⟩ := nM (bkK c0 gs a j)
 rw [Hcj.out] at HFs HFn HLj Hsuc hbx
 obtain ⟨⟨f, t9, m9, Ac, cc, cs⟩, Hs⟩ := nM (gs.getD i sgZ)
 rw [Hs.out] at p0 p1 p2 p3 HCk HOKc HFs HFn Hsuc
 simp only at p0 p1 p2 p3 HCk HOKc Hsuc
 have HLy : Hid ((app pO cj cs).length = 8) := qh (by rw [app_len]; exact HLj.out)
 have HLn : Hid ((app pN cj cs).length = 8) := qh (by rw [app_len]; exact HLj.out)
 have hkc : (i : Int) < (n : Int) := oM
 have hk0 : (0 : Int) <= (i : Int) := oM
 have hwi : IntKind.i64.wrap ((i : Int) - 1) = (i : Int) - 1 := IntWalk.i64_in _ oM
 have Hin := qh hkn
 clear hfit hk0 hkn
 go_wp2_with fail
 have bad := hbx.nx (Nx.refl _).drew
 have vbd : Box wr.drew w.heap.size 107 #[ii g, ii b, ii p, ii t, sC A xs.length c, sC A2 ms.length c2, sC (some ⟨bb, off, none⟩) n c3, inAt im 0, inAt im 1, inAt im 2, inAt im 3, inAt im 4, inAt im 5, inAt im 6, inAt im 7] := hb
 have hnxd := hnx.drew
 replace hbw : bb < wr.drew.heap.size := hbw
 have p0 : wr.drew.cell? ⟨bb, off + i * 4, none⟩ = _ := p0; have p1 : wr.drew.cell? ⟨bb, off + i * 4 + 1, none⟩ = _ := p1; have p2 : wr.drew.cell? ⟨bb, off + i * 4 + 2, none⟩ = _ := p2; have p3 : wr.drew.cell? ⟨bb, off + i * 4 + 3, none⟩ = _ := p3
 clear hbx hb
 refine wp_planA (.t 0 (.t 1 (.t 2 (.t 3 (.t 4 (.t 5 (.t 7 (.c 6 (.t 8 .e))))))))) (fun w' => (CC w' gA 0 (inAt cj 0) /\ CC w' gA 1 (inAt cj 1) /\ CC w' gA 2 (inAt cj 2) /\ CC w' gA 3 (inAt cj 3) /\ CC w' gA 4 (inAt cj 4) /\ CC w' gA 5 (inAt cj 5) /\ CC w' gA 6 (inAt cj 6) /\ CC w' gA 7 (inAt cj 7)) /\ CC w' w.heap.size 6 (sC (some ⟨bb, off, none⟩) n c3) /\ CC w' bb (off + i * 4) (ii f) /\ CC w' bb (off + i * 4 + 1) (ii t9) /\ CC w' bb (off + i * 4 + 2) (ii m9) /\ CC w' bb (off + i * 4 + 3) (sC Ac cs.length cc)) (by exact ⟨bad.e8, vbd.cell 6, p0, p1, p2, p3⟩) ?_
 simp only [psOf, List.getD_cons_zero, List.getD_cons_succ]
 refine hPr ?_
 refine hPc fun K hK => ?_
 go_simp
 have hcl := valuesForward_c f t9 m9 Ac cc B cs cj _ (HCk.out _ hnxd) (ntr hB hnxd.size) HOKc.out HLj.out; unfold vA at hcl; refine hcl.mono ?_; rintro e w8 ⟨rfl, hk8⟩; clear hcl; have ba8 := bad.nx hk8; have vb8 := vbd.nx hk8; have hnx8 := hnxd.trans hk8; have hbw8 := hbw; replace hbw := Nat.lt_of_lt_of_le hbw hk8.size; have hbq8 : bb < w.heap.size := Nat.lt_of_lt_of_le hbb hB; replace p0 := (hk8.cell (p := ⟨bb, off + i * 4, none⟩) hbw8).trans p0; replace p1 := (hk8.cell (p := ⟨bb, off + i * 4 + 1, none⟩) hbw8).trans p1; replace p2 := (hk8.cell (p := ⟨bb, off + i * 4 + 2, none⟩) hbw8).trans p2; replace p3 := (hk8.cell (p := ⟨bb, off + i * 4 + 3, none⟩) hbw8).trans p3
 go_wp2_with fail
 refine hK.out _ _ (by exact ⟨ba8.e8, vb8.cell 6, p0, p1, p2, p3⟩) ?_
 clear hK K
 refine nZ ?_
 refine HP.take (v := .bool (!decide (app pN cj cs = cj))) (by rfl) (fun w _ => neq_op HLn.out HLj.out w rfl rfl rfl) ?_
 refine nZ ?_
 refine HP.done ?_
 by_cases ho : app pN cj cs = cj
 case neg =>
  have HR := qh (HFn.out (decide_eq_false ho))
  rw [decide_eq_false ho]
  clear ho HFs HFn
  go_wp2
  go_ret
  exact ⟨ret_bool HR.out.symm, hnx8⟩
 have HFs' := qh (HFs.out (decide_eq_true ho))
 rw [decide_eq_true ho]
 clear ho HFs HFn
 go_wp2_with fail
 have bae := ba8.nx (Nx.refl _).drew
 have vbe := vb8.nx (Nx.refl _).drew
 have hnxe := hnx8.drew
 replace hbw : bb < w8.drew.heap.size := hbw
 have p0 : w8.drew.cell? ⟨bb, off + i * 4, none⟩ = _ := p0; have p1 : w8.drew.cell? ⟨bb, off + i * 4 + 1, none⟩ = _ := p1; have p2 : w8.drew.cell? ⟨bb, off + i * 4 + 2, none⟩ = _ := p2; have p3 : w8.drew.cell? ⟨bb, off + i * 4 + 3, none⟩ = _ := p3
 have hneb : bb ≠ gA := oM
 clear ba8 vb8
 refine wp_planA (.t 1 (.t 2 (.t 3 (.t 4 (.t 5 (.c 0 (.c 6 (.c 7 .e)))))))) (fun w' => CC w' w.heap.size 6 (sC (some ⟨bb, off, none⟩) n c3) /\ CC w' bb (off + i * 4) (ii f) /\ CC w' bb (off + i * 4 + 1) (ii t9) /\ CC w' bb (off + i * 4 + 2) (ii m9) /\ CC w' bb (off + i * 4 + 3) (sC Ac cs.length cc)) (by exact ⟨vbe.cell 6, p0, p1, p2, p3⟩) ?_
 simp only [psOf, List.getD_cons_zero, List.getD_cons_succ]
 refine hPr ?_
 refine hPc fun K hK => ?_
 refine wp_load_row _ _ rfl gA rfl 105 #[inAt cj 0, inAt cj 1, inAt cj 2, inAt cj 3, inAt cj 4, inAt cj 5, inAt cj 6, inAt cj 7] (0, 0) _ bae und_values rfl (by kernel_rfl) ?_
 refine hK.out _ _ (by exact ⟨vbe.cell 6, p0, p1, p2, p3⟩) ?_
 clear hK K
 try simp only [Act.put]
 refine hPc fun K hK => ?_
 go_simp
 have hcl := valuesBackward_c f t9 m9 Ac cc B cs cj _ (HCk.out _ hnxe) (ntr hB hnxe.size) HOKc.out HLj.out; unfold vA at hcl; refine hcl.mono ?_; rintro e w9 ⟨rfl, hk9⟩; clear hcl; have ba9 := bae.nx hk9; have vb9 := vbe.nx hk9; have hnx9 := hnxe.trans hk9; have hbw9 := hbw; replace hbw := Nat.lt_of_lt_of_le hbw hk9.size; have hbq9 : bb < w.heap.size := Nat.lt_of_lt_of_le hbb hB; replace p0 := (hk9.cell (p := ⟨bb, off + i * 4, none⟩) hbw9).trans p0; replace p1 := (hk9.cell (p := ⟨bb, off + i * 4 + 1, none⟩) hbw9).trans p1; replace p2 := (hk9.cell (p := ⟨bb, off + i * 4 + 2, none⟩) hbw9).trans p2; replace p3 := (hk9.cell (p := ⟨bb, off + i * 4 + 3, none⟩) hbw9).trans p3
 go_wp2_with fail
 refine hK.out _ _ (by exact ⟨vb9.cell 6, p0, p1, p2, p3⟩) ?_
 clear hK K
 refine nZ ?_
 refine hPc fun K hK => ?_
 refine wp_store_row _ _ _ rfl gA #[inAt (app pO cj cs) 0, inAt (app pO cj cs) 1, inAt (app pO cj cs) 2, inAt (app pO cj cs) 3, inAt (app pO cj cs) 4, inAt (app pO cj cs) 5, inAt (app pO cj cs) 6, inAt (app pO cj cs) 7] rfl rfl 105 #[inAt cj 0, inAt cj 1, inAt cj 2, inAt cj 3, inAt cj 4, inAt cj 5, inAt cj 6, inAt cj 7] ba9 (by kernel_rfl) rfl (by simp [Value.oneCell', inAt]) ?_
 refine hK.out _ _ (by exact ⟨(vb9.rowfar hneA #[inAt (app pO cj cs) 0, inAt (app pO cj cs) 1, inAt (app pO cj cs) 2, inAt (app pO cj cs) 3, inAt (app pO cj cs) 4, inAt (app pO cj cs) 5, inAt (app pO cj cs) 6, inAt (app pO cj cs) 7]).cell 6, ((cell_row_far w9 gA #[inAt (app pO cj cs) 0, inAt (app pO cj cs) 1, inAt (app pO cj cs) 2, inAt (app pO cj cs) 3, inAt (app pO cj cs) 4, inAt (app pO cj cs) 5, inAt (app pO cj cs) 6, inAt (app pO cj cs) 7] (p := ⟨bb, off + i * 4, none⟩) sM).trans p0), ((cell_row_far w9 gA #[inAt (app pO cj cs) 0, inAt (app pO cj cs) 1, inAt (app pO cj cs) 2, inAt (app pO cj cs) 3, inAt (app pO cj cs) 4, inAt (app pO cj cs) 5, inAt (app pO cj cs) 6, inAt (app pO cj cs) 7] (p := ⟨bb, off + i * 4 + 1, none⟩) sM).trans p1), ((cell_row_far w9 gA #[inAt (app pO cj cs) 0, inAt (app pO cj cs) 1, inAt (app pO cj cs) 2, inAt (app pO cj cs) 3, inAt (app pO cj cs) 4, inAt (app pO cj cs) 5, inAt (app pO cj cs) 6, inAt (app pO cj cs) 7] (p := ⟨bb, off + i * 4 + 2, none⟩) sM).trans p2), ((cell_row_far w9 gA #[inAt (app pO cj cs) 0, inAt (app pO cj cs) 1, inAt (app pO cj cs) 2, inAt (app pO cj cs) 3, inAt (app pO cj cs) 4, inAt (app pO cj cs) 5, inAt (app pO cj cs) 6, inAt (app pO cj cs) 7] (p := ⟨bb, off + i * 4 + 3, none⟩) sM).trans p3)⟩) ?_
 clear hK K
 try simp only [Act.put]
 refine HP.done ?_
 have bz := ba9.row #[inAt (app pO cj cs) 0, inAt (app pO cj cs) 1, inAt (app pO cj cs) 2, inAt (app pO cj cs) 3, inAt (app pO cj cs) 4, inAt (app pO cj cs) 5, inAt (app pO cj cs) 6, inAt (app pO cj cs) 7]
 have vz := vb9.rowfar hneA #[inAt (app pO cj cs) 0, inAt (app pO cj cs) 1, inAt (app pO cj cs) 2, inAt (app pO cj cs) 3, inAt (app pO cj cs) 4, inAt (app pO cj cs) 5, inAt (app pO cj cs) 6, inAt (app pO cj cs) 7]
 have hnxz := hnx9.setRow hgA #[inAt (app pO cj cs) 0, inAt (app pO cj cs) 1, inAt (app pO cj cs) 2, inAt (app pO cj cs) 3, inAt (app pO cj cs) 4, inAt (app pO cj cs) 5, inAt (app pO cj cs) 6, inAt (app pO cj cs) 7]
 generalize w9.setRow gA #[inAt (app pO cj cs) 0, inAt (app pO cj cs) 1, inAt (app pO cj cs) 2, inAt (app pO cj cs) 3, inAt (app pO cj cs) 4, inAt (app pO cj cs) 5, inAt (app pO cj cs) 6, inAt (app pO cj cs) 7] = Wz at *
 go_wp2
 go_roundw
 case rel => exact ⟨i, oM, rfl, by rw [show a - i = j + 1 by have := Hj.out; omega]; exact HFs'.out, by rw [show a - i = j + 1 by have := Hj.out; omega, Hsuc.out]; exact bz, hnxz, vz⟩
 case measure => (simp [intOf] <;> omega)
theorem vaultRight_c (V : Vl) (B : Nat) (w : World) (h : Vlt w B V) (hB : B <= w.heap.size) (hn : VlN V 1048576) (hc : V.xs.length <= V.c) (hc3 : V.gs.length <= V.c3) (hm : AllM V.ms) :
 Calls Tryz.prog 66 #[V.v] w fun e w' => e = .returned (.bool V.ok) /\ Nx w w' := by
 have hVW := view_c V B
 have hPL := hasPlaces_c V B
 have hFF := fitsForward_c V B
 have hFB := fitsBack_c V B
 obtain ⟨g, b, p, t, A, c, xs, A2, c2, ms, A3, c3, gs, A4, c4, im⟩ := V
 obtain ⟨h, h2, h3, h4⟩ := h
 obtain ⟨hn, hn2, hn3, hn4, hn5⟩ := hn
 simp only [Vl.v, Vl.cells] at *
 simp only [Vl.w, Vl.wcells] at *
 have HOKv : Hid (Vl.ok ⟨g, b, p, t, A, c, xs, A2, c2, ms, A3, c3, gs, A4, c4, im⟩ = vltB g b p t xs ms gs im) := qh rfl
 rw [HOKv.out]
 have HNo := qh (vltB_no (g := g) (b := b) (p := p) (t := t) (xs := xs) (ms := ms) (gs := gs) (im := im))
 have HYes := qh (fun h => VltY.b (g := g) (b := b) (p := p) (t := t) (xs := xs) (ms := ms) (gs := gs) (im := im) h)
 have HSup := qh (fun (w' : World) (hx : Nx w w') => superRight_c g b p t A A2 c c2 B xs ms w' (h.below hx hB) (h2.below hx hB) (ntr hB hx.size) hn hn2 hc hm)
 have HCon := qh (fun (w' : World) (hx : Nx w w') => implContentOK_c A4 c4 B im w' (h4.below hx hB) (ntr hB hx.size) hn5)
 have HCha := qh (fun (w' : World) (hx : Nx w w') => implChainOK_c b A3 c3 B gs w' (h3.below hx hB) (ntr hB hx.size) hn3 hn4)
 have HVW := qh (fun (w' : World) (hx : Nx w w') (h8 : im.length = 8) => hVW w' (h4.below hx hB) (ntr hB hx.size) h8)
 have HPL := qh (fun (w' : World) (hx : Nx w w') (hN : gs.length <= 4096) => hPL w' (h3.below hx hB) (h2.below hx hB) (ntr hB hx.size) hN hn2)
 have HFF := qh (fun (w' : World) (hx : Nx w w') (hl : Lead b gs) (h8 : im.length = 8) (hp : plcB b p t gs ms = true) => hFF w' (h3.below hx hB) (ntr hB hx.size) hl hc3 h8 hp)
 have HFB := qh (fun (w' : World) (hx : Nx w w') (hl : Lead b gs) (h8 : im.length = 8) (hp : plcB b p t gs ms = true) => hFB w' (h3.below hx hB) (ntr hB hx.size) hl h8 hp)
 clear hVW hPL hFF hFB
 obtain ⟨n, Hn⟩ := nM (gs.length)
 obtain ⟨q, Hq⟩ := nM (im.length)
 obtain ⟨r, Hr⟩ := nM (ms.length)
 obtain ⟨z, Hz⟩ := nM (xs.length)
 rw [Hz.out, Hr.out] at HSup
 rw [Hq.out] at HCon
 rw [Hn.out] at HCha hn3
 rw [Hn.out, Hq.out, Hr.out, Hz.out] at HVW
 rw [Hn.out, Hr.out, Hz.out] at HPL
 rw [Hn.out, Hq.out, Hr.out, Hz.out] at HFF HFB
 rw [Hr.out] at hn2
 rw [Hz.out] at hn
 rw [Hq.out] at hn5
 rw [Hn.out, Hq.out, Hr.out, Hz.out]
 have b0 := Box.new w 49 #[ii g, ii b, ii p, ii t, sC A z c, sC A2 r c2, sC A3 n c3, sC A4 q c4]
 have hx0 := (Nx.refl w).alloc (.cells #[ii g, ii b, ii p, ii t, sC A z c, sC A2 r c2, sC A3 n c3, sC A4 q c4] 49)
 clear h h2 h3 h4 hn4 hc hm hc3
 go_enter func66, ntmps66
 go_wp2_with fail
 generalize w.alloc (.cells #[ii g, ii b, ii p, ii t, sC A z c, sC A2 r c2, sC A3 n c3, sC A4 q c4] 49) = W at *
 refine (HSup.out W hx0).mono ?_
 rintro e w1 ⟨rfl, hk⟩
 have b1 := b0.nx hk
 have hx := hx0.trans hk
 clear hx0 b0 hk
 cases h1 : superB g b p t xs ms with
 | false =>
   have HR := qh (HNo.out (.inl h1))
   clear h1
   go_wp2
   go_ret
   exact ⟨ret_bool HR.out.symm, hx⟩
 | true =>
 have H1 := qh h1
 clear h1
 obtain ⟨y0, y1, y2, y3, y4, y5, y6, y7⟩ := b1.e8
 go_wp2_with fail
 refine (HCon.out _ hx).mono ?_
 clear y0 y1 y2 y3 y4 y5 y6 y7
 rintro e w2 ⟨rfl, hk⟩
 have b2 := b1.nx hk
 replace hx := hx.trans hk
 clear b1 hk
 cases h2 : contB im with
 | false =>
   have HR := qh (HNo.out (.inr (.inl h2)))
   clear h2
   go_wp2
   go_ret
   exact ⟨ret_bool HR.out.symm, hx⟩
 | true =>
 have H2 := qh h2
 clear h2
 obtain ⟨y0, y1, y2, y3, y4, y5, y6, y7⟩ := b2.e8
 by_cases hle : n = z
 case neg =>
  have hd : ((n : Int) != (z : Int)) = true := by simp; omega
  have HR := qh (HNo.out (.inr (.inr (.inl (by rw [Hn.out, Hz.out]; exact hle)))))
  clear hle
  go_wp2
  go_ret
  exact ⟨ret_bool HR.out.symm, hx⟩
 have hd : ((n : Int) != (z : Int)) = false := by simp; omega
 have H4 := qh hle
 clear hle
 go_wp2_with fail
 refine (HCha.out _ hx).mono ?_
 clear y0 y1 y2 y3 y4 y5 y6 y7 hd
 rintro e w3 ⟨rfl, hk⟩
 have b3 := b2.nx hk
 replace hx := hx.trans hk
 clear b2 hk
 cases h3 : chainB b gs with
 | false =>
   have HR := qh (HNo.out (.inr (.inr (.inr (.inl h3)))))
   clear h3
   go_wp2
   go_ret
   exact ⟨ret_bool HR.out.symm, hx⟩
 | true =>
 have H3 := qh h3
 clear h3
 have HLd := qh (chainB_lead H3.out)
 have hn4 : n <= 4096 := by have := HLd.out.short; rw [Hn.out] at this; exact this
 have H8 : Hid (q = 8) := qh (by rw [<- Hq.out]; exact (contB_yes H2.out).1)
 obtain rfl : q = 8 := H8.out
 obtain ⟨y0, y1, y2, y3, y4, y5, y6, y7⟩ := b3.e8
 go_wp2_with fail
 refine (HVW.out _ hx (by trivial)).mono ?_
 clear y0 y1 y2 y3 y4 y5 y6 y7
 rintro e w4 ⟨rfl, hk⟩
 have b4 := b3.nx hk
 replace hx := hx.trans hk
 clear b3 hk
 have rz := Box.new w4 107 #[ii 0, ii 0, ii 0, ii 0, nsl, nsl, nsl, ii 0, ii 0, ii 0, ii 0, ii 0, ii 0, ii 0, ii 0]
 have bv := rz.row #[ii g, ii b, ii p, ii t, sC A z c, sC A2 r c2, sC A3 n c3, inAt im 0, inAt im 1, inAt im 2, inAt im 3, inAt im 4, inAt im 5, inAt im 6, inAt im 7]
 have hx5 := (hx.alloc (.cells #[ii 0, ii 0, ii 0, ii 0, nsl, nsl, nsl, ii 0, ii 0, ii 0, ii 0, ii 0, ii 0, ii 0, ii 0] 107)).setRow (g := w4.heap.size) hx.size #[ii g, ii b, ii p, ii t, sC A z c, sC A2 r c2, sC A3 n c3, inAt im 0, inAt im 1, inAt im 2, inAt im 3, inAt im 4, inAt im 5, inAt im 6, inAt im 7]
 obtain ⟨y0, y1, y2, y3, y4, y5, y6, y7, y8, y9, y10, y11, y12, y13, y14⟩ := bv.e15
 go_wp2_with (refine wpList_store_row rfl _ _ _ rfl w4.heap.size #[ii g, ii b, ii p, ii t, sC A z c, sC A2 r c2, sC A3 n c3, inAt im 0, inAt im 1, inAt im 2, inAt im 3, inAt im 4, inAt im 5, inAt im 6, inAt im 7] rfl rfl 107 #[ii 0, ii 0, ii 0, ii 0, nsl, nsl, nsl, ii 0, ii 0, ii 0, ii 0, ii 0, ii 0, ii 0, ii 0] rz (by kernel_rfl) rfl (by simp [Value.oneCell', inAt]) ?_)
 clear y0 y1 y2 y3 y4 y5 y6 y7 y8 y9 y10 y11 y12 y13 y14 rz hx
 generalize (w4.alloc (.cells #[ii 0, ii 0, ii 0, ii 0, nsl, nsl, nsl, ii 0, ii 0, ii 0, ii 0, ii 0, ii 0, ii 0, ii 0] 107)).setRow w4.heap.size #[ii g, ii b, ii p, ii t, sC A z c, sC A2 r c2, sC A3 n c3, inAt im 0, inAt im 1, inAt im 2, inAt im 3, inAt im 4, inAt im 5, inAt im 6, inAt im 7] = W5 at *
 generalize w4.heap.size = gV at *
 refine (HPL.out _ hx5 hn4).mono ?_
 rintro e w6 ⟨rfl, hk⟩
 have bv6 := bv.nx hk
 have hx6 := hx5.trans hk
 clear bv hx5 hk
 cases h5 : plcB b p t gs ms with
 | false =>
   have HR := qh (HNo.out (.inr (.inr (.inr (.inr (.inl h5))))))
   clear h5
   go_wp2
   go_ret
   exact ⟨ret_bool HR.out.symm, hx6⟩
 | true =>
 have H5 := qh h5
 clear h5
 obtain ⟨y0, y1, y2, y3, y4, y5, y6, y7, y8, y9, y10, y11, y12, y13, y14⟩ := bv6.e15
 go_wp2_with fail
 clear y0 y1 y2 y3 y4 y5 y6 y7 y8 y9 y10 y11 y12 y13 y14
 refine (HFF.out _ hx6 HLd.out (by trivial) H5.out).mono ?_
 rintro e w7 ⟨rfl, hk⟩
 have bv7 := bv6.nx hk
 have hx7 := hx6.trans hk
 clear bv6 hx6 hk
 cases h6 : fitF (stp b p t gs im).1 gs (stp b p t gs im).2 with
 | false =>
   have HR := qh (HNo.out (.inr (.inr (.inr (.inr (.inr (.inl h6)))))))
   clear h6
   go_wp2
   go_ret
   exact ⟨ret_bool HR.out.symm, hx7⟩
 | true =>
 have H6 := qh h6
 clear h6
 obtain ⟨y0, y1, y2, y3, y4, y5, y6, y7, y8, y9, y10, y11, y12, y13, y14⟩ := bv7.e15
 go_wp2_with fail
 clear y0 y1 y2 y3 y4 y5 y6 y7 y8 y9 y10 y11 y12 y13 y14
 refine (HFB.out _ hx7 HLd.out (by trivial) H5.out).mono ?_
 rintro e w8 ⟨rfl, hk⟩
 have hx8 := hx7.trans hk
 clear hx7 hk
 cases h7 : fitB (stp b p t gs im).1 gs (stp b p t gs im).2 with
 | false =>
   have HR := qh (HNo.out (.inr (.inr (.inr (.inr (.inr (.inr h7)))))))
   clear h7
   go_wp2
   go_ret
   exact ⟨ret_bool HR.out.symm, hx8⟩
 | true =>
   have HR := qh (HYes.out ⟨H1.out, H2.out, by rw [Hn.out, Hz.out]; exact H4.out, H3.out, H5.out, H6.out, h7⟩)
   clear h7
   go_wp2
   go_ret
   exact ⟨ret_bool HR.out.symm, hx8⟩
theorem implVaultOK_c (V : Vl) (B : Nat) (w : World) (h : Vlt w B V) (hB : B <= w.heap.size) (hn : VlN V 1048576) (hc : V.xs.length <= V.c) (hc3 : V.gs.length <= V.c3) (hm : AllM V.ms) :
 Calls Tryz.prog 28 #[V.v] w fun e w' => e = .returned (.bool V.ok) /\ Nx w w' := by
 have hR := vaultRight_c V B
 obtain ⟨v, Hv⟩ := nM (V.ok)
 rw [Hv.out] at hR ⊢
 have HR := qh (fun (w' : World) (hx : Nx w w') => hR w' (h.below hx hB) (ntr hB hx.size) hn hc hc3 hm)
 clear hR Hv h hn hc hc3 hm
 obtain ⟨g, b, p, t, A, c, xs, A2, c2, ms, A3, c3, gs, A4, c4, im⟩ := V
 simp only [Vl.v, Vl.cells] at *
 have hx0 := (Nx.refl w).alloc (.cells #[ii g, ii b, ii p, ii t, sC A xs.length c, sC A2 ms.length c2, sC A3 gs.length c3, sC A4 im.length c4] 49)
 go_enter func28, ntmps28
 go_wp2_with fail
 generalize w.alloc (.cells #[ii g, ii b, ii p, ii t, sC A xs.length c, sC A2 ms.length c2, sC A3 gs.length c3, sC A4 im.length c4] 49) = W at *
 refine (HR.out W hx0).mono ?_
 rintro e w1 ⟨rfl, hk⟩
 have hx := hx0.trans hk
 go_wp2
 go_ret
 exact ⟨rfl, hx⟩
def tipR (V : Vl) : Int × Int := if V.ok then (tipV V.b V.gs, 0) else (0, 1)
theorem tipR_yes {V : Vl} (h : V.ok = true) : tipR V = (tipV V.b V.gs, 0) := by unfold tipR; rw [h]; rfl
theorem tipR_no {V : Vl} (h : V.ok = false) : tipR V = (0, 1) := by unfold tipR; rw [h]; rfl
theorem Vl.y {V : Vl} (h : V.ok = true) : VltY V.g V.b V.p V.t V.xs V.ms V.gs V.im := vltB_yes h
theorem VltY.ahd {g b p t : Int} {xs : List Int} {ms : List Mrk} {gs : List SgR} {im : List Int} (h : VltY g b p t xs ms gs im) : isRet b gs p = true /\ (p < t -> ahd b gs p < gs.length) /\ (t < p -> 0 < ahd b gs p) :=
 ⟨by have := h.places; unfold plcB at this; simp only [Bool.and_eq_true] at this; exact this.1.2, (stp_le (t := t) im (chainB_lead h.chain) h.places).2⟩
theorem VltY.l8 {g b p t : Int} {xs : List Int} {ms : List Mrk} {gs : List SgR} {im : List Int} (h : VltY g b p t xs ms gs im) : im.length = 8 := (contB_yes h.cont).1
theorem VltY.n4 {g b p t : Int} {xs : List Int} {ms : List Mrk} {gs : List SgR} {im : List Int} (h : VltY g b p t xs ms gs im) : gs.length <= 4096 := (chainB_lead h.chain).short
theorem l05Tip_c (V : Vl) (B : Nat) (w : World) (h : Vlt w B V) (hB : B <= w.heap.size) (hn : VlN V 1048576) :
 Calls Tryz.prog 159 #[V.v] w fun e w' => e = .returned (ii (tipV V.b V.gs)) /\ Nx w w' := by
 have hR := l05Retained_c V B
 obtain ⟨g, b, p, t, A, c, xs, A2, c2, ms, A3, c3, gs, A4, c4, im⟩ := V
 simp only [Vl.v, Vl.cells] at *
 have hx0 := (Nx.refl w).alloc (.cells #[ii g, ii b, ii p, ii t, sC A xs.length c, sC A2 ms.length c2, sC A3 gs.length c3, sC A4 im.length c4] 49)
 have HR := qh hR
 have h9 := hn.gs
 have hn0 : gs.length <= 1048576 := h9
 clear hR h9
 go_enter func159, ntmps159
 go_wp2_with fail
 generalize w.alloc (.cells #[ii g, ii b, ii p, ii t, sC A xs.length c, sC A2 ms.length c2, sC A3 gs.length c3, sC A4 im.length c4] 49) = W at *
 refine (HR.out W (h.below hx0 hB) (ntr hB hx0.size) hn).mono ?_
 rintro e w1 ⟨A9, c9, rfl, _, hS, hx1⟩
 have hI : Ins w1 w1.heap.size A9 (retL b gs) := hS.row
 have Hl := qh (retL_len b gs)
 have HT := qh (retL_at b gs gs.length nle)
 obtain ⟨bb, off, rfl, _, q0⟩ := hI.at_ (k := gs.length) (by rw [Hl.out]; omega)
 obtain ⟨m, Hm⟩ := nM (gs.length)
 rw [Hm.out] at Hl HT hn0 q0
 rw [HT.out] at q0
 rw [Hl.out]
 obtain ⟨T, HTv⟩ := nM (atK b gs m)
 rw [HTv.out] at q0
 have HR2 : Hid (tipV b gs = T) := qh (by unfold tipV; rw [Hm.out]; exact HTv.out)
 have hw1 : IntKind.i64.wrap (m : Int) = (m : Int) := IntWalk.i64_in _ oM
 have hm1 : (m : Int) < (m : Int) + 1 := oM
 have hx := hx0.trans hx1
 clear HR h hn hS hI hx0 hx1
 go_wp2
 go_ret
 exact ⟨ret_int HR2.out.symm, hx⟩
theorem tip_c (V : Vl) (B : Nat) (w : World) (h : Sgs w B V.A3 V.gs) (hB : B <= w.heap.size) (hn : V.gs.length <= 1048576) :
 Calls Tryz.prog 68 #[V.w] w fun e w' => e = .returned (ii (tipV V.b V.gs)) /\ Nx w w' := by
 obtain ⟨g, b, p, t, A, c, xs, A2, c2, ms, A3, c3, gs, A4, c4, im⟩ := V
 simp only [Vl.w, Vl.wcells] at *
 have HSg := qh (fun (k : Nat) (hk : k < gs.length) (w' : World) (hx : Nx w w') => (h.below hx hB).row.at4 hk)
 have HTv : Hid (tipV b gs = atK b gs gs.length) := qh rfl
 obtain ⟨m, Hm⟩ := nM (gs.length)
 rw [Hm.out] at HSg HTv hn ⊢
 have hx0 := (Nx.refl w).alloc (.cells #[ii g, ii b, ii p, ii t, sC A xs.length c, sC A2 ms.length c2, sC A3 m c3, inAt im 0, inAt im 1, inAt im 2, inAt im 3, inAt im 4, inAt im 5, inAt im 6, inAt im 7] 107)
 clear h
 rw [HTv.out]
 by_cases h0 : m = 0
 . have hd : ((m : Int) == 0) = true := by simp; omega
   have HZ := qh (show atK b gs m = b by rw [h0]; rfl)
   rw [HZ.out]
   clear h0
   go_enter func68, ntmps68
   go_wp2
   go_ret
   exact ⟨rfl, hx0⟩
 obtain ⟨k, rfl⟩ : ∃ k, m = k + 1 := ⟨m - 1, oM⟩
 have hd : (((k + 1 : Nat) : Int) == 0) = false := by simp; omega
 obtain ⟨bb, off, rfl, hbb, _, p1, _, _⟩ := HSg.out k oM _ hx0
 have Hk : Hid (atK b gs (k + 1) = (gs.getD k sgZ).t) := qh rfl
 obtain ⟨s, Hs⟩ := nM (gs.getD k sgZ)
 rw [Hs.out] at p1 Hk
 rw [Hk.out]
 obtain ⟨f, t9, m9, Ac, cc, cs⟩ := s
 simp only at p1 ⊢
 have hk0 : (0 : Int) <= (k : Int) := oM
 have hk1 : (k : Int) < (k : Int) + 1 := oM
 have hwk : IntKind.i64.wrap (k : Int) = (k : Int) := IntWalk.i64_in _ oM
 have hd' : ((k : Int) + 1 == 0) = false := by simp; omega
 have hbd := Box.new w 107 #[ii g, ii b, ii p, ii t, sC A xs.length c, sC A2 ms.length c2, sC (some ⟨bb, off, none⟩) (k + 1) c3, inAt im 0, inAt im 1, inAt im 2, inAt im 3, inAt im 4, inAt im 5, inAt im 6, inAt im 7]
 obtain ⟨_, y1, _, _, _, _, y6, _, _, _, _, _, _, _, _⟩ := hbd.e15
 go_enter func68, ntmps68
 go_wp2
 go_ret
 exact ⟨rfl, hx0⟩
def RetIC2 (w : World) (R : Int × Int) (e : Ending) (w' : World) : Prop := e = .returned (.tuple #[ii R.1, ii R.2]) /\ Nx w w'
theorem implTipOf_c (V : Vl) (B : Nat) (w : World) (h : Vlt w B V) (hB : B <= w.heap.size) (hn : VlN V 1048576) (hc : V.xs.length <= V.c) (hc3 : V.gs.length <= V.c3) (hm : AllM V.ms) :
 Calls Tryz.prog 22 #[V.v] w (RetIC2 w (tipR V)) := by
 have hOK := vaultRight_c V B
 have hVW := view_c V B
 have hTip := tip_c V B
 cases hv : V.ok with
 | false =>
   have HT := qh (tipR_no hv)
   rw [HT.out]
   have HOK := qh (fun (w' : World) (hx : Nx w w') => hOK w' (h.below hx hB) (ntr hB hx.size) hn hc hc3 hm)
   rw [hv] at HOK
   clear hOK h hn hc hc3 hm hv hVW hTip HT
   obtain ⟨g, b, p, t, A, c, xs, A2, c2, ms, A3, c3, gs, A4, c4, im⟩ := V
   simp only [Vl.v, Vl.cells] at *
   have hx0 := (Nx.refl w).alloc (.cells #[ii g, ii b, ii p, ii t, sC A xs.length c, sC A2 ms.length c2, sC A3 gs.length c3, sC A4 im.length c4] 49)
   go_enter func22, ntmps22
   go_wp2_with fail
   generalize w.alloc (.cells #[ii g, ii b, ii p, ii t, sC A xs.length c, sC A2 ms.length c2, sC A3 gs.length c3, sC A4 im.length c4] 49) = W at *
   refine (HOK.out W hx0).mono ?_
   rintro e w1 ⟨rfl, hk⟩
   have hx := hx0.trans hk
   go_wp2
   go_ret2
   exact ⟨rfl, hx⟩
 | true =>
   have HT := qh (tipR_yes hv)
   rw [HT.out]
   have HY := qh (Vl.y hv)
   have HOK := qh (fun (w' : World) (hx : Nx w w') => hOK w' (h.below hx hB) (ntr hB hx.size) hn hc hc3 hm)
   have HVW := qh (fun (w' : World) (hx : Nx w w') => hVW w' (h.img.below hx hB) (ntr hB hx.size) HY.out.l8)
   have HTip := qh (fun (w' : World) (hx : Nx w w') => hTip w' (h.sgs.below hx hB) (ntr hB hx.size) hn.gs)
   rw [hv] at HOK
   clear hOK h hn hc hc3 hm hv hVW hTip HT
   obtain ⟨g, b, p, t, A, c, xs, A2, c2, ms, A3, c3, gs, A4, c4, im⟩ := V
   simp only [Vl.v, Vl.cells, Vl.w, Vl.wcells] at *
   have b0 := Box.new w 49 #[ii g, ii b, ii p, ii t, sC A xs.length c, sC A2 ms.length c2, sC A3 gs.length c3, sC A4 im.length c4]
   have hx0 := (Nx.refl w).alloc (.cells #[ii g, ii b, ii p, ii t, sC A xs.length c, sC A2 ms.length c2, sC A3 gs.length c3, sC A4 im.length c4] 49)
   go_enter func22, ntmps22
   go_wp2_with fail
   generalize w.alloc (.cells #[ii g, ii b, ii p, ii t, sC A xs.length c, sC A2 ms.length c2, sC A3 gs.length c3, sC A4 im.length c4] 49) = W at *
   refine (HOK.out W hx0).mono ?_
   rintro e w1 ⟨rfl, hk⟩
   have hx := hx0.trans hk
   have b1 := b0.nx hk
   obtain ⟨y0, y1, y2, y3, y4, y5, y6, y7⟩ := b1.e8
   go_wp2_with fail
   clear y0 y1 y2 y3 y4 y5 y6 y7
   refine (HVW.out _ hx).mono ?_
   rintro e w2 ⟨rfl, hk⟩
   replace hx := hx.trans hk
   go_wp2_with fail
   refine (HTip.out _ hx).mono ?_
   rintro e w3 ⟨rfl, hk⟩
   replace hx := hx.trans hk
   go_wp2
   go_ret2
   exact ⟨rfl, hx⟩

theorem getD_setB (ss : List BA) (a i : Nat) (s : BA) (ha : a < ss.length) : (ss.set a s).getD i ByteArray.empty = if i = a then s else ss.getD i ByteArray.empty := by
 rw [gdE, List.getElem?_set]
 by_cases h : a = i
 . subst h; rw [if_pos rfl, if_pos rfl, if_pos ha]; rfl
 . rw [if_neg h, if_neg (fun e => h e.symm), <- gdE]
def imT (c : List Int) (j : Nat) : BA := sealS (numsS [(c.getD j 0).toNat])
theorem fmT_at (c : List Int) : ∀ k i, k <= 8 -> i < 64 -> (fmT c k).getD i ByteArray.empty = if i = 0 then supT 1 0 0 0 [] [] else if 2 <= i /\ i < 2 + k then imT c (i - 2) else ByteArray.empty
 | 0, i, _, hi => by
   show (noS.set 0 _).getD i ByteArray.empty = _
   rw [getD_setB _ _ _ _ (by rw [noS_len]; omega), noS_at hi]
   by_cases h : i = 0
   . rw [if_pos h, if_pos h]
   . rw [if_neg h, if_neg h, if_neg oM]
 | k + 1, i, hk, hi => by
   show ((fmT c k).set (2 + k) _).getD i ByteArray.empty = _
   rw [getD_setB _ _ _ _ (by rw [fmT_len]; omega), fmT_at c k i oM hi]
   by_cases h : i = 2 + k
   . rw [if_pos h, if_neg oM, if_pos oM, h, show 2 + k - 2 = k by omega]; rfl
   . rw [if_neg h]
     by_cases h0 : i = 0
     . rw [if_pos h0, if_pos h0]
     . rw [if_neg h0, if_neg h0]
       by_cases h2 : 2 <= i /\ i < 2 + k
       . rw [if_pos h2, if_pos oM]
       . rw [if_neg h2, if_neg oM]
theorem readP_nil (ss : List BA) (a : Nat) : readP ss [] a = ss.getD a ByteArray.empty := rfl
theorem supT0_size : (supT 1 0 0 0 [] []).size <= 300 := by
 unfold supT
 rw [sealS_size, ByteArray.size_append, ByteArray.size_append, numsS_size, supN_len, show wds [] = [] from rfl, jn_nil]
 show 4 * 6 + 1 + 0 + 3 <= 300
 omega
theorem imT_size (c : List Int) (j : Nat) : (imT c j).size <= 300 := by unfold imT; rw [sealS_size, numsS_size]; simp
theorem fmT_disk (c : List Int) : diskB (fmT c 8) [] = true := by
 unfold diskB
 rw [fmT_len]
 have h : (fmT c 8).all sOk = true := List.all_eq_true.2 fun x hx => by
  obtain ⟨i, hi, e⟩ := List.getElem_of_mem hx
  have hi' : i < 64 := by rw [fmT_len] at hi; exact hi
  have h2 := fmT_at c 8 i nle hi'
  rw [gdE, List.getElem?_eq_getElem hi, Option.getD_some, e] at h2
  unfold sOk
  rw [h2]
  by_cases h0 : i = 0
  . rw [if_pos h0]; exact decide_eq_true supT0_size
  . rw [if_neg h0]
    by_cases h3 : 2 <= i /\ i < 2 + 8
    . rw [if_pos h3]; exact decide_eq_true (imT_size c _)
    . rw [if_neg h3]; rfl
 rw [h]; rfl
def fmV (c : List Int) : Vl := ⟨1, 0, 0, 0, none, 0, [], none, 0, [], none, 0, [], none, 0, c⟩
theorem fmT_im {c : List Int} (hc : contB c = true) {j : Nat} (hj : j < 8) : ldI (fmT c 8) [] j = some (c.getD j 0) := by
 have hv := (contB_yes hc).2 j hj
 unfold ldI
 rw [readP_nil, fmT_at c 8 (2 + j) nle oM, if_neg oM, if_pos oM, show 2 + j - 2 = j by omega]
 unfold imT
 rw [rdN_seal _ (one_six hv.1 hv.2)]
 show some (((c.getD j 0).toNat : Nat) : Int) = _
 rw [Int.toNat_of_nonneg hv.1]
theorem fmV_y {c : List Int} (hc : contB c = true) : VltY 1 0 0 0 [] [] [] c :=
 ⟨super_new, hc, rfl, by decide, by decide, by unfold fitF; simp, by unfold fitB stp; simp [ahd, retL, idx]⟩
theorem fmV_ok {c : List Int} (hc : contB c = true) : (fmV c).ok = true := (fmV_y hc).b
theorem fmT_new (c : List Int) : newU (rdU (readP (fmT c 8) [] 0)) (rdU (readP (fmT c 8) [] 1)) = some ((1, 0, 0, 0, [], []), 0) := by
 rw [readP_nil, readP_nil, fmT_at c 8 0 nle oM, fmT_at c 8 1 nle oM, if_pos rfl, if_neg oM, if_neg oM, rdU_back super_new, rdU_shut (opensB_short dC)]; rfl
theorem fmT_ld {c : List Int} (hc : contB c = true) : ldA (fmT c 8) [] = (fmV c, 0) := by
 rw [ldA_yes (fmT_disk c)]
 have hW : ldW (fmT c 8) [] (1, 0, 0, 0, [], []) = fmV c := by
  have e : (List.range 8).map (ldX (fmT c 8) []) = c := by
   refine ext8 (by simp) (contB_yes hc).1 fun j hj => ?_
   rw [gdE, List.getElem?_map, List.getElem?_range hj]
   show (ldI (fmT c 8) [] j).getD 0 = _
   rw [fmT_im hc hj]; rfl
  unfold ldW vlU fmV
  simp only [List.map_nil]
  rw [e]
 have hO : ldOk (fmT c 8) [] (1, 0, 0, 0, [], []) = true := by
  unfold ldOk
  rw [Bool.and_eq_true]
  exact ⟨rfl, List.all_eq_true.2 fun j hj => by rw [fmT_im hc (by simpa using hj)]; rfl⟩
 have := ldV_yes (fmT_new c) hO (by rw [hW]; exact fmV_ok hc)
 rw [this, hW]
theorem segT_size (V : Vl) (p v t : Int) (n : Nat) : (segT (newG V p n v t)).size <= 300 := by
 unfold segT
 rw [sealS_size, numsS_size, segN_len]
 show (3 + 3 * 1) * 6 + 3 <= 300
 omega
theorem supT_size {g b p t : Int} {xs : List Int} {ms : List Mrk} (h : superB (g + 1) b p t xs ms = true) : (supT (g + 1) b p t xs ms).size <= 300 :=
 nxt_size (u := (g, b, p, t, xs, ms)) h
theorem set_all {ss : List BA} {a : Nat} {s : BA} (h : ss.all sOk = true) (hs : s.size <= 300) : (ss.set a s).all sOk = true := List.all_eq_true.2 fun x hx => by
 rcases List.mem_or_eq_of_mem_set hx with h1 | rfl
 . exact List.all_eq_true.1 h x h1
 . exact decide_eq_true hs
theorem diskB_nil {ss : List BA} (h1 : ss.length = 64) (h2 : ss.all sOk = true) : diskB ss [] = true := by
 unfold diskB; rw [h1, h2]; rfl
def extV (V : Vl) (p : Int) (n : Nat) (v t : Int) : Vl := ⟨V.g + 1, V.b, V.p, V.t, none, 0, V.xs ++ [freeS V.xs], none, 0, V.ms, none, 0, V.gs ++ [newG V p n v t], none, 0, V.im⟩
def apS (ss : List BA) (V : Vl) (p : Int) (n : Nat) (v t : Int) : List BA := ss.set (freeS V.xs).toNat (segT (newG V p n v t))
def apU (V : Vl) : BA := supT (V.g + 1) V.b V.p V.t (V.xs ++ [freeS V.xs]) V.ms
structure Asked (ss : List BA) (V : Vl) (p : Int) (n : Nat) (v t : Int) : Prop where
 disk : diskB ss [] = true
 ld : LdY ss [] V
 frame : frameB p (n : Int) v t = true
 next : p = V.tip + 1
 room : V.gs.length ≠ 20
 gen : V.g ≠ 999999
section
variable {ss : List BA} {V : Vl} {p v t : Int} {n : Nat}
theorem Asked.len (h : Asked ss V p n v t) : V.gs.length < 20 /\ V.xs.length = V.gs.length := by
 have h1 := h.ld.ok.len
 have h2 := (tbB_yes (superB_yes h.ld.ok.super).2.2.2.2.1).1
 have := h.room
 exact ⟨oM, h1.symm⟩
theorem Asked.y (h : Asked ss V p n v t) : VltY (V.g + 1) V.b V.p V.t (V.xs ++ [freeS V.xs]) V.ms (V.gs ++ [newG V p n v t]) V.im := ext_y h.ld.ok (newG_nxt h.ld.ok h.frame h.next) h.gen h.len.1
theorem Asked.free (h : Asked ss V p n v t) : ∃ a : Nat, freeS V.xs = (a : Int) /\ 10 <= a /\ a <= 63 := by
 obtain ⟨f1, f2, _⟩ := free_ok (xs := V.xs) (by have := h.len; omega)
 exact ⟨(freeS V.xs).toNat, oM, oM, oM⟩
theorem Asked.diskS (h : Asked ss V p n v t) : diskB (apS ss V p n v t) [] = true :=
 diskB_nil (by unfold apS; rw [List.length_set]; exact (diskB_len64 h.disk).1) (set_all (diskB_len64 h.disk).2.2.1 (segT_size V p v t n))
theorem Asked.slot (h : Asked ss V p n v t) : ∃ o : Nat, 1 - sltV ss [] = (o : Int) /\ o <= 1 := by
 rcases h.ld.slot with e | e
 . exact ⟨1, oM, oM⟩
 . exact ⟨0, oM, oM⟩
theorem Asked.disk1 (h : Asked ss V p n v t) : diskB (apS ss V p n v t) [(1 - sltV ss [], apU V)] = true := by
 obtain ⟨o, eo, ho⟩ := h.slot
 have h1 := diskB_len64 h.diskS
 unfold diskB
 rw [h1.1, h1.2.2.1, eo]
 have : wOk ((o : Int), apU V) = true := by
  unfold wOk secB sOk
  rw [decide_eq_true (show (0 : Int) <= (o : Int) by omega), decide_eq_true (show (o : Int) <= 63 by omega), decide_eq_true (show (((o : Int), apU V) : Int × BA).2.size <= 300 from supT_size h.y.super)]; rfl
 simp [this]
theorem Asked.diskF (h : Asked ss V p n v t) : diskB ((apS ss V p n v t).set (1 - sltV ss []).toNat (apU V)) [] = true :=
 diskB_nil (by rw [List.length_set]; exact (diskB_len64 h.diskS).1) (set_all (diskB_len64 h.diskS).2.2.1 (supT_size h.y.super))
theorem Asked.readS (h : Asked ss V p n v t) (a : Nat) : readP (apS ss V p n v t) [] a = if a = (freeS V.xs).toNat then segT (newG V p n v t) else readP ss [] a := by
 obtain ⟨f, ef, h1, h2⟩ := h.free
 rw [readP_nil, readP_nil]
 unfold apS
 rw [getD_setB _ _ _ _ (by rw [(diskB_len64 h.disk).1, ef]; omega)]
theorem Asked.readF (h : Asked ss V p n v t) (a : Nat) : readP ((apS ss V p n v t).set (1 - sltV ss []).toNat (apU V)) [] a = if a = (1 - sltV ss []).toNat then apU V else readP (apS ss V p n v t) [] a := by
 obtain ⟨o, eo, ho⟩ := h.slot
 rw [readP_nil, readP_nil, getD_setB _ _ _ _ (by rw [(diskB_len64 h.diskS).1, eo]; omega)]
theorem newU_at {o0 o1 : Option U6} {u : U6} {s : Int} (h : newU o0 o1 = some (u, s)) : (s = 0 /\ o0 = some u) \/ (s = 1 /\ o1 = some u) := by
 unfold newU at h
 split at h
 . split at h <;> cases h
   . exact .inr ⟨rfl, rfl⟩
   . exact .inl ⟨rfl, rfl⟩
 . cases h; exact .inl ⟨rfl, rfl⟩
 . cases h; exact .inr ⟨rfl, rfl⟩
 . cases h
theorem Asked.new (h : Asked ss V p n v t) : newU (rdU (readP ((apS ss V p n v t).set (1 - sltV ss []).toNat (apU V)) [] 0)) (rdU (readP ((apS ss V p n v t).set (1 - sltV ss []).toNat (apU V)) [] 1)) = some ((V.g + 1, V.b, V.p, V.t, V.xs ++ [freeS V.xs], V.ms), 1 - sltV ss []) := by
 obtain ⟨f, ef, f1, f2⟩ := h.free
 have hb := rdU_back h.y.super
 rw [h.readF 0, h.readF 1, h.readS 0, h.readS 1, if_neg (show ¬ 0 = (freeS V.xs).toNat by omega), if_neg (show ¬ 1 = (freeS V.xs).toNat by omega)]
 rcases newU_at h.ld.nu with ⟨hs, hr⟩ | ⟨hs, hr⟩
 . rw [hs, if_neg dC, if_pos dC, hr]
   show newU _ (rdU (apU V)) = _
   unfold apU
   rw [hb]
   show (if V.g < V.g + 1 then _ else _) = _
   rw [if_pos oM]; rfl
 . rw [hs, if_pos dC, if_neg dC, hr]
   show newU (rdU (apU V)) _ = _
   unfold apU
   rw [hb]
   show (if V.g + 1 < V.g then _ else _) = _
   rw [if_neg oM]; rfl
theorem Asked.sec (h : Asked ss V p n v t) {a : Nat} (h1 : 2 <= a) (h2 : a ≠ (freeS V.xs).toNat) : readP ((apS ss V p n v t).set (1 - sltV ss []).toNat (apU V)) [] a = readP ss [] a := by
 obtain ⟨o, eo, ho⟩ := h.slot
 rw [h.readF, if_neg (by rw [eo]; omega), h.readS, if_neg h2]
theorem Asked.seg (h : Asked ss V p n v t) : ldG ((apS ss V p n v t).set (1 - sltV ss []).toNat (apU V)) [] (freeS V.xs) = some ((p - 1).toNat, p.toNat, (lastM V.gs t).toNat, [((n : Int), v, V.top.getD n 0)]) := by
 obtain ⟨o, eo, ho⟩ := h.slot
 obtain ⟨f, ef, f1, f2⟩ := h.free
 have hx := newG_nxt h.ld.ok h.frame h.next
 have hs : segB (p - 1) p (lastM V.gs t) [((n : Int), v, V.top.getD n 0)] = true := hx.seg
 obtain ⟨s0, s1, s2, s3, s4⟩ := segB_yes hs
 unfold ldG
 rw [h.readF, if_neg (by rw [eo, ef]; omega), h.readS, if_pos rfl]
 have e0 : (((p - 1).toNat : Nat) : Int) = p - 1 := Int.toNat_of_nonneg oM
 have e1 : ((p.toNat : Nat) : Int) = p := Int.toNat_of_nonneg oM
 have e2 : (((lastM V.gs t).toNat : Nat) : Int) = lastM V.gs t := Int.toNat_of_nonneg oM
 have hs2 : segB (((p - 1).toNat : Nat) : Int) ((p.toNat : Nat) : Int) (((lastM V.gs t).toNat : Nat) : Int) [((n : Int), v, V.top.getD n 0)] = true := by rw [e0, e1, e2]; exact hs
 have hb := rdG_back hs2
 rw [<- hb]
 unfold segS segT newG
 rw [if_pos hs2, e0, e1, e2]
theorem Asked.segs (h : Asked ss V p n v t) {x : Int} (hx : x ∈ V.xs) : ldG ((apS ss V p n v t).set (1 - sltV ss []).toNat (apU V)) [] x = ldG ss [] x := by
 have h1 := tbB_in (superB_yes h.ld.ok.super).2.2.2.2.1 hx
 obtain ⟨f1, f2, f3⟩ := free_ok (xs := V.xs) (by have := h.len; omega)
 unfold ldG
 rw [h.sec oM (fun e => f3 (by have : freeS V.xs = x := oM; rw [this]; exact hx))]
theorem Asked.img (h : Asked ss V p n v t) {j : Nat} (hj : j < 8) : ldI ((apS ss V p n v t).set (1 - sltV ss []).toNat (apU V)) [] j = ldI ss [] j := by
 obtain ⟨f, ef, f1, f2⟩ := h.free
 unfold ldI
 rw [h.sec oM (by rw [ef]; omega)]
theorem Asked.ldF (h : Asked ss V p n v t) : LdY ((apS ss V p n v t).set (1 - sltV ss []).toNat (apU V)) [] (extV V p n v t) := by
 have hnew := h.new
 have hs : sltV ((apS ss V p n v t).set (1 - sltV ss []).toNat (apU V)) [] = 1 - sltV ss [] := by unfold sltV at hnew ⊢; rw [hnew]
 have hx := newG_nxt h.ld.ok h.frame h.next
 have hsg : segB (p - 1) p (lastM V.gs t) [((n : Int), v, V.top.getD n 0)] = true := hx.seg
 obtain ⟨s0, s1, s2, s3, s4⟩ := segB_yes hsg
 have hrd := h.ld.rd
 unfold ldOk at hrd
 rw [Bool.and_eq_true] at hrd
 refine ⟨by rw [hs]; exact hnew, by rw [hs]; rcases h.ld.slot with e | e <;> omega, h.y, ?_, ?_⟩
 . unfold ldOk
   rw [Bool.and_eq_true]
   refine ⟨List.all_eq_true.2 fun x hx => ?_, List.all_eq_true.2 fun j hj => ?_⟩
   . have hx' : x ∈ V.xs ++ [freeS V.xs] := hx
     rcases List.mem_append.1 hx' with h1 | h1
     . rw [h.segs h1]; exact List.all_eq_true.1 hrd.1 x h1
     . obtain rfl : x = freeS V.xs := by simpa using h1
       rw [h.seg]; rfl
   . rw [h.img (by simpa using hj)]; exact List.all_eq_true.1 hrd.2 j hj
 . have e1 : (V.xs ++ [freeS V.xs]).map (ldS ((apS ss V p n v t).set (1 - sltV ss []).toNat (apU V)) []) = V.gs ++ [newG V p n v t] := by
    rw [List.map_append]
    congr 1
    . have e : V.gs = V.xs.map (ldS ss []) := congrArg Vl.gs h.ld.eq
      rw [e]
      exact List.map_congr_left fun x hx => by unfold ldS; rw [h.segs hx]
    . show [ldS _ [] (freeS V.xs)] = [newG V p n v t]
      congr 1
      unfold ldS
      rw [h.seg]
      show gR ((p - 1).toNat, p.toNat, (lastM V.gs t).toNat, [((n : Int), v, V.top.getD n 0)]) = _
      unfold gR newG
      rw [Int.toNat_of_nonneg oM, Int.toNat_of_nonneg oM, Int.toNat_of_nonneg oM]
   have e2 : (List.range 8).map (ldX ((apS ss V p n v t).set (1 - sltV ss []).toNat (apU V)) []) = V.im := by
    have e : V.im = (List.range 8).map (ldX ss []) := congrArg Vl.im h.ld.eq
    rw [e]
    exact List.map_congr_left fun j hj => by unfold ldX; rw [h.img (by simpa using hj)]
   show extV V p n v t = ldW _ [] (V.g + 1, V.b, V.p, V.t, V.xs ++ [freeS V.xs], V.ms)
   unfold ldW vlU extV
   simp only
   rw [e1, e2]
theorem Asked.keep (h : Asked ss V p n v t) : LdY (apS ss V p n v t) [] V := by
 obtain ⟨f, ef, f1, f2⟩ := h.free
 obtain ⟨_, _, f3⟩ := free_ok (xs := V.xs) (by have := h.len; omega)
 have hsec : ∀ a, a ≠ (freeS V.xs).toNat -> readP (apS ss V p n v t) [] a = readP ss [] a := fun a ha => by rw [h.readS, if_neg ha]
 have hn : newU (rdU (readP (apS ss V p n v t) [] 0)) (rdU (readP (apS ss V p n v t) [] 1)) = newU (rdU (readP ss [] 0)) (rdU (readP ss [] 1)) := by
  rw [hsec 0 (by rw [ef]; omega), hsec 1 (by rw [ef]; omega)]
 have hs : sltV (apS ss V p n v t) [] = sltV ss [] := by unfold sltV; rw [hn]
 have hg : ∀ x ∈ V.xs, ldG (apS ss V p n v t) [] x = ldG ss [] x := fun x hx => by
  have h1 := tbB_in (superB_yes h.ld.ok.super).2.2.2.2.1 hx
  unfold ldG
  rw [hsec _ (fun e => f3 (by have : freeS V.xs = x := oM; rw [this]; exact hx))]
 have hi : ∀ j, j < 8 -> ldI (apS ss V p n v t) [] j = ldI ss [] j := fun j hj => by unfold ldI; rw [hsec _ (by rw [ef]; omega)]
 have hrd := h.ld.rd
 unfold ldOk at hrd
 rw [Bool.and_eq_true] at hrd
 refine ⟨by rw [hn, hs]; exact h.ld.nu, by rw [hs]; exact h.ld.slot, h.ld.ok, ?_, ?_⟩
 . unfold ldOk
   rw [Bool.and_eq_true]
   exact ⟨List.all_eq_true.2 fun x hx => by rw [hg x hx]; exact List.all_eq_true.1 hrd.1 x hx, List.all_eq_true.2 fun j hj => by rw [hi j (by simpa using hj)]; exact List.all_eq_true.1 hrd.2 j hj⟩
 . have e1 : V.xs.map (ldS (apS ss V p n v t) []) = V.xs.map (ldS ss []) := List.map_congr_left fun x hx => by unfold ldS; rw [hg x hx]
   have e2 : (List.range 8).map (ldX (apS ss V p n v t) []) = (List.range 8).map (ldX ss []) := List.map_congr_left fun j hj => by unfold ldX; rw [hi j (by simpa using hj)]
   refine h.ld.eq.trans ?_
   unfold ldW vlU
   simp only
   rw [e1, e2]
theorem Asked.keepS (h : Asked ss V p n v t) : sltV (apS ss V p n v t) [] = sltV ss [] := by
 obtain ⟨f, ef, f1, f2⟩ := h.free
 unfold sltV
 rw [h.readS, h.readS, if_neg (by rw [ef]; omega), if_neg (by rw [ef]; omega)]
end
theorem settle_congr {kp kp' : Nat -> Bool} (h : ∀ i, kp i = kp' i) (ss : List BA) (ws : List (Int × BA)) (k : Nat) : settleTo kp ss ws k = settleTo kp' ss ws k := by
 rw [funext h]
theorem box_bls {w : World} {g : Nat} {t : TypeId} {b : Bool} (h : Box w g t #[.bool b]) : Bls w w.heap.size (some ⟨g, 0, none⟩) 1 [b] := ⟨rfl, fun _ => ⟨g, 0, rfl, h.lt, fun i hi => by
 obtain rfl : i = 0 := oM
 exact h.cell 0⟩⟩
def crP (ss : List BA) (ws : List (Int × BA)) (bs : List Bool) : (List BA × List (Int × BA)) × Int :=
 if 4096 < bs.length then (([], []), 2) else if diskB ss ws = false then (([], []), 1) else ((settleTo (kpC bs) ss ws ws.length, []), 0)
section
variable {ss R1 : List BA} {ws R2 : List (Int × BA)} {bs : List Bool} {cd : Int}
theorem crP_long (h : 4096 < bs.length) : crP ss ws bs = (([], []), 2) := by unfold crP; rw [if_pos h]
theorem crP_bad (h0 : ¬ 4096 < bs.length) (h : diskB ss ws = false) : crP ss ws bs = (([], []), 1) := by unfold crP; rw [if_neg h0, if_pos h]
theorem crP_ok (h0 : ¬ 4096 < bs.length) (h : diskB ss ws = true) : crP ss ws bs = ((settleTo (kpC bs) ss ws ws.length, []), 0) := by unfold crP; rw [if_neg h0, if_neg (by simp [h])]
end
theorem flushed_c (A A2 : Option Addr) (c n2 c2 B : Nat) (ss : List BA) (ws : List (Int × BA)) (w : World) (h : Strs w B A 64 ss) (h2 : Wrs w B A2 n2 ws) (hB : B <= w.heap.size) (hn2 : n2 <= 80) (hall : ws.all wOk = true) :
 Calls Tryz.prog 56 #[.agg #[sC A 64 c, sC A2 n2 c2]] w (RetDisk w (settleTo kpAll ss ws n2) []) := by
 have HA := qh hall
 clear hall
 go_enter func56, ntmps56
 go_wp2_with fail
 have r1 := Box.new (w.alloc (.cells #[sC A 64 c, sC A2 n2 c2] 35)) 35 #[nsl, nsl]
 have hx1 := ((Nx.refl w).alloc (.cells #[sC A 64 c, sC A2 n2 c2] 35)).alloc (.cells #[nsl, nsl] 35)
 have hz1 : w.heap.size + 1 + 1 = ((w.alloc (.cells #[sC A 64 c, sC A2 n2 c2] 35)).alloc (.cells #[nsl, nsl] 35)).heap.size := by simp
 rw [hz1]
 simp only [World.size_alloc] at r1
 generalize (w.alloc (.cells #[sC A 64 c, sC A2 n2 c2] 35)).alloc (.cells #[nsl, nsl] 35) = w1 at *
 have k0 := Box.new w1 4 #[.bool true]
 have hxk := hx1.alloc (.cells #[.bool true] 4)
 have hk : Bls (w1.alloc (.cells #[.bool true] 4)) (w1.alloc (.cells #[.bool true] 4)).heap.size (some ⟨w1.heap.size, 0, none⟩) 1 [true] := box_bls k0
 have hl1 : w1.heap.size <= (w1.alloc (.cells #[.bool true] 4)).heap.size := by simp
 have hnk := (Nx.refl w1).alloc (.cells #[.bool true] 4)
 generalize w1.alloc (.cells #[.bool true] 4) = w2 at *
 refine (settled_c A A2 (some ⟨w1.heap.size, 0, none⟩) c n2 c2 1 1 _ ss ws [true] _ ((h.below hxk hB).more (ntr hB hxk.size)) ((h2.below hxk hB).more (ntr hB hxk.size)) hk nle hn2 oM oM HA.out).mono ?_
 rintro e w3 ⟨A5, n5, c5, A6, n6, c6, rfl, hS3, hW4, hx3'⟩
 rw [show settleTo (kpOf [true]) ss ws n2 = settleTo (kpAll) ss ws n2 from settle_congr (fun i => by simp [kpOf, kpAll, Nat.mod_one]) _ _ _] at hS3
 have hx3 := hnk.trans hx3'
 have r3 := r1.nx hx3
 have s0 := r3.c0
 have s1 := r3.c1
 have f0 := r3.frozen 0
 have f1 := r3.frozen 1
 have l1 := r1.lt
 go_wp2
 obtain ⟨q0, q1, hSf, hWf, hxf⟩ := fin_box c5 c6 r3 hS3 hW4 oM oM (hx1.trans hx3) oM
 generalize (w3.setCell ⟨w.heap.size + 1, 0, none⟩ (sC A5 n5 c5)).setCell ⟨w.heap.size + 1, 1, none⟩ (sC A6 n6 c6) = Wf at *
 exact bodyPost_ret (v := .agg #[sC A5 n5 c5, sC A6 n6 c6]) (by simp [results, results56, go_sem, q0, q1]) rfl ⟨A5, n5, c5, A6, n6, c6, rfl, hSf, hWf, hxf⟩
theorem implCrashDisk_r (A A2 : Option Addr) (n c n2 c2 B : Nat) (ss : List BA) (ws : List (Int × BA)) (A3 : Option Addr) (m c3 : Nat) (bs : List Bool) (w : World) (R1 : List BA) (R2 : List (Int × BA)) (cd : Int) (HP : crP ss ws bs = ((R1, R2), cd)) (h : Strs w B A n ss) (h2 : Wrs w B A2 n2 ws) (hB : B <= w.heap.size) (hn : n <= 1048576) (hn2 : n2 <= 1048576) (h3 : Bls w B A3 m bs) (hm2 : m <= 1048576) :
 Calls Tryz.prog 79 #[.agg #[sC A n c, sC A2 n2 c2], sC A3 m c3] w (RetDiskCode w R1 R2 cd) := by
 by_cases hlong : 4096 < bs.length
 case pos =>
  rw [crP_long hlong] at HP
  cases HP
  have hd0 : decide (4096 < (m : Int)) = true := by rw [h3.1] at hlong; simp; omega
  clear hlong
  go_enter func79, ntmps79
  go_wp2
  exact bodyPost_ret (v := .tuple #[.agg #[nsl, nsl], ii 2]) (by simp [results, results79, go_sem]) rfl ⟨none, 0, 0, none, 0, 0, rfl, SlS.nil _ _, SlW.nil _ _, ((Nx.refl _).alloc _).alloc _⟩
 have hd0 : decide (4096 < (m : Int)) = false := by have := h3.1; simp; omega
 cases hok : diskB ss ws with
 | false =>
   rw [crP_bad hlong hok] at HP
   cases HP
   have HO := qh hok
   clear hok
   go_enter func79, ntmps79
   go_wp2_with fail
   have b0 := (Box.new w 35 #[sC A n c, sC A2 n2 c2]).alloc (.cells #[nsl, nsl] 35)
   have r0 := Box.new (w.alloc (.cells #[sC A n c, sC A2 n2 c2] 35)) 35 #[nsl, nsl]
   have hnx0 := ((Nx.refl w).alloc (.cells #[sC A n c, sC A2 n2 c2] 35)).alloc (.cells #[nsl, nsl] 35)
   simp only [World.size_alloc] at r0
   generalize (w.alloc (.cells #[sC A n c, sC A2 n2 c2] 35)).alloc (.cells #[nsl, nsl] 35) = W at *
   refine (isRight_c A A2 n c n2 c2 B ss ws _ (h.below hnx0 hB) (h2.below hnx0 hB) (ntr hB hnx0.size) oM oM).mono ?_
   rintro e w1 ⟨rfl, hnx1⟩
   rw [HO.out]
   have b1 := b0.nx hnx1
   have r1 := r0.nx hnx1
   have hx1 := hnx0.trans hnx1
   clear b0 r0 hnx0 hnx1
   have c0 := b1.c0
   have c1 := b1.c1
   have s0 := r1.c0
   have s1 := r1.c1
   have f0 := r1.frozen 0
   have f1 := r1.frozen 1
   go_wp2
   obtain ⟨q0, q1, hSf, hWf, hxf⟩ := fin_box 0 0 r1 (SlS.nil w1 (w.heap.size + 1 + 1)) (SlW.nil w1 (w.heap.size + 1 + 1)) oM oM hx1 oM
   generalize (w1.setCell ⟨w.heap.size + 1, 0, none⟩ (nsl)).setCell ⟨w.heap.size + 1, 1, none⟩ (nsl) = Wf at *
   exact bodyPost_ret (v := .tuple #[.agg #[nsl, nsl], ii 1]) (by simp [results, results79, go_sem, q0, q1]) rfl ⟨none, 0, 0, none, 0, 0, rfl, hSf, hWf, hxf⟩
 | true =>
 rw [crP_ok hlong hok, h2.1] at HP
 cases HP
 have HO := qh hok
 have hn64 : 64 = n := by have := (diskB_len64 hok).1; rw [h.1] at this; exact this.symm
 subst hn64
 have hn80 : n2 <= 80 := by have := (diskB_len64 hok).2.1; rw [h2.1] at this; exact this
 have HW := qh (diskB_len64 hok).2.2.2
 clear hok
 rcases Nat.eq_zero_or_pos m with hm0 | hmp
 . subst hm0
   go_enter func79, ntmps79
   go_wp2_with fail
   have b0 := (Box.new w 35 #[sC A 64 c, sC A2 n2 c2]).alloc (.cells #[nsl, nsl] 35)
   have r0 := Box.new (w.alloc (.cells #[sC A 64 c, sC A2 n2 c2] 35)) 35 #[nsl, nsl]
   have hnx0 := ((Nx.refl w).alloc (.cells #[sC A 64 c, sC A2 n2 c2] 35)).alloc (.cells #[nsl, nsl] 35)
   simp only [World.size_alloc] at r0
   generalize (w.alloc (.cells #[sC A 64 c, sC A2 n2 c2] 35)).alloc (.cells #[nsl, nsl] 35) = W at *
   refine (isRight_c A A2 64 c n2 c2 B ss ws _ (h.below hnx0 hB) (h2.below hnx0 hB) (ntr hB hnx0.size) oM oM).mono ?_
   rintro e w1 ⟨rfl, hnx1⟩
   rw [HO.out]
   have b1 := b0.nx hnx1
   have r1 := r0.nx hnx1
   have hx1 := hnx0.trans hnx1
   clear b0 r0 hnx0 hnx1
   have c0 := b1.c0
   have c1 := b1.c1
   have s0 := r1.c0
   have s1 := r1.c1
   have f0 := r1.frozen 0
   have f1 := r1.frozen 1
   go_wp2_with fail
   clear s0 s1 f0 f1
   have k0 := Box.new w1 4 #[.bool false]
   have hxk := hx1.alloc (.cells #[.bool false] 4)
   have hk : Bls (w1.alloc (.cells #[.bool false] 4)) (w1.alloc (.cells #[.bool false] 4)).heap.size (some ⟨w1.heap.size, 0, none⟩) 1 [false] := box_bls k0
   have hl1 : w1.heap.size <= (w1.alloc (.cells #[.bool false] 4)).heap.size := by simp
   have hnk := (Nx.refl w1).alloc (.cells #[.bool false] 4)
   generalize w1.alloc (.cells #[.bool false] 4) = w2 at *
   refine (settled_c A A2 (some ⟨w1.heap.size, 0, none⟩) c n2 c2 1 1 _ ss ws [false] _ ((h.below hxk hB).more (ntr hB hxk.size)) ((h2.below hxk hB).more (ntr hB hxk.size)) hk nle hn80 oM oM HW.out).mono ?_
   rintro e w3 ⟨A5, n5, c5, A6, n6, c6, rfl, hS3, hW4, hx3'⟩
   rw [show settleTo (kpOf [false]) ss ws n2 = settleTo (kpC bs) ss ws n2 from settle_congr (fun i => by rw [kpC_zero (by rw [h3.1])]; simp [kpOf, Nat.mod_one]) _ _ _] at hS3
   have hx3 := hnk.trans hx3'
   clear c0 c1
   have r3 := r1.nx hx3
   have s0 := r3.c0
   have s1 := r3.c1
   have f0 := r3.frozen 0
   have f1 := r3.frozen 1
   have l1 := r1.lt
   go_wp2
   obtain ⟨q0, q1, hSf, hWf, hxf⟩ := fin_box c5 c6 r3 hS3 hW4 oM oM (hx1.trans hx3) oM
   generalize (w3.setCell ⟨w.heap.size + 1, 0, none⟩ (sC A5 n5 c5)).setCell ⟨w.heap.size + 1, 1, none⟩ (sC A6 n6 c6) = Wf at *
   exact bodyPost_ret (v := .tuple #[.agg #[sC A5 n5 c5, sC A6 n6 c6], ii 0]) (by simp [results, results79, go_sem, q0, q1]) rfl ⟨A5, n5, c5, A6, n6, c6, rfl, hSf, hWf, hxf⟩
 . have hm1 : ((m : Int) == 0) = false := beq_eq_false_iff_ne.2 oM
   go_enter func79, ntmps79
   go_wp2_with fail
   have b0 := (Box.new w 35 #[sC A 64 c, sC A2 n2 c2]).alloc (.cells #[nsl, nsl] 35)
   have r0 := Box.new (w.alloc (.cells #[sC A 64 c, sC A2 n2 c2] 35)) 35 #[nsl, nsl]
   have hnx0 := ((Nx.refl w).alloc (.cells #[sC A 64 c, sC A2 n2 c2] 35)).alloc (.cells #[nsl, nsl] 35)
   simp only [World.size_alloc] at r0
   generalize (w.alloc (.cells #[sC A 64 c, sC A2 n2 c2] 35)).alloc (.cells #[nsl, nsl] 35) = W at *
   refine (isRight_c A A2 64 c n2 c2 B ss ws _ (h.below hnx0 hB) (h2.below hnx0 hB) (ntr hB hnx0.size) oM oM).mono ?_
   rintro e w1 ⟨rfl, hnx1⟩
   rw [HO.out]
   have b1 := b0.nx hnx1
   have r1 := r0.nx hnx1
   have hx1 := hnx0.trans hnx1
   clear b0 r0 hnx0 hnx1
   have c0 := b1.c0
   have c1 := b1.c1
   have s0 := r1.c0
   have s1 := r1.c1
   have f0 := r1.frozen 0
   have f1 := r1.frozen 1
   go_wp2_with fail
   clear s0 s1 f0 f1
   refine (settled_c A A2 A3 c n2 c2 m c3 B ss ws bs _ (h.below hx1 hB) (h2.below hx1 hB) (h3.below hx1 hB) (ntr hB hx1.size) hn80 hmp hm2 HW.out).mono ?_
   rintro e w3 ⟨A5, n5, c5, A6, n6, c6, rfl, hS3, hW4, hx3⟩
   rw [show settleTo (kpOf bs) ss ws n2 = settleTo (kpC bs) ss ws n2 from settle_congr (fun i => by rw [kpC_pos (by rw [h3.1]; exact hmp)]; rfl) _ _ _] at hS3
   clear c0 c1
   have r3 := r1.nx hx3
   have s0 := r3.c0
   have s1 := r3.c1
   have f0 := r3.frozen 0
   have f1 := r3.frozen 1
   have l1 := r1.lt
   go_wp2
   obtain ⟨q0, q1, hSf, hWf, hxf⟩ := fin_box c5 c6 r3 hS3 hW4 oM oM (hx1.trans hx3) oM
   generalize (w3.setCell ⟨w.heap.size + 1, 0, none⟩ (sC A5 n5 c5)).setCell ⟨w.heap.size + 1, 1, none⟩ (sC A6 n6 c6) = Wf at *
   exact bodyPost_ret (v := .tuple #[.agg #[sC A5 n5 c5, sC A6 n6 c6], ii 0]) (by simp [results, results79, go_sem, q0, q1]) rfl ⟨A5, n5, c5, A6, n6, c6, rfl, hSf, hWf, hxf⟩
theorem RetDiskCode.mk {w w' : World} {ss : List BA} {ws : List (Int × BA)} {R : (List BA × List (Int × BA)) × Int} {k : Int} {A A2 : Option Addr} {n c n2 c2 : Nat} (hR : R = ((ss, ws), k)) (hS : SlS w' w.heap.size A n ss) (hW : SlW w' w.heap.size A2 n2 ws) (hn : Nx w w') :
 RetDiskCode w R.1.1 R.1.2 R.2 (.returned (.tuple #[.agg #[sC A n c, sC A2 n2 c2], ii k])) w' := by subst hR; exact ⟨A, n, c, A2, n2, c2, rfl, hS, hW, hn⟩
section
variable {ss : List BA} {ws : List (Int × BA)} {g b p t : Int} {xs : List Int} {ms : List Mrk}
end
theorem newU_next {ss : List BA} {u : U6} {s b p t : Int} {xs : List Int} {ms : List Mrk} (hl : ss.length = 64) (hu : newU (rdU (readP ss [] 0)) (rdU (readP ss [] 1)) = some (u, s)) (hok : superB (u.1 + 1) b p t xs ms = true) :
 newU (rdU (readP (ss.set (1 - s).toNat (nxtS u b p t xs ms)) [] 0)) (rdU (readP (ss.set (1 - s).toNat (nxtS u b p t xs ms)) [] 1)) = some ((u.1 + 1, b, p, t, xs, ms), 1 - s) := by
 have hb : rdU (nxtS u b p t xs ms) = some (u.1 + 1, b, p, t, xs, ms) := rdU_back hok
 have hr : ∀ a o : Nat, o < 64 -> readP (ss.set o (nxtS u b p t xs ms)) [] a = if a = o then nxtS u b p t xs ms else readP ss [] a := fun a o ho => by
  rw [readP_nil, readP_nil, getD_setB _ _ _ _ (by rw [hl]; exact ho)]
 rcases newU_at hu with ⟨hs, he⟩ | ⟨hs, he⟩
 . subst hs
   rw [show ((1 : Int) - 0).toNat = 1 from rfl, hr 0 1 oM, hr 1 1 oM, if_neg dC, if_pos rfl, he, hb]
   show (if u.1 < u.1 + 1 then _ else _) = _
   rw [if_pos oM]; rfl
 . subst hs
   rw [show ((1 : Int) - 1).toNat = 0 from rfl, hr 0 0 oM, hr 1 0 oM, if_pos rfl, if_neg dC, he, hb]
   show (if u.1 + 1 < u.1 then _ else _) = _
   rw [if_neg oM]; rfl
section
variable {gs hs : List SgR} (hv : gs.map SgR.v = hs.map SgR.v)
include hv
theorem retL_v (b : Int) : retL b gs = retL b hs := by
 have : gs.map SgR.t = hs.map SgR.t := by
  have := congrArg (List.map (fun q : Sg4 => q.2.1)) hv
  rw [List.map_map, List.map_map] at this
  exact this
 unfold retL; rw [this]
theorem isRet_v (b n : Int) : isRet b gs n = isRet b hs n := by unfold isRet; rw [retL_v hv, v_len hv]
theorem ahd_v (b n : Int) : ahd b gs n = ahd b hs n := by unfold ahd; rw [retL_v hv]
theorem stp_v (b p t : Int) (im : List Int) : stp b p t gs im = stp b p t hs im := by
 unfold stp
 rw [ahd_v hv, (v_parts hv (ahd b hs p)).2.2.2, (v_parts hv (ahd b hs p - 1)).2.2.2]
theorem fwK_v (c : List Int) (a : Nat) : ∀ j, fwK c gs a j = fwK c hs a j
 | 0 => rfl
 | j + 1 => by show app pN _ _ = app pN _ _; rw [fwK_v c a j, (v_parts hv (a + j)).2.2.2]
theorem bkK_v (c : List Int) (a : Nat) : ∀ j, bkK c gs a j = bkK c hs a j
 | 0 => rfl
 | j + 1 => by show app pO _ _ = app pO _ _; rw [bkK_v c a j, (v_parts hv (a - 1 - j)).2.2.2]
theorem fitF_v (c : List Int) (a : Nat) : fitF c gs a = fitF c hs a := by
 unfold fitF
 rw [v_len hv]
 congr 1
 funext j
 unfold oldB
 rw [fwK_v hv, (v_parts hv (a + j)).2.2.2]
theorem fitB_v (c : List Int) (a : Nat) : fitB c gs a = fitB c hs a := by
 unfold fitB
 congr 1
 funext j
 unfold newB
 rw [bkK_v hv, (v_parts hv (a - 1 - j)).2.2.2]
theorem plcB_v (b p t : Int) (ms : List Mrk) : plcB b p t gs ms = plcB b p t hs ms := by
 unfold plcB mksR
 rw [isRet_v hv, isRet_v hv]
 congr 2
 congr 1
 funext k
 exact isRet_v hv b _
theorem vltB_v (g b p t : Int) (xs : List Int) (ms : List Mrk) (im : List Int) : vltB g b p t xs ms gs im = vltB g b p t xs ms hs im := by
 unfold vltB
 rw [v_len hv, chainB_v hv, plcB_v hv, stp_v hv, fitF_v hv, fitB_v hv]
theorem cntV_v (b p t : Int) (im : List Int) (n : Int) : cntV b p t gs im n = cntV b p t hs im n := by
 unfold cntV
 rw [stp_v hv, ahd_v hv, fwK_v hv, bkK_v hv]
theorem tipV_v (b : Int) : tipV b gs = tipV b hs := by unfold tipV; rw [v_len hv, atK_v hv]
end
theorem VlS.ok {V V' : Vl} (h : VlS V V') : V.ok = V'.ok := by
 unfold Vl.ok
 rw [h.g, h.b, h.p, h.t, h.xs, h.ms, h.im, vltB_v h.gs]
theorem settle_put (ss : List BA) (x : Int) (s : BA) : settleTo kpAll ss ([] ++ [(x, s)]) 1 = ss.set x.toNat s := rfl
theorem readP_put {ss : List BA} {x : Int} {s : BA} {a : Nat} (h : x ≠ (a : Int)) : readP ss ([] ++ [(x, s)]) a = readP ss [] a := by
 have e : (x == (a : Int)) = false := beq_eq_false_iff_ne.2 h
 unfold readP
 simp [findLast, e]
theorem freeTo_some {xs : List Int} (h : xs.length <= 20) : 0 < (freeTo xs 54).length := by
 have h1 := (free_ok h).1
 rcases Nat.eq_zero_or_pos (freeTo xs 54).length with h0 | h0
 . have : freeS xs = 0 := by unfold freeS; rw [List.length_eq_zero_iff.1 h0]; rfl
   omega
 . exact h0
section
variable {ss : List BA} {V : Vl} {p v t : Int} {n : Nat}
theorem LdY.room (h : LdY ss [] V) (h20 : V.gs.length ≠ 20) : V.gs.length < 20 /\ V.xs.length < 20 /\ 10 <= freeS V.xs /\ freeS V.xs <= 63 /\ freeS V.xs ∉ V.xs := by
 have h1 := h.ok.len
 have h2 := (tbB_yes (superB_yes h.ok.super).2.2.2.2.1).1
 have h3 := free_ok (xs := V.xs) h2
 exact ⟨oM, oM, h3⟩
theorem LdY.table (h : LdY ss [] V) (h20 : V.gs.length ≠ 20) : superB V.g V.b V.p V.t (V.xs ++ [freeS V.xs]) V.ms = true := by
 obtain ⟨s0, s1, s2, s3, s4, s5⟩ := superB_yes h.ok.super
 obtain ⟨_, f0, f1, f2, f3⟩ := h.room h20
 exact superB_mk (inB_mk s0.1 s0.2) (inB_mk s1.1 s1.2) (inB_mk s2.1 s2.2) (inB_mk s3.1 s3.2) (tb_snoc s4 oM ⟨f1, f2⟩ f3) s5
theorem LdY.put (h : LdY ss [] V) (hd : diskB ss [] = true) (h20 : V.gs.length ≠ 20) : diskB ss ([] ++ [(freeS V.xs, segT (newG V p n v t))]) = true := by
 obtain ⟨_, f0, f1, f2, f3⟩ := h.room h20
 have h1 := diskB_len64 hd
 have hs := segT_size V p v t n
 have hw : wOk (freeS V.xs, segT (newG V p n v t)) = true := by
  unfold wOk secB sOk
  simp only [Bool.and_eq_true, decide_eq_true_eq]
  exact ⟨⟨oM, oM⟩, hs⟩
 unfold diskB
 rw [h1.1, h1.2.2.1]
 simp [hw]
theorem LdY.newest (h : LdY ss [] V) (h20 : V.gs.length ≠ 20) (s : BA) : newU (rdU (readP ss ([] ++ [(freeS V.xs, s)]) 0)) (rdU (readP ss ([] ++ [(freeS V.xs, s)]) 1)) = some ((V.g, V.b, V.p, V.t, V.xs, V.ms), sltV ss []) := by
 obtain ⟨_, f0, f1, f2, f3⟩ := h.room h20
 rw [readP_put oM, readP_put oM]
 exact h.nu
end
theorem VltY.tipIn {g b p t : Int} {xs : List Int} {ms : List Mrk} {gs : List SgR} {im : List Int} (h : VltY g b p t xs ms gs im) : 0 <= tipV b gs /\ tipV b gs <= 999999 := by
 have hl := chainB_lead h.chain
 have h1 := (superB_yes h.super).2.1
 unfold tipV
 rcases Nat.eq_zero_or_pos gs.length with h0 | h0
 . rw [h0]; exact h1
 . obtain ⟨k, hk⟩ : ∃ k, gs.length = k + 1 := ⟨gs.length - 1, oM⟩
   rw [hk]
   exact (segB_yes (hl.seg k oM)).2.1
theorem lastM_v {gs hs : List SgR} (hv : gs.map SgR.v = hs.map SgR.v) (t : Int) : lastM gs t = lastM hs t := by
 have hm : ∀ k, (gs.getD k sgZ).m = (hs.getD k sgZ).m := fun k => congrArg (fun q : Sg4 => q.2.2.1) (v_at hv k)
 unfold lastM
 rw [v_len hv, hm]
theorem VlS.tip {V V' : Vl} (h : VlS V V') : V'.tip = V.tip := by unfold Vl.tip; rw [h.b, tipV_v h.gs]
theorem VlS.top {V V' : Vl} (h : VlS V V') : V'.top = V.top := by unfold Vl.top; rw [h.tip, h.b, h.p, h.t, h.im, cntV_v h.gs]
theorem VlS.newG {V V' : Vl} (h : VlS V V') (p : Int) (n : Nat) (v t : Int) : newG V' p n v t = newG V p n v t := by unfold Go.Proofs.YtieoiailjjnnoaaGreatDoor.newG; rw [h.top, lastM_v h.gs]
theorem VlS.y {V V' : Vl} (h : VlS V V') (hy : VltY V.g V.b V.p V.t V.xs V.ms V.gs V.im) : VltY V'.g V'.b V'.p V'.t V'.xs V'.ms V'.gs V'.im := Vl.y (h.ok ▸ hy.b)
end
end Go.Proofs.YtieoiailjjnnoaaGreatDoor
