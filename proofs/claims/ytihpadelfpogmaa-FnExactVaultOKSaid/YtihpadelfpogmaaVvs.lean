/-
  The program's view of a vault: where the next step ends.
  Conditions: what is read can be read, and holds at most 1048576 elements of a kind.
-/
import Derived.Test.YtihpadelfpogmaaVvr
namespace Go.Proofs.Ytihpadelfpogmaa
set_option linter.unusedVariables false
set_option maxRecDepth 100000
open Go.RowKit

theorem cell_row_far (w : World) (g : Nat) (ds : Array Value) {p : Addr} (h : p.block ≠ g) : (w.setRow g ds).cell? p = w.cell? p := by
  unfold World.cell?
  rw [heap_setRow_ne w g ds h]
set_option maxHeartbeats 4000000 in
theorem stepDone_c (V : Vl) (B : Nat) (w : World) (h : Sgs w B V.A3 V.gs) (hB : B ≤ w.heap.size) (hl : Lead V.b V.gs) (h8 : V.im.length = 8) (hp : isRet V.b V.gs V.p = true) (hd : (V.p < V.t → ahd V.b V.gs V.p < V.gs.length) ∧ (V.t < V.p → 0 < ahd V.b V.gs V.p)) :
    Calls Try.prog 136 #[V.w] w fun e w' => e = .returned (.tuple #[vA (stp V.b V.p V.t V.gs V.im).1, .int .i64 ((stp V.b V.p V.t V.gs V.im).2 : Int)]) ∧ Nx w w' := by
  have hSA := segsAhead_c V V.p
  obtain ⟨g, b, p, t, A, c, xs, A2, c2, ms, A3, c3, gs, A4, c4, im⟩ := V
  simp only [Vl.w, Vl.wcells] at *
  obtain ⟨a, Ha⟩ : ∃ a, Hid (ahd b gs p = a) := ⟨_, rfl⟩
  have ha := ahd_at hp
  have HSA := Lib.hid (fun (w' : World) (hx : Nx w w') => hSA B w' (h.below hx hB) (Nat.le_trans hB hx.size) hl.short hp)
  have Hstp : Hid (stp b p t gs im = if p < t then (app pN im (gs.getD a sgZ).cs, a + 1) else if t < p then (app pO im (gs.getD (a - 1) sgZ).cs, a - 1) else (im, a)) := Lib.hid (by rw [← Ha.out]; rfl)
  have hsh := hl.short
  rw [Ha.out] at ha hd HSA
  obtain ⟨n, Hn⟩ : ∃ n, Hid (gs.length = n) := ⟨_, rfl⟩
  have h3' : ∀ k, k < n → _ := fun k hk w' B' hw hB' => ((h.below (w' := w') (B' := B') hw hB').row.at4 (k := k) (by rw [Hn.out]; exact hk))
  have h3c : ∀ k, k < n → _ := fun k hk => h.chs k (by rw [Hn.out]; exact hk)
  have HOKs := Lib.hid (fun k (hk : k < n) => hl.ok k (by rw [Hn.out]; exact hk))
  have ha1 := ha.1
  have H8 := Lib.hid h8
  rw [Hn.out] at hd ha1 hsh HSA ⊢
  have b0 : Box ((w.alloc (.cells #[.int .i64 g, .int .i64 b, .int .i64 p, .int .i64 t, .slice A xs.length c, .slice A2 ms.length c2, .slice A3 n c3, inAt im 0, inAt im 1, inAt im 2, inAt im 3, inAt im 4, inAt im 5, inAt im 6, inAt im 7] 101)).alloc (.cells #[.int .i64 0, .int .i64 0, .int .i64 0, .int .i64 0, .int .i64 0, .int .i64 0, .int .i64 0, .int .i64 0] 99)) w.heap.size 101 #[.int .i64 g, .int .i64 b, .int .i64 p, .int .i64 t, .slice A xs.length c, .slice A2 ms.length c2, .slice A3 n c3, inAt im 0, inAt im 1, inAt im 2, inAt im 3, inAt im 4, inAt im 5, inAt im 6, inAt im 7] := (Box.new w _ _).alloc _
  have r0 : Box ((w.alloc (.cells #[.int .i64 g, .int .i64 b, .int .i64 p, .int .i64 t, .slice A xs.length c, .slice A2 ms.length c2, .slice A3 n c3, inAt im 0, inAt im 1, inAt im 2, inAt im 3, inAt im 4, inAt im 5, inAt im 6, inAt im 7] 101)).alloc (.cells #[.int .i64 0, .int .i64 0, .int .i64 0, .int .i64 0, .int .i64 0, .int .i64 0, .int .i64 0, .int .i64 0] 99)) (w.heap.size + 1) 99 #[.int .i64 0, .int .i64 0, .int .i64 0, .int .i64 0, .int .i64 0, .int .i64 0, .int .i64 0, .int .i64 0] := by have := Box.new (w.alloc (.cells #[.int .i64 g, .int .i64 b, .int .i64 p, .int .i64 t, .slice A xs.length c, .slice A2 ms.length c2, .slice A3 n c3, inAt im 0, inAt im 1, inAt im 2, inAt im 3, inAt im 4, inAt im 5, inAt im 6, inAt im 7] 101)) 99 #[.int .i64 0, .int .i64 0, .int .i64 0, .int .i64 0, .int .i64 0, .int .i64 0, .int .i64 0, .int .i64 0]; rwa [World.size_alloc] at this
  have hx0 := ((Nx.refl w).alloc (.cells #[.int .i64 g, .int .i64 b, .int .i64 p, .int .i64 t, .slice A xs.length c, .slice A2 ms.length c2, .slice A3 n c3, inAt im 0, inAt im 1, inAt im 2, inAt im 3, inAt im 4, inAt im 5, inAt im 6, inAt im 7] 101)).alloc (.cells #[.int .i64 0, .int .i64 0, .int .i64 0, .int .i64 0, .int .i64 0, .int .i64 0, .int .i64 0, .int .i64 0] 99)
  clear hl hp ha h h8 hSA
  go_enter Try.func136, Try.ntmps136
  go_wp2_with fail
  generalize ((w.alloc (.cells #[.int .i64 g, .int .i64 b, .int .i64 p, .int .i64 t, .slice A xs.length c, .slice A2 ms.length c2, .slice A3 n c3, inAt im 0, inAt im 1, inAt im 2, inAt im 3, inAt im 4, inAt im 5, inAt im 6, inAt im 7] 101)).alloc (.cells #[.int .i64 0, .int .i64 0, .int .i64 0, .int .i64 0, .int .i64 0, .int .i64 0, .int .i64 0, .int .i64 0] 99)) = W at *
  obtain ⟨gR, HgR⟩ : ∃ g, Hid (w.heap.size + 1 = g) := ⟨_, rfl⟩
  have hgR : w.heap.size ≤ gR := by have := HgR.out; omega
  have hneR : w.heap.size ≠ gR := by have := HgR.out; omega
  rw [HgR.out]
  rw [HgR.out] at r0
  refine (HSA.out _ hx0).mono ?_
  rintro e w1 ⟨rfl, hk⟩
  have b1 := b0.nx hk
  have r1 := r0.nx hk
  replace hx0 := hx0.trans hk
  clear b0 r0 hk
  obtain ⟨y0, y1, y2, y3, y4, y5, y6, y7, y8, y9, y10, y11, y12, y13, y14⟩ := b1.e15
  go_wp2_with fail
  clear y0 y1 y2 y3 y4 y5 y6 y7 y8 y9 y10 y11 y12 y13 y14
  refine (goesForward_c g b p t A A2 c c2 _ _ _).mono ?_
  rintro e wq ⟨rfl, hk⟩
  have bq := b1.nx hk
  have rq := r1.nx hk
  replace hx0 := hx0.trans hk
  clear b1 r1 hk
  by_cases hlt : p < t
  · have HSB := Lib.hid (show stp b p t gs im = (app pN im (gs.getD a sgZ).cs, a + 1) by rw [Hstp.out, if_pos hlt])
    have han := hd.1 hlt
    rw [decide_eq_true hlt]
    clear hd hlt
    obtain ⟨k, Hk⟩ : ∃ k, Hid (a = k) := ⟨_, rfl⟩
    have hkn : k < n := by have := Hk.out; omega
    have HOK := Lib.hid (HOKs.out k hkn)
    have hch := h3c k hkn
    obtain ⟨bb, off, rfl, hbb, p0, p1, p2, p3⟩ := h3' k hkn _ _ hx0 hB
    obtain ⟨⟨f, t9, m, Ac, cc, cs⟩, Hs⟩ : ∃ s, Hid (gs.getD k sgZ = s) := ⟨_, rfl⟩
    rw [Hs.out] at p0 p1 p2 p3 hch HOK
    simp only at p0 p1 p2 p3 hch HOK
    obtain ⟨ys, Hys⟩ : ∃ ys, Hid (app pN im cs = ys) := ⟨_, rfl⟩
    have hbd : Box wq.drew w.heap.size 101 #[.int .i64 g, .int .i64 b, .int .i64 p, .int .i64 t, .slice A xs.length c, .slice A2 ms.length c2, .slice (some ⟨bb, off, none⟩) n c3, inAt im 0, inAt im 1, inAt im 2, inAt im 3, inAt im 4, inAt im 5, inAt im 6, inAt im 7] := bq
    have rd := rq.nx (Nx.refl _).drew
    have hx2 := hx0.drew
    have hbw : bb < wq.drew.heap.size := Nat.lt_of_lt_of_le hbb (Nat.le_trans hB hx2.size)
    have hneb : bb ≠ gR := by have := HgR.out; omega
    have hak : (a : Int) = (k : Int) := by have := Hk.out; omega
    rw [hak]
    have hkc : (k : Int) < (n : Int) := by omega
    have hk0 : (0 : Int) ≤ (k : Int) := by omega
    have hw1 : IntKind.i64.wrap ((k : Int) + 1) = (k : Int) + 1 := IntWalk.i64_in _ (by omega)
    clear hak
    go_wp2_with fail
    refine wp_region_plan (.t 0 (.t 1 (.t 2 (.t 3 (.t 4 (.t 5 (.t 6 (.t 8 (.t 9 (.c 7 (.c 10 (.t 11 .e)))))))))))) (fun w' => (w'.cell? ⟨w.heap.size, 0, none⟩ = some (.int .i64 g) ∧ w'.cell? ⟨w.heap.size, 1, none⟩ = some (.int .i64 b) ∧ w'.cell? ⟨w.heap.size, 2, none⟩ = some (.int .i64 p) ∧ w'.cell? ⟨w.heap.size, 3, none⟩ = some (.int .i64 t) ∧ w'.cell? ⟨w.heap.size, 4, none⟩ = some (.slice A xs.length c) ∧ w'.cell? ⟨w.heap.size, 5, none⟩ = some (.slice A2 ms.length c2) ∧ w'.cell? ⟨w.heap.size, 6, none⟩ = some (.slice (some ⟨bb, off, none⟩) n c3) ∧ w'.cell? ⟨w.heap.size, 7, none⟩ = some (inAt im 0) ∧ w'.cell? ⟨w.heap.size, 8, none⟩ = some (inAt im 1) ∧ w'.cell? ⟨w.heap.size, 9, none⟩ = some (inAt im 2) ∧ w'.cell? ⟨w.heap.size, 10, none⟩ = some (inAt im 3) ∧ w'.cell? ⟨w.heap.size, 11, none⟩ = some (inAt im 4) ∧ w'.cell? ⟨w.heap.size, 12, none⟩ = some (inAt im 5) ∧ w'.cell? ⟨w.heap.size, 13, none⟩ = some (inAt im 6) ∧ w'.cell? ⟨w.heap.size, 14, none⟩ = some (inAt im 7)) ∧ w'.cell? ⟨bb, off + k * 4, none⟩ = some (.int .i64 f) ∧ w'.cell? ⟨bb, off + k * 4 + 1, none⟩ = some (.int .i64 t9) ∧ w'.cell? ⟨bb, off + k * 4 + 2, none⟩ = some (.int .i64 m) ∧ w'.cell? ⟨bb, off + k * 4 + 3, none⟩ = some (.slice Ac cs.length cc)) (by kernel_rfl) (by kernel_rfl) rfl (by kernel_rfl) (fun _ _ d _ _ h => by cases d <;> exact h) (by exact ⟨hbd.e15, p0, p1, p2, p3⟩) ?_
    simp only [psOf, List.getD_cons_zero, List.getD_cons_succ]
    repeat (first | (refine HP.take (v := ?_) (by rfl) ?_ ?_; rotate_left; (· (intro w hSw; (try dsimp only at hSw); go_simp; try with_reducible rfl)); (try simp only [Act.put, List.setIfInBounds_toArray, List.set_cons_zero, List.set_cons_succ])) | (refine HP.skip (by rfl) ?_; (try simp only [Act.put, List.setIfInBounds_toArray, List.set_cons_zero, List.set_cons_succ])))
    refine HP.call ?_
    refine CallStep.mk (by rfl) (fun K hK => ?_)
    go_simp
    have hcl := valuesForward_c f t9 m Ac cc B cs im _ (hch.below hx2 hB) (Nat.le_trans hB hx2.size) HOK.out H8.out; rw [Hys.out] at hcl; unfold vA at hcl; refine hcl.mono ?_; rintro e w2 ⟨rfl, hx3⟩; clear hcl; have hb2 := hbd.nx hx3; have r2 := rd.nx hx3; replace p0 := (hx3.cell (p := ⟨bb, off + k * 4, none⟩) hbw).trans p0; replace p1 := (hx3.cell (p := ⟨bb, off + k * 4 + 1, none⟩) hbw).trans p1; replace p2 := (hx3.cell (p := ⟨bb, off + k * 4 + 2, none⟩) hbw).trans p2; replace p3 := (hx3.cell (p := ⟨bb, off + k * 4 + 3, none⟩) hbw).trans p3; have hX3 := hx2.trans hx3
    go_wp2_with fail
    refine hK.out _ _ (by exact ⟨hb2.e15, p0, p1, p2, p3⟩) ?_
    clear hK K
    try simp only [Act.put, List.setIfInBounds_toArray, List.set_cons_zero, List.set_cons_succ]
    refine HP.call ?_
    refine CallStep.mk (by rfl) (fun K hK => ?_)
    refine wp_store_row _ _ _ rfl gR #[inAt ys 0, inAt ys 1, inAt ys 2, inAt ys 3, inAt ys 4, inAt ys 5, inAt ys 6, inAt ys 7] rfl rfl 99 #[.int .i64 0, .int .i64 0, .int .i64 0, .int .i64 0, .int .i64 0, .int .i64 0, .int .i64 0, .int .i64 0] r2 (by kernel_rfl) rfl (by simp [Value.oneCell', inAt]) ?_
    refine hK.out _ _ (by exact ⟨(hb2.rowfar hneR #[inAt ys 0, inAt ys 1, inAt ys 2, inAt ys 3, inAt ys 4, inAt ys 5, inAt ys 6, inAt ys 7]).e15, ((cell_row_far w2 gR #[inAt ys 0, inAt ys 1, inAt ys 2, inAt ys 3, inAt ys 4, inAt ys 5, inAt ys 6, inAt ys 7] (p := ⟨bb, off + k * 4, none⟩) (by simp; omega)).trans p0), ((cell_row_far w2 gR #[inAt ys 0, inAt ys 1, inAt ys 2, inAt ys 3, inAt ys 4, inAt ys 5, inAt ys 6, inAt ys 7] (p := ⟨bb, off + k * 4 + 1, none⟩) (by simp; omega)).trans p1), ((cell_row_far w2 gR #[inAt ys 0, inAt ys 1, inAt ys 2, inAt ys 3, inAt ys 4, inAt ys 5, inAt ys 6, inAt ys 7] (p := ⟨bb, off + k * 4 + 2, none⟩) (by simp; omega)).trans p2), ((cell_row_far w2 gR #[inAt ys 0, inAt ys 1, inAt ys 2, inAt ys 3, inAt ys 4, inAt ys 5, inAt ys 6, inAt ys 7] (p := ⟨bb, off + k * 4 + 3, none⟩) (by simp; omega)).trans p3)⟩) ?_
    clear hK K
    try simp only [Act.put]
    repeat (first | (refine HP.take (v := ?_) (by rfl) ?_ ?_; rotate_left; (· (intro w hSw; (try dsimp only at hSw); go_simp; try with_reducible rfl)); (try simp only [Act.put, List.setIfInBounds_toArray, List.set_cons_zero, List.set_cons_succ])) | (refine HP.skip (by rfl) ?_; (try simp only [Act.put, List.setIfInBounds_toArray, List.set_cons_zero, List.set_cons_succ])))
    refine HP.done ?_
    have q := r2.row #[inAt ys 0, inAt ys 1, inAt ys 2, inAt ys 3, inAt ys 4, inAt ys 5, inAt ys 6, inAt ys 7]
    have hnf := hX3.setRow hgR #[inAt ys 0, inAt ys 1, inAt ys 2, inAt ys 3, inAt ys 4, inAt ys 5, inAt ys 6, inAt ys 7]
    generalize w2.setRow gR #[inAt ys 0, inAt ys 1, inAt ys 2, inAt ys 3, inAt ys 4, inAt ys 5, inAt ys 6, inAt ys 7] = Wf at *
    obtain ⟨g0, g1, g2, g3, g4, g5, g6, g7⟩ := q.e8
    go_wp2
    exact bodyPost_ret (v := .tuple #[.agg #[inAt ys 0, inAt ys 1, inAt ys 2, inAt ys 3, inAt ys 4, inAt ys 5, inAt ys 6, inAt ys 7], .int .i64 ((k : Int) + 1)]) (by simp [results, Try.results136, go_sem, g0, g1, g2, g3, g4, g5, g6, g7]) rfl ⟨by rw [HSB.out, Hk.out, Hs.out]; show _ = Ending.returned (.tuple #[vA (app _ im cs), _]); rw [Hys.out]; rfl, hnf⟩
  rw [decide_eq_false hlt]
  have Hlt := Lib.hid hlt
  clear hlt
  obtain ⟨y0, y1, y2, y3, y4, y5, y6, y7, y8, y9, y10, y11, y12, y13, y14⟩ := bq.e15
  go_wp2_with fail
  clear y0 y1 y2 y3 y4 y5 y6 y7 y8 y9 y10 y11 y12 y13 y14
  refine (goesBack_c g b p t A A2 c c2 _ _ _).mono ?_
  rintro e wz ⟨rfl, hk⟩
  replace bq := bq.nx hk
  replace rq := rq.nx hk
  replace hx0 := hx0.trans hk
  clear hk
  by_cases hgt : t < p
  · have HSB := Lib.hid (show stp b p t gs im = (app pO im (gs.getD (a - 1) sgZ).cs, a - 1) by rw [Hstp.out, if_neg (by have := Hlt.out; omega), if_pos hgt])
    have han := hd.2 hgt
    rw [decide_eq_true hgt]
    clear hd hgt
    obtain ⟨k, Hk⟩ : ∃ k, Hid (a - 1 = k) := ⟨_, rfl⟩
    have hkn : k < n := by have := Hk.out; omega
    have HOK := Lib.hid (HOKs.out k hkn)
    have hch := h3c k hkn
    obtain ⟨bb, off, rfl, hbb, p0, p1, p2, p3⟩ := h3' k hkn _ _ hx0 hB
    obtain ⟨⟨f, t9, m, Ac, cc, cs⟩, Hs⟩ : ∃ s, Hid (gs.getD k sgZ = s) := ⟨_, rfl⟩
    rw [Hs.out] at p0 p1 p2 p3 hch HOK
    simp only at p0 p1 p2 p3 hch HOK
    obtain ⟨ys, Hys⟩ : ∃ ys, Hid (app pO im cs = ys) := ⟨_, rfl⟩
    have hbd : Box wz.drew w.heap.size 101 #[.int .i64 g, .int .i64 b, .int .i64 p, .int .i64 t, .slice A xs.length c, .slice A2 ms.length c2, .slice (some ⟨bb, off, none⟩) n c3, inAt im 0, inAt im 1, inAt im 2, inAt im 3, inAt im 4, inAt im 5, inAt im 6, inAt im 7] := bq
    have rd := rq.nx (Nx.refl _).drew
    have hx2 := hx0.drew
    have hbw : bb < wz.drew.heap.size := Nat.lt_of_lt_of_le hbb (Nat.le_trans hB hx2.size)
    have hneb : bb ≠ gR := by have := HgR.out; omega
    have hak : (a : Int) = (k : Int) + 1 := by have := Hk.out; omega
    rw [hak]
    have hkc : (k : Int) < (n : Int) := by omega
    have hk0 : (0 : Int) ≤ (k : Int) := by omega
    have hwk : IntKind.i64.wrap (k : Int) = (k : Int) := IntWalk.i64_in _ (by omega)
    clear hak
    go_wp2_with fail
    refine wp_region_plan (.t 0 (.t 1 (.t 2 (.t 3 (.t 4 (.t 5 (.t 6 (.t 7 (.t 9 (.t 10 (.c 8 (.c 11 (.t 12 .e))))))))))))) (fun w' => (w'.cell? ⟨w.heap.size, 0, none⟩ = some (.int .i64 g) ∧ w'.cell? ⟨w.heap.size, 1, none⟩ = some (.int .i64 b) ∧ w'.cell? ⟨w.heap.size, 2, none⟩ = some (.int .i64 p) ∧ w'.cell? ⟨w.heap.size, 3, none⟩ = some (.int .i64 t) ∧ w'.cell? ⟨w.heap.size, 4, none⟩ = some (.slice A xs.length c) ∧ w'.cell? ⟨w.heap.size, 5, none⟩ = some (.slice A2 ms.length c2) ∧ w'.cell? ⟨w.heap.size, 6, none⟩ = some (.slice (some ⟨bb, off, none⟩) n c3) ∧ w'.cell? ⟨w.heap.size, 7, none⟩ = some (inAt im 0) ∧ w'.cell? ⟨w.heap.size, 8, none⟩ = some (inAt im 1) ∧ w'.cell? ⟨w.heap.size, 9, none⟩ = some (inAt im 2) ∧ w'.cell? ⟨w.heap.size, 10, none⟩ = some (inAt im 3) ∧ w'.cell? ⟨w.heap.size, 11, none⟩ = some (inAt im 4) ∧ w'.cell? ⟨w.heap.size, 12, none⟩ = some (inAt im 5) ∧ w'.cell? ⟨w.heap.size, 13, none⟩ = some (inAt im 6) ∧ w'.cell? ⟨w.heap.size, 14, none⟩ = some (inAt im 7)) ∧ w'.cell? ⟨bb, off + k * 4, none⟩ = some (.int .i64 f) ∧ w'.cell? ⟨bb, off + k * 4 + 1, none⟩ = some (.int .i64 t9) ∧ w'.cell? ⟨bb, off + k * 4 + 2, none⟩ = some (.int .i64 m) ∧ w'.cell? ⟨bb, off + k * 4 + 3, none⟩ = some (.slice Ac cs.length cc)) (by kernel_rfl) (by kernel_rfl) rfl (by kernel_rfl) (fun _ _ d _ _ h => by cases d <;> exact h) (by exact ⟨hbd.e15, p0, p1, p2, p3⟩) ?_
    simp only [psOf, List.getD_cons_zero, List.getD_cons_succ]
    repeat (first | (refine HP.take (v := ?_) (by rfl) ?_ ?_; rotate_left; (· (intro w hSw; (try dsimp only at hSw); go_simp; try with_reducible rfl)); (try simp only [Act.put, List.setIfInBounds_toArray, List.set_cons_zero, List.set_cons_succ])) | (refine HP.skip (by rfl) ?_; (try simp only [Act.put, List.setIfInBounds_toArray, List.set_cons_zero, List.set_cons_succ])))
    refine HP.call ?_
    refine CallStep.mk (by rfl) (fun K hK => ?_)
    go_simp
    have hcl := valuesBackward_c f t9 m Ac cc B cs im _ (hch.below hx2 hB) (Nat.le_trans hB hx2.size) HOK.out H8.out; rw [Hys.out] at hcl; unfold vA at hcl; refine hcl.mono ?_; rintro e w2 ⟨rfl, hx3⟩; clear hcl; have hb2 := hbd.nx hx3; have r2 := rd.nx hx3; replace p0 := (hx3.cell (p := ⟨bb, off + k * 4, none⟩) hbw).trans p0; replace p1 := (hx3.cell (p := ⟨bb, off + k * 4 + 1, none⟩) hbw).trans p1; replace p2 := (hx3.cell (p := ⟨bb, off + k * 4 + 2, none⟩) hbw).trans p2; replace p3 := (hx3.cell (p := ⟨bb, off + k * 4 + 3, none⟩) hbw).trans p3; have hX3 := hx2.trans hx3
    go_wp2_with fail
    refine hK.out _ _ (by exact ⟨hb2.e15, p0, p1, p2, p3⟩) ?_
    clear hK K
    try simp only [Act.put, List.setIfInBounds_toArray, List.set_cons_zero, List.set_cons_succ]
    refine HP.call ?_
    refine CallStep.mk (by rfl) (fun K hK => ?_)
    refine wp_store_row _ _ _ rfl gR #[inAt ys 0, inAt ys 1, inAt ys 2, inAt ys 3, inAt ys 4, inAt ys 5, inAt ys 6, inAt ys 7] rfl rfl 99 #[.int .i64 0, .int .i64 0, .int .i64 0, .int .i64 0, .int .i64 0, .int .i64 0, .int .i64 0, .int .i64 0] r2 (by kernel_rfl) rfl (by simp [Value.oneCell', inAt]) ?_
    refine hK.out _ _ (by exact ⟨(hb2.rowfar hneR #[inAt ys 0, inAt ys 1, inAt ys 2, inAt ys 3, inAt ys 4, inAt ys 5, inAt ys 6, inAt ys 7]).e15, ((cell_row_far w2 gR #[inAt ys 0, inAt ys 1, inAt ys 2, inAt ys 3, inAt ys 4, inAt ys 5, inAt ys 6, inAt ys 7] (p := ⟨bb, off + k * 4, none⟩) (by simp; omega)).trans p0), ((cell_row_far w2 gR #[inAt ys 0, inAt ys 1, inAt ys 2, inAt ys 3, inAt ys 4, inAt ys 5, inAt ys 6, inAt ys 7] (p := ⟨bb, off + k * 4 + 1, none⟩) (by simp; omega)).trans p1), ((cell_row_far w2 gR #[inAt ys 0, inAt ys 1, inAt ys 2, inAt ys 3, inAt ys 4, inAt ys 5, inAt ys 6, inAt ys 7] (p := ⟨bb, off + k * 4 + 2, none⟩) (by simp; omega)).trans p2), ((cell_row_far w2 gR #[inAt ys 0, inAt ys 1, inAt ys 2, inAt ys 3, inAt ys 4, inAt ys 5, inAt ys 6, inAt ys 7] (p := ⟨bb, off + k * 4 + 3, none⟩) (by simp; omega)).trans p3)⟩) ?_
    clear hK K
    try simp only [Act.put]
    repeat (first | (refine HP.take (v := ?_) (by rfl) ?_ ?_; rotate_left; (· (intro w hSw; (try dsimp only at hSw); go_simp; try with_reducible rfl)); (try simp only [Act.put, List.setIfInBounds_toArray, List.set_cons_zero, List.set_cons_succ])) | (refine HP.skip (by rfl) ?_; (try simp only [Act.put, List.setIfInBounds_toArray, List.set_cons_zero, List.set_cons_succ])))
    refine HP.done ?_
    have q := r2.row #[inAt ys 0, inAt ys 1, inAt ys 2, inAt ys 3, inAt ys 4, inAt ys 5, inAt ys 6, inAt ys 7]
    have hnf := hX3.setRow hgR #[inAt ys 0, inAt ys 1, inAt ys 2, inAt ys 3, inAt ys 4, inAt ys 5, inAt ys 6, inAt ys 7]
    generalize w2.setRow gR #[inAt ys 0, inAt ys 1, inAt ys 2, inAt ys 3, inAt ys 4, inAt ys 5, inAt ys 6, inAt ys 7] = Wf at *
    obtain ⟨g0, g1, g2, g3, g4, g5, g6, g7⟩ := q.e8
    go_wp2
    exact bodyPost_ret (v := .tuple #[.agg #[inAt ys 0, inAt ys 1, inAt ys 2, inAt ys 3, inAt ys 4, inAt ys 5, inAt ys 6, inAt ys 7], .int .i64 (k : Int)]) (by simp [results, Try.results136, go_sem, g0, g1, g2, g3, g4, g5, g6, g7]) rfl ⟨by rw [HSB.out, Hk.out, Hs.out]; show _ = Ending.returned (.tuple #[vA (app _ im cs), _]); rw [Hys.out]; rfl, hnf⟩
  rw [decide_eq_false hgt]
  have HSB := Lib.hid (show stp b p t gs im = (im, a) by rw [Hstp.out, if_neg (by have := Hlt.out; omega), if_neg hgt])
  clear hd hgt
  obtain ⟨y0, y1, y2, y3, y4, y5, y6, y7, y8, y9, y10, y11, y12, y13, y14⟩ := bq.e15
  go_wp2_with (refine wpList_store_row rfl _ _ _ rfl gR #[inAt im 0, inAt im 1, inAt im 2, inAt im 3, inAt im 4, inAt im 5, inAt im 6, inAt im 7] rfl rfl 99 #[.int .i64 0, .int .i64 0, .int .i64 0, .int .i64 0, .int .i64 0, .int .i64 0, .int .i64 0, .int .i64 0] rq (by kernel_rfl) rfl (by simp [Value.oneCell', inAt]) ?_)
  have q := rq.row #[inAt im 0, inAt im 1, inAt im 2, inAt im 3, inAt im 4, inAt im 5, inAt im 6, inAt im 7]
  have hnf := hx0.setRow hgR #[inAt im 0, inAt im 1, inAt im 2, inAt im 3, inAt im 4, inAt im 5, inAt im 6, inAt im 7]
  generalize wz.setRow gR #[inAt im 0, inAt im 1, inAt im 2, inAt im 3, inAt im 4, inAt im 5, inAt im 6, inAt im 7] = Wf at *
  obtain ⟨g0, g1, g2, g3, g4, g5, g6, g7⟩ := q.e8
  exact bodyPost_ret (v := .tuple #[.agg #[inAt im 0, inAt im 1, inAt im 2, inAt im 3, inAt im 4, inAt im 5, inAt im 6, inAt im 7], .int .i64 a]) (by simp [results, Try.results136, go_sem, g0, g1, g2, g3, g4, g5, g6, g7]) rfl ⟨by rw [HSB.out]; rfl, hnf⟩
end Go.Proofs.Ytihpadelfpogmaa
