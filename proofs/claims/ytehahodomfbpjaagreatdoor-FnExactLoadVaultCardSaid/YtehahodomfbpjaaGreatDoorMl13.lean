/-
  Texts of the proof, put together in their order: Vsa, Vsk.
  Conditions: those of each.
-/
import Derived.Test.YtehahodomfbpjaaGreatDoorMl12
/- Contracts of the model: the content that is known, and its position. Conditions: what is read can be read, and holds at most 1048576 elements of a kind. -/
namespace Go.Proofs.YtehahodomfbpjaaGreatDoor
set_option linter.unusedVariables false
set_option maxRecDepth 100000
open Go.RowKit

/-- What a function leaves that answers a content which is there, and a number. -/
def RetAn (w : World) (ys : List Int) (n : Int) (e : Ending) (w' : World) : Prop := ∃ (A : Option Addr) (c : Nat), e = .returned (.tuple #[.slice A 8 c, .int .i64 n]) ∧ Ins w' w'.heap.size A ys ∧ Nx w w'
set_option maxHeartbeats 4000000 in
theorem l05Anchor_c (V : Vl) (B : Nat) (w : World) (h : Vlt w B V) (hB : B ≤ w.heap.size) (hn : VlN V 1048576) (hl : Lead V.b V.gs) (hc : V.im.length = 8) (hp : isRet V.b V.gs V.p = true) (hd : (V.p < V.t → ahd V.b V.gs V.p < V.gs.length) ∧ (V.t < V.p → 0 < ahd V.b V.gs V.p)) :
    Calls Tryz.prog 210 #[V.v] w (RetAn w (stp V.b V.p V.t V.gs V.im).1 (atK V.b V.gs (stp V.b V.p V.t V.gs V.im).2)) := by
  have HST := Lib.hid (l05Step_c V B)
  obtain ⟨g, b, p, t, A, c, xs, A2, c2, ms, A3, c3, gs, A4, c4, im⟩ := V
  obtain ⟨h, h2, h3, h4⟩ := h
  obtain ⟨hn, hn2, hn3, hn4, hn5⟩ := hn
  simp only [Vl.v, Vl.cells] at *
  obtain ⟨a, Ha⟩ : ∃ a, Hid (ahd b gs p = a) := ⟨_, rfl⟩
  have ha := ahd_at hp
  have HD := Lib.hid hd
  have HPx := Lib.hid hp
  have HLd := Lib.hid hl
  have HNN : Hid (VlN ⟨g, b, p, t, A, c, xs, A2, c2, ms, A3, c3, gs, A4, c4, im⟩ 1048576) := Lib.hid ⟨hn, hn2, hn3, hn4, hn5⟩
  have HVT := Lib.hid (fun (w' : World) (hx : Nx w w') => (⟨h.below hx hB, h2.below hx hB, h3.below hx hB, h4.below hx hB⟩ : Vlt w' B ⟨g, b, p, t, A, c, xs, A2, c2, ms, A3, c3, gs, A4, c4, im⟩))
  have Hstp : Hid (stp b p t gs im = if p < t then (app pN im (gs.getD a sgZ).cs, a + 1) else if t < p then (app pO im (gs.getD (a - 1) sgZ).cs, a - 1) else (im, a)) := Lib.hid (by rw [← Ha.out]; rfl)
  have HsI : Hid (stI b p t gs = if p < t then ((a : Int), true) else if t < p then ((a : Int) - 1, false) else (-1, false)) := Lib.hid (by rw [← Ha.out]; rfl)
  rw [Ha.out] at ha hd
  obtain ⟨n, Hn⟩ : ∃ n, Hid (gs.length = n) := ⟨_, rfl⟩
  have h3' : ∀ k, k < n → _ := fun k hk w' B' hw hB' => ((h3.below (w' := w') (B' := B') hw hB').row.at4 (k := k) (by rw [Hn.out]; exact hk))
  have h3c : ∀ k, k < n → _ := fun k hk => h3.chs k (by rw [Hn.out]; exact hk)
  have HF := Lib.hid (fun k (hk : k < n) => hl.from_ k (by rw [Hn.out]; exact hk))
  have HOKs := Lib.hid (fun k (hk : k < n) => hl.ok k (by rw [Hn.out]; exact hk))
  have HA := Lib.hid ha.2
  have ha1 := ha.1
  have H8 := Lib.hid hc
  rw [Hn.out] at hn3 hd ha1
  rw [H8.out] at hn5
  have b0 := Box.new w 33 #[.int .i64 g, .int .i64 b, .int .i64 p, .int .i64 t, .slice A xs.length c, .slice A2 ms.length c2, .slice A3 n c3, .slice A4 8 c4]
  have hx0 := (Nx.refl w).alloc (.cells #[.int .i64 g, .int .i64 b, .int .i64 p, .int .i64 t, .slice A xs.length c, .slice A2 ms.length c2, .slice A3 n c3, .slice A4 8 c4] 33)
  clear hl hp ha h3 hc hn4
  have Hcall := Lib.hid (fun (w' : World) (hx : Nx w w') => HST.out w' (HVT.out w' hx) (Nat.le_trans hB hx.size) HNN.out HLd.out HPx.out HD.out)
  rw [Hn.out, H8.out] at Hcall
  clear HST
  go_enter Tryz.func210, Tryz.ntmps210
  rw [Hn.out, H8.out]
  go_wp2_with fail
  generalize w.alloc (.cells #[.int .i64 g, .int .i64 b, .int .i64 p, .int .i64 t, .slice A xs.length c, .slice A2 ms.length c2, .slice A3 n c3, .slice A4 8 c4] 33) = W at *
  refine (Hcall.out W hx0).mono ?_
  rintro e w1 ⟨rfl, hx1⟩
  rw [HsI.out]
  replace hx0 := hx0.trans hx1
  have b1 := b0.nx hx1
  clear b0 hx1 Hcall
  by_cases hlt : p < t
  · rw [if_pos hlt]
    have HSB := Lib.hid (show stp b p t gs im = (app pN im (gs.getD a sgZ).cs, a + 1) by rw [Hstp.out, if_pos hlt])
    have han := hd.1 hlt
    clear hd hlt
    obtain ⟨k, Hk⟩ : ∃ k, Hid (a = k) := ⟨_, rfl⟩
    have hkn : k < n := by have := Hk.out; omega
    have hak : (a : Int) = (k : Int) := by have := Hk.out; omega
    rw [hak]
    clear hak
    have hk9 : decide ((k : Int) < 0) = false := decide_eq_false (by omega)
    have hk0 : (0 : Int) ≤ (k : Int) := by omega
    have hk1 : (k : Int) < (n : Int) := by omega
    have hF := HF.out k hkn
    have hT : (gs.getD k sgZ).t = atK b gs (k + 1) := rfl
    have HOK := Lib.hid (HOKs.out k hkn)
    have hch := h3c k hkn
    obtain ⟨bb, off, rfl, hbb, p0, p1, p2, p3⟩ := h3' k hkn _ _ hx0 hB
    have HEQ := Lib.hid ((rfl : app pN im (gs.getD k sgZ).cs = app pN im (gs.getD k sgZ).cs))
    obtain ⟨⟨f, t9, m, Ac, cc, cs⟩, Hs⟩ : ∃ s, Hid (gs.getD k sgZ = s) := ⟨_, rfl⟩
    rw [Hs.out] at p0 p1 p2 p3 hF hT hch HOK HEQ
    simp only at p0 p1 p2 p3 hF hT hch HOK HEQ
    obtain ⟨ys, Hys⟩ : ∃ ys, Hid (app pN im cs = ys) := ⟨_, rfl⟩
    have HLA : Hid (ys.length = 8) := Lib.hid (by rw [← Hys.out, app_len, H8.out])
    have HFT := Lib.hid hF
    have HTT := Lib.hid hT
    clear hF hT
    go_wp2_with fail
    have hbd := b1.nx (Nx.refl _).drew
    have hx2 := hx0.drew
    have hxc := hx2
    have hbw : bb < w1.drew.heap.size := Nat.lt_of_lt_of_le hbb (Nat.le_trans hB hx2.size)
    refine wp_region_plan (.t 0 (.t 1 (.t 2 (.t 3 (.t 4 (.t 5 (.t 6 (.t 8 (.t 9 (.t 10 (.t 11 (.t 12 (.t 13 (.c 7 (.t 14 (.t 15 .e)))))))))))))))) (fun w' => (w'.cell? ⟨w.heap.size, 0, none⟩ = some (.int .i64 g) ∧ w'.cell? ⟨w.heap.size, 1, none⟩ = some (.int .i64 b) ∧ w'.cell? ⟨w.heap.size, 2, none⟩ = some (.int .i64 p) ∧ w'.cell? ⟨w.heap.size, 3, none⟩ = some (.int .i64 t) ∧ w'.cell? ⟨w.heap.size, 4, none⟩ = some (.slice A xs.length c) ∧ w'.cell? ⟨w.heap.size, 5, none⟩ = some (.slice A2 ms.length c2) ∧ w'.cell? ⟨w.heap.size, 6, none⟩ = some (.slice (some ⟨bb, off, none⟩) n c3) ∧ w'.cell? ⟨w.heap.size, 7, none⟩ = some (.slice A4 8 c4)) ∧ w'.cell? ⟨bb, off + k * 4, none⟩ = some (.int .i64 f) ∧ w'.cell? ⟨bb, off + k * 4 + 1, none⟩ = some (.int .i64 t9) ∧ w'.cell? ⟨bb, off + k * 4 + 2, none⟩ = some (.int .i64 m) ∧ w'.cell? ⟨bb, off + k * 4 + 3, none⟩ = some (.slice Ac cs.length cc)) (by kernel_rfl) (by kernel_rfl) rfl (by kernel_rfl) (fun _ _ d _ _ h => by cases d <;> exact h) (by exact ⟨hbd.e8, p0, p1, p2, p3⟩) ?_
    simp only [psOf, List.getD_cons_zero, List.getD_cons_succ]
    repeat (first | (refine HP.take (v := ?_) (by rfl) ?_ ?_; rotate_left; (· (intro w hSw; (try dsimp only at hSw); go_simp; try with_reducible rfl)); (try simp only [Act.put, List.setIfInBounds_toArray, List.set_cons_zero, List.set_cons_succ])) | (refine HP.skip (by rfl) ?_; (try simp only [Act.put, List.setIfInBounds_toArray, List.set_cons_zero, List.set_cons_succ])))
    refine HP.call ?_
    refine CallStep.mk (by rfl) (fun K hK => ?_)
    go_simp
    have hcl := l03Forward_c A4 c4 B im f t9 m Ac cc cs _ (h4.below hx2 hB) (hch.below hxc hB) (Nat.le_trans hB hx2.size) HOK.out H8.out; rw [H8.out] at hcl; refine hcl.mono ?_; rintro e w2 ⟨A9, c9, rfl, hS9, hx3⟩; clear hcl; have hb2 := hbd.nx hx3; replace p0 := (hx3.cell (p := ⟨bb, off + k * 4, none⟩) hbw).trans p0; replace p1 := (hx3.cell (p := ⟨bb, off + k * 4 + 1, none⟩) hbw).trans p1; replace p2 := (hx3.cell (p := ⟨bb, off + k * 4 + 2, none⟩) hbw).trans p2; replace p3 := (hx3.cell (p := ⟨bb, off + k * 4 + 3, none⟩) hbw).trans p3; have hX3 := hx2.trans hx3; rw [Hys.out] at hS9 ⊢; rw [HLA.out]
    go_wp2_with fail
    refine hK.out _ _ (by exact ⟨hb2.e8, p0, p1, p2, p3⟩) ?_
    clear hK K
    try simp only [Act.put, List.setIfInBounds_toArray, List.set_cons_zero, List.set_cons_succ]
    repeat (first | (refine HP.take (v := ?_) (by rfl) ?_ ?_; rotate_left; (· (intro w hSw; (try dsimp only at hSw); go_simp; try with_reducible rfl)); (try simp only [Act.put, List.setIfInBounds_toArray, List.set_cons_zero, List.set_cons_succ])) | (refine HP.skip (by rfl) ?_; (try simp only [Act.put, List.setIfInBounds_toArray, List.set_cons_zero, List.set_cons_succ])))
    refine HP.done ?_
    go_wp2
    exact bodyPost_ret (v := .tuple #[.slice A9 8 c9, .int .i64 t9]) (by simp [results, Tryz.results210, go_sem]) rfl ⟨A9, c9, by rw [HSB.out, HTT.out, ← Hk.out], by rw [HSB.out]; show Ins _ _ _ (app pN im (gs.getD a sgZ).cs); rw [Hk.out, Hs.out]; show Ins _ _ _ (app pN im cs); rw [Hys.out]; exact hS9.row, hX3⟩
  by_cases hgt : t < p
  · rw [if_neg hlt, if_pos hgt]
    have HSB := Lib.hid (show stp b p t gs im = (app pO im (gs.getD (a - 1) sgZ).cs, a - 1) by rw [Hstp.out, if_neg hlt, if_pos hgt])
    have han := hd.2 hgt
    clear hd hlt hgt
    obtain ⟨k, Hk⟩ : ∃ k, Hid (a - 1 = k) := ⟨_, rfl⟩
    have hkn : k < n := by have := Hk.out; omega
    have hak : (a : Int) - 1 = (k : Int) := by have := Hk.out; omega
    rw [hak]
    clear hak
    have hk9 : decide ((k : Int) < 0) = false := decide_eq_false (by omega)
    have hk0 : (0 : Int) ≤ (k : Int) := by omega
    have hk1 : (k : Int) < (n : Int) := by omega
    have hF := HF.out k hkn
    have hT : (gs.getD k sgZ).t = atK b gs (k + 1) := rfl
    have HOK := Lib.hid (HOKs.out k hkn)
    have hch := h3c k hkn
    obtain ⟨bb, off, rfl, hbb, p0, p1, p2, p3⟩ := h3' k hkn _ _ hx0 hB
    have HEQ := Lib.hid ((rfl : app pO im (gs.getD k sgZ).cs = app pO im (gs.getD k sgZ).cs))
    obtain ⟨⟨f, t9, m, Ac, cc, cs⟩, Hs⟩ : ∃ s, Hid (gs.getD k sgZ = s) := ⟨_, rfl⟩
    rw [Hs.out] at p0 p1 p2 p3 hF hT hch HOK HEQ
    simp only at p0 p1 p2 p3 hF hT hch HOK HEQ
    obtain ⟨ys, Hys⟩ : ∃ ys, Hid (app pO im cs = ys) := ⟨_, rfl⟩
    have HLA : Hid (ys.length = 8) := Lib.hid (by rw [← Hys.out, app_len, H8.out])
    have HFT := Lib.hid hF
    have HTT := Lib.hid hT
    clear hF hT
    go_wp2_with fail
    have hbd := b1.nx (Nx.refl _).drew
    have hx2 := hx0.drew
    have hxc := hx2
    have hbw : bb < w1.drew.heap.size := Nat.lt_of_lt_of_le hbb (Nat.le_trans hB hx2.size)
    refine wp_region_plan (.t 0 (.t 1 (.t 2 (.t 3 (.t 4 (.t 5 (.t 6 (.t 8 (.t 9 (.t 10 (.t 11 (.t 12 (.t 13 (.c 7 (.t 14 (.t 15 .e)))))))))))))))) (fun w' => (w'.cell? ⟨w.heap.size, 0, none⟩ = some (.int .i64 g) ∧ w'.cell? ⟨w.heap.size, 1, none⟩ = some (.int .i64 b) ∧ w'.cell? ⟨w.heap.size, 2, none⟩ = some (.int .i64 p) ∧ w'.cell? ⟨w.heap.size, 3, none⟩ = some (.int .i64 t) ∧ w'.cell? ⟨w.heap.size, 4, none⟩ = some (.slice A xs.length c) ∧ w'.cell? ⟨w.heap.size, 5, none⟩ = some (.slice A2 ms.length c2) ∧ w'.cell? ⟨w.heap.size, 6, none⟩ = some (.slice (some ⟨bb, off, none⟩) n c3) ∧ w'.cell? ⟨w.heap.size, 7, none⟩ = some (.slice A4 8 c4)) ∧ w'.cell? ⟨bb, off + k * 4, none⟩ = some (.int .i64 f) ∧ w'.cell? ⟨bb, off + k * 4 + 1, none⟩ = some (.int .i64 t9) ∧ w'.cell? ⟨bb, off + k * 4 + 2, none⟩ = some (.int .i64 m) ∧ w'.cell? ⟨bb, off + k * 4 + 3, none⟩ = some (.slice Ac cs.length cc)) (by kernel_rfl) (by kernel_rfl) rfl (by kernel_rfl) (fun _ _ d _ _ h => by cases d <;> exact h) (by exact ⟨hbd.e8, p0, p1, p2, p3⟩) ?_
    simp only [psOf, List.getD_cons_zero, List.getD_cons_succ]
    repeat (first | (refine HP.take (v := ?_) (by rfl) ?_ ?_; rotate_left; (· (intro w hSw; (try dsimp only at hSw); go_simp; try with_reducible rfl)); (try simp only [Act.put, List.setIfInBounds_toArray, List.set_cons_zero, List.set_cons_succ])) | (refine HP.skip (by rfl) ?_; (try simp only [Act.put, List.setIfInBounds_toArray, List.set_cons_zero, List.set_cons_succ])))
    refine HP.call ?_
    refine CallStep.mk (by rfl) (fun K hK => ?_)
    go_simp
    have hcl := l03Backward_c A4 c4 B im f t9 m Ac cc cs _ (h4.below hx2 hB) (hch.below hxc hB) (Nat.le_trans hB hx2.size) HOK.out H8.out; rw [H8.out] at hcl; refine hcl.mono ?_; rintro e w2 ⟨A9, c9, rfl, hS9, hx3⟩; clear hcl; have hb2 := hbd.nx hx3; replace p0 := (hx3.cell (p := ⟨bb, off + k * 4, none⟩) hbw).trans p0; replace p1 := (hx3.cell (p := ⟨bb, off + k * 4 + 1, none⟩) hbw).trans p1; replace p2 := (hx3.cell (p := ⟨bb, off + k * 4 + 2, none⟩) hbw).trans p2; replace p3 := (hx3.cell (p := ⟨bb, off + k * 4 + 3, none⟩) hbw).trans p3; have hX3 := hx2.trans hx3; rw [Hys.out] at hS9 ⊢; rw [HLA.out]
    go_wp2_with fail
    refine hK.out _ _ (by exact ⟨hb2.e8, p0, p1, p2, p3⟩) ?_
    clear hK K
    try simp only [Act.put, List.setIfInBounds_toArray, List.set_cons_zero, List.set_cons_succ]
    repeat (first | (refine HP.take (v := ?_) (by rfl) ?_ ?_; rotate_left; (· (intro w hSw; (try dsimp only at hSw); go_simp; try with_reducible rfl)); (try simp only [Act.put, List.setIfInBounds_toArray, List.set_cons_zero, List.set_cons_succ])) | (refine HP.skip (by rfl) ?_; (try simp only [Act.put, List.setIfInBounds_toArray, List.set_cons_zero, List.set_cons_succ])))
    refine HP.done ?_
    go_wp2
    exact bodyPost_ret (v := .tuple #[.slice A9 8 c9, .int .i64 f]) (by simp [results, Tryz.results210, go_sem]) rfl ⟨A9, c9, by rw [HSB.out, HFT.out, ← Hk.out], by rw [HSB.out]; show Ins _ _ _ (app pO im (gs.getD (a - 1) sgZ).cs); rw [Hk.out, Hs.out]; show Ins _ _ _ (app pO im cs); rw [Hys.out]; exact hS9.row, hX3⟩
  rw [if_neg hlt, if_neg hgt]
  have HSB := Lib.hid (show stp b p t gs im = (im, a) by rw [Hstp.out, if_neg hlt, if_neg hgt])
  clear hd hlt hgt
  have hbd := b1.nx (Nx.refl _).drew
  have hx2 := hx0.drew
  have q8 := b1.e8
  obtain ⟨_, _, y2, _, _, _, _, y7⟩ := q8
  go_wp2_with fail
  refine wp_region_lex [false, false, false, false, false, false, false] (fun w' => w'.cell? ⟨w.heap.size, 0, none⟩ = some (.int .i64 g) ∧ w'.cell? ⟨w.heap.size, 1, none⟩ = some (.int .i64 b) ∧ w'.cell? ⟨w.heap.size, 2, none⟩ = some (.int .i64 p) ∧ w'.cell? ⟨w.heap.size, 3, none⟩ = some (.int .i64 t) ∧ w'.cell? ⟨w.heap.size, 4, none⟩ = some (.slice A xs.length c) ∧ w'.cell? ⟨w.heap.size, 5, none⟩ = some (.slice A2 ms.length c2) ∧ w'.cell? ⟨w.heap.size, 6, none⟩ = some (.slice A3 n c3) ∧ w'.cell? ⟨w.heap.size, 7, none⟩ = some (.slice A4 8 c4)) (by kernel_rfl) (by kernel_rfl) rfl (by kernel_rfl) (fun _ _ d _ _ h => by cases d <;> exact h) (by exact hbd.e8) ?_
  repeat (first | (refine HL.take (v := ?_) (by rfl) ?_ ?_; rotate_left; (· (intro w hSw; (try dsimp only at hSw); go_simp; try with_reducible rfl)); (try simp only [Act.put, List.setIfInBounds_toArray, List.set_cons_zero, List.set_cons_succ])) | (refine HL.skip (by rfl) ?_; (try simp only [Act.put, List.setIfInBounds_toArray, List.set_cons_zero, List.set_cons_succ])))
  refine HL.done ?_
  go_wp2
  exact bodyPost_ret (v := .tuple #[.slice A4 8 c4, .int .i64 p]) (by simp [results, Tryz.results210, go_sem]) rfl ⟨A4, c4, by rw [HSB.out, HA.out], by rw [HSB.out]; exact (h4.below hx2 hB).more (Nat.le_trans hB hx2.size), hx2⟩
end Go.Proofs.YtehahodomfbpjaaGreatDoor
/- Contracts of the model: what a vault is. Conditions: what is read can be read, and holds at most 1048576 elements of a kind. -/
namespace Go.Proofs.YtehahodomfbpjaaGreatDoor
set_option linter.unusedVariables false
set_option maxRecDepth 100000
open Go.RowKit

set_option maxHeartbeats 3000000 in
theorem specVaultOK_c (V : Vl) (B : Nat) (w : World) (h : Vlt w B V) (hB : B ≤ w.heap.size) (hn : VlN V 1048576) (hc : V.xs.length ≤ V.c) (hm : AllM V.ms) :
    Calls Tryz.prog 129 #[V.v] w fun e w' => e = .returned (.bool V.ok) ∧ Nx w w' := by
  have HISx := Lib.hid (l05Is_c V)
  have HANx := Lib.hid (l05Anchor_c V B)
  obtain ⟨g, b, p, t, A, c, xs, A2, c2, ms, A3, c3, gs, A4, c4, im⟩ := V
  obtain ⟨h, h2, h3, h4⟩ := h
  obtain ⟨hn, hn2, hn3, hn4, hn5⟩ := hn
  simp only [Vl.v, Vl.cells] at *
  have HOKv : Hid (Vl.ok ⟨g, b, p, t, A, c, xs, A2, c2, ms, A3, c3, gs, A4, c4, im⟩ = vltB g b p t xs ms gs im) := Lib.hid rfl
  rw [HOKv.out]
  have HNo := Lib.hid (vltB_no (g := g) (b := b) (p := p) (t := t) (xs := xs) (ms := ms) (gs := gs) (im := im))
  have HYes := Lib.hid (fun h => VltY.b (g := g) (b := b) (p := p) (t := t) (xs := xs) (ms := ms) (gs := gs) (im := im) h)
  have HNN : Hid (VlN ⟨g, b, p, t, A, c, xs, A2, c2, ms, A3, c3, gs, A4, c4, im⟩ 1048576) := Lib.hid ⟨hn, hn2, hn3, hn4, hn5⟩
  have HVT := Lib.hid (fun (w' : World) (hx : Nx w w') => (⟨h.below hx hB, h2.below hx hB, h3.below hx hB, h4.below hx hB⟩ : Vlt w' B ⟨g, b, p, t, A, c, xs, A2, c2, ms, A3, c3, gs, A4, c4, im⟩))
  have HSup := Lib.hid (fun (w' : World) (hx : Nx w w') => specSuperOK_c g b p t A A2 c c2 B xs ms w' (h.below hx hB) (h2.below hx hB) (Nat.le_trans hB hx.size) hn hn2 hc hm)
  have HCon := Lib.hid (fun (w' : World) (hx : Nx w w') => specContentOK_c A4 c4 B im w' (h4.below hx hB) (Nat.le_trans hB hx.size) hn5)
  have HCha := Lib.hid (fun (w' : World) (hx : Nx w w') => specChainOK_c b A3 c3 B gs w' (h3.below hx hB) (Nat.le_trans hB hx.size) hn3 hn4)
  have HMk := Lib.hid (fun (k : Nat) (hk : k < ms.length) (w' : World) (hx : Nx w w') => (h2.below hx hB).at_ hk)
  have HSg := Lib.hid (fun (k : Nat) (hk : k < gs.length) (w' : World) (hx : Nx w w') => (h3.below hx hB).row.at4 hk)
  have HCh := Lib.hid (fun (k : Nat) (hk : k < gs.length) (w' : World) (hx : Nx w w') => (h3.chs k hk).below hx hB)
  obtain ⟨n, Hn⟩ : ∃ n, Hid (gs.length = n) := ⟨_, rfl⟩
  obtain ⟨q, Hq⟩ : ∃ q, Hid (im.length = q) := ⟨_, rfl⟩
  obtain ⟨r, Hr⟩ : ∃ r, Hid (ms.length = r) := ⟨_, rfl⟩
  obtain ⟨z, Hz⟩ : ∃ z, Hid (xs.length = z) := ⟨_, rfl⟩
  rw [Hn.out, Hr.out, Hz.out, Hq.out] at HISx HANx
  rw [Hz.out, Hr.out] at HSup
  rw [Hq.out] at HCon
  rw [Hn.out] at HCha HSg HCh hn3
  rw [Hr.out] at HMk hn2
  rw [Hz.out] at hn
  rw [Hq.out] at hn5
  rw [Hn.out, Hq.out, Hr.out, Hz.out]
  have b0 := Box.new w 33 #[.int .i64 g, .int .i64 b, .int .i64 p, .int .i64 t, .slice A z c, .slice A2 r c2, .slice A3 n c3, .slice A4 q c4]
  have hx0 := (Nx.refl w).alloc (.cells #[.int .i64 g, .int .i64 b, .int .i64 p, .int .i64 t, .slice A z c, .slice A2 r c2, .slice A3 n c3, .slice A4 q c4] 33)
  clear h h2 h3 h4 hn4 hc hm
  go_enter Tryz.func129, Tryz.ntmps129
  go_wp2_with fail
  generalize w.alloc (.cells #[.int .i64 g, .int .i64 b, .int .i64 p, .int .i64 t, .slice A z c, .slice A2 r c2, .slice A3 n c3, .slice A4 q c4] 33) = W at *
  refine (HSup.out W hx0).mono ?_
  rintro e w1 ⟨rfl, hk⟩
  have b1 := b0.nx hk
  have hx := hx0.trans hk
  clear hx0 b0 hk
  cases h1 : superB g b p t xs ms with
  | false =>
    have HR := Lib.hid (HNo.out (.inl h1))
    clear h1
    go_wp2
    go_ret
    exact ⟨ret_bool HR.out.symm, hx⟩
  | true =>
  have H1 := Lib.hid h1
  clear h1
  obtain ⟨y0, y1, y2, y3, y4, y5, y6, y7⟩ := b1.e8
  go_wp2_with fail
  refine (HCon.out _ hx).mono ?_
  clear y0 y1 y2 y3 y4 y5 y6 y7
  rintro e w2 ⟨rfl, hk⟩
  have b2 := b1.nx hk
  replace hx := hx.trans hk
  clear b1 hk
  cases h2 : contB im with
  | false =>
    have HR := Lib.hid (HNo.out (.inr (.inl h2)))
    clear h2
    go_wp2
    go_ret
    exact ⟨ret_bool HR.out.symm, hx⟩
  | true =>
  have H2 := Lib.hid h2
  clear h2
  obtain ⟨y0, y1, y2, y3, y4, y5, y6, y7⟩ := b2.e8
  go_wp2_with fail
  refine (HCha.out _ hx).mono ?_
  clear y0 y1 y2 y3 y4 y5 y6 y7
  rintro e w3 ⟨rfl, hk⟩
  have b3 := b2.nx hk
  replace hx := hx.trans hk
  clear b2 hk
  cases h3 : chainB b gs with
  | false =>
    have HR := Lib.hid (HNo.out (.inr (.inr (.inr (.inl h3)))))
    clear h3
    go_wp2
    go_ret
    exact ⟨ret_bool HR.out.symm, hx⟩
  | true =>
  have H3 := Lib.hid h3
  clear h3
  obtain ⟨y0, y1, y2, y3, y4, y5, y6, y7⟩ := b3.e8
  by_cases hle : n = z
  case neg =>
    have hd : ((n : Int) != (z : Int)) = true := by simp; omega
    have HR := Lib.hid (HNo.out (.inr (.inr (.inl (by rw [Hn.out, Hz.out]; exact hle)))))
    clear hle
    go_wp2
    go_ret
    exact ⟨ret_bool HR.out.symm, hx⟩
  have hd : ((n : Int) != (z : Int)) = false := by simp; omega
  have H4 := Lib.hid hle
  have HLd := Lib.hid (chainB_lead H3.out)
  have hn4 : n ≤ 4096 := by have := HLd.out.short; rw [Hn.out] at this; exact this
  have HIs := Lib.hid (fun (x : Int) (w' : World) (hx : Nx w w') => HISx.out x B w' (HVT.out w' hx) (Nat.le_trans hB hx.size) HNN.out hn4)
  clear hle
  go_wp2_with fail
  refine (HIs.out p _ hx).mono ?_
  clear y0 y1 y2 y3 y4 y5 y6 y7 hd
  rintro e w4 ⟨rfl, hk⟩
  have b4 := b3.nx hk
  replace hx := hx.trans hk
  clear b3 hk
  cases h5 : isRet b gs p with
  | false =>
    have HR := Lib.hid (HNo.out (.inr (.inr (.inr (.inr (.inl (by unfold plcB; rw [h5]; simp)))))))
    clear h5
    go_wp2
    go_ret
    exact ⟨ret_bool HR.out.symm, hx⟩
  | true =>
  have H5 := Lib.hid h5
  clear h5
  obtain ⟨y0, y1, y2, y3, y4, y5, y6, y7⟩ := b4.e8
  go_wp2_with fail
  refine (HIs.out t _ hx).mono ?_
  clear y0 y1 y2 y3 y4 y5 y6 y7
  rintro e w5 ⟨rfl, hk⟩
  have b5 := b4.nx hk
  replace hx := hx.trans hk
  clear b4 hk
  cases h6 : isRet b gs t with
  | false =>
    have HR := Lib.hid (HNo.out (.inr (.inr (.inr (.inr (.inl (by unfold plcB; rw [h6]; simp)))))))
    clear h6
    go_wp2
    go_ret
    exact ⟨ret_bool HR.out.symm, hx⟩
  | true =>
  have H6 := Lib.hid h6
  clear h6
  obtain ⟨y0, y1, y2, y3, y4, y5, y6, y7⟩ := b5.e8
  go_wp2_with fail
  clear y0 y1 y2 y3 y4 y5 y6 y7
  go_loopw [3] (fun i wr => ∃ k : Nat, k ≤ r ∧ i = .int .i64 k ∧ MksTo b gs ms k ∧ Nx w wr ∧ Box wr w.heap.size 33 #[.int .i64 g, .int .i64 b, .int .i64 p, .int .i64 t, .slice A z c, .slice A2 r c2, .slice A3 n c3, .slice A4 q c4]) (fun i _ => r - (intOf i).toNat)
  case atStart => exact ⟨0, Nat.zero_le _, rfl, MksTo.zero _ _ _, hx, b5⟩
  case round =>
  obtain ⟨k, hk, rfl, hto, hnx, hb⟩ := hrel
  clear hx b5
  by_cases hlt : k < r
  · obtain ⟨bm, om, rfl, hbm, _, k1⟩ := HMk.out k hlt _ hnx
    have HT := Lib.hid (fun hh => hto.succ hh)
    have HF := Lib.hid (fun hh => mksR_no (b := b) (gs := gs) (ms := ms) (k := k) (by rw [Hr.out]; exact hlt) hh)
    obtain ⟨⟨q0, q1⟩, Hm⟩ : ∃ m, Hid (ms.getD k mrZ = m) := ⟨_, rfl⟩
    rw [Hm.out] at k1 HT HF
    simp only at k1 HT HF
    have hbd : Box wr.drew w.heap.size 33 #[.int .i64 g, .int .i64 b, .int .i64 p, .int .i64 t, .slice A z c, .slice (some ⟨bm, om, none⟩) r c2, .slice A3 n c3, .slice A4 q c4] := hb
    have hnxd := hnx.drew
    have hbw : bm < wr.drew.heap.size := Nat.lt_of_lt_of_le hbm (Nat.le_trans hB hnx.size)
    have hkc : (k : Int) < (r : Int) := by omega
    have hk0 : (0 : Int) ≤ (k : Int) := by omega
    clear hto
    obtain ⟨y0, y1, y2, y3, y4, y5, y6, y7⟩ := hb.e8
    cases hq : isRet b gs q1 with
    | false =>
      have HR := Lib.hid (HNo.out (.inr (.inr (.inr (.inr (.inl (by unfold plcB; rw [HF.out hq]; rfl)))))))
      have HQ := Lib.hid hq
      clear hq HT HF
      go_wp2_with fail
      refine wp_region_lex [false, false, false, false, false, false, false, false, true, false] (fun w' => (w'.cell? ⟨w.heap.size, 0, none⟩ = some (.int .i64 g) ∧ w'.cell? ⟨w.heap.size, 1, none⟩ = some (.int .i64 b) ∧ w'.cell? ⟨w.heap.size, 2, none⟩ = some (.int .i64 p) ∧ w'.cell? ⟨w.heap.size, 3, none⟩ = some (.int .i64 t) ∧ w'.cell? ⟨w.heap.size, 4, none⟩ = some (.slice A z c) ∧ w'.cell? ⟨w.heap.size, 5, none⟩ = some (.slice (some ⟨bm, om, none⟩) r c2) ∧ w'.cell? ⟨w.heap.size, 6, none⟩ = some (.slice A3 n c3) ∧ w'.cell? ⟨w.heap.size, 7, none⟩ = some (.slice A4 q c4)) ∧ w'.cell? ⟨bm, om + k * 2 + 1, none⟩ = some (.int .i64 q1)) (by kernel_rfl) (by kernel_rfl) rfl (by kernel_rfl) (fun _ _ d _ _ h => by cases d <;> exact h) (by exact ⟨hbd.e8, k1⟩) ?_
      repeat (first | (refine HL.take (v := ?_) (by rfl) ?_ ?_; rotate_left; (· (intro w hSw; (try dsimp only at hSw); go_simp; try with_reducible rfl)); (try simp only [Act.put, List.setIfInBounds_toArray, List.set_cons_zero, List.set_cons_succ])) | (refine HL.skip (by rfl) ?_; (try simp only [Act.put, List.setIfInBounds_toArray, List.set_cons_zero, List.set_cons_succ])))
      refine HL.call (by rfl) (fun K hK => ?_)
      go_simp
      refine (HIs.out q1 _ hnxd).mono ?_; rintro e w9 ⟨rfl, hx9⟩; have hb9 := hbd.nx hx9; replace k1 := (hx9.cell (p := ⟨bm, om + k * 2 + 1, none⟩) hbw).trans k1; have hnx9 := hnxd.trans hx9; rw [HQ.out]
      go_wp2_with fail
      refine hK.out _ _ (by exact ⟨hb9.e8, k1⟩) ?_
      clear hK K
      try simp only [Act.put, List.setIfInBounds_toArray, List.set_cons_zero, List.set_cons_succ]
      repeat (first | (refine HL.take (v := ?_) (by rfl) ?_ ?_; rotate_left; (· (intro w hSw; (try dsimp only at hSw); go_simp; try with_reducible rfl)); (try simp only [Act.put, List.setIfInBounds_toArray, List.set_cons_zero, List.set_cons_succ])) | (refine HL.skip (by rfl) ?_; (try simp only [Act.put, List.setIfInBounds_toArray, List.set_cons_zero, List.set_cons_succ])))
      refine HL.done ?_
      go_wp2
      go_ret
      exact ⟨ret_bool HR.out.symm, hnx9⟩
    | true =>
      have HT' := Lib.hid (HT.out hq)
      have HQ := Lib.hid hq
      clear hq HT HF
      go_wp2_with fail
      refine wp_region_lex [false, false, false, false, false, false, false, false, true, false] (fun w' => (w'.cell? ⟨w.heap.size, 0, none⟩ = some (.int .i64 g) ∧ w'.cell? ⟨w.heap.size, 1, none⟩ = some (.int .i64 b) ∧ w'.cell? ⟨w.heap.size, 2, none⟩ = some (.int .i64 p) ∧ w'.cell? ⟨w.heap.size, 3, none⟩ = some (.int .i64 t) ∧ w'.cell? ⟨w.heap.size, 4, none⟩ = some (.slice A z c) ∧ w'.cell? ⟨w.heap.size, 5, none⟩ = some (.slice (some ⟨bm, om, none⟩) r c2) ∧ w'.cell? ⟨w.heap.size, 6, none⟩ = some (.slice A3 n c3) ∧ w'.cell? ⟨w.heap.size, 7, none⟩ = some (.slice A4 q c4)) ∧ w'.cell? ⟨bm, om + k * 2 + 1, none⟩ = some (.int .i64 q1)) (by kernel_rfl) (by kernel_rfl) rfl (by kernel_rfl) (fun _ _ d _ _ h => by cases d <;> exact h) (by exact ⟨hbd.e8, k1⟩) ?_
      repeat (first | (refine HL.take (v := ?_) (by rfl) ?_ ?_; rotate_left; (· (intro w hSw; (try dsimp only at hSw); go_simp; try with_reducible rfl)); (try simp only [Act.put, List.setIfInBounds_toArray, List.set_cons_zero, List.set_cons_succ])) | (refine HL.skip (by rfl) ?_; (try simp only [Act.put, List.setIfInBounds_toArray, List.set_cons_zero, List.set_cons_succ])))
      refine HL.call (by rfl) (fun K hK => ?_)
      go_simp
      refine (HIs.out q1 _ hnxd).mono ?_; rintro e w9 ⟨rfl, hx9⟩; have hb9 := hbd.nx hx9; replace k1 := (hx9.cell (p := ⟨bm, om + k * 2 + 1, none⟩) hbw).trans k1; have hnx9 := hnxd.trans hx9; rw [HQ.out]
      go_wp2_with fail
      refine hK.out _ _ (by exact ⟨hb9.e8, k1⟩) ?_
      clear hK K
      try simp only [Act.put, List.setIfInBounds_toArray, List.set_cons_zero, List.set_cons_succ]
      repeat (first | (refine HL.take (v := ?_) (by rfl) ?_ ?_; rotate_left; (· (intro w hSw; (try dsimp only at hSw); go_simp; try with_reducible rfl)); (try simp only [Act.put, List.setIfInBounds_toArray, List.set_cons_zero, List.set_cons_succ])) | (refine HL.skip (by rfl) ?_; (try simp only [Act.put, List.setIfInBounds_toArray, List.set_cons_zero, List.set_cons_succ])))
      refine HL.done ?_
      go_wp2
      go_roundw
      case rel => exact ⟨k + 1, by omega, by go_num, HT'.out, hnx9, hb9⟩
      case measure => (simp [intOf] <;> omega)
  obtain rfl : r = k := by omega
  have HPl := Lib.hid (show plcB b p t gs ms = true by unfold plcB; rw [(show mksR b gs ms = true from MksTo.all (by rw [Hr.out]; exact hto)), H5.out, H6.out]; rfl)
  have hx := hnx
  have b6 := hb
  clear hnx hb hto hlt hk
  have HSL := Lib.hid (stp_le (t := t) im HLd.out HPl.out)
  have H8 : Hid (q = 8) := Lib.hid (by rw [← Hq.out]; exact (contB_yes H2.out).1)
  have HSL' := Lib.hid (show (p < t → ahd b gs p < n) ∧ (t < p → 0 < ahd b gs p) by rw [← Hn.out]; exact HSL.out.2)
  obtain rfl : q = 8 := H8.out
  have HAn := Lib.hid (fun (w' : World) (hx : Nx w w') => HANx.out w' (HVT.out w' hx) (Nat.le_trans hB hx.size) HNN.out HLd.out rfl H5.out HSL'.out)
  obtain ⟨c0, Hc0⟩ : ∃ c0, Hid ((stp b p t gs im).1 = c0) := ⟨_, rfl⟩
  obtain ⟨at9, Hat⟩ : ∃ at9, Hid ((stp b p t gs im).2 = at9) := ⟨_, rfl⟩
  have HL0 : Hid (c0.length = 8) := Lib.hid (by rw [← Hc0.out, stp_len, Hq.out])
  have hat : at9 ≤ n := by have := HSL.out.1; rw [Hat.out, Hn.out] at this; exact this
  rw [Hc0.out, Hat.out] at HNo HAn
  obtain ⟨N, HNv⟩ : ∃ N, Hid (atK b gs at9 = N) := ⟨_, rfl⟩
  rw [HNv.out] at HAn
  have HGe := Lib.hid (fun (k : Nat) (hk : k < n) => (⟨HLd.out.from_ k (by rw [Hn.out]; exact hk), fun (hh : at9 ≤ k) => HLd.out.le (j := at9) (k := k) hh (by rw [Hn.out]; omega), fun (hh : k < at9) => HLd.out.lt (j := k) at9 hh (by rw [Hn.out]; exact hat)⟩ : (gs.getD k sgZ).f = atK b gs k ∧ (at9 ≤ k → atK b gs at9 ≤ atK b gs k) ∧ (k < at9 → atK b gs k < atK b gs at9)))
  have HLe := Lib.hid (fun (k : Nat) (hk : k < n) => (⟨rfl, fun (hh : k < at9) => HLd.out.le (j := k + 1) (k := at9) hh (by rw [Hn.out]; exact hat), fun (hh : at9 ≤ k) => HLd.out.lt (j := at9) (k + 1) (by omega) (by rw [Hn.out]; exact hk)⟩ : (gs.getD k sgZ).t = atK b gs (k + 1) ∧ (k < at9 → atK b gs (k + 1) ≤ atK b gs at9) ∧ (at9 ≤ k → atK b gs at9 < atK b gs (k + 1))))
  have HOKs := Lib.hid (fun k (hk : k < n) => HLd.out.ok k (by rw [Hn.out]; exact hk))
  rw [HNv.out] at HGe HLe
  obtain ⟨y0, y1, y2, y3, y4, y5, y6, y7⟩ := b6.e8
  go_wp2_with fail
  clear y0 y1 y2 y3 y4 y5 y6 y7
  refine (HAn.out _ hx).mono ?_
  rintro e w7 ⟨Ac, cc, rfl, hI, hk⟩
  have b7 := b6.nx hk
  replace hx := hx.trans hk
  clear b6 hk
  go_wp2_with fail
  go_loopw [4, 6] (fun v i wr => ∃ k : Nat, k ≤ n ∧ i = .int .i64 k ∧ (∃ Ac cc, v = .slice Ac 8 cc ∧ Ins wr wr.heap.size Ac (fwK c0 gs at9 (k - at9))) ∧ FitF c0 gs at9 (k - at9) ∧ Nx w wr ∧ Box wr w.heap.size 33 #[.int .i64 g, .int .i64 b, .int .i64 p, .int .i64 t, .slice A z c, .slice A2 r c2, .slice A3 n c3, .slice A4 8 c4]) (fun _ i _ => n - (intOf i).toNat)
  case atStart => exact ⟨0, Nat.zero_le _, rfl, ⟨_, _, rfl, by rw [show 0 - at9 = 0 by omega]; exact hI⟩, by rw [show 0 - at9 = 0 by omega]; exact FitF.zero _ _ _, hx, b7⟩
  case round =>
  obtain ⟨k, hk, rfl, ⟨Ac, cc, rfl, hI⟩, hfit, hnx, hb⟩ := hrel
  clear hx b7
  obtain ⟨y0, y1, y2, y3, y4, y5, y6, y7⟩ := hb.e8
  by_cases hlt : k < n
  · obtain ⟨bb, off, rfl, hbb, p0, p1, p2, p3⟩ := HSg.out k hlt _ hnx
    have hbw : bb < wr.heap.size := Nat.lt_of_lt_of_le hbb (Nat.le_trans hB hnx.size)
    have hch := HCh.out k hlt wr hnx
    have hG := HGe.out k hlt
    have HOKc := Lib.hid (HOKs.out k hlt)
    have hkc : (k : Int) < (n : Int) := by omega
    have hk0 : (0 : Int) ≤ (k : Int) := by omega
    by_cases hka : at9 ≤ k
    case neg =>
      obtain ⟨s, Hs⟩ : ∃ s, Hid (gs.getD k sgZ = s) := ⟨_, rfl⟩
      rw [Hs.out] at p0 p1 p2 p3 hG
      obtain ⟨f, t9, m, Am, cm, cs⟩ := s
      simp only at p0 p1 p2 p3 hG
      have hdn : decide (N ≤ f) = false := decide_eq_false (by have := hG.2.2 (by omega); omega)
      rw [show k - at9 = 0 by omega] at hI hfit
      have HI := Lib.hid hI
      have HKA := Lib.hid hka
      clear hka hG hI
      go_wp2
      go_roundw
      case rel => exact ⟨k + 1, by omega, by go_num, ⟨_, _, rfl, by rw [show k + 1 - at9 = 0 by have := HKA.out; omega]; exact HI.out⟩, by rw [show k + 1 - at9 = 0 by have := HKA.out; omega]; exact hfit, hnx, hb⟩
      case measure => (simp [intOf] <;> omega)
    obtain ⟨j, Hj⟩ : ∃ j, Hid (k - at9 = j) := ⟨_, rfl⟩
    have Hkj : Hid (k = at9 + j) := Lib.hid (by have := Hj.out; omega)
    have HLj : Hid ((fwK c0 gs at9 j).length = 8) := Lib.hid (by rw [fwK_len]; exact HL0.out)
    have HFs := Lib.hid (fun hh => hfit.succ hh)
    have HFn := Lib.hid (fun hh => fitF_no (c := c0) (gs := gs) (a := at9) (k := k - at9) (by rw [Hn.out]; omega) hh)
    have Hsuc : Hid (fwK c0 gs at9 (j + 1) = app pN (fwK c0 gs at9 j) (gs.getD k sgZ).cs) := Lib.hid (by rw [Hkj.out]; rfl)
    rw [Hj.out] at hI HFs HFn
    rw [← Hkj.out] at HFs HFn
    obtain ⟨cj, Hcj⟩ : ∃ cj, Hid (fwK c0 gs at9 j = cj) := ⟨_, rfl⟩
    rw [Hcj.out] at hI HFs HFn Hsuc HLj
    obtain ⟨s, Hs⟩ : ∃ s, Hid (gs.getD k sgZ = s) := ⟨_, rfl⟩
    rw [Hs.out] at p0 p1 p2 p3 hG HFs HFn Hsuc hch HOKc
    obtain ⟨f, t9, m, Am, cm, cs⟩ := s
    simp only at p0 p1 p2 p3 hG hch HOKc Hsuc
    have hdn : decide (N ≤ f) = true := decide_eq_true (by have := hG.2.1 hka; omega)
    have hchw := hch.more (Nat.le_trans hB hnx.size)
    have HKA := Lib.hid hka
    clear hG hka hfit hch
    go_wp2_with fail
    refine (l05Old_c Ac cc wr.heap.size cj ⟨f, t9, m, Am, cm, cs⟩ wr hI hchw (Nat.le_refl _) HOKc.out HLj.out).mono ?_
    rintro e w8 ⟨rfl, hk8⟩
    replace p0 := (hk8.cell (p := ⟨bb, off + k * 4, none⟩) hbw).trans p0
    replace p1 := (hk8.cell (p := ⟨bb, off + k * 4 + 1, none⟩) hbw).trans p1
    replace p2 := (hk8.cell (p := ⟨bb, off + k * 4 + 2, none⟩) hbw).trans p2
    replace p3 := (hk8.cell (p := ⟨bb, off + k * 4 + 3, none⟩) hbw).trans p3
    have hb8 := hb.nx hk8
    have hnx8 := hnx.trans hk8
    have hI8 := (hI.below hk8 (Nat.le_refl _))
    have hch8 := hchw.below hk8 (Nat.le_refl _)
    have hsz8 := hk8.size
    clear y0 y1 y2 y3 y4 y5 y6 y7 hb hI hchw
    cases ho : oldB cj ⟨f, t9, m, Am, cm, cs⟩ with
    | false =>
      have HR := Lib.hid (HNo.out (.inr (.inr (.inr (.inr (.inr (.inl (HFn.out ho))))))))
      clear ho HFs HFn
      go_wp2
      go_ret
      exact ⟨ret_bool HR.out.symm, hnx8⟩
    | true =>
    have HFs' := Lib.hid (HFs.out ho)
    clear ho HFs HFn
    obtain ⟨y0, y1, y2, y3, y4, y5, y6, y7⟩ := hb8.e8
    go_wp2_with fail
    have hcl := l03Forward_c Ac cc wr.heap.size cj f t9 m Am cm cs w8 hI8 hch8 hsz8 HOKc.out HLj.out
    rw [HLj.out] at hcl
    refine hcl.mono ?_
    rintro e w10 ⟨A9, c9, rfl, hS, hk10⟩
    have hb10 := hb8.nx hk10
    have hnx10 := hnx8.trans hk10
    have hIn := hS.row
    have HLn : Hid ((app pN cj cs).length = 8) := Lib.hid (by rw [app_len]; exact HLj.out)
    rw [HLn.out]
    have HIn := Lib.hid (show Ins w10 w10.heap.size A9 (fwK c0 gs at9 (j + 1)) by rw [Hsuc.out]; exact hIn)
    clear y0 y1 y2 y3 y4 y5 y6 y7 hcl hS hIn p0 p1 p2 p3 hI8 hch8 hb8
    go_wp2
    go_roundw
    case rel => exact ⟨k + 1, by omega, by go_num, ⟨_, _, rfl, by rw [show k + 1 - at9 = j + 1 by have := Hkj.out; omega]; exact HIn.out⟩, by rw [show k + 1 - at9 = j + 1 by have := Hkj.out; omega]; exact HFs'.out, hnx10, hb10⟩
    case measure => (simp [intOf] <;> omega)
  obtain rfl : n = k := by omega
  have HFF := Lib.hid (show fitF c0 gs at9 = true from FitF.all (by rw [Hn.out]; exact hfit))
  have hx := hnx
  have b6 := hb
  clear hnx hb hfit hlt hk hI
  go_wp2_with fail
  clear y0 y1 y2 y3 y4 y5 y6 y7
  refine (HAn.out _ hx).mono ?_
  rintro e w7 ⟨Ac, cc, rfl, hI, hk⟩
  have b7 := b6.nx hk
  replace hx := hx.trans hk
  clear b6 hk
  obtain ⟨y0, y1, y2, y3, y4, y5, y6, y7⟩ := b7.e8
  have hwn : IntKind.i64.wrap ((n : Int) - 1) = (n : Int) - 1 := IntWalk.i64_in _ (by omega)
  go_wp2_with fail
  clear y0 y1 y2 y3 y4 y5 y6 y7
  go_loopw [4, 7] (fun v i wr => ∃ k : Nat, k ≤ n ∧ i = .int .i64 ((k : Int) - 1) ∧ (∃ Ac cc, v = .slice Ac 8 cc ∧ Ins wr wr.heap.size Ac (bkK c0 gs at9 (at9 - k))) ∧ FitB c0 gs at9 (at9 - k) ∧ Nx w wr ∧ Box wr w.heap.size 33 #[.int .i64 g, .int .i64 b, .int .i64 p, .int .i64 t, .slice A z c, .slice A2 r c2, .slice A3 n c3, .slice A4 8 c4]) (fun _ i _ => (intOf i + 1).toNat)
  case atStart => exact ⟨n, Nat.le_refl _, rfl, ⟨_, _, rfl, by rw [show at9 - n = 0 by omega]; exact hI⟩, by rw [show at9 - n = 0 by omega]; exact FitB.zero _ _ _, hx, b7⟩
  case round =>
  obtain ⟨k, hk, rfl, ⟨Ac, cc, rfl, hI⟩, hfit, hnx, hb⟩ := hrel
  clear hx b7 hwn
  obtain ⟨y0, y1, y2, y3, y4, y5, y6, y7⟩ := hb.e8
  by_cases hlt : k = 0
  case pos =>
    have HR := Lib.hid (HYes.out ⟨H1.out, H2.out, by rw [Hn.out, Hz.out]; exact H4.out, H3.out, HPl.out, by rw [Hc0.out, Hat.out]; exact HFF.out, by rw [Hc0.out, Hat.out]; exact FitB.all (by rw [hlt, Nat.sub_zero] at hfit; exact hfit)⟩)
    rw [show ((k : Int) - 1) = -1 by omega]
    clear hlt hfit
    go_wp2
    go_ret
    exact ⟨ret_bool HR.out.symm, hnx⟩
  obtain ⟨i, rfl⟩ : ∃ i, k = i + 1 := ⟨k - 1, by omega⟩
  rw [show ((i + 1 : Nat) : Int) - 1 = (i : Int) by omega]
  have hin : i < n := by omega
  obtain ⟨bb, off, rfl, hbb, p0, p1, p2, p3⟩ := HSg.out i hin _ hnx
  have hbw : bb < wr.heap.size := Nat.lt_of_lt_of_le hbb (Nat.le_trans hB hnx.size)
  have hch := HCh.out i hin wr hnx
  have hG := HLe.out i hin
  have HOKc := Lib.hid (HOKs.out i hin)
  have hkc : (i : Int) < (n : Int) := by omega
  have hk0 : (0 : Int) ≤ (i : Int) := by omega
  have hwi : IntKind.i64.wrap ((i : Int) - 1) = (i : Int) - 1 := IntWalk.i64_in _ (by omega)
  by_cases hka : at9 ≤ i
  case pos =>
    obtain ⟨s, Hs⟩ : ∃ s, Hid (gs.getD i sgZ = s) := ⟨_, rfl⟩
    rw [Hs.out] at p0 p1 p2 p3 hG
    obtain ⟨f, t9, m, Am, cm, cs⟩ := s
    simp only at p0 p1 p2 p3 hG
    have hdn : decide (N < t9) = true := decide_eq_true (by have := hG.2.2 hka; omega)
    rw [show at9 - (i + 1) = 0 by omega] at hI hfit
    have HI := Lib.hid hI
    have HKA := Lib.hid hka
    clear hka hG hI hlt
    go_wp2
    go_roundw
    case rel => exact ⟨i, by omega, rfl, ⟨_, _, rfl, by rw [show at9 - i = 0 by have := HKA.out; omega]; exact HI.out⟩, by rw [show at9 - i = 0 by have := HKA.out; omega]; exact hfit, hnx, hb⟩
    case measure => (simp [intOf] <;> omega)
  obtain ⟨j, Hj⟩ : ∃ j, Hid (at9 - (i + 1) = j) := ⟨_, rfl⟩
  have Hkj : Hid (i = at9 - 1 - j) := Lib.hid (by have := Hj.out; omega)
  have HLj : Hid ((bkK c0 gs at9 j).length = 8) := Lib.hid (by rw [bkK_len]; exact HL0.out)
  have HFs := Lib.hid (fun hh => hfit.succ hh)
  have HFn := Lib.hid (fun hh => fitB_no (c := c0) (gs := gs) (a := at9) (k := at9 - (i + 1)) (by omega) hh)
  have Hsuc : Hid (bkK c0 gs at9 (j + 1) = app pO (bkK c0 gs at9 j) (gs.getD i sgZ).cs) := Lib.hid (by rw [Hkj.out]; rfl)
  rw [Hj.out] at hI HFs HFn
  rw [← Hkj.out] at HFs HFn
  obtain ⟨cj, Hcj⟩ : ∃ cj, Hid (bkK c0 gs at9 j = cj) := ⟨_, rfl⟩
  rw [Hcj.out] at hI HFs HFn Hsuc HLj
  have HNb := Lib.hid (newB_back (c := cj) (g := gs.getD i sgZ) HOKc.out HLj.out)
  obtain ⟨s, Hs⟩ : ∃ s, Hid (gs.getD i sgZ = s) := ⟨_, rfl⟩
  rw [Hs.out] at p0 p1 p2 p3 hG HFs HFn Hsuc hch HOKc HNb
  obtain ⟨f, t9, m, Am, cm, cs⟩ := s
  simp only at p0 p1 p2 p3 hG hch HOKc Hsuc
  have hdn : decide (N < t9) = false := decide_eq_false (by have := hG.2.1 (by omega); omega)
  have hchw := hch.more (Nat.le_trans hB hnx.size)
  have HKA := Lib.hid hka
  clear hG hka hfit hch hlt
  go_wp2_with fail
  have hcl := l03Backward_c Ac cc wr.heap.size cj f t9 m Am cm cs wr hI hchw (Nat.le_refl _) HOKc.out HLj.out
  rw [HLj.out] at hcl
  refine hcl.mono ?_
  rintro e w8 ⟨A8, c8, rfl, hS, hk8⟩
  have HL8 : Hid ((app pO cj cs).length = 8) := Lib.hid (by rw [app_len]; exact HLj.out)
  rw [HL8.out]
  have hI8 := hS.row
  replace p0 := (hk8.cell (p := ⟨bb, off + i * 4, none⟩) hbw).trans p0
  replace p1 := (hk8.cell (p := ⟨bb, off + i * 4 + 1, none⟩) hbw).trans p1
  replace p2 := (hk8.cell (p := ⟨bb, off + i * 4 + 2, none⟩) hbw).trans p2
  replace p3 := (hk8.cell (p := ⟨bb, off + i * 4 + 3, none⟩) hbw).trans p3
  have hb8 := hb.nx hk8
  have hnx8 := hnx.trans hk8
  have hc8 := hI.below hk8 (Nat.le_refl _)
  have hch8 := (hchw.below hk8 (Nat.le_refl _)).more hk8.size
  have hsz8 := hk8.size
  clear y0 y1 y2 y3 y4 y5 y6 y7 hb hI hchw hcl hS
  obtain ⟨y0, y1, y2, y3, y4, y5, y6, y7⟩ := hb8.e8
  obtain ⟨bj, Hbj⟩ : ∃ bj, Hid (app pO cj cs = bj) := ⟨_, rfl⟩
  rw [Hbj.out] at hI8 HL8 Hsuc
  rw [Hbj.out] at HNb
  rw [HL8.out] at hI8
  have hI8' : Ins w8 w8.heap.size A8 bj := by unfold Ins; rw [HL8.out]; exact hI8
  go_wp2_with fail
  have hcl := l03Forward_c A8 c8 w8.heap.size bj f t9 m Am cm cs w8 hI8' hch8 (Nat.le_refl _) HOKc.out HL8.out
  rw [HL8.out] at hcl
  refine hcl.mono ?_
  rintro e w10 ⟨A9, c9, rfl, hS, hk10⟩
  have HL9 : Hid ((app pN bj cs).length = 8) := Lib.hid (by rw [app_len]; exact HL8.out)
  rw [HL9.out]
  have hIn := hS.row
  obtain ⟨fj, Hfj⟩ : ∃ fj, Hid (app pN bj cs = fj) := ⟨_, rfl⟩
  rw [Hfj.out] at hIn HL9
  rw [Hfj.out] at HNb
  have hb10 := hb8.nx hk10
  have hnx10 := hnx8.trans hk10
  have hcA := (hc8.below hk10 hsz8).more (Nat.le_trans hsz8 hk10.size)
  have hI10 := hI8'.below hk10 (Nat.le_refl _)
  have hsz10 := hk10.size
  clear y0 y1 y2 y3 y4 y5 y6 y7 hcl hS p0 p1 p2 p3 hch8 hb8 hc8 hI8 hI8'
  go_wp2_with fail
  refine (l05Same_c A9 Ac c9 cc w10.heap.size fj cj w10 hIn hcA (Nat.le_refl _) HL9.out HLj.out).mono ?_
  rintro e w11 ⟨rfl, hk11⟩
  have hb11 := hb10.nx hk11
  have hnx11 := hnx10.trans hk11
  have hI11 := (hI10.below hk11 hsz10).more (Nat.le_trans hsz10 hk11.size)
  rw [← HNb.out]
  clear hb10 hnx10 hcA hI10 hIn
  cases ho : newB cj ⟨f, t9, m, Am, cm, cs⟩ with
  | false =>
    have HR := Lib.hid (HNo.out (.inr (.inr (.inr (.inr (.inr (.inr (HFn.out ho))))))))
    clear ho HFs HFn
    go_wp2
    go_ret
    exact ⟨ret_bool HR.out.symm, hnx11⟩
  | true =>
  have HFs' := Lib.hid (HFs.out ho)
  clear ho HFs HFn
  have HIn := Lib.hid (show Ins w11 w11.heap.size A8 (bkK c0 gs at9 (j + 1)) by rw [Hsuc.out]; exact hI11)
  go_wp2
  go_roundw
  case rel => exact ⟨i, by omega, rfl, ⟨_, _, rfl, by rw [show at9 - i = j + 1 by have := Hj.out; have := HKA.out; omega]; exact HIn.out⟩, by rw [show at9 - i = j + 1 by have := Hj.out; have := HKA.out; omega]; exact HFs'.out, hnx11, hb11⟩
  case measure => (simp [intOf] <;> omega)
end Go.Proofs.YtehahodomfbpjaaGreatDoor
