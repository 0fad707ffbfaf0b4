/-
  Contracts of the model: the content that is known, and its position.
  Conditions: what is read can be read, and holds at most 1048576 elements of a kind.
-/
import Derived.Test.YtihpadelfpogmaaVst
import Derived.Test.YtihpadelfpogmaaPln
namespace Go.Proofs.Ytihpadelfpogmaa
set_option linter.unusedVariables false
set_option maxRecDepth 100000
open Go.RowKit

/-- What a function leaves that answers a content which is there, and a number. -/
def RetAn (w : World) (ys : List Int) (n : Int) (e : Ending) (w' : World) : Prop := ∃ (A : Option Addr) (c : Nat), e = .returned (.tuple #[.slice A 8 c, .int .i64 n]) ∧ Ins w' w'.heap.size A ys ∧ Nx w w'
set_option maxHeartbeats 4000000 in
theorem l05Anchor_c (V : Vl) (B : Nat) (w : World) (h : Vlt w B V) (hB : B ≤ w.heap.size) (hn : VlN V 1048576) (hl : Lead V.b V.gs) (hc : V.im.length = 8) (hp : isRet V.b V.gs V.p = true) (hd : (V.p < V.t → ahd V.b V.gs V.p < V.gs.length) ∧ (V.t < V.p → 0 < ahd V.b V.gs V.p)) :
    Calls Try.prog 74 #[V.v] w (RetAn w (stp V.b V.p V.t V.gs V.im).1 (atK V.b V.gs (stp V.b V.p V.t V.gs V.im).2)) := by
  have HST := Lib.hid (l05Step_c V B)
  obtain ⟨g, b, p, t, A, c, xs, A2, c2, ms, A3, c3, gs, A4, c4, im⟩ := V
  obtain ⟨h, h2, h3, h4⟩ := h
  obtain ⟨hn, hn2, hn3, hn4, hn5⟩ := hn
  simp only [Vl.v, Vl.cells] at *
  obtain ⟨a, Ha⟩ : ∃ a, Hid (ahd b gs p = a) := ⟨_, rfl⟩
  have ha := ahd_at hp
  have HD := Lib.hid hd
  have HPx := Lib.hid hp
  have HLd := Lib.hid hl
  have HNN : Hid (VlN ⟨g, b, p, t, A, c, xs, A2, c2, ms, A3, c3, gs, A4, c4, im⟩ 1048576) := Lib.hid ⟨hn, hn2, hn3, hn4, hn5⟩
  have HVT := Lib.hid (fun (w' : World) (hx : Nx w w') => (⟨h.below hx hB, h2.below hx hB, h3.below hx hB, h4.below hx hB⟩ : Vlt w' B ⟨g, b, p, t, A, c, xs, A2, c2, ms, A3, c3, gs, A4, c4, im⟩))
  have Hstp : Hid (stp b p t gs im = if p < t then (app pN im (gs.getD a sgZ).cs, a + 1) else if t < p then (app pO im (gs.getD (a - 1) sgZ).cs, a - 1) else (im, a)) := Lib.hid (by rw [← Ha.out]; rfl)
  have HsI : Hid (stI b p t gs = if p < t then ((a : Int), true) else if t < p then ((a : Int) - 1, false) else (-1, false)) := Lib.hid (by rw [← Ha.out]; rfl)
  rw [Ha.out] at ha hd
  obtain ⟨n, Hn⟩ : ∃ n, Hid (gs.length = n) := ⟨_, rfl⟩
  have h3' : ∀ k, k < n → _ := fun k hk w' B' hw hB' => ((h3.below (w' := w') (B' := B') hw hB').row.at4 (k := k) (by rw [Hn.out]; exact hk))
  have h3c : ∀ k, k < n → _ := fun k hk => h3.chs k (by rw [Hn.out]; exact hk)
  have HF := Lib.hid (fun k (hk : k < n) => hl.from_ k (by rw [Hn.out]; exact hk))
  have HOKs := Lib.hid (fun k (hk : k < n) => hl.ok k (by rw [Hn.out]; exact hk))
  have HA := Lib.hid ha.2
  have ha1 := ha.1
  have H8 := Lib.hid hc
  rw [Hn.out] at hn3 hd ha1
  rw [H8.out] at hn5
  have b0 := Box.new w 36 #[.int .i64 g, .int .i64 b, .int .i64 p, .int .i64 t, .slice A xs.length c, .slice A2 ms.length c2, .slice A3 n c3, .slice A4 8 c4]
  have hx0 := (Nx.refl w).alloc (.cells #[.int .i64 g, .int .i64 b, .int .i64 p, .int .i64 t, .slice A xs.length c, .slice A2 ms.length c2, .slice A3 n c3, .slice A4 8 c4] 36)
  clear hl hp ha h3 hc hn4
  have Hcall := Lib.hid (fun (w' : World) (hx : Nx w w') => HST.out w' (HVT.out w' hx) (Nat.le_trans hB hx.size) HNN.out HLd.out HPx.out HD.out)
  rw [Hn.out, H8.out] at Hcall
  clear HST
  go_enter Try.func74, Try.ntmps74
  rw [Hn.out, H8.out]
  go_wp2_with fail
  generalize w.alloc (.cells #[.int .i64 g, .int .i64 b, .int .i64 p, .int .i64 t, .slice A xs.length c, .slice A2 ms.length c2, .slice A3 n c3, .slice A4 8 c4] 36) = W at *
  refine (Hcall.out W hx0).mono ?_
  rintro e w1 ⟨rfl, hx1⟩
  rw [HsI.out]
  replace hx0 := hx0.trans hx1
  have b1 := b0.nx hx1
  clear b0 hx1 Hcall
  by_cases hlt : p < t
  · rw [if_pos hlt]
    have HSB := Lib.hid (show stp b p t gs im = (app pN im (gs.getD a sgZ).cs, a + 1) by rw [Hstp.out, if_pos hlt])
    have han := hd.1 hlt
    clear hd hlt
    obtain ⟨k, Hk⟩ : ∃ k, Hid (a = k) := ⟨_, rfl⟩
    have hkn : k < n := by have := Hk.out; omega
    have hak : (a : Int) = (k : Int) := by have := Hk.out; omega
    rw [hak]
    clear hak
    have hk9 : decide ((k : Int) < 0) = false := decide_eq_false (by omega)
    have hk0 : (0 : Int) ≤ (k : Int) := by omega
    have hk1 : (k : Int) < (n : Int) := by omega
    have hF := HF.out k hkn
    have hT : (gs.getD k sgZ).t = atK b gs (k + 1) := rfl
    have HOK := Lib.hid (HOKs.out k hkn)
    have hch := h3c k hkn
    obtain ⟨bb, off, rfl, hbb, p0, p1, p2, p3⟩ := h3' k hkn _ _ hx0 hB
    have HEQ := Lib.hid ((rfl : app pN im (gs.getD k sgZ).cs = app pN im (gs.getD k sgZ).cs))
    obtain ⟨⟨f, t9, m, Ac, cc, cs⟩, Hs⟩ : ∃ s, Hid (gs.getD k sgZ = s) := ⟨_, rfl⟩
    rw [Hs.out] at p0 p1 p2 p3 hF hT hch HOK HEQ
    simp only at p0 p1 p2 p3 hF hT hch HOK HEQ
    obtain ⟨ys, Hys⟩ : ∃ ys, Hid (app pN im cs = ys) := ⟨_, rfl⟩
    have HLA : Hid (ys.length = 8) := Lib.hid (by rw [← Hys.out, app_len, H8.out])
    have HFT := Lib.hid hF
    have HTT := Lib.hid hT
    clear hF hT
    go_wp2_with fail
    have hbd := b1.nx (Nx.refl _).drew
    have hx2 := hx0.drew
    have hxc := hx2
    have hbw : bb < w1.drew.heap.size := Nat.lt_of_lt_of_le hbb (Nat.le_trans hB hx2.size)
    refine wp_region_plan (.t 0 (.t 1 (.t 2 (.t 3 (.t 4 (.t 5 (.t 6 (.t 8 (.t 9 (.t 10 (.t 11 (.t 12 (.t 13 (.c 7 (.t 14 (.t 15 .e)))))))))))))))) (fun w' => (w'.cell? ⟨w.heap.size, 0, none⟩ = some (.int .i64 g) ∧ w'.cell? ⟨w.heap.size, 1, none⟩ = some (.int .i64 b) ∧ w'.cell? ⟨w.heap.size, 2, none⟩ = some (.int .i64 p) ∧ w'.cell? ⟨w.heap.size, 3, none⟩ = some (.int .i64 t) ∧ w'.cell? ⟨w.heap.size, 4, none⟩ = some (.slice A xs.length c) ∧ w'.cell? ⟨w.heap.size, 5, none⟩ = some (.slice A2 ms.length c2) ∧ w'.cell? ⟨w.heap.size, 6, none⟩ = some (.slice (some ⟨bb, off, none⟩) n c3) ∧ w'.cell? ⟨w.heap.size, 7, none⟩ = some (.slice A4 8 c4)) ∧ w'.cell? ⟨bb, off + k * 4, none⟩ = some (.int .i64 f) ∧ w'.cell? ⟨bb, off + k * 4 + 1, none⟩ = some (.int .i64 t9) ∧ w'.cell? ⟨bb, off + k * 4 + 2, none⟩ = some (.int .i64 m) ∧ w'.cell? ⟨bb, off + k * 4 + 3, none⟩ = some (.slice Ac cs.length cc)) (by kernel_rfl) (by kernel_rfl) rfl (by kernel_rfl) (fun _ _ d _ _ h => by cases d <;> exact h) (by exact ⟨hbd.e8, p0, p1, p2, p3⟩) ?_
    simp only [psOf, List.getD_cons_zero, List.getD_cons_succ]
    repeat (first | (refine HP.take (v := ?_) (by rfl) ?_ ?_; rotate_left; (· (intro w hSw; (try dsimp only at hSw); go_simp; try with_reducible rfl)); (try simp only [Act.put, List.setIfInBounds_toArray, List.set_cons_zero, List.set_cons_succ])) | (refine HP.skip (by rfl) ?_; (try simp only [Act.put, List.setIfInBounds_toArray, List.set_cons_zero, List.set_cons_succ])))
    refine HP.call ?_
    refine CallStep.mk (by rfl) (fun K hK => ?_)
    go_simp
    have hcl := l03Forward_c A4 c4 B im f t9 m Ac cc cs _ (h4.below hx2 hB) (hch.below hxc hB) (Nat.le_trans hB hx2.size) HOK.out H8.out; rw [H8.out] at hcl; refine hcl.mono ?_; rintro e w2 ⟨A9, c9, rfl, hS9, hx3⟩; clear hcl; have hb2 := hbd.nx hx3; replace p0 := (hx3.cell (p := ⟨bb, off + k * 4, none⟩) hbw).trans p0; replace p1 := (hx3.cell (p := ⟨bb, off + k * 4 + 1, none⟩) hbw).trans p1; replace p2 := (hx3.cell (p := ⟨bb, off + k * 4 + 2, none⟩) hbw).trans p2; replace p3 := (hx3.cell (p := ⟨bb, off + k * 4 + 3, none⟩) hbw).trans p3; have hX3 := hx2.trans hx3; rw [Hys.out] at hS9 ⊢; rw [HLA.out]
    go_wp2_with fail
    refine hK.out _ _ (by exact ⟨hb2.e8, p0, p1, p2, p3⟩) ?_
    clear hK K
    try simp only [Act.put, List.setIfInBounds_toArray, List.set_cons_zero, List.set_cons_succ]
    repeat (first | (refine HP.take (v := ?_) (by rfl) ?_ ?_; rotate_left; (· (intro w hSw; (try dsimp only at hSw); go_simp; try with_reducible rfl)); (try simp only [Act.put, List.setIfInBounds_toArray, List.set_cons_zero, List.set_cons_succ])) | (refine HP.skip (by rfl) ?_; (try simp only [Act.put, List.setIfInBounds_toArray, List.set_cons_zero, List.set_cons_succ])))
    refine HP.done ?_
    go_wp2
    exact bodyPost_ret (v := .tuple #[.slice A9 8 c9, .int .i64 t9]) (by simp [results, Try.results74, go_sem]) rfl ⟨A9, c9, by rw [HSB.out, HTT.out, ← Hk.out], by rw [HSB.out]; show Ins _ _ _ (app pN im (gs.getD a sgZ).cs); rw [Hk.out, Hs.out]; show Ins _ _ _ (app pN im cs); rw [Hys.out]; exact hS9.row, hX3⟩
  by_cases hgt : t < p
  · rw [if_neg hlt, if_pos hgt]
    have HSB := Lib.hid (show stp b p t gs im = (app pO im (gs.getD (a - 1) sgZ).cs, a - 1) by rw [Hstp.out, if_neg hlt, if_pos hgt])
    have han := hd.2 hgt
    clear hd hlt hgt
    obtain ⟨k, Hk⟩ : ∃ k, Hid (a - 1 = k) := ⟨_, rfl⟩
    have hkn : k < n := by have := Hk.out; omega
    have hak : (a : Int) - 1 = (k : Int) := by have := Hk.out; omega
    rw [hak]
    clear hak
    have hk9 : decide ((k : Int) < 0) = false := decide_eq_false (by omega)
    have hk0 : (0 : Int) ≤ (k : Int) := by omega
    have hk1 : (k : Int) < (n : Int) := by omega
    have hF := HF.out k hkn
    have hT : (gs.getD k sgZ).t = atK b gs (k + 1) := rfl
    have HOK := Lib.hid (HOKs.out k hkn)
    have hch := h3c k hkn
    obtain ⟨bb, off, rfl, hbb, p0, p1, p2, p3⟩ := h3' k hkn _ _ hx0 hB
    have HEQ := Lib.hid ((rfl : app pO im (gs.getD k sgZ).cs = app pO im (gs.getD k sgZ).cs))
    obtain ⟨⟨f, t9, m, Ac, cc, cs⟩, Hs⟩ : ∃ s, Hid (gs.getD k sgZ = s) := ⟨_, rfl⟩
    rw [Hs.out] at p0 p1 p2 p3 hF hT hch HOK HEQ
    simp only at p0 p1 p2 p3 hF hT hch HOK HEQ
    obtain ⟨ys, Hys⟩ : ∃ ys, Hid (app pO im cs = ys) := ⟨_, rfl⟩
    have HLA : Hid (ys.length = 8) := Lib.hid (by rw [← Hys.out, app_len, H8.out])
    have HFT := Lib.hid hF
    have HTT := Lib.hid hT
    clear hF hT
    go_wp2_with fail
    have hbd := b1.nx (Nx.refl _).drew
    have hx2 := hx0.drew
    have hxc := hx2
    have hbw : bb < w1.drew.heap.size := Nat.lt_of_lt_of_le hbb (Nat.le_trans hB hx2.size)
    refine wp_region_plan (.t 0 (.t 1 (.t 2 (.t 3 (.t 4 (.t 5 (.t 6 (.t 8 (.t 9 (.t 10 (.t 11 (.t 12 (.t 13 (.c 7 (.t 14 (.t 15 .e)))))))))))))))) (fun w' => (w'.cell? ⟨w.heap.size, 0, none⟩ = some (.int .i64 g) ∧ w'.cell? ⟨w.heap.size, 1, none⟩ = some (.int .i64 b) ∧ w'.cell? ⟨w.heap.size, 2, none⟩ = some (.int .i64 p) ∧ w'.cell? ⟨w.heap.size, 3, none⟩ = some (.int .i64 t) ∧ w'.cell? ⟨w.heap.size, 4, none⟩ = some (.slice A xs.length c) ∧ w'.cell? ⟨w.heap.size, 5, none⟩ = some (.slice A2 ms.length c2) ∧ w'.cell? ⟨w.heap.size, 6, none⟩ = some (.slice (some ⟨bb, off, none⟩) n c3) ∧ w'.cell? ⟨w.heap.size, 7, none⟩ = some (.slice A4 8 c4)) ∧ w'.cell? ⟨bb, off + k * 4, none⟩ = some (.int .i64 f) ∧ w'.cell? ⟨bb, off + k * 4 + 1, none⟩ = some (.int .i64 t9) ∧ w'.cell? ⟨bb, off + k * 4 + 2, none⟩ = some (.int .i64 m) ∧ w'.cell? ⟨bb, off + k * 4 + 3, none⟩ = some (.slice Ac cs.length cc)) (by kernel_rfl) (by kernel_rfl) rfl (by kernel_rfl) (fun _ _ d _ _ h => by cases d <;> exact h) (by exact ⟨hbd.e8, p0, p1, p2, p3⟩) ?_
    simp only [psOf, List.getD_cons_zero, List.getD_cons_succ]
    repeat (first | (refine HP.take (v := ?_) (by rfl) ?_ ?_; rotate_left; (· (intro w hSw; (try dsimp only at hSw); go_simp; try with_reducible rfl)); (try simp only [Act.put, List.setIfInBounds_toArray, List.set_cons_zero, List.set_cons_succ])) | (refine HP.skip (by rfl) ?_; (try simp only [Act.put, List.setIfInBounds_toArray, List.set_cons_zero, List.set_cons_succ])))
    refine HP.call ?_
    refine CallStep.mk (by rfl) (fun K hK => ?_)
    go_simp
    have hcl := l03Backward_c A4 c4 B im f t9 m Ac cc cs _ (h4.below hx2 hB) (hch.below hxc hB) (Nat.le_trans hB hx2.size) HOK.out H8.out; rw [H8.out] at hcl; refine hcl.mono ?_; rintro e w2 ⟨A9, c9, rfl, hS9, hx3⟩; clear hcl; have hb2 := hbd.nx hx3; replace p0 := (hx3.cell (p := ⟨bb, off + k * 4, none⟩) hbw).trans p0; replace p1 := (hx3.cell (p := ⟨bb, off + k * 4 + 1, none⟩) hbw).trans p1; replace p2 := (hx3.cell (p := ⟨bb, off + k * 4 + 2, none⟩) hbw).trans p2; replace p3 := (hx3.cell (p := ⟨bb, off + k * 4 + 3, none⟩) hbw).trans p3; have hX3 := hx2.trans hx3; rw [Hys.out] at hS9 ⊢; rw [HLA.out]
    go_wp2_with fail
    refine hK.out _ _ (by exact ⟨hb2.e8, p0, p1, p2, p3⟩) ?_
    clear hK K
    try simp only [Act.put, List.setIfInBounds_toArray, List.set_cons_zero, List.set_cons_succ]
    repeat (first | (refine HP.take (v := ?_) (by rfl) ?_ ?_; rotate_left; (· (intro w hSw; (try dsimp only at hSw); go_simp; try with_reducible rfl)); (try simp only [Act.put, List.setIfInBounds_toArray, List.set_cons_zero, List.set_cons_succ])) | (refine HP.skip (by rfl) ?_; (try simp only [Act.put, List.setIfInBounds_toArray, List.set_cons_zero, List.set_cons_succ])))
    refine HP.done ?_
    go_wp2
    exact bodyPost_ret (v := .tuple #[.slice A9 8 c9, .int .i64 f]) (by simp [results, Try.results74, go_sem]) rfl ⟨A9, c9, by rw [HSB.out, HFT.out, ← Hk.out], by rw [HSB.out]; show Ins _ _ _ (app pO im (gs.getD (a - 1) sgZ).cs); rw [Hk.out, Hs.out]; show Ins _ _ _ (app pO im cs); rw [Hys.out]; exact hS9.row, hX3⟩
  rw [if_neg hlt, if_neg hgt]
  have HSB := Lib.hid (show stp b p t gs im = (im, a) by rw [Hstp.out, if_neg hlt, if_neg hgt])
  clear hd hlt hgt
  have hbd := b1.nx (Nx.refl _).drew
  have hx2 := hx0.drew
  have q8 := b1.e8
  obtain ⟨_, _, y2, _, _, _, _, y7⟩ := q8
  go_wp2_with fail
  refine wp_region_lex [false, false, false, false, false, false, false] (fun w' => w'.cell? ⟨w.heap.size, 0, none⟩ = some (.int .i64 g) ∧ w'.cell? ⟨w.heap.size, 1, none⟩ = some (.int .i64 b) ∧ w'.cell? ⟨w.heap.size, 2, none⟩ = some (.int .i64 p) ∧ w'.cell? ⟨w.heap.size, 3, none⟩ = some (.int .i64 t) ∧ w'.cell? ⟨w.heap.size, 4, none⟩ = some (.slice A xs.length c) ∧ w'.cell? ⟨w.heap.size, 5, none⟩ = some (.slice A2 ms.length c2) ∧ w'.cell? ⟨w.heap.size, 6, none⟩ = some (.slice A3 n c3) ∧ w'.cell? ⟨w.heap.size, 7, none⟩ = some (.slice A4 8 c4)) (by kernel_rfl) (by kernel_rfl) rfl (by kernel_rfl) (fun _ _ d _ _ h => by cases d <;> exact h) (by exact hbd.e8) ?_
  repeat (first | (refine HL.take (v := ?_) (by rfl) ?_ ?_; rotate_left; (· (intro w hSw; (try dsimp only at hSw); go_simp; try with_reducible rfl)); (try simp only [Act.put, List.setIfInBounds_toArray, List.set_cons_zero, List.set_cons_succ])) | (refine HL.skip (by rfl) ?_; (try simp only [Act.put, List.setIfInBounds_toArray, List.set_cons_zero, List.set_cons_succ])))
  refine HL.done ?_
  go_wp2
  exact bodyPost_ret (v := .tuple #[.slice A4 8 c4, .int .i64 p]) (by simp [results, Try.results74, go_sem]) rfl ⟨A4, c4, by rw [HSB.out, HA.out], by rw [HSB.out]; exact (h4.below hx2 hB).more (Nat.le_trans hB hx2.size), hx2⟩
end Go.Proofs.Ytihpadelfpogmaa
