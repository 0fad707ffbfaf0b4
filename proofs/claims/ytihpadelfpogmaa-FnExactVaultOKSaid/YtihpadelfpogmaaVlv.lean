/-
  Vaults in memory; contracts of the laws' functions that make vaults; a vault that comes in, opened.
  Conditions: what is read can be read; copied or compared: at most 1048576 elements of a kind.
-/
import Derived.Test.YtihpadelfpogmaaVlm
namespace Go.Proofs.Ytihpadelfpogmaa
set_option linter.unusedVariables false
set_option maxRecDepth 100000
open Go.Joins Go.ChangeShapes Go.WideShapes Go.RowKit Go.Deep


set_option maxHeartbeats 4000000 in
theorem toVault_c (V : Vl) (B : Nat) (w : World) (h : Vlt w B V) (hB : B ≤ w.heap.size) (hn : VlN V 1048576) :
    Calls Try.prog 16 #[V.v] w (RetVl w V) := by
  obtain ⟨g, b, p, t, A, c, xs, A2, c2, ms, A3, c3, gs, A4, c4, im⟩ := V
  obtain ⟨h, h2, h3, h4⟩ := h
  obtain ⟨hn, hn2, hn3, hn4, hn5⟩ := hn
  simp only [Vl.v, Vl.cells] at *
  have b0 := ((Box.new w 28 #[.int .i64 g, .int .i64 b, .int .i64 p, .int .i64 t, .slice A xs.length c, .slice A2 ms.length c2, .slice A3 gs.length c3, .slice A4 im.length c4]).alloc (.cells #[.int .i64 0, .int .i64 0, .int .i64 0, .int .i64 0, .slice none 0 0, .slice none 0 0, .slice none 0 0, .slice none 0 0] 36)).alloc (.cells #[.int .i64 0, .int .i64 0, .int .i64 0, .int .i64 0, .slice none 0 0, .slice none 0 0, .slice none 0 0, .slice none 0 0] 36)
  have b1 := (Box.new (w.alloc (.cells #[.int .i64 g, .int .i64 b, .int .i64 p, .int .i64 t, .slice A xs.length c, .slice A2 ms.length c2, .slice A3 gs.length c3, .slice A4 im.length c4] 28)) 36 #[.int .i64 0, .int .i64 0, .int .i64 0, .int .i64 0, .slice none 0 0, .slice none 0 0, .slice none 0 0, .slice none 0 0]).alloc (.cells #[.int .i64 0, .int .i64 0, .int .i64 0, .int .i64 0, .slice none 0 0, .slice none 0 0, .slice none 0 0, .slice none 0 0] 36)
  have b2 := Box.new ((w.alloc (.cells #[.int .i64 g, .int .i64 b, .int .i64 p, .int .i64 t, .slice A xs.length c, .slice A2 ms.length c2, .slice A3 gs.length c3, .slice A4 im.length c4] 28)).alloc (.cells #[.int .i64 0, .int .i64 0, .int .i64 0, .int .i64 0, .slice none 0 0, .slice none 0 0, .slice none 0 0, .slice none 0 0] 36)) 36 #[.int .i64 0, .int .i64 0, .int .i64 0, .int .i64 0, .slice none 0 0, .slice none 0 0, .slice none 0 0, .slice none 0 0]
  have hx0 := (((Nx.refl w).alloc (.cells #[.int .i64 g, .int .i64 b, .int .i64 p, .int .i64 t, .slice A xs.length c, .slice A2 ms.length c2, .slice A3 gs.length c3, .slice A4 im.length c4] 28)).alloc (.cells #[.int .i64 0, .int .i64 0, .int .i64 0, .int .i64 0, .slice none 0 0, .slice none 0 0, .slice none 0 0, .slice none 0 0] 36)).alloc (.cells #[.int .i64 0, .int .i64 0, .int .i64 0, .int .i64 0, .slice none 0 0, .slice none 0 0, .slice none 0 0, .slice none 0 0] 36)
  have hsz : (((w.alloc (.cells #[.int .i64 g, .int .i64 b, .int .i64 p, .int .i64 t, .slice A xs.length c, .slice A2 ms.length c2, .slice A3 gs.length c3, .slice A4 im.length c4] 28)).alloc (.cells #[.int .i64 0, .int .i64 0, .int .i64 0, .int .i64 0, .slice none 0 0, .slice none 0 0, .slice none 0 0, .slice none 0 0] 36)).alloc (.cells #[.int .i64 0, .int .i64 0, .int .i64 0, .int .i64 0, .slice none 0 0, .slice none 0 0, .slice none 0 0, .slice none 0 0] 36)).heap.size = w.heap.size + 1 + 1 + 1 := by simp only [World.size_alloc]
  simp only [World.size_alloc] at b1 b2
  go_enter Try.func16, Try.ntmps16
  go_wp2_with fail
  generalize (((w.alloc (.cells #[.int .i64 g, .int .i64 b, .int .i64 p, .int .i64 t, .slice A xs.length c, .slice A2 ms.length c2, .slice A3 gs.length c3, .slice A4 im.length c4] 28)).alloc (.cells #[.int .i64 0, .int .i64 0, .int .i64 0, .int .i64 0, .slice none 0 0, .slice none 0 0, .slice none 0 0, .slice none 0 0] 36)).alloc (.cells #[.int .i64 0, .int .i64 0, .int .i64 0, .int .i64 0, .slice none 0 0, .slice none 0 0, .slice none 0 0, .slice none 0 0] 36)) = W at *
  have Hsz := Lib.hid hsz
  clear hsz
  refine (toSuper_c g b p t A A2 c c2 B xs ms _ (h.below hx0 hB) (h2.below hx0 hB) (Nat.le_trans hB hx0.size) hn hn2).mono ?_
  rintro e w1 ⟨B1, d1, B2, d2, rfl, hd1, hS1, hM1, hnx1⟩
  have HD1 := Lib.hid hd1
  clear hd1
  have q0 := b0.nx hnx1
  have q1 := b1.nx hnx1
  have q2 := b2.nx hnx1
  have hx1 := hx0.trans hnx1
  have hl2 := q2.lt
  obtain ⟨m0, m1, m2, m3, m4, m5, m6, m7⟩ := q2.e8
  have mf0 := q2.frozen 0
  have mf1 := q2.frozen 1
  have mf2 := q2.frozen 2
  have mf3 := q2.frozen 3
  have mf4 := q2.frozen 4
  have mf5 := q2.frozen 5
  obtain ⟨_, _, _, _, _, _, y6, y7⟩ := q0.e8
  clear b0 b1 b2 hx0 hnx1
  go_wp2_with fail
  have r2 := ((((((q2.set 0 (.int .i64 g)).set 1 (.int .i64 b)).set 2 (.int .i64 p)).set 3 (.int .i64 t)).set 4 (.slice B1 xs.length d1)).set 5 (.slice B2 ms.length d2))
  simp only [List.setIfInBounds_toArray, List.set_cons_zero, List.set_cons_succ] at r2
  have r1 := ((((((q1.far (p := ⟨w.heap.size + 1 + 1, 0, none⟩) (by simp) (.int .i64 g)).far (p := ⟨w.heap.size + 1 + 1, 1, none⟩) (by simp) (.int .i64 b)).far (p := ⟨w.heap.size + 1 + 1, 2, none⟩) (by simp) (.int .i64 p)).far (p := ⟨w.heap.size + 1 + 1, 3, none⟩) (by simp) (.int .i64 t)).far (p := ⟨w.heap.size + 1 + 1, 4, none⟩) (by simp) (.slice B1 xs.length d1)).far (p := ⟨w.heap.size + 1 + 1, 5, none⟩) (by simp) (.slice B2 ms.length d2))
  have r0 := ((((((q0.far (p := ⟨w.heap.size + 1 + 1, 0, none⟩) (by simp; try omega) (.int .i64 g)).far (p := ⟨w.heap.size + 1 + 1, 1, none⟩) (by simp; try omega) (.int .i64 b)).far (p := ⟨w.heap.size + 1 + 1, 2, none⟩) (by simp; try omega) (.int .i64 p)).far (p := ⟨w.heap.size + 1 + 1, 3, none⟩) (by simp; try omega) (.int .i64 t)).far (p := ⟨w.heap.size + 1 + 1, 4, none⟩) (by simp; try omega) (.slice B1 xs.length d1)).far (p := ⟨w.heap.size + 1 + 1, 5, none⟩) (by simp; try omega) (.slice B2 ms.length d2))
  have s1 := ((((((hS1.far (p := ⟨w.heap.size + 1 + 1, 0, none⟩) (by have := Hsz.out; simp; omega) (.int .i64 g)).far (p := ⟨w.heap.size + 1 + 1, 1, none⟩) (by have := Hsz.out; simp; omega) (.int .i64 b)).far (p := ⟨w.heap.size + 1 + 1, 2, none⟩) (by have := Hsz.out; simp; omega) (.int .i64 p)).far (p := ⟨w.heap.size + 1 + 1, 3, none⟩) (by have := Hsz.out; simp; omega) (.int .i64 t)).far (p := ⟨w.heap.size + 1 + 1, 4, none⟩) (by have := Hsz.out; simp; omega) (.slice B1 xs.length d1)).far (p := ⟨w.heap.size + 1 + 1, 5, none⟩) (by have := Hsz.out; simp; omega) (.slice B2 ms.length d2))
  have t1 := ((((((hM1.far (p := ⟨w.heap.size + 1 + 1, 0, none⟩) (by have := Hsz.out; simp; omega) (.int .i64 g)).far (p := ⟨w.heap.size + 1 + 1, 1, none⟩) (by have := Hsz.out; simp; omega) (.int .i64 b)).far (p := ⟨w.heap.size + 1 + 1, 2, none⟩) (by have := Hsz.out; simp; omega) (.int .i64 p)).far (p := ⟨w.heap.size + 1 + 1, 3, none⟩) (by have := Hsz.out; simp; omega) (.int .i64 t)).far (p := ⟨w.heap.size + 1 + 1, 4, none⟩) (by have := Hsz.out; simp; omega) (.slice B1 xs.length d1)).far (p := ⟨w.heap.size + 1 + 1, 5, none⟩) (by have := Hsz.out; simp; omega) (.slice B2 ms.length d2))
  have hx2 := ((((((hx1.setCell (p := ⟨w.heap.size + 1 + 1, 0, none⟩) (by simp; omega) (.int .i64 g)).setCell (p := ⟨w.heap.size + 1 + 1, 1, none⟩) (by simp; omega) (.int .i64 b)).setCell (p := ⟨w.heap.size + 1 + 1, 2, none⟩) (by simp; omega) (.int .i64 p)).setCell (p := ⟨w.heap.size + 1 + 1, 3, none⟩) (by simp; omega) (.int .i64 t)).setCell (p := ⟨w.heap.size + 1 + 1, 4, none⟩) (by simp; omega) (.slice B1 xs.length d1)).setCell (p := ⟨w.heap.size + 1 + 1, 5, none⟩) (by simp; omega) (.slice B2 ms.length d2))
  generalize ((((((w1.setCell ⟨w.heap.size + 1 + 1, 0, none⟩ (.int .i64 g)).setCell ⟨w.heap.size + 1 + 1, 1, none⟩ (.int .i64 b)).setCell ⟨w.heap.size + 1 + 1, 2, none⟩ (.int .i64 p)).setCell ⟨w.heap.size + 1 + 1, 3, none⟩ (.int .i64 t)).setCell ⟨w.heap.size + 1 + 1, 4, none⟩ (.slice B1 xs.length d1)).setCell ⟨w.heap.size + 1 + 1, 5, none⟩ (.slice B2 ms.length d2)) = W2 at *
  clear q0 q1 q2 hx1 hS1 hM1 m0 m1 m2 m3 m4 m5 m6 m7 mf0 mf1 mf2 mf3 mf4 mf5 y6 y7 hl2
  have hlW2 := r2.lt
  refine (toSegSc_c A3 c3 B gs _ (h3.below hx2 hB) (Nat.le_trans hB hx2.size) hn3 hn4).mono ?_
  rintro e w3 ⟨B3, d3, gs9, rfl, hv9, hc9, hS9, hnx3⟩
  have HC9 := Lib.hid hc9
  clear hc9
  have Hv := Lib.hid hv9
  clear hv9
  replace r0 := r0.nx hnx3
  replace r1 := r1.nx hnx3
  replace r2 := r2.nx hnx3
  replace s1 := s1.nx hnx3
  replace t1 := t1.nx hnx3
  have hx3 := hx2.trans hnx3
  have hl2 := r2.lt
  have hW2 := hx2.size
  clear hx2 hnx3
  obtain ⟨_, _, _, _, _, _, y6, y7⟩ := r0.e8
  obtain ⟨m0, m1, m2, m3, m4, m5, m6, m7⟩ := r2.e8
  have mf6 := r2.frozen 6
  go_wp2_with fail
  have r2' := r2.set 6 (.slice B3 gs9.length d3)
  simp only [List.setIfInBounds_toArray, List.set_cons_zero, List.set_cons_succ] at r2'
  have r1' := r1.far (p := ⟨w.heap.size + 1 + 1, 6, none⟩) (by simp) (.slice B3 gs9.length d3)
  have r0' := r0.far (p := ⟨w.heap.size + 1 + 1, 6, none⟩) (by simp; try omega) (.slice B3 gs9.length d3)
  have s1' := s1.far (p := ⟨w.heap.size + 1 + 1, 6, none⟩) (by have := Hsz.out; simp; omega) (.slice B3 gs9.length d3)
  have t1' := t1.far (p := ⟨w.heap.size + 1 + 1, 6, none⟩) (by have := Hsz.out; simp; omega) (.slice B3 gs9.length d3)
  have u1' := Sl.far_sg hS9 (p := ⟨w.heap.size + 1 + 1, 6, none⟩) (by have := Hsz.out; simp; omega) (.slice B3 gs9.length d3)
  have hx4 := hx3.setCell (p := ⟨w.heap.size + 1 + 1, 6, none⟩) (by simp; omega) (.slice B3 gs9.length d3)
  generalize w3.setCell ⟨w.heap.size + 1 + 1, 6, none⟩ (.slice B3 gs9.length d3) = W4 at *
  clear r0 r1 r2 s1 t1 hS9 hx3 y6 y7 m0 m1 m2 m3 m4 m5 m6 m7 mf6 hl2
  refine (toIntS_c A4 c4 B im _ (h4.below hx4 hB) (Nat.le_trans hB hx4.size) hn5).mono ?_
  rintro e w5 ⟨B4, d4, rfl, hS5, hnx5⟩
  have r0 := r0'.nx hnx5
  have r1 := r1'.nx hnx5
  have r2 := r2'.nx hnx5
  have s1 := s1'.nx hnx5
  have t1 := t1'.nx hnx5
  have u1 := u1'.nx hnx5
  have hx5 := hx4.trans hnx5
  have hW4 := hx4.size
  have hl4 := r2'.lt
  clear r0' r1' r2' s1' t1' u1' hx4 hnx5
  obtain ⟨m0, m1, m2, m3, m4, m5, m6, m7⟩ := r2.e8
  obtain ⟨n0, n1, n2, n3, n4, n5, n6, n7⟩ := r1.e8
  have mf7 := r2.frozen 7
  have nf0 := r1.frozen 0
  have nf1 := r1.frozen 1
  have nf2 := r1.frozen 2
  have nf3 := r1.frozen 3
  have nf4 := r1.frozen 4
  have nf5 := r1.frozen 5
  have nf6 := r1.frozen 6
  have nf7 := r1.frozen 7
  have hl1 := r1.lt
  have hl2 := r2.lt
  go_wp2
  have hz := Hsz.out
  have q := (((((((((r1.far (p := ⟨w.heap.size + 1 + 1, 7, none⟩) (by simp) (.slice B4 im.length d4)).set 0 (.int .i64 g)).set 1 (.int .i64 b)).set 2 (.int .i64 p)).set 3 (.int .i64 t)).set 4 (.slice B1 xs.length d1)).set 5 (.slice B2 ms.length d2)).set 6 (.slice B3 gs9.length d3)).set 7 (.slice B4 im.length d4))
  have sf := (((((((((s1.far (p := ⟨w.heap.size + 1 + 1, 7, none⟩) (by simp; omega) (.slice B4 im.length d4)).far (p := ⟨w.heap.size + 1, 0, none⟩) (by simp; omega) (.int .i64 g)).far (p := ⟨w.heap.size + 1, 1, none⟩) (by simp; omega) (.int .i64 b)).far (p := ⟨w.heap.size + 1, 2, none⟩) (by simp; omega) (.int .i64 p)).far (p := ⟨w.heap.size + 1, 3, none⟩) (by simp; omega) (.int .i64 t)).far (p := ⟨w.heap.size + 1, 4, none⟩) (by simp; omega) (.slice B1 xs.length d1)).far (p := ⟨w.heap.size + 1, 5, none⟩) (by simp; omega) (.slice B2 ms.length d2)).far (p := ⟨w.heap.size + 1, 6, none⟩) (by simp; omega) (.slice B3 gs9.length d3)).far (p := ⟨w.heap.size + 1, 7, none⟩) (by simp; omega) (.slice B4 im.length d4))
  have tf := (((((((((t1.far (p := ⟨w.heap.size + 1 + 1, 7, none⟩) (by simp; omega) (.slice B4 im.length d4)).far (p := ⟨w.heap.size + 1, 0, none⟩) (by simp; omega) (.int .i64 g)).far (p := ⟨w.heap.size + 1, 1, none⟩) (by simp; omega) (.int .i64 b)).far (p := ⟨w.heap.size + 1, 2, none⟩) (by simp; omega) (.int .i64 p)).far (p := ⟨w.heap.size + 1, 3, none⟩) (by simp; omega) (.int .i64 t)).far (p := ⟨w.heap.size + 1, 4, none⟩) (by simp; omega) (.slice B1 xs.length d1)).far (p := ⟨w.heap.size + 1, 5, none⟩) (by simp; omega) (.slice B2 ms.length d2)).far (p := ⟨w.heap.size + 1, 6, none⟩) (by simp; omega) (.slice B3 gs9.length d3)).far (p := ⟨w.heap.size + 1, 7, none⟩) (by simp; omega) (.slice B4 im.length d4))
  have uf := (Sl.far_sg (Sl.far_sg (Sl.far_sg (Sl.far_sg (Sl.far_sg (Sl.far_sg (Sl.far_sg (Sl.far_sg (Sl.far_sg u1 (p := ⟨w.heap.size + 1 + 1, 7, none⟩) (by simp; omega) (.slice B4 im.length d4)) (p := ⟨w.heap.size + 1, 0, none⟩) (by simp; omega) (.int .i64 g)) (p := ⟨w.heap.size + 1, 1, none⟩) (by simp; omega) (.int .i64 b)) (p := ⟨w.heap.size + 1, 2, none⟩) (by simp; omega) (.int .i64 p)) (p := ⟨w.heap.size + 1, 3, none⟩) (by simp; omega) (.int .i64 t)) (p := ⟨w.heap.size + 1, 4, none⟩) (by simp; omega) (.slice B1 xs.length d1)) (p := ⟨w.heap.size + 1, 5, none⟩) (by simp; omega) (.slice B2 ms.length d2)) (p := ⟨w.heap.size + 1, 6, none⟩) (by simp; omega) (.slice B3 gs9.length d3)) (p := ⟨w.heap.size + 1, 7, none⟩) (by simp; omega) (.slice B4 im.length d4))
  have vf := (((((((((hS5.far (p := ⟨w.heap.size + 1 + 1, 7, none⟩) (by simp; omega) (.slice B4 im.length d4)).far (p := ⟨w.heap.size + 1, 0, none⟩) (by simp; omega) (.int .i64 g)).far (p := ⟨w.heap.size + 1, 1, none⟩) (by simp; omega) (.int .i64 b)).far (p := ⟨w.heap.size + 1, 2, none⟩) (by simp; omega) (.int .i64 p)).far (p := ⟨w.heap.size + 1, 3, none⟩) (by simp; omega) (.int .i64 t)).far (p := ⟨w.heap.size + 1, 4, none⟩) (by simp; omega) (.slice B1 xs.length d1)).far (p := ⟨w.heap.size + 1, 5, none⟩) (by simp; omega) (.slice B2 ms.length d2)).far (p := ⟨w.heap.size + 1, 6, none⟩) (by simp; omega) (.slice B3 gs9.length d3)).far (p := ⟨w.heap.size + 1, 7, none⟩) (by simp; omega) (.slice B4 im.length d4))
  have hnf := (((((((((hx5.setCell (p := ⟨w.heap.size + 1 + 1, 7, none⟩) (by simp; try omega) (.slice B4 im.length d4)).setCell (p := ⟨w.heap.size + 1, 0, none⟩) (by simp; try omega) (.int .i64 g)).setCell (p := ⟨w.heap.size + 1, 1, none⟩) (by simp; try omega) (.int .i64 b)).setCell (p := ⟨w.heap.size + 1, 2, none⟩) (by simp; try omega) (.int .i64 p)).setCell (p := ⟨w.heap.size + 1, 3, none⟩) (by simp; try omega) (.int .i64 t)).setCell (p := ⟨w.heap.size + 1, 4, none⟩) (by simp; try omega) (.slice B1 xs.length d1)).setCell (p := ⟨w.heap.size + 1, 5, none⟩) (by simp; try omega) (.slice B2 ms.length d2)).setCell (p := ⟨w.heap.size + 1, 6, none⟩) (by simp; try omega) (.slice B3 gs9.length d3)).setCell (p := ⟨w.heap.size + 1, 7, none⟩) (by simp; try omega) (.slice B4 im.length d4))
  generalize (((((((((w5.setCell ⟨w.heap.size + 1 + 1, 7, none⟩ (.slice B4 im.length d4)).setCell ⟨w.heap.size + 1, 0, none⟩ (.int .i64 g)).setCell ⟨w.heap.size + 1, 1, none⟩ (.int .i64 b)).setCell ⟨w.heap.size + 1, 2, none⟩ (.int .i64 p)).setCell ⟨w.heap.size + 1, 3, none⟩ (.int .i64 t)).setCell ⟨w.heap.size + 1, 4, none⟩ (.slice B1 xs.length d1)).setCell ⟨w.heap.size + 1, 5, none⟩ (.slice B2 ms.length d2)).setCell ⟨w.heap.size + 1, 6, none⟩ (.slice B3 gs9.length d3)).setCell ⟨w.heap.size + 1, 7, none⟩ (.slice B4 im.length d4)) = Wf at *
  have g0 := q.cell 0
  have g1 := q.cell 1
  have g2 := q.cell 2
  have g3 := q.cell 3
  have g4 := q.cell 4
  have g5 := q.cell 5
  have g6 := q.cell 6
  have g7 := q.cell 7
  simp at g0 g1 g2 g3 g4 g5 g6 g7
  exact bodyPost_ret (v := .agg #[.int .i64 g, .int .i64 b, .int .i64 p, .int .i64 t, .slice B1 xs.length d1, .slice B2 ms.length d2, .slice B3 gs9.length d3, .slice B4 im.length d4]) (by simp [results, Try.results16, go_sem, g0, g1, g2, g3, g4, g5, g6, g7]) rfl
    ⟨⟨g, b, p, t, B1, d1, xs, B2, d2, ms, B3, d3, gs9, B4, d4, im⟩, rfl, ⟨rfl, rfl, rfl, rfl, rfl, rfl, Hv.out, rfl⟩, ⟨sf.low (by omega), tf.low (by omega), uf.low (by omega), vf.low (by omega), HD1.out, HC9.out⟩, hnf⟩

theorem cLV : Try.prog.cellsOf 28 = 8 := by kernel_rfl
theorem cLVi : Try.prog.cellsOf 22 = 1 := by kernel_rfl
theorem cLVm : Try.prog.cellsOf 23 = 1 := by kernel_rfl
theorem cLVs : Try.prog.cellsOf 26 = 1 := by kernel_rfl
section
variable {H : Type} {enc : TypeId × Value → H} {w : World} {base : Nat} {spare : Nat → Bool} {held : Bool}
theorem array8 {α : Type} {cs : Array α} (h : cs.size = 8) : ∃ c0 c1 c2 c3 c4 c5 c6 c7, cs = #[c0, c1, c2, c3, c4, c5, c6, c7] := by
  obtain ⟨l⟩ := cs
  match l, h with
  | [c0, c1, c2, c3, c4, c5, c6, c7], _ => exact ⟨c0, c1, c2, c3, c4, c5, c6, c7, rfl⟩
theorem trod_struct3 {P : Program} {t : TypeId} {f0 f1 f2 : Field} {fuel : Nat} {cs : List Value} {x : DataW H × List MemPlace} (ht : P.underlying t = some (.struct #[f0, f1, f2])) (h : DataW.trod enc P w base spare held fuel t cs = some x) :
    ∃ y0 y1 y2 n, DataW.trod enc P w base spare held n f0.type ((cs.drop f0.offset).take (P.cellsOf f0.type)) = some y0 ∧
      DataW.trod enc P w base spare held n f1.type ((cs.drop f1.offset).take (P.cellsOf f1.type)) = some y1 ∧ DataW.trod enc P w base spare held n f2.type ((cs.drop f2.offset).take (P.cellsOf f2.type)) = some y2 := by
  obtain ⟨xs, n, _, rfl, hl, hlen, hf⟩ := DataW.trod_struct ht h
  match xs, hlen with
  | [y0, y1, y2], _ => exact ⟨y0, y1, y2, n, by simpa using hf 0 f0 rfl, by simpa using hf 1 f1 rfl, by simpa using hf 2 f2 rfl⟩
theorem open_vault {r : Reach} {b0 : Nat} {v : Value} {d : DataW H} {pl : List MemPlace} (hv : Value.okWide Try.prog w r b0 28 v) (h : DataW.Trod enc Try.prog w base spare held 28 v d pl) :
    ∃ V : Vl, v = V.v ∧ Vlt w w.heap.size V ∧ AllM V.ms ∧ VlN V (2 ^ 63 - 1) := by
  obtain ⟨cs, rfl, hsz⟩ := okWide_struct Try.underlying28 hv
  obtain ⟨v0, v1, v2, v3, v4, v5, v6, v7, rfl⟩ := array8 (hsz.trans cLV)
  obtain ⟨fuel, hf⟩ := h
  obtain ⟨y0, y1, y2, n, h0, h1, h2⟩ := trod_struct3 Try.underlying28 hf
  have e0 : DataW.trod enc Try.prog w base spare held n 25 [v0, v1, v2, v3, v4, v5] = some y0 := by simpa [Value.cells, cLU] using h0
  have e1 : DataW.trod enc Try.prog w base spare held n 26 [v6] = some y1 := by simpa [Value.cells, cLVs] using h1
  have e2 : DataW.trod enc Try.prog w base spare held n 22 [v7] = some y2 := by simpa [Value.cells, cLVi] using h2
  obtain ⟨x0, x1, x2, x3, x4, x5, k, k0, k1, k2, k3, k4, k5⟩ := trod_struct6 Try.underlying25 e0
  obtain ⟨q0, rfl, _⟩ := one_int (show DataW.trod enc Try.prog w base spare held k 3 [v0] = some x0 by simpa [ci_] using k0)
  obtain ⟨q1, rfl, _⟩ := one_int (show DataW.trod enc Try.prog w base spare held k 3 [v1] = some x1 by simpa [ci_] using k1)
  obtain ⟨q2, rfl, _⟩ := one_int (show DataW.trod enc Try.prog w base spare held k 3 [v2] = some x2 by simpa [ci_] using k2)
  obtain ⟨q3, rfl, _⟩ := one_int (show DataW.trod enc Try.prog w base spare held k 3 [v3] = some x3 by simpa [ci_] using k3)
  have t4 : DataW.trod enc Try.prog w base spare held k 22 [v4] = some x4 := by simpa [cLVi] using k4
  have t5 : DataW.trod enc Try.prog w base spare held k 23 [v5] = some x5 := by simpa [cLVm] using k5
  obtain ⟨A, l, c, e4⟩ := slice_form Try.underlying22 t4
  have e4' : v4 = .slice A l c := by simpa using e4
  obtain ⟨xs, rfl, hI, hn⟩ := trod_ints_ e4' t4
  subst e4'
  obtain ⟨A2, c2, ms, rfl, hM, hm, hn2⟩ := open_marks_ t5
  obtain ⟨A3, c3, gs, rfl, hG, hn3, hn4⟩ := open_segs_ e1
  obtain ⟨A4, l4, c4, e5⟩ := slice_form Try.underlying22 e2
  have e5' : v7 = .slice A4 l4 c4 := by simpa using e5
  obtain ⟨im, rfl, hJ, hn5⟩ := trod_ints_ e5' e2
  subst e5'
  exact ⟨⟨q0, q1, q2, q3, A, c, xs, A2, c2, ms, A3, c3, gs, A4, c4, im⟩, rfl, ⟨hI, hM, hG, hJ⟩, hm, ⟨hn, hn2, hn3, hn4, hn5⟩⟩
end
end Go.Proofs.Ytihpadelfpogmaa
