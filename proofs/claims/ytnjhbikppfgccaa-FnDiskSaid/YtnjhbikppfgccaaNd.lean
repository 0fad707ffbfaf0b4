/-
  Contracts of NewDisk, as the model and as the program have it, and the walk of the law FnExactNewDisk.
  Conditions: none.
-/
import Derived.Test.YtnjhbikppfgccaaBase
import Derived.Test.YtnjhbikppfgccaaTo
import Derived.Test.YtnjhbikppfgccaaEq
import Derived.Test.YtnjhbikppfgccaaMk
import Derived.Outline
namespace Go.Proofs.Ytnjhbikppfgccaa
set_option linter.unusedVariables false
open Go.RowKit

def noS : List ByteArray := List.replicate 64 ByteArray.empty
theorem noS_len : noS.length = 64 := by simp [noS]
theorem noS_at {i : Nat} (h : i < 64) : noS.getD i ByteArray.empty = ByteArray.empty := by
  unfold noS; rw [List.getD_eq_getElem?_getD, List.getElem?_replicate, if_pos h]; rfl
theorem made_noS (w : World) : OwnS (w.alloc (.cells (madeCells #[Value.string ByteArray.empty] 64) 9)) w.heap.size noS := by
  unfold OwnS
  rw [noS_len]
  refine (Own.made w #[Value.string ByteArray.empty] 64 9).congr fun i hi => ?_
  unfold strAt
  rw [noS_at hi]
  simp [Nat.mod_one]
theorem make64 (W : World) : (Instr.makeSlice 23 (.int .i64 64) (.int .i64 64)).run Try.prog W = .ok (.slice (some ⟨W.heap.size, 0, none⟩) 64 64) (W.alloc (.cells (madeCells #[Value.string ByteArray.empty] 64) 9)) := by
  obtain ⟨i0, hi0, hz0, hz1, hz2⟩ := info_parts info_str
  have hmk := run_make_rowN (P := Try.prog) 23 9 i0 _ Try.underlying23 hi0 hz0 .i64 .i64 64 64 (Nat.le_refl _) (by rw [hz2]; omega) (by omega) W
  rw [hz1] at hmk
  exact hmk

set_option maxHeartbeats 1000000 in
theorem implNewDisk_c (w : World) : Calls Try.prog 29 #[] w (RetDisk w noS []) := by
  have hmk := make64
  go_enter Try.func29, Try.ntmps29
  go_wp2
  have ho := made_noS (w.alloc (.cells #[.slice (some ⟨w.heap.size + 1, 0, none⟩) 64 64, .slice none 0 0] 26))
  simp only [World.size_alloc] at ho
  have hx := ((Nx.refl w).alloc (.cells #[.slice (some ⟨w.heap.size + 1, 0, none⟩) 64 64, .slice none 0 0] 26)).alloc (.cells (madeCells #[Value.string ByteArray.empty] 64) 9)
  have q := (Box.new w 26 #[.slice (some ⟨w.heap.size + 1, 0, none⟩) 64 64, .slice none 0 0]).alloc (.cells (madeCells #[Value.string ByteArray.empty] 64) 9)
  have q0 := q.c0
  have q1 := q.c1
  generalize (w.alloc (.cells #[.slice (some ⟨w.heap.size + 1, 0, none⟩) 64 64, .slice none 0 0] 26)).alloc (.cells (madeCells #[Value.string ByteArray.empty] 64) 9) = W at *
  exact bodyPost_ret (v := .agg #[.slice (some ⟨w.heap.size + 1, 0, none⟩) 64 64, .slice none 0 0]) (by simp [results, Try.results29, go_sem, q0, q1]) rfl
    ⟨_, 64, 64, none, 0, 0, rfl, ⟨noS_len, fun _ => ⟨_, rfl, by omega, ho⟩⟩, ⟨rfl, fun h => absurd h (by omega)⟩, hx⟩
set_option maxHeartbeats 1000000 in
theorem specNewDisk_c (w : World) : Calls Try.prog 28 #[] w (RetDisk w noS []) := by
  have hmk := make64
  go_enter Try.func28, Try.ntmps28
  go_wp2
  have ho := Own.alloc (made_noS (w.alloc (.cells #[.slice (some ⟨w.heap.size + 1, 0, none⟩) 64 64, .slice (some ⟨w.heap.size + 1 + 1, 0, none⟩) 0 0] 26))) (.cells #[] 68)
  simp only [World.size_alloc] at ho
  have hx := (((Nx.refl w).alloc (.cells #[.slice (some ⟨w.heap.size + 1, 0, none⟩) 64 64, .slice (some ⟨w.heap.size + 1 + 1, 0, none⟩) 0 0] 26)).alloc (.cells (madeCells #[Value.string ByteArray.empty] 64) 9)).alloc (.cells #[] 68)
  have q := ((Box.new w 26 #[.slice (some ⟨w.heap.size + 1, 0, none⟩) 64 64, .slice (some ⟨w.heap.size + 1 + 1, 0, none⟩) 0 0]).alloc (.cells (madeCells #[Value.string ByteArray.empty] 64) 9)).alloc (.cells #[] 68)
  have q0 := q.c0
  have q1 := q.c1
  generalize ((w.alloc (.cells #[.slice (some ⟨w.heap.size + 1, 0, none⟩) 64 64, .slice (some ⟨w.heap.size + 1 + 1, 0, none⟩) 0 0] 26)).alloc (.cells (madeCells #[Value.string ByteArray.empty] 64) 9)).alloc (.cells #[] 68) = W at *
  exact bodyPost_ret (v := .agg #[.slice (some ⟨w.heap.size + 1, 0, none⟩) 64 64, .slice (some ⟨w.heap.size + 1 + 1, 0, none⟩) 0 0]) (by simp [results, Try.results28, go_sem, q0, q1]) rfl
    ⟨_, 64, 64, _, 0, 0, rfl, ⟨noS_len, fun _ => ⟨_, rfl, by omega, ho⟩⟩, ⟨rfl, fun h => absurd h (by omega)⟩, hx⟩

set_option maxHeartbeats 2000000 in
theorem lawNewDisk (w : World) : Calls Try.prog 6 #[] w fun e w' => e = .returned (.bool true) ∧ Nx w w' := by
  go_enter Try.func6, Try.ntmps6
  go_wp2_with fail
  refine (specNewDisk_c _).mono ?_
  rintro e w1 ⟨A, n, c, A2, n2, c2, rfl, hS, hW, hx1⟩
  obtain rfl : 64 = n := noS_len.symm.trans hS.1
  obtain rfl : 0 = n2 := hW.1
  have D := Dk.new (c := c) (c2 := c2) hS hW
  have hx2 := hx1.alloc (.cells #[.slice A 64 c, .slice A2 0 c2] 26)
  go_wp2_with fail
  generalize w1.alloc (.cells #[.slice A 64 c, .slice A2 0 c2] 26) = w2 at *
  clear hS hW
  refine (implNewDisk_c _).mono ?_
  rintro e w3 ⟨B, m, d, B2, m2, d2, rfl, gS, gW, hx3⟩
  obtain rfl : 64 = m := noS_len.symm.trans gS.1
  obtain rfl : 0 = m2 := gW.1
  have G := Dk.new (c := d) (c2 := d2) gS gW
  have hx3' := hx3.alloc (.cells #[.slice B 64 d, .slice B2 0 d2] 26)
  have D4 := D.nx hx3'
  have hx4 := hx2.trans hx3'
  have g0 := G.c0
  have g1 := G.c1
  have d0 := D4.c0
  have d1 := D4.c1
  go_wp2_with fail
  generalize w3.alloc (.cells #[.slice B 64 d, .slice B2 0 d2] 26) = w4 at *
  have o1 := D.2.2.lt
  have o0 := hx1.size
  have o2 := hx3.size
  clear gS gW hx3' D hx2
  refine (eqDisk_c B B2 A A2 64 d c 0 d2 c2 _ noS [] _ G.strs D4.strs G.wrs D4.wrs (Nat.le_refl _) (by omega) (by omega)).mono ?_
  rintro e w5 ⟨rfl, hx5⟩
  clear g0 g1 d0 d1
  have G5 := G.nx hx5
  have D5 := D4.nx hx5
  have hw5 := hx4.trans hx5
  clear G D4 hx4 hx5
  have g0 := G5.c0
  have g1 := G5.c1
  go_wp2_with fail
  refine (markDisk_c B B2 64 d 0 d2 1 w2.heap.size w3.heap.size noS [] _ G5.1 G5.2.1 (Nat.le_of_lt G5.2.2.lt) (by omega) (by omega) (by omega)).mono ?_
  rintro e w6 ⟨rfl, mS, mW, hr6⟩
  have G6 : Dk w6 w2.heap.size w3.heap.size B 64 d B2 0 d2 (markS 1 64) (markW (1 + 64) 0) := ⟨mS, mW, G5.2.2.rg hr6 (.inr (Nat.le_refl _))⟩
  have D6 := D5.rg hr6 (.inl o1) o0
  have hw6 := Rg.nx_of hw5 hr6 (by omega)
  clear g0 g1 G5 D5 hw5 hr6 mS mW
  have g0 := G6.c0
  have g1 := G6.c1
  go_wp2_with fail
  refine (heldDisk_c B B2 64 d 0 d2 1 _ _ G6.strs G6.wrs (Nat.le_refl _) (by omega) (by omega) (by omega)).mono ?_
  rintro e w7 ⟨rfl, hx7⟩
  have G7 := G6.nx hx7
  have D7 := D6.nx hx7
  have hw7 := hw6.trans hx7
  clear g0 g1 G6 D6 hw6 hx7
  go_wp2_with fail
  refine (implNewDisk_c _).mono ?_
  rintro e w8 ⟨C, q, f, C2, q2, f2, rfl, fS, fW, hx8⟩
  obtain rfl : 64 = q := noS_len.symm.trans fS.1
  obtain rfl : 0 = q2 := fW.1
  have H := Dk.new (c := f) (c2 := f2) fS fW
  have hx8' := hx8.alloc (.cells #[.slice C 64 f, .slice C2 0 f2] 26)
  have D9 := D7.nx hx8'
  have G9 := G7.nx hx8'
  have hw9 := hw7.trans hx8'
  have h0 := H.c0
  have h1 := H.c1
  have d0 := D9.c0
  have d1 := D9.c1
  go_wp2_with fail
  generalize w8.alloc (.cells #[.slice C 64 f, .slice C2 0 f2] 26) = w9 at *
  clear fS fW hx8' D7 G7 hw7
  refine (eqDisk_c C C2 A A2 64 f c 0 f2 c2 _ noS [] _ H.strs D9.strs H.wrs D9.wrs (Nat.le_refl _) (by omega) (by omega)).mono ?_
  rintro e w10 ⟨rfl, hx10⟩
  have G10 := G9.nx hx10
  have hw10 := hw9.trans hx10
  clear h0 h1 d0 d1 H D9 G9 hw9
  have g0 := G10.c0
  have g1 := G10.c1
  go_wp2_with fail
  refine (heldDisk_c B B2 64 d 0 d2 1 _ _ G10.strs G10.wrs (Nat.le_refl _) (by omega) (by omega) (by omega)).mono ?_
  rintro e w11 ⟨rfl, hx11⟩
  go_wp2
  go_ret
  exact ⟨rfl, hw10.trans hx11⟩
end Go.Proofs.Ytnjhbikppfgccaa
