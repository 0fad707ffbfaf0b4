/-
  Contracts of the program's functions that copy lists and disks.
  Conditions: what is copied can be read, and holds at most 1048576 elements of a kind.
-/
import Derived.Test.YtccapcadgjlmkaaBase
import Derived.Test.YtccapcadgjlmkaaTo
import Derived.Test.YtccapcadgjlmkaaAp
import Derived.Deep.RegionHeld3
import Derived.Outline
namespace Go.Proofs.Ytccapcadgjlmkaa
set_option linter.unusedVariables false
open Go.RowKit

theorem strAt_one (ss : List ByteArray) (k : Nat) : (strAt ss k).oneCell' = true := rfl
theorem wrAt_one (ws : List (Int × ByteArray)) (k : Nat) : (wrAt ws k).oneCell' = true := by unfold wrAt; split <;> rfl

set_option maxRecDepth 100000 in
set_option maxHeartbeats 1000000 in
theorem copyListS_c (A : Option Addr) (n c B : Nat) (ss : List ByteArray) (w : World) (h : Strs w B A n ss) (hB : B ≤ w.heap.size) (hn : n ≤ 1048576) :
    Calls Try.prog 86 #[.slice A n c] w (RetS w ss) := by
  rcases Nat.eq_zero_or_pos n with hz | hp
  · subst hz
    have HF := Lib.hid h.1
    go_enter Try.func86, Try.ntmps86
    go_wp2
    go_ret
    exact ⟨none, 0, 0, rfl, ⟨HF.out, fun h => absurd h (by omega)⟩, Nx.refl _⟩
  have h0 : ((n : Int) == 0) = false := beq_eq_false_iff_ne.2 (by omega)
  obtain ⟨i0, hi0, hz0, hz1, hz2⟩ := info_parts info_str
  have hmk := fun W => run_make_rowN (P := Try.prog) 23 9 i0 _ Try.underlying23 hi0 hz0 .i64 .i64 n n (Nat.le_refl _) (by rw [hz2]; omega) (by omega) W
  rw [hz1] at hmk
  have hmade := Own.made w #[Value.string ByteArray.empty] n 9
  have hnx := (Nx.refl w).alloc (.cells (madeCells #[Value.string ByteArray.empty] n) 9)
  obtain ⟨w1, hrun, ho1, hnx1, _, _⟩ := run_copy_new (P := Try.prog) (w.alloc (.cells (madeCells #[Value.string ByteArray.empty] n) 9)) 23 23 3 9 i0 1 Try.underlying23 hi0 hz1
    w.heap.size n n A n c B n 9 (strAt ss) _ hmade (by omega) (Nat.le_refl _) (by rw [Nat.mul_one]; exact (h.below hnx hB).2) (strAt_one ss)
  have hx1 := hnx1 w hnx (Nat.le_refl _)
  have HO := Lib.hid (ho1.congr (f' := strAt ss) (fun k hk => by rw [if_pos (by omega)]))
  clear ho1 hnx1 hmade
  go_enter Try.func86, Try.ntmps86
  go_wp2
  go_ret
  exact RetS.mk_own h.1 (Nat.le_refl _) (by have := HO.out; rw [← h.1] at this; exact this) hx1

set_option maxRecDepth 100000 in
set_option maxHeartbeats 1000000 in
theorem copyListW_c (A : Option Addr) (n c B : Nat) (ws : List (Int × ByteArray)) (w : World) (h : Wrs w B A n ws) (hB : B ≤ w.heap.size) (hn : n ≤ 1048576) :
    Calls Try.prog 87 #[.slice A n c] w (RetW w ws) := by
  rcases Nat.eq_zero_or_pos n with hz | hp
  · subst hz
    have HF := Lib.hid h.1
    go_enter Try.func87, Try.ntmps87
    go_wp2
    go_ret
    exact ⟨none, 0, 0, rfl, ⟨HF.out, fun h => absurd h (by omega)⟩, Nx.refl _⟩
  have h0 : ((n : Int) == 0) = false := beq_eq_false_iff_ne.2 (by omega)
  obtain ⟨i0, hi0, hz0, hz1, hz2⟩ := info_parts info_wr
  have hmk := fun W => run_make_rowN (P := Try.prog) 24 80 i0 _ Try.underlying24 hi0 hz0 .i64 .i64 n n (Nat.le_refl _) (by rw [hz2]; omega) (by omega) W
  rw [hz1] at hmk
  have hmade := Own.made w #[Value.int .i64 0, Value.string ByteArray.empty] (n * 2) 80
  have hnx := (Nx.refl w).alloc (.cells (madeCells #[Value.int .i64 0, Value.string ByteArray.empty] (n * 2)) 80)
  obtain ⟨w1, hrun, ho1, hnx1, _, _⟩ := run_copy_new (P := Try.prog) (w.alloc (.cells (madeCells #[Value.int .i64 0, Value.string ByteArray.empty] (n * 2)) 80)) 24 24 3 80 i0 2 Try.underlying24 hi0 hz1
    w.heap.size n n A n c B (n * 2) 80 (wrAt ws) _ hmade (Nat.le_refl _) (Nat.le_refl _) (h.below hnx hB).2 (wrAt_one ws)
  have hx1 := hnx1 w hnx (Nat.le_refl _)
  have HO := Lib.hid (ho1.congr (f' := wrAt ws) (fun k hk => by rw [if_pos (by omega)]))
  clear ho1 hnx1 hmade
  go_enter Try.func87, Try.ntmps87
  go_wp2
  go_ret
  exact RetW.mk_own h.1 (Nat.le_refl _) (by have := HO.out; rw [← h.1] at this; exact this) hx1

set_option maxRecDepth 100000 in
set_option maxHeartbeats 1000000 in
theorem copied_c (A A2 : Option Addr) (n c n2 c2 B : Nat) (ss : List ByteArray) (ws : List (Int × ByteArray)) (w : World) (h : Strs w B A n ss) (h2 : Wrs w B A2 n2 ws) (hB : B ≤ w.heap.size) (hn : n ≤ 1048576) (hn2 : n2 ≤ 1048576) :
    Calls Try.prog 46 #[.agg #[.slice A n c, .slice A2 n2 c2]] w (RetDisk w ss ws) := by
  go_enter Try.func46, Try.ntmps46
  go_wp2_with fail
  have b0 := (Box.new w 26 #[.slice A n c, .slice A2 n2 c2]).alloc (.cells #[.slice none 0 0, .slice none 0 0] 26)
  have r0 := Box.new (w.alloc (.cells #[.slice A n c, .slice A2 n2 c2] 26)) 26 #[.slice none 0 0, .slice none 0 0]
  have hnx0 := ((Nx.refl w).alloc (.cells #[.slice A n c, .slice A2 n2 c2] 26)).alloc (.cells #[.slice none 0 0, .slice none 0 0] 26)
  simp only [World.size_alloc] at r0
  generalize (w.alloc (.cells #[.slice A n c, .slice A2 n2 c2] 26)).alloc (.cells #[.slice none 0 0, .slice none 0 0] 26) = W at *
  have rd : Nx w W.drew := hnx0.drew
  have b1 : Box W.drew w.heap.size 26 #[.slice A n c, .slice A2 n2 c2] := b0
  have r1 : Box W.drew (w.heap.size + 1) 26 #[.slice none 0 0, .slice none 0 0] := r0
  have c0 := b1.c0
  have c1 := b1.c1
  go_region_held3 (fun w' => w'.cell? ⟨w.heap.size, 0, none⟩ = some (.slice A n c) ∧ w'.cell? ⟨w.heap.size, 1, none⟩ = some (.slice A2 n2 c2)) (first | exact ⟨c0, c1⟩ | exact ⟨k0, k1⟩ | exact ⟨l0, l1⟩ | exact ⟨m0, m1⟩)
    (first
      | (go_at_call 86; refine (copyListS_c A n c B ss _ (h.below rd hB) (Nat.le_trans hB rd.size) hn).mono ?_; rintro e u1 ⟨A3, n3, c3, rfl, hS3, hx3⟩; have k0 := (b1.nx hx3).c0; have k1 := (b1.nx hx3).c1; have rd3 := rd.trans hx3)
      | (go_at_call 87; refine (copyListW_c A2 n2 c2 B ws _ (h2.below rd3 hB) (Nat.le_trans hB rd3.size) hn2).mono ?_; rintro e u2 ⟨A4, n4, c4, rfl, hW4, hx4⟩; have l0 := ((b1.nx hx3).nx hx4).c0; have l1 := ((b1.nx hx3).nx hx4).c1; have r2 := (r1.nx hx3).nx hx4; have s0 := r2.c0; have s1 := r2.c1; have f0 := r2.frozen 0; have f1 := r2.frozen 1; have m0 := (((((b1.nx hx3).nx hx4).far (p := ⟨w.heap.size + 1, 0, none⟩) (by simp) (.slice A3 n3 c3))).far (p := ⟨w.heap.size + 1, 1, none⟩) (by simp) (.slice A4 n4 c4)).c0; have m1 := (((((b1.nx hx3).nx hx4).far (p := ⟨w.heap.size + 1, 0, none⟩) (by simp) (.slice A3 n3 c3))).far (p := ⟨w.heap.size + 1, 1, none⟩) (by simp) (.slice A4 n4 c4)).c1))
  have hsz := r1.lt
  have hsz1 := hx3.size
  obtain ⟨q0, q1, hSf, hWf, hxf⟩ := fin_box c3 c4 r2 (hS3.nx hx4) hW4 hsz (by omega) (rd3.trans hx4) (by omega)
  clear m0 m1 l0 l1 k0 k1 c0 c1 s0 s1 f0 f1
  generalize (u2.setCell ⟨w.heap.size + 1, 0, none⟩ (.slice A3 n3 c3)).setCell ⟨w.heap.size + 1, 1, none⟩ (.slice A4 n4 c4) = Wf at *
  go_wp2
  exact bodyPost_ret (v := .agg #[.slice A3 n3 c3, .slice A4 n4 c4]) (by simp [results, Try.results46, go_sem, q0, q1]) rfl ⟨A3, n3, c3, A4, n4, c4, rfl, hSf, hWf, hxf⟩

theorem wrAt_snoc (ws : List (Int × ByteArray)) (x : Int) (t : ByteArray) (k : Nat) (hk : k < (ws.length + 1) * 2) :
    wrAt (ws ++ [(x, t)]) k = if k = ws.length * 2 + 1 then .string t else if k = ws.length * 2 then .int .i64 x else wrAt ws k := by
  have hlast : (ws ++ [(x, t)]).getD ws.length (0, ByteArray.empty) = (x, t) := by
    rw [List.getD_eq_getElem?_getD, List.getElem?_append_right (Nat.le_refl _)]; simp
  by_cases h1 : k = ws.length * 2 + 1
  · subst h1; rw [if_pos rfl, wrAt_odd, hlast]
  · rw [if_neg h1]
    by_cases h2 : k = ws.length * 2
    · subst h2; rw [if_pos rfl, wrAt_even, hlast]
    · rw [if_neg h2]
      unfold wrAt
      have hd : (ws ++ [(x, t)]).getD (k / 2) (0, ByteArray.empty) = ws.getD (k / 2) (0, ByteArray.empty) := by
        rw [List.getD_eq_getElem?_getD, List.getD_eq_getElem?_getD, List.getElem?_append_left (by omega)]
      rw [hd]
set_option maxRecDepth 100000 in
set_option maxHeartbeats 1000000 in
theorem written_c (A A2 : Option Addr) (n c n2 c2 B : Nat) (ss : List ByteArray) (ws : List (Int × ByteArray)) (x : Int) (t : ByteArray) (w : World) (h : Strs w B A n ss) (h2 : Wrs w B A2 n2 ws) (hB : B ≤ w.heap.size) (hn : n ≤ 1048575) (hn2 : n2 ≤ 1048575) :
    Calls Try.prog 47 #[.agg #[.slice A n c, .slice A2 n2 c2], .int .i64 x, .string t] w (RetDisk w ss (ws ++ [(x, t)])) := by
  obtain ⟨i0, hi0, hz0, hz1, hz2⟩ := info_parts info_wr
  have hmk := fun W => run_make_rowN (P := Try.prog) 24 80 i0 _ Try.underlying24 hi0 hz0 .i64 .i64 (n2 + 1) (n2 + 1) (Nat.le_refl _) (by rw [hz2]; omega) (by omega) W
  rw [hz1] at hmk
  have ec : ((n2 + 1 : Nat) : Int) = (n2 : Int) + 1 := by omega
  rw [ec] at hmk
  clear ec
  go_enter Try.func47, Try.ntmps47
  go_wp2
  have b0 := ((Box.new w 26 #[.slice A n c, .slice A2 n2 c2]).alloc (.cells #[.slice none 0 0, .slice none 0 0] 26)).alloc (.cells (madeCells #[Value.int .i64 0, Value.string ByteArray.empty] ((n2 + 1) * 2)) 80)
  have r0 := (Box.new (w.alloc (.cells #[.slice A n c, .slice A2 n2 c2] 26)) 26 #[.slice none 0 0, .slice none 0 0]).alloc (.cells (madeCells #[Value.int .i64 0, Value.string ByteArray.empty] ((n2 + 1) * 2)) 80)
  have m0 := Own.made ((w.alloc (.cells #[.slice A n c, .slice A2 n2 c2] 26)).alloc (.cells #[.slice none 0 0, .slice none 0 0] 26)) #[Value.int .i64 0, Value.string ByteArray.empty] ((n2 + 1) * 2) 80
  have hnx0 := (((Nx.refl w).alloc (.cells #[.slice A n c, .slice A2 n2 c2] 26)).alloc (.cells #[.slice none 0 0, .slice none 0 0] 26)).alloc (.cells (madeCells #[Value.int .i64 0, Value.string ByteArray.empty] ((n2 + 1) * 2)) 80)
  simp only [World.size_alloc] at r0 m0
  generalize (((w.alloc (.cells #[.slice A n c, .slice A2 n2 c2] 26)).alloc (.cells #[.slice none 0 0, .slice none 0 0] 26)).alloc (.cells (madeCells #[Value.int .i64 0, Value.string ByteArray.empty] ((n2 + 1) * 2)) 80)) = W at *
  obtain ⟨w1, hrun, ho1, hnx1, hsz1, hoth⟩ := run_copy_new (P := Try.prog) W 24 24 3 80 i0 2 Try.underlying24 hi0 hz1
    (w.heap.size + 1 + 1) (n2 + 1) (n2 + 1) A2 n2 c2 B ((n2 + 1) * 2) 80 (wrAt ws) _ m0 (Nat.le_refl _) (by omega) (h2.below hnx0 hB).2 (wrAt_one ws)
  rw [hrun]
  have b1 : Box w1 w.heap.size 26 #[.slice A n c, .slice A2 n2 c2] := (hoth _ (by omega)).trans b0
  have r1 : Box w1 (w.heap.size + 1) 26 #[.slice none 0 0, .slice none 0 0] := (hoth _ (by omega)).trans r0
  have hx1 := hnx1 w hnx0 (by omega)
  clear hrun hmk hnx0 hnx1 b0 r0 hoth
  have HZ := Lib.hid hsz1
  have mlt := m0.lt
  clear m0 hsz1
  have c0 := b1.c0
  have c1 := b1.c1
  have e0 := ho1.cell (i := n2 * 2) (by omega)
  have e1 := ho1.cell (i := n2 * 2 + 1) (by omega)
  have g0 := ho1.frozen (n2 * 2)
  have g1 := ho1.frozen (n2 * 2 + 1)
  obtain ⟨v0, hv0⟩ : ∃ v, w1.cell? ⟨w.heap.size + 1 + 1, n2 * 2, none⟩ = some v := ⟨_, e0⟩
  obtain ⟨v1, hv1⟩ : ∃ v, w1.cell? ⟨w.heap.size + 1 + 1, n2 * 2 + 1, none⟩ = some v := ⟨_, e1⟩
  clear e0 e1
  go_wp2_with fail
  have ho2 := (ho1.set (k := n2 * 2) (by omega) (.int .i64 x)).set (k := n2 * 2 + 1) (by omega) (.string t)
  have ho3 : OwnW ((w1.setCell ⟨w.heap.size + 1 + 1, n2 * 2, none⟩ (.int .i64 x)).setCell ⟨w.heap.size + 1 + 1, n2 * 2 + 1, none⟩ (.string t)) (w.heap.size + 1 + 1) (ws ++ [(x, t)]) := by
    unfold OwnW
    rw [List.length_append, h2.1]
    refine ho2.congr fun k hk => ?_
    rw [wrAt_snoc ws x t k (by rw [h2.1]; exact hk), h2.1]
    by_cases k1 : k = n2 * 2 + 1
    · rw [if_pos k1, if_pos k1]
    · rw [if_neg k1, if_neg k1]
      by_cases k2 : k = n2 * 2
      · rw [if_pos k2, if_pos k2]
      · rw [if_neg k2, if_neg k2, if_pos (by omega)]
  have b2 := (b1.far (p := ⟨w.heap.size + 1 + 1, n2 * 2, none⟩) (by simp; omega) (.int .i64 x)).far (p := ⟨w.heap.size + 1 + 1, n2 * 2 + 1, none⟩) (by simp; omega) (.string t)
  have r2 := (r1.far (p := ⟨w.heap.size + 1 + 1, n2 * 2, none⟩) (by simp) (.int .i64 x)).far (p := ⟨w.heap.size + 1 + 1, n2 * 2 + 1, none⟩) (by simp) (.string t)
  have hx2 := (hx1.setCell (p := ⟨w.heap.size + 1 + 1, n2 * 2, none⟩) (by simp; omega) (.int .i64 x)).setCell (p := ⟨w.heap.size + 1 + 1, n2 * 2 + 1, none⟩) (by simp; omega) (.string t)
  generalize (w1.setCell ⟨w.heap.size + 1 + 1, n2 * 2, none⟩ (.int .i64 x)).setCell ⟨w.heap.size + 1 + 1, n2 * 2 + 1, none⟩ (.string t) = w2 at *
  clear ho1 ho2 b1 r1 hx1 hv0 hv1 g0 g1 c0 c1
  refine (copyListS_c A n c B ss _ (h.below hx2 hB) (Nat.le_trans hB hx2.size) (by omega)).mono ?_
  rintro e w3 ⟨A3, n3, c3, rfl, hS3, hx3⟩
  have r3 := r2.nx hx3
  have ho4 := Own.nx ho3 hx3
  have s0 := r3.c0
  have s1 := r3.c1
  have f0 := r3.frozen 0
  have f1 := r3.frozen 1
  have hlt3 := Own.lt ho3
  have hW4 : SlW w3 (w.heap.size + 1 + 1) (some ⟨w.heap.size + 1 + 1, 0, none⟩) (n2 + 1) (ws ++ [(x, t)]) := ⟨by rw [List.length_append, h2.1]; rfl, fun _ => ⟨_, rfl, Nat.le_refl _, ho4⟩⟩
  obtain ⟨q0, q1, hSf, hWf, hxf⟩ := fin_box c3 (n2 + 1) r3 hS3 hW4 (by omega) (by omega) (hx2.trans hx3) (by omega)
  go_wp2
  generalize (w3.setCell ⟨w.heap.size + 1, 0, none⟩ (.slice A3 n3 c3)).setCell ⟨w.heap.size + 1, 1, none⟩ (.slice (some ⟨w.heap.size + 1 + 1, 0, none⟩) (n2 + 1) (n2 + 1)) = Wf at *
  exact bodyPost_ret (v := .agg #[.slice A3 n3 c3, .slice (some ⟨w.heap.size + 1 + 1, 0, none⟩) (n2 + 1) (n2 + 1)]) (by simp [results, Try.results47, go_sem, q0, q1]) rfl ⟨A3, n3, c3, _, n2 + 1, n2 + 1, rfl, hSf, hWf, hxf⟩
end Go.Proofs.Ytccapcadgjlmkaa
