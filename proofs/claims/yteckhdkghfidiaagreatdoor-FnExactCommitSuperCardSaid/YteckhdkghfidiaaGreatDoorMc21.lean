/-
  Texts of the proof, put together in their order: Cp, Sw.
  Conditions: those of each.
-/
import Derived.Test.YteckhdkghfidiaaGreatDoorMc20
import Derived.Deep.RegionHeld3
import Derived.Outline
import Derived.Deep.AppendLies
/- Contracts of the program's functions that copy lists and disks. Conditions: what is copied can be read, and holds at most 1048576 elements of a kind. -/
namespace Go.Proofs.YteckhdkghfidiaaGreatDoor
set_option linter.unusedVariables false
open Go.RowKit

theorem strAt_one (ss : List ByteArray) (k : Nat) : (strAt ss k).oneCell' = true := rfl
theorem wrAt_one (ws : List (Int × ByteArray)) (k : Nat) : (wrAt ws k).oneCell' = true := by unfold wrAt; split <;> rfl

set_option maxRecDepth 100000 in
set_option maxHeartbeats 1000000 in
theorem copyListS_c (A : Option Addr) (n c B : Nat) (ss : List ByteArray) (w : World) (h : Strs w B A n ss) (hB : B ≤ w.heap.size) (hn : n ≤ 1048576) :
    Calls Tryz.prog 101 #[.slice A n c] w (RetS w ss) := by
  rcases Nat.eq_zero_or_pos n with hz | hp
  · subst hz
    have HF := Lib.hid h.1
    go_enter Tryz.func101, Tryz.ntmps101
    go_wp2
    go_ret
    exact ⟨none, 0, 0, rfl, ⟨HF.out, fun h => absurd h (by omega)⟩, Nx.refl _⟩
  have h0 : ((n : Int) == 0) = false := beq_eq_false_iff_ne.2 (by omega)
  obtain ⟨i0, hi0, hz0, hz1, hz2⟩ := info_parts info_str
  have hmk := fun W => run_make_rowN (P := Tryz.prog) 32 9 i0 _ Tryz.underlying32 hi0 hz0 .i64 .i64 n n (Nat.le_refl _) (by rw [hz2]; omega) (by omega) W
  rw [hz1] at hmk
  have hmade := Own.made w #[Value.string ByteArray.empty] n 9
  have hnx := (Nx.refl w).alloc (.cells (madeCells #[Value.string ByteArray.empty] n) 9)
  obtain ⟨w1, hrun, ho1, hnx1, _, _⟩ := run_copy_new (P := Tryz.prog) (w.alloc (.cells (madeCells #[Value.string ByteArray.empty] n) 9)) 32 32 3 9 i0 1 Tryz.underlying32 hi0 hz1
    w.heap.size n n A n c B n 9 (strAt ss) _ hmade (by omega) (Nat.le_refl _) (by rw [Nat.mul_one]; exact (h.below hnx hB).2) (strAt_one ss)
  have hx1 := hnx1 w hnx (Nat.le_refl _)
  have HO := Lib.hid (ho1.congr (f' := strAt ss) (fun k hk => by rw [if_pos (by omega)]))
  clear ho1 hnx1 hmade
  go_enter Tryz.func101, Tryz.ntmps101
  go_wp2
  go_ret
  exact RetS.mk_own h.1 (Nat.le_refl _) (by have := HO.out; rw [← h.1] at this; exact this) hx1

set_option maxRecDepth 100000 in
set_option maxHeartbeats 1000000 in
theorem copyListW_c (A : Option Addr) (n c B : Nat) (ws : List (Int × ByteArray)) (w : World) (h : Wrs w B A n ws) (hB : B ≤ w.heap.size) (hn : n ≤ 1048576) :
    Calls Tryz.prog 102 #[.slice A n c] w (RetW w ws) := by
  rcases Nat.eq_zero_or_pos n with hz | hp
  · subst hz
    have HF := Lib.hid h.1
    go_enter Tryz.func102, Tryz.ntmps102
    go_wp2
    go_ret
    exact ⟨none, 0, 0, rfl, ⟨HF.out, fun h => absurd h (by omega)⟩, Nx.refl _⟩
  have h0 : ((n : Int) == 0) = false := beq_eq_false_iff_ne.2 (by omega)
  obtain ⟨i0, hi0, hz0, hz1, hz2⟩ := info_parts info_wr
  have hmk := fun W => run_make_rowN (P := Tryz.prog) 33 85 i0 _ Tryz.underlying33 hi0 hz0 .i64 .i64 n n (Nat.le_refl _) (by rw [hz2]; omega) (by omega) W
  rw [hz1] at hmk
  have hmade := Own.made w #[Value.int .i64 0, Value.string ByteArray.empty] (n * 2) 85
  have hnx := (Nx.refl w).alloc (.cells (madeCells #[Value.int .i64 0, Value.string ByteArray.empty] (n * 2)) 85)
  obtain ⟨w1, hrun, ho1, hnx1, _, _⟩ := run_copy_new (P := Tryz.prog) (w.alloc (.cells (madeCells #[Value.int .i64 0, Value.string ByteArray.empty] (n * 2)) 85)) 33 33 3 85 i0 2 Tryz.underlying33 hi0 hz1
    w.heap.size n n A n c B (n * 2) 85 (wrAt ws) _ hmade (Nat.le_refl _) (Nat.le_refl _) (h.below hnx hB).2 (wrAt_one ws)
  have hx1 := hnx1 w hnx (Nat.le_refl _)
  have HO := Lib.hid (ho1.congr (f' := wrAt ws) (fun k hk => by rw [if_pos (by omega)]))
  clear ho1 hnx1 hmade
  go_enter Tryz.func102, Tryz.ntmps102
  go_wp2
  go_ret
  exact RetW.mk_own h.1 (Nat.le_refl _) (by have := HO.out; rw [← h.1] at this; exact this) hx1

set_option maxRecDepth 100000 in
set_option maxHeartbeats 1000000 in
theorem copied_c (A A2 : Option Addr) (n c n2 c2 B : Nat) (ss : List ByteArray) (ws : List (Int × ByteArray)) (w : World) (h : Strs w B A n ss) (h2 : Wrs w B A2 n2 ws) (hB : B ≤ w.heap.size) (hn : n ≤ 1048576) (hn2 : n2 ≤ 1048576) :
    Calls Tryz.prog 42 #[.agg #[.slice A n c, .slice A2 n2 c2]] w (RetDisk w ss ws) := by
  go_enter Tryz.func42, Tryz.ntmps42
  go_wp2_with fail
  have b0 := (Box.new w 35 #[.slice A n c, .slice A2 n2 c2]).alloc (.cells #[.slice none 0 0, .slice none 0 0] 35)
  have r0 := Box.new (w.alloc (.cells #[.slice A n c, .slice A2 n2 c2] 35)) 35 #[.slice none 0 0, .slice none 0 0]
  have hnx0 := ((Nx.refl w).alloc (.cells #[.slice A n c, .slice A2 n2 c2] 35)).alloc (.cells #[.slice none 0 0, .slice none 0 0] 35)
  simp only [World.size_alloc] at r0
  generalize (w.alloc (.cells #[.slice A n c, .slice A2 n2 c2] 35)).alloc (.cells #[.slice none 0 0, .slice none 0 0] 35) = W at *
  have rd : Nx w W.drew := hnx0.drew
  have b1 : Box W.drew w.heap.size 35 #[.slice A n c, .slice A2 n2 c2] := b0
  have r1 : Box W.drew (w.heap.size + 1) 35 #[.slice none 0 0, .slice none 0 0] := r0
  have c0 := b1.c0
  have c1 := b1.c1
  go_region_held3 (fun w' => w'.cell? ⟨w.heap.size, 0, none⟩ = some (.slice A n c) ∧ w'.cell? ⟨w.heap.size, 1, none⟩ = some (.slice A2 n2 c2)) (first | exact ⟨c0, c1⟩ | exact ⟨k0, k1⟩ | exact ⟨l0, l1⟩ | exact ⟨m0, m1⟩)
    (first
      | (go_at_call 101; refine (copyListS_c A n c B ss _ (h.below rd hB) (Nat.le_trans hB rd.size) hn).mono ?_; rintro e u1 ⟨A3, n3, c3, rfl, hS3, hx3⟩; have k0 := (b1.nx hx3).c0; have k1 := (b1.nx hx3).c1; have rd3 := rd.trans hx3)
      | (go_at_call 102; refine (copyListW_c A2 n2 c2 B ws _ (h2.below rd3 hB) (Nat.le_trans hB rd3.size) hn2).mono ?_; rintro e u2 ⟨A4, n4, c4, rfl, hW4, hx4⟩; have l0 := ((b1.nx hx3).nx hx4).c0; have l1 := ((b1.nx hx3).nx hx4).c1; have r2 := (r1.nx hx3).nx hx4; have s0 := r2.c0; have s1 := r2.c1; have f0 := r2.frozen 0; have f1 := r2.frozen 1; have m0 := (((((b1.nx hx3).nx hx4).far (p := ⟨w.heap.size + 1, 0, none⟩) (by simp) (.slice A3 n3 c3))).far (p := ⟨w.heap.size + 1, 1, none⟩) (by simp) (.slice A4 n4 c4)).c0; have m1 := (((((b1.nx hx3).nx hx4).far (p := ⟨w.heap.size + 1, 0, none⟩) (by simp) (.slice A3 n3 c3))).far (p := ⟨w.heap.size + 1, 1, none⟩) (by simp) (.slice A4 n4 c4)).c1))
  have hsz := r1.lt
  have hsz1 := hx3.size
  obtain ⟨q0, q1, hSf, hWf, hxf⟩ := fin_box c3 c4 r2 (hS3.nx hx4) hW4 hsz (by omega) (rd3.trans hx4) (by omega)
  clear m0 m1 l0 l1 k0 k1 c0 c1 s0 s1 f0 f1
  generalize (u2.setCell ⟨w.heap.size + 1, 0, none⟩ (.slice A3 n3 c3)).setCell ⟨w.heap.size + 1, 1, none⟩ (.slice A4 n4 c4) = Wf at *
  go_wp2
  exact bodyPost_ret (v := .agg #[.slice A3 n3 c3, .slice A4 n4 c4]) (by simp [results, Tryz.results42, go_sem, q0, q1]) rfl ⟨A3, n3, c3, A4, n4, c4, rfl, hSf, hWf, hxf⟩

theorem wrAt_snoc (ws : List (Int × ByteArray)) (x : Int) (t : ByteArray) (k : Nat) (hk : k < (ws.length + 1) * 2) :
    wrAt (ws ++ [(x, t)]) k = if k = ws.length * 2 + 1 then .string t else if k = ws.length * 2 then .int .i64 x else wrAt ws k := by
  have hlast : (ws ++ [(x, t)]).getD ws.length (0, ByteArray.empty) = (x, t) := by
    rw [List.getD_eq_getElem?_getD, List.getElem?_append_right (Nat.le_refl _)]; simp
  by_cases h1 : k = ws.length * 2 + 1
  · subst h1; rw [if_pos rfl, wrAt_odd, hlast]
  · rw [if_neg h1]
    by_cases h2 : k = ws.length * 2
    · subst h2; rw [if_pos rfl, wrAt_even, hlast]
    · rw [if_neg h2]
      unfold wrAt
      have hd : (ws ++ [(x, t)]).getD (k / 2) (0, ByteArray.empty) = ws.getD (k / 2) (0, ByteArray.empty) := by
        rw [List.getD_eq_getElem?_getD, List.getD_eq_getElem?_getD, List.getElem?_append_left (by omega)]
      rw [hd]
set_option maxRecDepth 100000 in
set_option maxHeartbeats 1000000 in
theorem written_c (A A2 : Option Addr) (n c n2 c2 B : Nat) (ss : List ByteArray) (ws : List (Int × ByteArray)) (x : Int) (t : ByteArray) (w : World) (h : Strs w B A n ss) (h2 : Wrs w B A2 n2 ws) (hB : B ≤ w.heap.size) (hn : n ≤ 1048575) (hn2 : n2 ≤ 1048575) :
    Calls Tryz.prog 100 #[.agg #[.slice A n c, .slice A2 n2 c2], .int .i64 x, .string t] w (RetDisk w ss (ws ++ [(x, t)])) := by
  obtain ⟨i0, hi0, hz0, hz1, hz2⟩ := info_parts info_wr
  have hmk := fun W => run_make_rowN (P := Tryz.prog) 33 85 i0 _ Tryz.underlying33 hi0 hz0 .i64 .i64 (n2 + 1) (n2 + 1) (Nat.le_refl _) (by rw [hz2]; omega) (by omega) W
  rw [hz1] at hmk
  have ec : ((n2 + 1 : Nat) : Int) = (n2 : Int) + 1 := by omega
  rw [ec] at hmk
  clear ec
  go_enter Tryz.func100, Tryz.ntmps100
  go_wp2
  have b0 := ((Box.new w 35 #[.slice A n c, .slice A2 n2 c2]).alloc (.cells #[.slice none 0 0, .slice none 0 0] 35)).alloc (.cells (madeCells #[Value.int .i64 0, Value.string ByteArray.empty] ((n2 + 1) * 2)) 85)
  have r0 := (Box.new (w.alloc (.cells #[.slice A n c, .slice A2 n2 c2] 35)) 35 #[.slice none 0 0, .slice none 0 0]).alloc (.cells (madeCells #[Value.int .i64 0, Value.string ByteArray.empty] ((n2 + 1) * 2)) 85)
  have m0 := Own.made ((w.alloc (.cells #[.slice A n c, .slice A2 n2 c2] 35)).alloc (.cells #[.slice none 0 0, .slice none 0 0] 35)) #[Value.int .i64 0, Value.string ByteArray.empty] ((n2 + 1) * 2) 85
  have hnx0 := (((Nx.refl w).alloc (.cells #[.slice A n c, .slice A2 n2 c2] 35)).alloc (.cells #[.slice none 0 0, .slice none 0 0] 35)).alloc (.cells (madeCells #[Value.int .i64 0, Value.string ByteArray.empty] ((n2 + 1) * 2)) 85)
  simp only [World.size_alloc] at r0 m0
  generalize (((w.alloc (.cells #[.slice A n c, .slice A2 n2 c2] 35)).alloc (.cells #[.slice none 0 0, .slice none 0 0] 35)).alloc (.cells (madeCells #[Value.int .i64 0, Value.string ByteArray.empty] ((n2 + 1) * 2)) 85)) = W at *
  obtain ⟨w1, hrun, ho1, hnx1, hsz1, hoth⟩ := run_copy_new (P := Tryz.prog) W 33 33 3 85 i0 2 Tryz.underlying33 hi0 hz1
    (w.heap.size + 1 + 1) (n2 + 1) (n2 + 1) A2 n2 c2 B ((n2 + 1) * 2) 85 (wrAt ws) _ m0 (Nat.le_refl _) (by omega) (h2.below hnx0 hB).2 (wrAt_one ws)
  rw [hrun]
  have b1 : Box w1 w.heap.size 35 #[.slice A n c, .slice A2 n2 c2] := (hoth _ (by omega)).trans b0
  have r1 : Box w1 (w.heap.size + 1) 35 #[.slice none 0 0, .slice none 0 0] := (hoth _ (by omega)).trans r0
  have hx1 := hnx1 w hnx0 (by omega)
  clear hrun hmk hnx0 hnx1 b0 r0 hoth
  have HZ := Lib.hid hsz1
  have mlt := m0.lt
  clear m0 hsz1
  have c0 := b1.c0
  have c1 := b1.c1
  have e0 := ho1.cell (i := n2 * 2) (by omega)
  have e1 := ho1.cell (i := n2 * 2 + 1) (by omega)
  have g0 := ho1.frozen (n2 * 2)
  have g1 := ho1.frozen (n2 * 2 + 1)
  obtain ⟨v0, hv0⟩ : ∃ v, w1.cell? ⟨w.heap.size + 1 + 1, n2 * 2, none⟩ = some v := ⟨_, e0⟩
  obtain ⟨v1, hv1⟩ : ∃ v, w1.cell? ⟨w.heap.size + 1 + 1, n2 * 2 + 1, none⟩ = some v := ⟨_, e1⟩
  clear e0 e1
  go_wp2_with fail
  have ho2 := (ho1.set (k := n2 * 2) (by omega) (.int .i64 x)).set (k := n2 * 2 + 1) (by omega) (.string t)
  have ho3 : OwnW ((w1.setCell ⟨w.heap.size + 1 + 1, n2 * 2, none⟩ (.int .i64 x)).setCell ⟨w.heap.size + 1 + 1, n2 * 2 + 1, none⟩ (.string t)) (w.heap.size + 1 + 1) (ws ++ [(x, t)]) := by
    unfold OwnW
    rw [List.length_append, h2.1]
    refine ho2.congr fun k hk => ?_
    rw [wrAt_snoc ws x t k (by rw [h2.1]; exact hk), h2.1]
    by_cases k1 : k = n2 * 2 + 1
    · rw [if_pos k1, if_pos k1]
    · rw [if_neg k1, if_neg k1]
      by_cases k2 : k = n2 * 2
      · rw [if_pos k2, if_pos k2]
      · rw [if_neg k2, if_neg k2, if_pos (by omega)]
  have b2 := (b1.far (p := ⟨w.heap.size + 1 + 1, n2 * 2, none⟩) (by simp; omega) (.int .i64 x)).far (p := ⟨w.heap.size + 1 + 1, n2 * 2 + 1, none⟩) (by simp; omega) (.string t)
  have r2 := (r1.far (p := ⟨w.heap.size + 1 + 1, n2 * 2, none⟩) (by simp) (.int .i64 x)).far (p := ⟨w.heap.size + 1 + 1, n2 * 2 + 1, none⟩) (by simp) (.string t)
  have hx2 := (hx1.setCell (p := ⟨w.heap.size + 1 + 1, n2 * 2, none⟩) (by simp; omega) (.int .i64 x)).setCell (p := ⟨w.heap.size + 1 + 1, n2 * 2 + 1, none⟩) (by simp; omega) (.string t)
  generalize (w1.setCell ⟨w.heap.size + 1 + 1, n2 * 2, none⟩ (.int .i64 x)).setCell ⟨w.heap.size + 1 + 1, n2 * 2 + 1, none⟩ (.string t) = w2 at *
  clear ho1 ho2 b1 r1 hx1 hv0 hv1 g0 g1 c0 c1
  refine (copyListS_c A n c B ss _ (h.below hx2 hB) (Nat.le_trans hB hx2.size) (by omega)).mono ?_
  rintro e w3 ⟨A3, n3, c3, rfl, hS3, hx3⟩
  have r3 := r2.nx hx3
  have ho4 := Own.nx ho3 hx3
  have s0 := r3.c0
  have s1 := r3.c1
  have f0 := r3.frozen 0
  have f1 := r3.frozen 1
  have hlt3 := Own.lt ho3
  have hW4 : SlW w3 (w.heap.size + 1 + 1) (some ⟨w.heap.size + 1 + 1, 0, none⟩) (n2 + 1) (ws ++ [(x, t)]) := ⟨by rw [List.length_append, h2.1]; rfl, fun _ => ⟨_, rfl, Nat.le_refl _, ho4⟩⟩
  obtain ⟨q0, q1, hSf, hWf, hxf⟩ := fin_box c3 (n2 + 1) r3 hS3 hW4 (by omega) (by omega) (hx2.trans hx3) (by omega)
  go_wp2
  generalize (w3.setCell ⟨w.heap.size + 1, 0, none⟩ (.slice A3 n3 c3)).setCell ⟨w.heap.size + 1, 1, none⟩ (.slice (some ⟨w.heap.size + 1 + 1, 0, none⟩) (n2 + 1) (n2 + 1)) = Wf at *
  exact bodyPost_ret (v := .agg #[.slice A3 n3 c3, .slice (some ⟨w.heap.size + 1 + 1, 0, none⟩) (n2 + 1) (n2 + 1)]) (by simp [results, Tryz.results100, go_sem, q0, q1]) rfl ⟨A3, n3, c3, _, n2 + 1, n2 + 1, rfl, hSf, hWf, hxf⟩
end Go.Proofs.YteckhdkghfidiaaGreatDoor
/- Contracts of the model's functions that own and write disks. Conditions: what is copied can be read, and holds at most 1048575 elements of a kind. -/
namespace Go.Proofs.YteckhdkghfidiaaGreatDoor
set_option linter.unusedVariables false
open Go.RowKit

theorem run_append_zero {P : Program} (w : World) (t ty e : TypeId) (i : TypeInfo) (ht : P.underlying t = some (.slice e)) (hi : P.info? e = some i) (g0 : Nat) (A : Option Addr) (c : Nat) :
    (Builtin.append_ #[t, t] ty #[.slice (some ⟨g0, 0, none⟩) 0 0, .slice A 0 c]).run P w = .ok (.slice (some ⟨g0, 0, none⟩) 0 0) w := by
  rcases A with _ | a
  · simp [Builtin.append_, run_underlying ht, sizeOf, typeInfo, hi, Builtin.lenOf, Builtin.firstCells, storeCells]
  · simp [Builtin.append_, run_underlying ht, sizeOf, typeInfo, hi, Builtin.lenOf, Builtin.firstCells, storeCells, loadCells, loadCellsFrom]
theorem own_of_owns {w : World} {base : Nat} {e : TypeId} {size n : Nat} {v : Value} {N : Nat} {f : Nat → Value} (h : w.ownsRow base e size v n ((List.range N).map f)) (hn : 0 < n) (hN : N = n * size) :
    ∃ g cap, v = .slice (some ⟨g, 0, none⟩) n cap ∧ base ≤ g ∧ Own w g e N f := by
  rcases h.2 with ⟨_, h0⟩ | ⟨g, cap, cur, hv, hb, hg, hnc, _, hsz, htake⟩
  · omega
  · refine ⟨g, cap, hv, hb, cur, hg, ?_, fun i hi => ?_⟩
    · rw [hsz, hN]; exact Nat.mul_le_mul_right _ hnc
    · have : (cur.toList.take (n * size))[i]? = some (f i) := by
        rw [htake, List.getElem?_map, List.getElem?_range hi]; rfl
      rw [List.getElem?_take_of_lt (by omega)] at this
      simpa using this
theorem owns_empty (w : World) (g e : Nat) (size base : Nat) (hb : base ≤ g) (hg : w.heap[g]? = some (.cells #[] e (0, 0))) : w.ownsRow base e size (.slice (some ⟨g, 0, none⟩) 0 0) 0 [] :=
  ⟨by simp, .inr ⟨g, 0, #[], rfl, hb, hg, Nat.le_refl _, by unfold maxLen; omega, by simp, by simp⟩⟩
theorem owns_base {w : World} {base : Nat} {e : TypeId} {size n : Nat} {v : Value} {xs : List Value} (h : w.ownsRow base e size v n xs) : ∀ k, v.ownBlock = some k → base ≤ k := by
  intro k hk
  rcases h.2 with ⟨rfl, _⟩ | ⟨g, cap, cur, rfl, hb, _⟩
  · simp [Value.ownBlock] at hk
  · simp [Value.ownBlock] at hk; omega
theorem NewRow.slS {w u : World} {A : Option Addr} {n : Nat} {ss : List ByteArray} (h : NewRow w u 9 1 A n (strAt ss)) (hl : ss.length = n) : SlS u w.heap.size A n ss :=
  ⟨hl, fun hn => by
    obtain ⟨g, e, hg, ho⟩ := h.2 hn
    refine ⟨g, e, hg, ?_⟩
    unfold OwnS
    rw [hl]
    rw [Nat.mul_one] at ho
    exact ho⟩
theorem NewRow.slW {w u : World} {A : Option Addr} {n : Nat} {ws : List (Int × ByteArray)} (h : NewRow w u 85 2 A n (wrAt ws)) (hl : ws.length = n) : SlW u w.heap.size A n ws :=
  ⟨hl, fun hn => by
    obtain ⟨g, e, hg, ho⟩ := h.2 hn
    refine ⟨g, e, hg, ?_⟩
    unfold OwnW
    rw [hl]
    exact ho⟩
def RetWrite (w : World) (A : Option Addr) (n c : Nat) (ws : List (Int × ByteArray)) (e : Ending) (w' : World) : Prop :=
  ∃ (A2 : Option Addr) (n2 c2 : Nat), e = .returned (.agg #[.slice A n c, .slice A2 n2 c2]) ∧ SlW w' w.heap.size A2 n2 ws ∧ Nx w w'

theorem run_append_row {P : Program} (w : World) (base : Nat) (t ty e : TypeId) (i : TypeInfo) (z : Value) (size bytes : Nat) (ht : P.underlying t = some (.slice e)) (hi : P.info? e = some i) (hz : i.zero = some z)
    (hsize : i.size = size) (hby : i.bytes = bytes) (hzs : z.cells.size = size) (hsz : 0 < size) (v : Value) (n : Nat) (xs : List Value) (hown : w.ownsRow base e size v n xs)
    (A : Option Addr) (m c B : Nat) (f : Nat → Value) (hrow : Row w B A (m * size) f) (h1 : ∀ k, (f k).oneCell' = true) (h63 : n + m ≤ maxLen) (hbytes : (n + m) * bytes ≤ 140737488355328) (hbase : base ≤ w.heap.size) :
    ∃ v' w', (Builtin.append_ #[t, t] ty #[v, .slice A m c]).run P w = .ok v' w' ∧ w'.ownsRow base e size v' (n + m) (xs ++ (List.range (m * size)).map f) ∧ w.grownBy w' v.ownBlock := by
  rcases A with _ | a
  · have hm : m = 0 := by
      rcases Nat.eq_zero_or_pos m with h0 | h0
      · exact h0
      · obtain ⟨b, off, h, _⟩ := hrow (Nat.mul_pos h0 hsz)
        cases h
    subst hm
    refine ⟨v, w, ?_, by simpa using hown, World.grownBy.refl w _⟩
    rcases hown.2 with ⟨rfl, rfl⟩ | ⟨g, cap, cur, rfl, _, _, hnc, _⟩
    · simp [Builtin.append_, run_underlying ht, sizeOf, typeInfo, hi, Builtin.lenOf, Builtin.firstCells]
    · simp [Builtin.append_, run_underlying ht, sizeOf, typeInfo, hi, Builtin.lenOf, Builtin.firstCells, hnc, storeCells]
  · obtain ⟨v', w', hr, h2, h3, _⟩ := run_append_own (P := P) w base t ty e i z size bytes ht hi hz hsize hby hzs hsz v n xs hown a m c ((List.range (m * size)).map f) (by simp) (fun j u h => by
      obtain ⟨hj, rfl⟩ := cells_list _ _ _ _ h
      obtain ⟨b, off, e1, _, hc⟩ := hrow (by omega)
      injection e1 with e1
      subst e1
      rw [addr_add']; exact hc j hj) (fun u hu => by
      simp only [List.mem_map, List.mem_range] at hu
      obtain ⟨k, _, rfl⟩ := hu
      exact h1 k) h63 hbytes hbase
    exact ⟨v', w', hr, h2, h3⟩
theorem wpList_append_row {P : Program} {ops : Array Oper} {rest : List Oper} {o : Oper} {a : Act} {w : World} {Q : Exit → Act → World → Prop} (hgd : o.guard = none) (s x : Operand) (t : TypeId) (ho : o.op = .call { callee := .builtin .append, args := #[s, x], argTypes := #[t, t] })
    (base : Nat) (e : TypeId) (i : TypeInfo) (z : Value) (size bytes : Nat) (ht : P.underlying t = some (.slice e)) (hi : P.info? e = some i) (hz : i.zero = some z)
    (hsize : i.size = size) (hby : i.bytes = bytes) (hzs : z.cells.size = size) (hsz : 0 < size) (v : Value) (n : Nat) (xs : List Value) (hs : a.eval s = v) (hown : w.ownsRow base e size v n xs)
    (A : Option Addr) (m c B : Nat) (f : Nat → Value) (hx : a.eval x = .slice A m c) (hrow : Row w B A (m * size) f) (h1 : ∀ k, (f k).oneCell' = true) (h63 : n + m ≤ maxLen) (hbytes : (n + m) * bytes ≤ 140737488355328) (hbase : base ≤ w.heap.size)
    (h : ∀ v' w', w'.ownsRow base e size v' (n + m) (xs ++ (List.range (m * size)).map f) → w.grownBy w' v.ownBlock → wpList P ops Q rest (a.put o.dst v') w') : wpList P ops Q (o :: rest) a w :=
  wpList_plain hgd fun K hK => by
    obtain ⟨v', w', hrun, h2, h3⟩ := run_append_row (P := P) w base t o.type e i z size bytes ht hi hz hsize hby hzs hsz v n xs hown A m c B f hrow h1 h63 hbytes hbase
    unfold Oper.wp execOp
    simp only [ho, resolve, invoke, builtin, Sem.run_bind, Sem.run_pure, Result.andThen_ok, List.map_toArray, List.map_cons, List.map_nil, hs, hx, hrun]
    exact hK _ _ (h v' w' h2 h3)
def oneW (x : Int) (t : ByteArray) (i : Nat) : Value := if i = 0 then .int .i64 x else .string t
theorem oneW_one (x : Int) (t : ByteArray) (k : Nat) : (oneW x t k).oneCell' = true := by unfold oneW; split <;> rfl
theorem wr_list (ws : List (Int × ByteArray)) (x : Int) (t : ByteArray) :
    (List.range (ws.length * 2)).map (wrAt ws) ++ (List.range 2).map (oneW x t) = (List.range ((ws.length + 1) * 2)).map (wrAt (ws ++ [(x, t)])) := by
  apply List.ext_getElem?
  intro k
  by_cases hk : k < (ws.length + 1) * 2
  · rw [List.getElem?_map (l := List.range ((ws.length + 1) * 2)), List.getElem?_range hk, Option.map_some, wrAt_snoc ws x t k hk]
    by_cases h1 : k < ws.length * 2
    · rw [List.getElem?_append_left (by simpa using h1), List.getElem?_map, List.getElem?_range h1, Option.map_some, if_neg (by omega), if_neg (by omega)]
    · rw [List.getElem?_append_right (by simpa using h1), List.getElem?_map, List.length_map, List.length_range, List.getElem?_range (by omega), Option.map_some]
      unfold oneW
      by_cases h2 : k = ws.length * 2
      · rw [if_pos (by omega), if_neg (by omega), if_pos h2]
      · rw [if_neg (by omega), if_pos (by omega)]
  · rw [List.getElem?_eq_none (by simp; omega), List.getElem?_eq_none (by simp; omega)]
theorem box_row {w : World} {g : Nat} {ty : TypeId} {x : Int} {t : ByteArray} (h : Box w g ty #[.int .i64 x, .string t]) : Row w w.heap.size (some ⟨g, 0, none⟩) (1 * 2) (oneW x t) := fun _ =>
  ⟨g, 0, rfl, h.lt, fun i hi => by
    rw [Nat.zero_add]
    rcases (show i = 0 ∨ i = 1 by omega) with rfl | rfl
    · exact h.c0
    · exact h.c1⟩

set_option maxRecDepth 100000 in
set_option maxHeartbeats 1000000 in
theorem l01Write_c (A A2 : Option Addr) (n c n2 c2 B : Nat) (ws : List (Int × ByteArray)) (x : Int) (t : ByteArray) (w : World) (h2 : Wrs w B A2 n2 ws) (hB : B ≤ w.heap.size) (hn2 : n2 ≤ 1048575) :
    Calls Tryz.prog 106 #[.agg #[.slice A n c, .slice A2 n2 c2], .int .i64 x, .string t] w (RetWrite w A n c (ws ++ [(x, t)])) := by
  obtain ⟨i0, hi0, hz0, hz1, hz2⟩ := info_parts info_wr
  have b0 := ((Box.new w 35 #[.slice A n c, .slice A2 n2 c2]).alloc (.cells #[.slice none 0 0, .slice none 0 0] 35)).alloc (.cells #[] 85)
  have r0 := (Box.new (w.alloc (.cells #[.slice A n c, .slice A2 n2 c2] 35)) 35 #[.slice none 0 0, .slice none 0 0]).alloc (.cells #[] 85)
  have m0 := Box.new ((w.alloc (.cells #[.slice A n c, .slice A2 n2 c2] 35)).alloc (.cells #[.slice none 0 0, .slice none 0 0] 35)) 85 #[]
  have hnx0 := (((Nx.refl w).alloc (.cells #[.slice A n c, .slice A2 n2 c2] 35)).alloc (.cells #[.slice none 0 0, .slice none 0 0] 35)).alloc (.cells #[] 85)
  simp only [World.size_alloc] at r0 m0
  have hown0 := owns_empty _ (w.heap.size + 1 + 1) 85 2 (w.heap.size + 1 + 1) (Nat.le_refl _) m0
  go_enter Tryz.func106, Tryz.ntmps106
  go_wp2_with (at_builtin; refine wpList_append_row rfl (.tmp 7) (.tmp 9) 33 rfl (w.heap.size + 1 + 1) 85 i0 _ 2 24 Tryz.underlying33 hi0 hz0 hz1 hz2 rfl (by omega) (.slice (some ⟨w.heap.size + 1 + 1, 0, none⟩) 0 0) 0 [] rfl hown0 A2 n2 c2 B (wrAt ws) rfl (h2.below hnx0 hB).2 (wrAt_one ws) ?c1 ?c2 ?c3 ?_)
  case c1 => unfold maxLen; omega
  case c2 => omega
  case c3 => simp
  intro v1 w1 hown1 hg1
  have b1 := b0.grown hg1 (by simp [Value.ownBlock]; omega)
  have r1 := r0.grown hg1 (by simp [Value.ownBlock])
  have hx1 : Nx w w1 := Below.grown hnx0 hg1 hnx0.size (fun k hk => by simp [Value.ownBlock] at hk; omega)
  have hsz1 : w.heap.size + 1 + 1 + 1 ≤ w1.heap.size := by have := hg1.size; simpa using this
  clear b0 r0 m0 hnx0 hown0 hg1
  have b2 := b1.alloc (.cells #[.int .i64 x, .string t] 85)
  have r2 := r1.alloc (.cells #[.int .i64 x, .string t] 85)
  have hx2 := hx1.alloc (.cells #[.int .i64 x, .string t] 85)
  have n0 := Box.new w1 85 #[.int .i64 x, .string t]
  have hown2 := hown1.alloc (.cells #[.int .i64 x, .string t] 85)
  go_wp2_with (at_builtin; refine wpList_append_row rfl (.tmp 10) (.tmp 14) 33 rfl (w.heap.size + 1 + 1) 85 i0 _ 2 24 Tryz.underlying33 hi0 hz0 hz1 hz2 rfl (by omega) v1 n2 _ rfl hown2 (some ⟨w1.heap.size, 0, none⟩) 1 1 _ (oneW x t) rfl (box_row n0) (oneW_one x t) ?c1 ?c2 ?c3 ?_)
  case c1 => unfold maxLen; omega
  case c2 => omega
  case c3 => simp; omega
  intro v2 w2 hown3 hg2
  have hbs := owns_base hown1
  have b3 := b2.grown hg2 (fun e => by have := hbs _ e.symm; omega)
  have r3 := r2.grown hg2 (fun e => by have := hbs _ e.symm; omega)
  have hx3 : Nx w w2 := Below.grown hx2 hg2 hx2.size (fun k hk => by have := hbs k hk; omega)
  have hl2 := wr_list ws x t
  rw [h2.1] at hl2
  rw [show ([oneW x t 0, oneW x t 1] : List Value) = (List.range 2).map (oneW x t) from rfl, hl2] at hown3
  obtain ⟨g, cap, rfl, hg, ho⟩ := own_of_owns hown3 (by omega) rfl
  clear b2 r2 hx2 n0 hown2 hown1 hown3 hg2 hbs b1 r1 hl2
  have c0 := b3.c0
  have c1 := b3.c1
  have f1 := b3.frozen 1
  have s0 := r3.c0
  have s1 := r3.c1
  have k0 := r3.frozen 0
  have k1 := r3.frozen 1
  have olt := ho.lt
  go_wp2
  have b4 := b3.set1 (.slice (some ⟨g, 0, none⟩) (n2 + 1) cap)
  have r4 := r3.far (p := ⟨w.heap.size, 1, none⟩) (by simp) (.slice (some ⟨g, 0, none⟩) (n2 + 1) cap)
  have o4 := ho.far (p := ⟨w.heap.size, 1, none⟩) (by simp; omega) (.slice (some ⟨g, 0, none⟩) (n2 + 1) cap)
  have hx4 := hx3.setCell (p := ⟨w.heap.size, 1, none⟩) (by simp) (.slice (some ⟨g, 0, none⟩) (n2 + 1) cap)
  have q := (r4.set0 (.slice A n c)).set1 (.slice (some ⟨g, 0, none⟩) (n2 + 1) cap)
  have q0 := q.c0
  have q1 := q.c1
  have o5 := (o4.far (p := ⟨w.heap.size + 1, 0, none⟩) (by simp; omega) (.slice A n c)).far (p := ⟨w.heap.size + 1, 1, none⟩) (by simp; omega) (.slice (some ⟨g, 0, none⟩) (n2 + 1) cap)
  have hx5 := (hx4.setCell (p := ⟨w.heap.size + 1, 0, none⟩) (by simp) (.slice A n c)).setCell (p := ⟨w.heap.size + 1, 1, none⟩) (by simp) (.slice (some ⟨g, 0, none⟩) (n2 + 1) cap)
  generalize ((w2.setCell ⟨w.heap.size, 1, none⟩ (.slice (some ⟨g, 0, none⟩) (n2 + 1) cap)).setCell ⟨w.heap.size + 1, 0, none⟩ (.slice A n c)).setCell ⟨w.heap.size + 1, 1, none⟩ (.slice (some ⟨g, 0, none⟩) (n2 + 1) cap) = Wf at *
  exact bodyPost_ret (v := .agg #[.slice A n c, .slice (some ⟨g, 0, none⟩) (n2 + 1) cap]) (by simp [results, Tryz.results106, go_sem, q0, q1]) rfl
    ⟨_, n2 + 1, cap, rfl, ⟨by rw [List.length_append, h2.1]; rfl, fun _ => ⟨g, rfl, by omega, by unfold OwnW; rw [List.length_append, h2.1]; exact o5⟩⟩, hx5⟩

set_option maxRecDepth 100000 in
set_option maxHeartbeats 2000000 in
theorem l01Own_c (A A2 : Option Addr) (n c n2 c2 B : Nat) (ss : List ByteArray) (ws : List (Int × ByteArray)) (w : World) (h : Strs w B A n ss) (h2 : Wrs w B A2 n2 ws) (hB : B ≤ w.heap.size) (hn : n ≤ 1048576) (hn2 : n2 ≤ 1048576) :
    Calls Tryz.prog 46 #[.agg #[.slice A n c, .slice A2 n2 c2]] w (RetDisk w ss ws) := by
  obtain ⟨i0, hi0, hz0, hz1, hz2⟩ := info_parts info_wr
  obtain ⟨j0, hj0, hy0, hy1, hy2⟩ := info_parts info_str
  go_enter Tryz.func46, Tryz.ntmps46
  go_wp2_with fail
  have b0 := (Box.new w 35 #[.slice A n c, .slice A2 n2 c2]).alloc (.cells #[.slice none 0 0, .slice none 0 0] 35)
  have r0 := Box.new (w.alloc (.cells #[.slice A n c, .slice A2 n2 c2] 35)) 35 #[.slice none 0 0, .slice none 0 0]
  have hnx0 := ((Nx.refl w).alloc (.cells #[.slice A n c, .slice A2 n2 c2] 35)).alloc (.cells #[.slice none 0 0, .slice none 0 0] 35)
  simp only [World.size_alloc] at r0
  generalize (w.alloc (.cells #[.slice A n c, .slice A2 n2 c2] 35)).alloc (.cells #[.slice none 0 0, .slice none 0 0] 35) = W at *
  have c0 := b0.c0
  have c1 := b0.c1
  have hne := World.new_ne W _ c0
  go_region_held3 (fun w' => w'.cell? ⟨w.heap.size, 0, none⟩ = some (.slice A n c) ∧ w'.cell? ⟨w.heap.size, 1, none⟩ = some (.slice A2 n2 c2)) (first | exact ⟨c0, c1⟩ | exact ⟨Box.c0 (b0.alloc _), Box.c1 (b0.alloc _)⟩ | exact ⟨Box.c0 ((b0.alloc _).alloc _), Box.c1 ((b0.alloc _).alloc _)⟩ | exact ⟨Box.c0 bu, Box.c1 bu⟩ | exact ⟨Box.c0 (bu.alloc _), Box.c1 (bu.alloc _)⟩ | exact ⟨Box.c0 bv, Box.c1 bv⟩ | exact ⟨z0, z1⟩)
    (first
      | (refine step_append_new ?_ (.tmp 3) (.tmp 5) 32 ?_ 9 j0 _ 1 16 Tryz.underlying32 hj0 hy0 hy1 hy2 (by decide) (by decide) (W.heap.size) A n c B (strAt ss) ?_ ?_ ?_ hn ?_
         · rfl
         · rfl
         · rfl
         · rfl
         · rw [Nat.mul_one]; refine (h.below (B' := w.heap.size) ?_ hB).2; first | exact (hnx0.alloc _).drew | exact ((hnx0.alloc _).alloc _).drew
         intro A3 c3 u1 hN3
         have bu : Box u1 w.heap.size 35 #[.slice A n c, .slice A2 n2 c2] := by refine Box.nx ?_ hN3.1; first | exact b0.alloc _ | exact (b0.alloc _).alloc _
         have ru : Box u1 (w.heap.size + 1) 35 #[.slice none 0 0, .slice none 0 0] := by refine Box.nx ?_ hN3.1; first | exact r0.alloc _ | exact (r0.alloc _).alloc _
         have xu : Nx w u1 := by refine Nx.trans ?_ hN3.1; first | exact (hnx0.alloc _).drew | exact ((hnx0.alloc _).alloc _).drew)
      | (refine step_append_new ?_ (.tmp 3) (.tmp 5) 32 ?_ 9 j0 _ 1 16 Tryz.underlying32 hj0 hy0 hy1 hy2 (by decide) (by decide) (W.heap.size + 1) A n c B (strAt ss) ?_ ?_ ?_ hn ?_
         · rfl
         · rfl
         · rfl
         · rfl
         · rw [Nat.mul_one]; refine (h.below (B' := w.heap.size) ?_ hB).2; first | exact (hnx0.alloc _).drew | exact ((hnx0.alloc _).alloc _).drew
         intro A3 c3 u1 hN3
         have bu : Box u1 w.heap.size 35 #[.slice A n c, .slice A2 n2 c2] := by refine Box.nx ?_ hN3.1; first | exact b0.alloc _ | exact (b0.alloc _).alloc _
         have ru : Box u1 (w.heap.size + 1) 35 #[.slice none 0 0, .slice none 0 0] := by refine Box.nx ?_ hN3.1; first | exact r0.alloc _ | exact (r0.alloc _).alloc _
         have xu : Nx w u1 := by refine Nx.trans ?_ hN3.1; first | exact (hnx0.alloc _).drew | exact ((hnx0.alloc _).alloc _).drew)
      | (refine step_append_new ?_ (.tmp 7) (.tmp 9) 33 ?_ 85 i0 _ 2 24 Tryz.underlying33 hi0 hz0 hz1 hz2 (by decide) (by decide) (u1.heap.size) A2 n2 c2 B (wrAt ws) ?_ ?_ ?_ hn2 ?_
         · rfl
         · rfl
         · rfl
         · rfl
         · refine (h2.below (B' := w.heap.size) ?_ hB).2; first | exact xu | exact xu.alloc _
         intro A4 c4 u2 hN4
         have bv : Box u2 w.heap.size 35 #[.slice A n c, .slice A2 n2 c2] := by refine Box.nx ?_ hN4.1; first | exact bu | exact bu.alloc _
         have rv : Box u2 (w.heap.size + 1) 35 #[.slice none 0 0, .slice none 0 0] := by refine Box.nx ?_ hN4.1; first | exact ru | exact ru.alloc _
         have xv : Nx w u2 := by refine Nx.trans ?_ hN4.1; first | exact xu | exact xu.alloc _
         have s0 := rv.c0
         have s1 := rv.c1
         have f0 := rv.frozen 0
         have f1 := rv.frozen 1
         have z0 := (((bv.far (p := ⟨w.heap.size + 1, 0, none⟩) (by simp) (.slice A3 n c3))).far (p := ⟨w.heap.size + 1, 1, none⟩) (by simp) (.slice A4 n2 c4)).c0
         have z1 := (((bv.far (p := ⟨w.heap.size + 1, 0, none⟩) (by simp) (.slice A3 n c3))).far (p := ⟨w.heap.size + 1, 1, none⟩) (by simp) (.slice A4 n2 c4)).c1)
      | (refine step_append_new ?_ (.tmp 7) (.tmp 9) 33 ?_ 85 i0 _ 2 24 Tryz.underlying33 hi0 hz0 hz1 hz2 (by decide) (by decide) (W.heap.size + 1) A2 n2 c2 B (wrAt ws) ?_ ?_ ?_ hn2 ?_
         · rfl
         · rfl
         · rfl
         · rfl
         · refine (h2.below (B' := w.heap.size) ?_ hB).2; first | exact xu | exact xu.alloc _
         intro A4 c4 u2 hN4
         have bv : Box u2 w.heap.size 35 #[.slice A n c, .slice A2 n2 c2] := by refine Box.nx ?_ hN4.1; first | exact bu | exact bu.alloc _
         have rv : Box u2 (w.heap.size + 1) 35 #[.slice none 0 0, .slice none 0 0] := by refine Box.nx ?_ hN4.1; first | exact ru | exact ru.alloc _
         have xv : Nx w u2 := by refine Nx.trans ?_ hN4.1; first | exact xu | exact xu.alloc _
         have s0 := rv.c0
         have s1 := rv.c1
         have f0 := rv.frozen 0
         have f1 := rv.frozen 1
         have z0 := (((bv.far (p := ⟨w.heap.size + 1, 0, none⟩) (by simp) (.slice A3 n c3))).far (p := ⟨w.heap.size + 1, 1, none⟩) (by simp) (.slice A4 n2 c4)).c0
         have z1 := (((bv.far (p := ⟨w.heap.size + 1, 0, none⟩) (by simp) (.slice A3 n c3))).far (p := ⟨w.heap.size + 1, 1, none⟩) (by simp) (.slice A4 n2 c4)).c1)
      | (refine step_append_new ?_ (.tmp 7) (.tmp 9) 33 ?_ 85 i0 _ 2 24 Tryz.underlying33 hi0 hz0 hz1 hz2 (by decide) (by decide) (W.heap.size) A2 n2 c2 B (wrAt ws) ?_ ?_ ?_ hn2 ?_
         · rfl
         · rfl
         · rfl
         · rfl
         · refine (h2.below (B' := w.heap.size) ?_ hB).2; first | exact xu | exact xu.alloc _
         intro A4 c4 u2 hN4
         have bv : Box u2 w.heap.size 35 #[.slice A n c, .slice A2 n2 c2] := by refine Box.nx ?_ hN4.1; first | exact bu | exact bu.alloc _
         have rv : Box u2 (w.heap.size + 1) 35 #[.slice none 0 0, .slice none 0 0] := by refine Box.nx ?_ hN4.1; first | exact ru | exact ru.alloc _
         have xv : Nx w u2 := by refine Nx.trans ?_ hN4.1; first | exact xu | exact xu.alloc _
         have s0 := rv.c0
         have s1 := rv.c1
         have f0 := rv.frozen 0
         have f1 := rv.frozen 1
         have z0 := (((bv.far (p := ⟨w.heap.size + 1, 0, none⟩) (by simp) (.slice A3 n c3))).far (p := ⟨w.heap.size + 1, 1, none⟩) (by simp) (.slice A4 n2 c4)).c0
         have z1 := (((bv.far (p := ⟨w.heap.size + 1, 0, none⟩) (by simp) (.slice A3 n c3))).far (p := ⟨w.heap.size + 1, 1, none⟩) (by simp) (.slice A4 n2 c4)).c1)
      )
  all_goals
    have l0 := r0.lt
    have l1 := ru.lt
    have n12 : Nx u1 u2 := by first | exact hN4.1 | exact ((Nx.refl u1).alloc _).trans hN4.1
    have hS3 := ((hN3.slS h.1).low (lo' := w.heap.size + 1 + 1) (by first | omega | (simp; omega))).nx n12
    have hW4 := (hN4.slW h2.1).low (lo' := w.heap.size + 1 + 1) (by first | omega | (simp; omega))
    obtain ⟨q0, q1, hSf, hWf, hxf⟩ := fin_box c3 c4 rv hS3 hW4 (by omega) (by omega) xv (by omega)
    clear z0 z1 s0 s1 f0 f1 c0 c1
    generalize (u2.setCell ⟨w.heap.size + 1, 0, none⟩ (.slice A3 n c3)).setCell ⟨w.heap.size + 1, 1, none⟩ (.slice A4 n2 c4) = Wf at *
    go_wp2
    exact bodyPost_ret (v := .agg #[.slice A3 n c3, .slice A4 n2 c4]) (by simp [results, Tryz.results46, go_sem, q0, q1]) rfl ⟨A3, n, c3, A4, n2, c4, rfl, hSf, hWf, hxf⟩
end Go.Proofs.YteckhdkghfidiaaGreatDoor
