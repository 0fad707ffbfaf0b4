/-
  Texts of the proof, put together in their order: Vst, Vsa, Vsk, Vvb, Vvw, Vvr, Vvs, Nqa.
  Conditions: those of each.
-/
import Derived.Test.YtehahodomfbpjaaGreatDoorMm13
import Derived.ChangeKeysEq
/- Contracts of the model: the segment that the next step goes over. Conditions: what is read can be read, and holds at most 1048576 elements of a kind. -/
namespace Go.Proofs.YtehahodomfbpjaaGreatDoor
set_option linter.unusedVariables false
set_option maxRecDepth 100000
open Go.RowKit

theorem Box.g8 {w : World} {g : Nat} {t : TypeId} {v0 v1 v2 v3 v4 v5 v6 v7 : Value} (h : Box w g t #[v0, v1, v2, v3, v4, v5, v6, v7]) : w.cell? ⟨g, 0, none⟩ = some v0 ∧ w.cell? ⟨g, 1, none⟩ = some v1 ∧ w.cell? ⟨g, 2, none⟩ = some v2 ∧ w.cell? ⟨g, 3, none⟩ = some v3 ∧ w.cell? ⟨g, 4, none⟩ = some v4 ∧ w.cell? ⟨g, 5, none⟩ = some v5 ∧ w.cell? ⟨g, 6, none⟩ = some v6 ∧ w.cell? ⟨g, 7, none⟩ = some v7 := h.e8
end Go.Proofs.YtehahodomfbpjaaGreatDoor
/- Contracts of the model: the content that is known, and its position. Conditions: what is read can be read, and holds at most 1048576 elements of a kind. -/
namespace Go.Proofs.YtehahodomfbpjaaGreatDoor
set_option linter.unusedVariables false
set_option maxRecDepth 100000
open Go.RowKit

end Go.Proofs.YtehahodomfbpjaaGreatDoor
/- Contracts of the model: what a vault is. Conditions: what is read can be read, and holds at most 1048576 elements of a kind. -/
namespace Go.Proofs.YtehahodomfbpjaaGreatDoor
set_option linter.unusedVariables false
set_option maxRecDepth 100000
open Go.RowKit

end Go.Proofs.YtehahodomfbpjaaGreatDoor
/- The program's view of a vault: words. Conditions: what is read can be read, and holds at most 1048576 elements of a kind. -/
namespace Go.Proofs.YtehahodomfbpjaaGreatDoor
set_option linter.unusedVariables false
set_option maxRecDepth 100000
open Go.RowKit

/-- The program's view of a vault. -/
def Vl.wcells (V : Vl) : Array Value := #[.int .i64 V.g, .int .i64 V.b, .int .i64 V.p, .int .i64 V.t, .slice V.A V.xs.length V.c, .slice V.A2 V.ms.length V.c2, .slice V.A3 V.gs.length V.c3, inAt V.im 0, inAt V.im 1, inAt V.im 2, inAt V.im 3, inAt V.im 4, inAt V.im 5, inAt V.im 6, inAt V.im 7]
def Vl.w (V : Vl) : Value := .agg V.wcells
theorem Box.e15 {w : World} {g : Nat} {t : TypeId} {v0 v1 v2 v3 v4 v5 v6 v7 v8 v9 v10 v11 v12 v13 v14 : Value} (h : Box w g t #[v0, v1, v2, v3, v4, v5, v6, v7, v8, v9, v10, v11, v12, v13, v14]) : w.cell? ⟨g, 0, none⟩ = some v0 ∧ w.cell? ⟨g, 1, none⟩ = some v1 ∧ w.cell? ⟨g, 2, none⟩ = some v2 ∧ w.cell? ⟨g, 3, none⟩ = some v3 ∧ w.cell? ⟨g, 4, none⟩ = some v4 ∧ w.cell? ⟨g, 5, none⟩ = some v5 ∧ w.cell? ⟨g, 6, none⟩ = some v6 ∧ w.cell? ⟨g, 7, none⟩ = some v7 ∧ w.cell? ⟨g, 8, none⟩ = some v8 ∧ w.cell? ⟨g, 9, none⟩ = some v9 ∧ w.cell? ⟨g, 10, none⟩ = some v10 ∧ w.cell? ⟨g, 11, none⟩ = some v11 ∧ w.cell? ⟨g, 12, none⟩ = some v12 ∧ w.cell? ⟨g, 13, none⟩ = some v13 ∧ w.cell? ⟨g, 14, none⟩ = some v14 :=
  ⟨h.cell 0, h.cell 1, h.cell 2, h.cell 3, h.cell 4, h.cell 5, h.cell 6, h.cell 7, h.cell 8, h.cell 9, h.cell 10, h.cell 11, h.cell 12, h.cell 13, h.cell 14⟩
theorem Box.row {w : World} {g : Nat} {t : TypeId} {cs : Array Value} (h : Box w g t cs) (ds : Array Value) : Box (w.setRow g ds) g t ds := setRow_heap w g cs ds t _ h
theorem heap_setRow_ne (w : World) (g : Nat) (ds : Array Value) {k : Nat} (h : k ≠ g) : (w.setRow g ds).heap[k]? = w.heap[k]? := by
  simp only [World.setRow, Array.getElem?_modify]
  rw [if_neg (fun e : g = k => h e.symm)]
theorem size_setRow (w : World) (g : Nat) (ds : Array Value) : (w.setRow g ds).heap.size = w.heap.size := by simp [World.setRow]
theorem Nx.setRow {a w : World} (h : Nx a w) {g : Nat} (hg : a.heap.size ≤ g) (ds : Array Value) : Nx a (w.setRow g ds) :=
  ⟨h.os, h.tape, h.output, by rw [size_setRow]; exact h.size, fun k hk => (heap_setRow_ne w g ds (by omega)).trans (h.block k hk)⟩
theorem Box.rowfar {w : World} {g k : Nat} {t : TypeId} {cs : Array Value} (h : Box w k t cs) (hne : k ≠ g) (ds : Array Value) : Box (w.setRow g ds) k t cs := (heap_setRow_ne w g ds hne).trans h
theorem Own.rowfar {w : World} {g k m : Nat} {t : TypeId} {f : Nat → Value} (h : Own w k t m f) (hne : k ≠ g) (ds : Array Value) : Own (w.setRow g ds) k t m f := h.of_block (heap_setRow_ne w g ds hne)
theorem Sl.rowfar {w : World} {lo m g : Nat} {A : Option Addr} {t : TypeId} {f : Nat → Value} (h : Sl w lo A t m f) (hg : g < lo) (ds : Array Value) : Sl (w.setRow g ds) lo A t m f := fun hm => by
  obtain ⟨k, e, hl, ho⟩ := h hm; exact ⟨k, e, hl, ho.rowfar (by omega) ds⟩

set_option maxHeartbeats 1000000 in
theorem goesForward_c (g b p t : Int) (A A2 : Option Addr) (c c2 n n2 : Nat) (w : World) :
    Calls Tryz.prog 232 #[.agg #[.int .i64 g, .int .i64 b, .int .i64 p, .int .i64 t, .slice A n c, .slice A2 n2 c2]] w fun e w' => e = .returned (.bool (decide (p < t))) ∧ Nx w w' := by
  have hx0 := (Nx.refl w).alloc (.cells #[.int .i64 g, .int .i64 b, .int .i64 p, .int .i64 t, .slice A n c, .slice A2 n2 c2] 30)
  go_enter Tryz.func232, Tryz.ntmps232
  go_wp2
  go_ret
  exact ⟨rfl, hx0⟩

set_option maxHeartbeats 1000000 in
theorem goesBack_c (g b p t : Int) (A A2 : Option Addr) (c c2 n n2 : Nat) (w : World) :
    Calls Tryz.prog 233 #[.agg #[.int .i64 g, .int .i64 b, .int .i64 p, .int .i64 t, .slice A n c, .slice A2 n2 c2]] w fun e w' => e = .returned (.bool (decide (t < p))) ∧ Nx w w' := by
  have hx0 := (Nx.refl w).alloc (.cells #[.int .i64 g, .int .i64 b, .int .i64 p, .int .i64 t, .slice A n c, .slice A2 n2 c2] 30)
  go_enter Tryz.func233, Tryz.ntmps233
  go_wp2
  go_ret
  exact ⟨rfl, hx0⟩
end Go.Proofs.YtehahodomfbpjaaGreatDoor
/- The program's view of a vault. Conditions: what is read can be read, and holds at most 1048576 elements of a kind. -/
namespace Go.Proofs.YtehahodomfbpjaaGreatDoor
set_option linter.unusedVariables false
set_option maxRecDepth 100000
open Go.RowKit

set_option maxHeartbeats 4000000 in
theorem view_c (V : Vl) (B : Nat) (w : World) (h : Ins w B V.A4 V.im) (hB : B ≤ w.heap.size) (h8 : V.im.length = 8) :
    Calls Tryz.prog 95 #[V.v] w fun e w' => e = .returned V.w ∧ Nx w w' := by
  obtain ⟨g, b, p, t, A, c, xs, A2, c2, ms, A3, c3, gs, A4, c4, im⟩ := V
  simp only [Vl.v, Vl.cells, Vl.w, Vl.wcells] at *
  have H8 := Lib.hid h8
  have h4 := h
  clear h8 h
  have b0 : Box ((w.alloc (.cells #[.int .i64 g, .int .i64 b, .int .i64 p, .int .i64 t, .slice A xs.length c, .slice A2 ms.length c2, .slice A3 gs.length c3, .slice A4 8 c4] 33)).alloc (.cells #[.int .i64 0, .int .i64 0, .int .i64 0, .int .i64 0, .slice none 0 0, .slice none 0 0, .slice none 0 0, .int .i64 0, .int .i64 0, .int .i64 0, .int .i64 0, .int .i64 0, .int .i64 0, .int .i64 0, .int .i64 0] 118)) w.heap.size 33 #[.int .i64 g, .int .i64 b, .int .i64 p, .int .i64 t, .slice A xs.length c, .slice A2 ms.length c2, .slice A3 gs.length c3, .slice A4 8 c4] := (Box.new w _ _).alloc _
  have r0 : Box ((w.alloc (.cells #[.int .i64 g, .int .i64 b, .int .i64 p, .int .i64 t, .slice A xs.length c, .slice A2 ms.length c2, .slice A3 gs.length c3, .slice A4 8 c4] 33)).alloc (.cells #[.int .i64 0, .int .i64 0, .int .i64 0, .int .i64 0, .slice none 0 0, .slice none 0 0, .slice none 0 0, .int .i64 0, .int .i64 0, .int .i64 0, .int .i64 0, .int .i64 0, .int .i64 0, .int .i64 0, .int .i64 0] 118)) (w.heap.size + 1) 118 #[.int .i64 0, .int .i64 0, .int .i64 0, .int .i64 0, .slice none 0 0, .slice none 0 0, .slice none 0 0, .int .i64 0, .int .i64 0, .int .i64 0, .int .i64 0, .int .i64 0, .int .i64 0, .int .i64 0, .int .i64 0] := by have := Box.new (w.alloc (.cells #[.int .i64 g, .int .i64 b, .int .i64 p, .int .i64 t, .slice A xs.length c, .slice A2 ms.length c2, .slice A3 gs.length c3, .slice A4 8 c4] 33)) 118 #[.int .i64 0, .int .i64 0, .int .i64 0, .int .i64 0, .slice none 0 0, .slice none 0 0, .slice none 0 0, .int .i64 0, .int .i64 0, .int .i64 0, .int .i64 0, .int .i64 0, .int .i64 0, .int .i64 0, .int .i64 0]; rwa [World.size_alloc] at this
  have hx0 := ((Nx.refl w).alloc (.cells #[.int .i64 g, .int .i64 b, .int .i64 p, .int .i64 t, .slice A xs.length c, .slice A2 ms.length c2, .slice A3 gs.length c3, .slice A4 8 c4] 33)).alloc (.cells #[.int .i64 0, .int .i64 0, .int .i64 0, .int .i64 0, .slice none 0 0, .slice none 0 0, .slice none 0 0, .int .i64 0, .int .i64 0, .int .i64 0, .int .i64 0, .int .i64 0, .int .i64 0, .int .i64 0, .int .i64 0] 118)
  go_enter Tryz.func95, Tryz.ntmps95
  rw [H8.out]
  go_wp2_with fail
  generalize ((w.alloc (.cells #[.int .i64 g, .int .i64 b, .int .i64 p, .int .i64 t, .slice A xs.length c, .slice A2 ms.length c2, .slice A3 gs.length c3, .slice A4 8 c4] 33)).alloc (.cells #[.int .i64 0, .int .i64 0, .int .i64 0, .int .i64 0, .slice none 0 0, .slice none 0 0, .slice none 0 0, .int .i64 0, .int .i64 0, .int .i64 0, .int .i64 0, .int .i64 0, .int .i64 0, .int .i64 0, .int .i64 0] 118)) = W at *
  obtain ⟨gR, HgR⟩ : ∃ g, Hid (w.heap.size + 1 = g) := ⟨_, rfl⟩
  have hgR : w.heap.size ≤ gR := by have := HgR.out; omega
  have hne : w.heap.size ≠ gR := by have := HgR.out; omega
  rw [HgR.out]
  rw [HgR.out] at r0
  refine wp_region_lex [false, false, false, false, false, false, true, false, true] (fun w' => w'.cell? ⟨w.heap.size, 0, none⟩ = some (.int .i64 g) ∧ w'.cell? ⟨w.heap.size, 1, none⟩ = some (.int .i64 b) ∧ w'.cell? ⟨w.heap.size, 2, none⟩ = some (.int .i64 p) ∧ w'.cell? ⟨w.heap.size, 3, none⟩ = some (.int .i64 t) ∧ w'.cell? ⟨w.heap.size, 4, none⟩ = some (.slice A xs.length c) ∧ w'.cell? ⟨w.heap.size, 5, none⟩ = some (.slice A2 ms.length c2) ∧ w'.cell? ⟨w.heap.size, 6, none⟩ = some (.slice A3 gs.length c3) ∧ w'.cell? ⟨w.heap.size, 7, none⟩ = some (.slice A4 8 c4)) (by kernel_rfl) (by kernel_rfl) rfl (by kernel_rfl) (fun _ _ d _ _ h => by cases d <;> exact h) (by exact b0.e8) ?_
  repeat (first | (refine HL.take (v := ?_) (by rfl) ?_ ?_; rotate_left; (· (intro w hSw; (try dsimp only at hSw); go_simp; try with_reducible rfl)); (try simp only [Act.put, List.setIfInBounds_toArray, List.set_cons_zero, List.set_cons_succ])) | (refine HL.skip (by rfl) ?_; (try simp only [Act.put, List.setIfInBounds_toArray, List.set_cons_zero, List.set_cons_succ])))
  refine HL.call (by rfl) (fun K hK => ?_)
  go_simp
  have hcv := valuesOf_c A4 c4 B im _ (h4.below hx0.drew hB) (Nat.le_trans hB hx0.drew.size) H8.out; rw [H8.out] at hcv; refine hcv.mono ?_; clear hcv; rintro e w1 ⟨rfl, hk⟩; have b1 := (b0.nx (Nx.refl _).drew).nx hk; have r1 := (r0.nx (Nx.refl _).drew).nx hk; have hx1 := hx0.drew.trans hk; unfold vA
  go_wp2_with fail
  refine hK.out _ _ (by exact b1.e8) ?_
  clear hK K
  try simp only [Act.put, List.setIfInBounds_toArray, List.set_cons_zero, List.set_cons_succ]
  repeat (first | (refine HL.take (v := ?_) (by rfl) ?_ ?_; rotate_left; (· (intro w hSw; (try dsimp only at hSw); go_simp; try with_reducible rfl)); (try simp only [Act.put, List.setIfInBounds_toArray, List.set_cons_zero, List.set_cons_succ])) | (refine HL.skip (by rfl) ?_; (try simp only [Act.put, List.setIfInBounds_toArray, List.set_cons_zero, List.set_cons_succ])))
  refine HL.call (by rfl) (fun K hK => ?_)
  refine wp_store_row _ _ _ rfl gR #[.int .i64 g, .int .i64 b, .int .i64 p, .int .i64 t, .slice A xs.length c, .slice A2 ms.length c2, .slice A3 gs.length c3, inAt im 0, inAt im 1, inAt im 2, inAt im 3, inAt im 4, inAt im 5, inAt im 6, inAt im 7] rfl rfl 118 #[.int .i64 0, .int .i64 0, .int .i64 0, .int .i64 0, .slice none 0 0, .slice none 0 0, .slice none 0 0, .int .i64 0, .int .i64 0, .int .i64 0, .int .i64 0, .int .i64 0, .int .i64 0, .int .i64 0, .int .i64 0] r1 (by kernel_rfl) rfl (by simp [Value.oneCell', inAt]) ?_
  refine hK.out _ _ (by exact (b1.rowfar hne #[.int .i64 g, .int .i64 b, .int .i64 p, .int .i64 t, .slice A xs.length c, .slice A2 ms.length c2, .slice A3 gs.length c3, inAt im 0, inAt im 1, inAt im 2, inAt im 3, inAt im 4, inAt im 5, inAt im 6, inAt im 7]).e8) ?_
  clear hK K
  try simp only [Act.put]
  refine HL.done ?_
  have rq := r1.row #[.int .i64 g, .int .i64 b, .int .i64 p, .int .i64 t, .slice A xs.length c, .slice A2 ms.length c2, .slice A3 gs.length c3, inAt im 0, inAt im 1, inAt im 2, inAt im 3, inAt im 4, inAt im 5, inAt im 6, inAt im 7]
  have hnf := hx1.setRow hgR #[.int .i64 g, .int .i64 b, .int .i64 p, .int .i64 t, .slice A xs.length c, .slice A2 ms.length c2, .slice A3 gs.length c3, inAt im 0, inAt im 1, inAt im 2, inAt im 3, inAt im 4, inAt im 5, inAt im 6, inAt im 7]
  generalize w1.setRow gR #[.int .i64 g, .int .i64 b, .int .i64 p, .int .i64 t, .slice A xs.length c, .slice A2 ms.length c2, .slice A3 gs.length c3, inAt im 0, inAt im 1, inAt im 2, inAt im 3, inAt im 4, inAt im 5, inAt im 6, inAt im 7] = Wf at *
  obtain ⟨g0, g1, g2, g3, g4, g5, g6, g7, g8, g9, g10, g11, g12, g13, g14⟩ := rq.e15
  go_wp2
  exact bodyPost_ret (v := .agg #[.int .i64 g, .int .i64 b, .int .i64 p, .int .i64 t, .slice A xs.length c, .slice A2 ms.length c2, .slice A3 gs.length c3, inAt im 0, inAt im 1, inAt im 2, inAt im 3, inAt im 4, inAt im 5, inAt im 6, inAt im 7]) (by simp [results, Tryz.results95, go_sem, g0, g1, g2, g3, g4, g5, g6, g7, g8, g9, g10, g11, g12, g13, g14]) rfl ⟨rfl, hnf⟩
end Go.Proofs.YtehahodomfbpjaaGreatDoor
/- The program's view of a vault: what is retained, where a position stands, the places. Conditions: what is read can be read, and holds at most 1048576 elements of a kind. -/
namespace Go.Proofs.YtehahodomfbpjaaGreatDoor
set_option linter.unusedVariables false
set_option maxRecDepth 100000
open Go.RowKit

set_option maxHeartbeats 2000000 in
theorem retained_c (V : Vl) (B : Nat) (w : World) (h : Sgs w B V.A3 V.gs) (hB : B ≤ w.heap.size) (hn : V.gs.length ≤ 1048576) :
    Calls Tryz.prog 99 #[V.w] w (RetIc w (retL V.b V.gs)) := by
  obtain ⟨g, b, p, t, A, c, xs, A2, c2, ms, A3, c3, gs, A4, c4, im⟩ := V
  have h3 := h
  have hn3 := hn
  clear h hn
  simp only [Vl.w, Vl.wcells] at *
  obtain ⟨n, Hn⟩ : ∃ n, Hid (gs.length = n) := ⟨_, rfl⟩
  have HS := Lib.hid (fun k (hk : k < n) => retTo_succ (b := b) (gs := gs) (k := k) (by rw [Hn.out]; exact hk))
  have HL := Lib.hid (fun k (hk : k ≤ n) => retTo_len (b := b) (gs := gs) (k := k) (by rw [Hn.out]; exact hk))
  have HA := Lib.hid (retTo_all b gs)
  have h3' : ∀ k, k < n → _ := fun k hk w' B' hw hB' => ((h3.below (w' := w') (B' := B') hw hB').row.at4 (k := k) (by rw [Hn.out]; exact hk))
  rw [Hn.out] at hn3 HA ⊢
  have b0 := (Box.new w 118 #[.int .i64 g, .int .i64 b, .int .i64 p, .int .i64 t, .slice A xs.length c, .slice A2 ms.length c2, .slice A3 n c3, inAt im 0, inAt im 1, inAt im 2, inAt im 3, inAt im 4, inAt im 5, inAt im 6, inAt im 7]).alloc (.cells #[.int .i64 b] 3)
  have hx0 := (Nx.refl w).alloc (.cells #[.int .i64 g, .int .i64 b, .int .i64 p, .int .i64 t, .slice A xs.length c, .slice A2 ms.length c2, .slice A3 n c3, inAt im 0, inAt im 1, inAt im 2, inAt im 3, inAt im 4, inAt im 5, inAt im 6, inAt im 7] 118)
  have hrow0 := RowI.one (w.alloc (.cells #[.int .i64 g, .int .i64 b, .int .i64 p, .int .i64 t, .slice A xs.length c, .slice A2 ms.length c2, .slice A3 n c3, inAt im 0, inAt im 1, inAt im 2, inAt im 3, inAt im 4, inAt im 5, inAt im 6, inAt im 7] 118)) (B := w.heap.size + 1) (by simp) b
  rw [World.size_alloc] at hrow0
  have hx1 := hx0.alloc (.cells #[.int .i64 b] 3)
  have hz1 : w.heap.size + 1 ≤ ((w.alloc (.cells #[.int .i64 g, .int .i64 b, .int .i64 p, .int .i64 t, .slice A xs.length c, .slice A2 ms.length c2, .slice A3 n c3, inAt im 0, inAt im 1, inAt im 2, inAt im 3, inAt im 4, inAt im 5, inAt im 6, inAt im 7] 118)).alloc (.cells #[.int .i64 b] 3)).heap.size := by simp
  clear hx0 h3
  go_enter Tryz.func99, Tryz.ntmps99
  go_wp2_with fail
  generalize ((w.alloc (.cells #[.int .i64 g, .int .i64 b, .int .i64 p, .int .i64 t, .slice A xs.length c, .slice A2 ms.length c2, .slice A3 n c3, inAt im 0, inAt im 1, inAt im 2, inAt im 3, inAt im 4, inAt im 5, inAt im 6, inAt im 7] 118)).alloc (.cells #[.int .i64 b] 3)) = W at *
  obtain ⟨_, _, _, _, _, _, y6, _, _, _, _, _, _, _, _⟩ := b0.e15
  go_loopw [3, 13] (fun v i wr => ∃ (k : Nat), k ≤ n ∧ i = .int .i64 k ∧ (∃ u, u = v ∧ RowI wr (w.heap.size + 1) u (retTo b gs k)) ∧ Nx w wr ∧ w.heap.size + 1 ≤ wr.heap.size) (fun _ i _ => n - (intOf i).toNat)
  case atStart => exact ⟨0, by omega, rfl, ⟨_, rfl, hrow0⟩, hx1, hz1⟩
  case round =>
    obtain ⟨k, hk, rfl, ⟨u, rfl, hrow⟩, hnx, hsz⟩ := hrel
    clear hrow0 hx1 hz1 b0 y6
    by_cases hlt : k < n
    case neg =>
      obtain rfl : n = k := by omega
      rw [HA.out] at hrow
      obtain ⟨A', c', rfl, hc', hS⟩ := hrow.slc
      go_wp2
      go_ret
      exact ⟨A', c', rfl, hc', hS.low (by omega), hnx⟩
    obtain ⟨bb, off, rfl, hbb, p0, p1, p2, p3⟩ := h3' k hlt _ _ hnx hB
    have HS' := Lib.hid (HS.out k hlt)
    have HLk := Lib.hid (HL.out k (by omega))
    obtain ⟨⟨f, t9, m, Ac, cc, cs⟩, Hs⟩ : ∃ s, Hid (gs.getD k sgZ = s) := ⟨_, rfl⟩
    rw [Hs.out] at p0 p1 p2 p3 HS'
    simp only at p0 p1 p2 p3 HS'
    have hxa := (Nx.refl wr).alloc (.cells #[.int .i64 f, .int .i64 t9, .int .i64 m, .slice Ac cs.length cc] 130)
    have hx2 := hxa.alloc (.cells #[.int .i64 t9] 3)
    have hbx := Box.new (wr.alloc (.cells #[.int .i64 f, .int .i64 t9, .int .i64 m, .slice Ac cs.length cc] 130)) 3 #[.int .i64 t9]
    rw [World.size_alloc] at hbx
    have hrow1 := hrow.nx hx2
    have hnx2 := hnx.trans hx2
    have hsz2 := Nat.le_trans hsz hx2.size
    have HR := Lib.hid hrow1
    have HB := Lib.hid hbx
    clear hrow hrow1 hbx hxa
    go_wp2_with (at_builtin; refine wpList_addI rfl _ _ rfl (w.heap.size + 1) (wr.heap.size + 1) _ (retTo b gs k) t9 rfl rfl HR.out HB.out (by have := HLk.out; omega) hsz2 ?_)
    intro A' k' w' hr' hg'
    have hnx3 := hg'.nx w hnx2 (by omega)
    have hsz3 := Nat.le_trans hsz2 hg'.size
    go_wp2
    go_roundw
    case rel => exact ⟨k + 1, by omega, by go_num, ⟨_, rfl, by rw [HS'.out]; exact hr'⟩, hnx3, hsz3⟩
    case measure => simp [intOf]; omega

set_option maxHeartbeats 1000000 in
theorem segsAhead_c (V : Vl) (x : Int) (B : Nat) (w : World) (h : Sgs w B V.A3 V.gs) (hB : B ≤ w.heap.size) (hN : V.gs.length ≤ 4096) (hr : isRet V.b V.gs x = true) :
    Calls Tryz.prog 177 #[V.w, .int .i64 x] w fun e w' => e = .returned (.int .i64 (ahd V.b V.gs x : Int)) ∧ Nx w w' := by
  have hR := retained_c V B
  obtain ⟨g, b, p, t, A, c, xs, A2, c2, ms, A3, c3, gs, A4, c4, im⟩ := V
  have h3 := h
  simp only [Vl.w, Vl.wcells] at *
  have hx0 := (Nx.refl w).alloc (.cells #[.int .i64 g, .int .i64 b, .int .i64 p, .int .i64 t, .slice A xs.length c, .slice A2 ms.length c2, .slice A3 gs.length c3, inAt im 0, inAt im 1, inAt im 2, inAt im 3, inAt im 4, inAt im 5, inAt im 6, inAt im 7] 118)
  have HR := Lib.hid hR
  clear hR h
  go_enter Tryz.func177, Tryz.ntmps177
  go_wp2_with fail
  generalize w.alloc (.cells #[.int .i64 g, .int .i64 b, .int .i64 p, .int .i64 t, .slice A xs.length c, .slice A2 ms.length c2, .slice A3 gs.length c3, inAt im 0, inAt im 1, inAt im 2, inAt im 3, inAt im 4, inAt im 5, inAt im 6, inAt im 7] 118) = W at *
  refine (HR.out W (h3.below hx0 hB) (Nat.le_trans hB hx0.size) (by omega)).mono ?_
  rintro e w1 ⟨A9, c9, rfl, _, hS, hx1⟩
  have hl := retL_len b gs
  have HI := Lib.hid (idxI_ahd (b := b) (gs := gs) (x := x) hr)
  obtain ⟨m, Hm⟩ : ∃ m, Hid ((retL b gs).length = m) := ⟨_, rfl⟩
  have Hl := Lib.hid hl
  clear hl
  rw [Hm.out] at ⊢
  go_wp2_with fail
  refine (indexI_c A9 m c9 _ (retL b gs) x _ hS.row Hm.out.symm (by rw [Hl.out]; omega)).mono ?_
  rintro e w2 ⟨rfl, rfl⟩
  rw [HI.out]
  go_wp2
  go_ret
  exact ⟨rfl, hx0.trans hx1⟩

set_option maxHeartbeats 1000000 in
theorem isRetained_c (V : Vl) (x : Int) (B : Nat) (w : World) (h : Sgs w B V.A3 V.gs) (hB : B ≤ w.heap.size) (hN : V.gs.length ≤ 4096) :
    Calls Tryz.prog 96 #[V.w, .int .i64 x] w fun e w' => e = .returned (.bool (isRet V.b V.gs x)) ∧ Nx w w' := by
  have hR := retained_c V B
  obtain ⟨g, b, p, t, A, c, xs, A2, c2, ms, A3, c3, gs, A4, c4, im⟩ := V
  have h3 := h
  simp only [Vl.w, Vl.wcells] at *
  have hx0 := (Nx.refl w).alloc (.cells #[.int .i64 g, .int .i64 b, .int .i64 p, .int .i64 t, .slice A xs.length c, .slice A2 ms.length c2, .slice A3 gs.length c3, inAt im 0, inAt im 1, inAt im 2, inAt im 3, inAt im 4, inAt im 5, inAt im 6, inAt im 7] 118)
  have HR := Lib.hid hR
  clear hR h
  go_enter Tryz.func96, Tryz.ntmps96
  go_wp2_with fail
  generalize w.alloc (.cells #[.int .i64 g, .int .i64 b, .int .i64 p, .int .i64 t, .slice A xs.length c, .slice A2 ms.length c2, .slice A3 gs.length c3, inAt im 0, inAt im 1, inAt im 2, inAt im 3, inAt im 4, inAt im 5, inAt im 6, inAt im 7] 118) = W at *
  refine (HR.out W (h3.below hx0 hB) (Nat.le_trans hB hx0.size) (by omega)).mono ?_
  rintro e w1 ⟨A9, c9, rfl, _, hS, hx1⟩
  have hl := retL_len b gs
  have HI0 := Lib.hid (isRet_hasB (b := b) (gs := gs) (x := x) hl)
  have HI := HI0
  obtain ⟨m, Hm⟩ : ∃ m, Hid ((retL b gs).length = m) := ⟨_, rfl⟩
  have Hl := Lib.hid hl
  clear hl
  rw [Hm.out] at HI ⊢
  go_wp2_with fail
  refine (contains_c A9 m c9 _ (retL b gs) x _ hS.row (by rw [Hm.out]; exact Nat.le_refl _) (by rw [Hl.out]; omega)).mono ?_
  rintro e w2 ⟨rfl, rfl⟩
  rw [HI.out]
  go_wp2
  go_ret
  exact ⟨rfl, hx0.trans hx1⟩

set_option maxHeartbeats 4000000 in
theorem hasPlaces_c (V : Vl) (B : Nat) (w : World) (h : Sgs w B V.A3 V.gs) (hm : Mks w B V.A2 V.ms) (hB : B ≤ w.heap.size) (hN : V.gs.length ≤ 4096) (hr : V.ms.length ≤ 1048576) :
    Calls Tryz.prog 171 #[V.w] w fun e w' => e = .returned (.bool (plcB V.b V.p V.t V.gs V.ms)) ∧ Nx w w' := by
  have hIs := isRetained_c V
  obtain ⟨g, b, p, t, A, c, xs, A2, c2, ms, A3, c3, gs, A4, c4, im⟩ := V
  simp only [Vl.w, Vl.wcells] at *
  have HIs := Lib.hid (fun (x : Int) (w' : World) (hx : Nx w w') => hIs x B w' (h.below hx hB) (Nat.le_trans hB hx.size) hN)
  have HMk := Lib.hid (fun (k : Nat) (hk : k < ms.length) (w' : World) (hx : Nx w w') => (hm.below hx hB).at_ hk)
  obtain ⟨r, Hr⟩ : ∃ r, Hid (ms.length = r) := ⟨_, rfl⟩
  rw [Hr.out] at HIs HMk hr ⊢
  have b0 := Box.new w 118 #[.int .i64 g, .int .i64 b, .int .i64 p, .int .i64 t, .slice A xs.length c, .slice A2 r c2, .slice A3 gs.length c3, inAt im 0, inAt im 1, inAt im 2, inAt im 3, inAt im 4, inAt im 5, inAt im 6, inAt im 7]
  have hx0 := (Nx.refl w).alloc (.cells #[.int .i64 g, .int .i64 b, .int .i64 p, .int .i64 t, .slice A xs.length c, .slice A2 r c2, .slice A3 gs.length c3, inAt im 0, inAt im 1, inAt im 2, inAt im 3, inAt im 4, inAt im 5, inAt im 6, inAt im 7] 118)
  clear hIs h hm
  go_enter Tryz.func171, Tryz.ntmps171
  go_wp2_with fail
  generalize w.alloc (.cells #[.int .i64 g, .int .i64 b, .int .i64 p, .int .i64 t, .slice A xs.length c, .slice A2 r c2, .slice A3 gs.length c3, inAt im 0, inAt im 1, inAt im 2, inAt im 3, inAt im 4, inAt im 5, inAt im 6, inAt im 7] 118) = W at *
  go_loopw [9] (fun i wr => ∃ k : Nat, k ≤ r ∧ i = .int .i64 k ∧ MksTo b gs ms k ∧ Nx w wr ∧ Box wr w.heap.size 118 #[.int .i64 g, .int .i64 b, .int .i64 p, .int .i64 t, .slice A xs.length c, .slice A2 r c2, .slice A3 gs.length c3, inAt im 0, inAt im 1, inAt im 2, inAt im 3, inAt im 4, inAt im 5, inAt im 6, inAt im 7]) (fun i _ => r - (intOf i).toNat)
  case atStart => exact ⟨0, Nat.zero_le _, rfl, MksTo.zero _ _ _, hx0, b0⟩
  case round =>
  obtain ⟨k, hk, rfl, hto, hnx, hb⟩ := hrel
  clear hx0 b0
  by_cases hlt : k < r
  · obtain ⟨bm, om, rfl, hbm, k0, k1⟩ := HMk.out k hlt _ hnx
    have HT := Lib.hid (fun hh => hto.succ hh)
    have HF := Lib.hid (fun hh => mksR_no (b := b) (gs := gs) (ms := ms) (k := k) (by rw [Hr.out]; exact hlt) hh)
    obtain ⟨⟨q0, q1⟩, Hm⟩ : ∃ m, Hid (ms.getD k mrZ = m) := ⟨_, rfl⟩
    rw [Hm.out] at k0 k1 HT HF
    simp only at k0 k1 HT HF
    have bq := Box.new wr 199 #[.string q0, .int .i64 q1]
    have hxq := (Nx.refl wr).alloc (.cells #[.string q0, .int .i64 q1] 199)
    have hba := hb.nx hxq
    have hnxa := hnx.trans hxq
    obtain ⟨y0, y1, y2, y3, y4, y5, y6, y7, y8, y9, y10, y11, y12, y13, y14⟩ := hba.e15
    have z1 := bq.c1
    clear hto hb
    go_wp2_with fail
    generalize wr.alloc (.cells #[.string q0, .int .i64 q1] 199) = wa at *
    refine (HIs.out q1 _ hnxa).mono ?_
    rintro e w9 ⟨rfl, hx9⟩
    have hb9 := hba.nx hx9
    have hnx9 := hnxa.trans hx9
    clear y0 y1 y2 y3 y4 y5 y6 y7 y8 y9 y10 y11 y12 y13 y14 z1 k0 k1
    cases hq : isRet b gs q1 with
    | false =>
      have HR := Lib.hid (show plcB b p t gs ms = false by unfold plcB; rw [HF.out hq]; rfl)
      clear hq HT HF
      go_wp2
      go_ret
      exact ⟨ret_bool HR.out.symm, hnx9⟩
    | true =>
      have HT' := Lib.hid (HT.out hq)
      clear hq HT HF
      go_wp2
      go_roundw
      case rel => exact ⟨k + 1, by omega, by go_num, HT'.out, hnx9, hb9⟩
      case measure => simp [intOf]; omega
  obtain rfl : r = k := by omega
  have HM := Lib.hid (show mksR b gs ms = true from MksTo.all (by rw [Hr.out]; exact hto))
  clear hto hlt hk
  obtain ⟨y0, y1, y2, y3, y4, y5, y6, y7, y8, y9, y10, y11, y12, y13, y14⟩ := hb.e15
  go_wp2_with fail
  clear y0 y1 y2 y3 y4 y5 y6 y7 y8 y9 y10 y11 y12 y13 y14
  refine (HIs.out p _ hnx).mono ?_
  rintro e w5 ⟨rfl, hk⟩
  have b5 := hb.nx hk
  have hx := hnx.trans hk
  clear hk hb hnx
  cases h5 : isRet b gs p with
  | false =>
    have HR := Lib.hid (show plcB b p t gs ms = false by unfold plcB; rw [h5]; simp)
    clear h5
    go_wp2
    go_ret
    exact ⟨ret_bool HR.out.symm, hx⟩
  | true =>
  have H5 := Lib.hid h5
  clear h5
  obtain ⟨y0, y1, y2, y3, y4, y5, y6, y7, y8, y9, y10, y11, y12, y13, y14⟩ := b5.e15
  go_wp2_with fail
  clear y0 y1 y2 y3 y4 y5 y6 y7 y8 y9 y10 y11 y12 y13 y14
  refine (HIs.out t _ hx).mono ?_
  rintro e w6 ⟨rfl, hk⟩
  have HR := Lib.hid (show plcB b p t gs ms = isRet b gs t by unfold plcB; rw [HM.out, H5.out]; rfl)
  have hx6 := hx.trans hk
  obtain ⟨z, Hz⟩ : ∃ z, Hid (isRet b gs t = z) := ⟨_, rfl⟩
  rw [Hz.out] at HR ⊢
  cases z <;> (go_wp2; go_ret; exact ⟨ret_bool HR.out.symm, hx6⟩)
end Go.Proofs.YtehahodomfbpjaaGreatDoor
/- The program's view of a vault: where the next step ends. Conditions: what is read can be read, and holds at most 1048576 elements of a kind. -/
namespace Go.Proofs.YtehahodomfbpjaaGreatDoor
set_option linter.unusedVariables false
set_option maxRecDepth 100000
open Go.RowKit

theorem cell_row_far (w : World) (g : Nat) (ds : Array Value) {p : Addr} (h : p.block ≠ g) : (w.setRow g ds).cell? p = w.cell? p := by
  unfold World.cell?
  rw [heap_setRow_ne w g ds h]
set_option maxHeartbeats 4000000 in
theorem stepDone_c (V : Vl) (B : Nat) (w : World) (h : Sgs w B V.A3 V.gs) (hB : B ≤ w.heap.size) (hl : Lead V.b V.gs) (h8 : V.im.length = 8) (hp : isRet V.b V.gs V.p = true) (hd : (V.p < V.t → ahd V.b V.gs V.p < V.gs.length) ∧ (V.t < V.p → 0 < ahd V.b V.gs V.p)) :
    Calls Tryz.prog 176 #[V.w] w fun e w' => e = .returned (.tuple #[vA (stp V.b V.p V.t V.gs V.im).1, .int .i64 ((stp V.b V.p V.t V.gs V.im).2 : Int)]) ∧ Nx w w' := by
  have hSA := segsAhead_c V V.p
  obtain ⟨g, b, p, t, A, c, xs, A2, c2, ms, A3, c3, gs, A4, c4, im⟩ := V
  simp only [Vl.w, Vl.wcells] at *
  obtain ⟨a, Ha⟩ : ∃ a, Hid (ahd b gs p = a) := ⟨_, rfl⟩
  have ha := ahd_at hp
  have HSA := Lib.hid (fun (w' : World) (hx : Nx w w') => hSA B w' (h.below hx hB) (Nat.le_trans hB hx.size) hl.short hp)
  have Hstp : Hid (stp b p t gs im = if p < t then (app pN im (gs.getD a sgZ).cs, a + 1) else if t < p then (app pO im (gs.getD (a - 1) sgZ).cs, a - 1) else (im, a)) := Lib.hid (by rw [← Ha.out]; rfl)
  have hsh := hl.short
  rw [Ha.out] at ha hd HSA
  obtain ⟨n, Hn⟩ : ∃ n, Hid (gs.length = n) := ⟨_, rfl⟩
  have h3' : ∀ k, k < n → _ := fun k hk w' B' hw hB' => ((h.below (w' := w') (B' := B') hw hB').row.at4 (k := k) (by rw [Hn.out]; exact hk))
  have h3c : ∀ k, k < n → _ := fun k hk => h.chs k (by rw [Hn.out]; exact hk)
  have HOKs := Lib.hid (fun k (hk : k < n) => hl.ok k (by rw [Hn.out]; exact hk))
  have ha1 := ha.1
  have H8 := Lib.hid h8
  rw [Hn.out] at hd ha1 hsh HSA ⊢
  have b0 : Box ((w.alloc (.cells #[.int .i64 g, .int .i64 b, .int .i64 p, .int .i64 t, .slice A xs.length c, .slice A2 ms.length c2, .slice A3 n c3, inAt im 0, inAt im 1, inAt im 2, inAt im 3, inAt im 4, inAt im 5, inAt im 6, inAt im 7] 118)).alloc (.cells #[.int .i64 0, .int .i64 0, .int .i64 0, .int .i64 0, .int .i64 0, .int .i64 0, .int .i64 0, .int .i64 0] 116)) w.heap.size 118 #[.int .i64 g, .int .i64 b, .int .i64 p, .int .i64 t, .slice A xs.length c, .slice A2 ms.length c2, .slice A3 n c3, inAt im 0, inAt im 1, inAt im 2, inAt im 3, inAt im 4, inAt im 5, inAt im 6, inAt im 7] := (Box.new w _ _).alloc _
  have r0 : Box ((w.alloc (.cells #[.int .i64 g, .int .i64 b, .int .i64 p, .int .i64 t, .slice A xs.length c, .slice A2 ms.length c2, .slice A3 n c3, inAt im 0, inAt im 1, inAt im 2, inAt im 3, inAt im 4, inAt im 5, inAt im 6, inAt im 7] 118)).alloc (.cells #[.int .i64 0, .int .i64 0, .int .i64 0, .int .i64 0, .int .i64 0, .int .i64 0, .int .i64 0, .int .i64 0] 116)) (w.heap.size + 1) 116 #[.int .i64 0, .int .i64 0, .int .i64 0, .int .i64 0, .int .i64 0, .int .i64 0, .int .i64 0, .int .i64 0] := by have := Box.new (w.alloc (.cells #[.int .i64 g, .int .i64 b, .int .i64 p, .int .i64 t, .slice A xs.length c, .slice A2 ms.length c2, .slice A3 n c3, inAt im 0, inAt im 1, inAt im 2, inAt im 3, inAt im 4, inAt im 5, inAt im 6, inAt im 7] 118)) 116 #[.int .i64 0, .int .i64 0, .int .i64 0, .int .i64 0, .int .i64 0, .int .i64 0, .int .i64 0, .int .i64 0]; rwa [World.size_alloc] at this
  have hx0 := ((Nx.refl w).alloc (.cells #[.int .i64 g, .int .i64 b, .int .i64 p, .int .i64 t, .slice A xs.length c, .slice A2 ms.length c2, .slice A3 n c3, inAt im 0, inAt im 1, inAt im 2, inAt im 3, inAt im 4, inAt im 5, inAt im 6, inAt im 7] 118)).alloc (.cells #[.int .i64 0, .int .i64 0, .int .i64 0, .int .i64 0, .int .i64 0, .int .i64 0, .int .i64 0, .int .i64 0] 116)
  clear hl hp ha h h8 hSA
  go_enter Tryz.func176, Tryz.ntmps176
  go_wp2_with fail
  generalize ((w.alloc (.cells #[.int .i64 g, .int .i64 b, .int .i64 p, .int .i64 t, .slice A xs.length c, .slice A2 ms.length c2, .slice A3 n c3, inAt im 0, inAt im 1, inAt im 2, inAt im 3, inAt im 4, inAt im 5, inAt im 6, inAt im 7] 118)).alloc (.cells #[.int .i64 0, .int .i64 0, .int .i64 0, .int .i64 0, .int .i64 0, .int .i64 0, .int .i64 0, .int .i64 0] 116)) = W at *
  obtain ⟨gR, HgR⟩ : ∃ g, Hid (w.heap.size + 1 = g) := ⟨_, rfl⟩
  have hgR : w.heap.size ≤ gR := by have := HgR.out; omega
  have hneR : w.heap.size ≠ gR := by have := HgR.out; omega
  rw [HgR.out]
  rw [HgR.out] at r0
  refine (HSA.out _ hx0).mono ?_
  rintro e w1 ⟨rfl, hk⟩
  have b1 := b0.nx hk
  have r1 := r0.nx hk
  replace hx0 := hx0.trans hk
  clear b0 r0 hk
  obtain ⟨y0, y1, y2, y3, y4, y5, y6, y7, y8, y9, y10, y11, y12, y13, y14⟩ := b1.e15
  go_wp2_with fail
  clear y0 y1 y2 y3 y4 y5 y6 y7 y8 y9 y10 y11 y12 y13 y14
  refine (goesForward_c g b p t A A2 c c2 _ _ _).mono ?_
  rintro e wq ⟨rfl, hk⟩
  have bq := b1.nx hk
  have rq := r1.nx hk
  replace hx0 := hx0.trans hk
  clear b1 r1 hk
  by_cases hlt : p < t
  · have HSB := Lib.hid (show stp b p t gs im = (app pN im (gs.getD a sgZ).cs, a + 1) by rw [Hstp.out, if_pos hlt])
    have han := hd.1 hlt
    rw [decide_eq_true hlt]
    clear hd hlt
    obtain ⟨k, Hk⟩ : ∃ k, Hid (a = k) := ⟨_, rfl⟩
    have hkn : k < n := by have := Hk.out; omega
    have HOK := Lib.hid (HOKs.out k hkn)
    have hch := h3c k hkn
    obtain ⟨bb, off, rfl, hbb, p0, p1, p2, p3⟩ := h3' k hkn _ _ hx0 hB
    obtain ⟨⟨f, t9, m, Ac, cc, cs⟩, Hs⟩ : ∃ s, Hid (gs.getD k sgZ = s) := ⟨_, rfl⟩
    rw [Hs.out] at p0 p1 p2 p3 hch HOK
    simp only at p0 p1 p2 p3 hch HOK
    obtain ⟨ys, Hys⟩ : ∃ ys, Hid (app pN im cs = ys) := ⟨_, rfl⟩
    have hbd : Box wq.drew w.heap.size 118 #[.int .i64 g, .int .i64 b, .int .i64 p, .int .i64 t, .slice A xs.length c, .slice A2 ms.length c2, .slice (some ⟨bb, off, none⟩) n c3, inAt im 0, inAt im 1, inAt im 2, inAt im 3, inAt im 4, inAt im 5, inAt im 6, inAt im 7] := bq
    have rd := rq.nx (Nx.refl _).drew
    have hx2 := hx0.drew
    have hbw : bb < wq.drew.heap.size := Nat.lt_of_lt_of_le hbb (Nat.le_trans hB hx2.size)
    have hneb : bb ≠ gR := by have := HgR.out; omega
    have hak : (a : Int) = (k : Int) := by have := Hk.out; omega
    rw [hak]
    have hkc : (k : Int) < (n : Int) := by omega
    have hk0 : (0 : Int) ≤ (k : Int) := by omega
    have hw1 : IntKind.i64.wrap ((k : Int) + 1) = (k : Int) + 1 := IntWalk.i64_in _ (by omega)
    clear hak
    go_wp2_with fail
    refine wp_region_plan (.t 0 (.t 1 (.t 2 (.t 3 (.t 4 (.t 5 (.t 6 (.t 8 (.t 9 (.c 7 (.c 10 (.t 11 .e)))))))))))) (fun w' => (w'.cell? ⟨w.heap.size, 0, none⟩ = some (.int .i64 g) ∧ w'.cell? ⟨w.heap.size, 1, none⟩ = some (.int .i64 b) ∧ w'.cell? ⟨w.heap.size, 2, none⟩ = some (.int .i64 p) ∧ w'.cell? ⟨w.heap.size, 3, none⟩ = some (.int .i64 t) ∧ w'.cell? ⟨w.heap.size, 4, none⟩ = some (.slice A xs.length c) ∧ w'.cell? ⟨w.heap.size, 5, none⟩ = some (.slice A2 ms.length c2) ∧ w'.cell? ⟨w.heap.size, 6, none⟩ = some (.slice (some ⟨bb, off, none⟩) n c3) ∧ w'.cell? ⟨w.heap.size, 7, none⟩ = some (inAt im 0) ∧ w'.cell? ⟨w.heap.size, 8, none⟩ = some (inAt im 1) ∧ w'.cell? ⟨w.heap.size, 9, none⟩ = some (inAt im 2) ∧ w'.cell? ⟨w.heap.size, 10, none⟩ = some (inAt im 3) ∧ w'.cell? ⟨w.heap.size, 11, none⟩ = some (inAt im 4) ∧ w'.cell? ⟨w.heap.size, 12, none⟩ = some (inAt im 5) ∧ w'.cell? ⟨w.heap.size, 13, none⟩ = some (inAt im 6) ∧ w'.cell? ⟨w.heap.size, 14, none⟩ = some (inAt im 7)) ∧ w'.cell? ⟨bb, off + k * 4, none⟩ = some (.int .i64 f) ∧ w'.cell? ⟨bb, off + k * 4 + 1, none⟩ = some (.int .i64 t9) ∧ w'.cell? ⟨bb, off + k * 4 + 2, none⟩ = some (.int .i64 m) ∧ w'.cell? ⟨bb, off + k * 4 + 3, none⟩ = some (.slice Ac cs.length cc)) (by kernel_rfl) (by kernel_rfl) rfl (by kernel_rfl) (fun _ _ d _ _ h => by cases d <;> exact h) (by exact ⟨hbd.e15, p0, p1, p2, p3⟩) ?_
    simp only [psOf, List.getD_cons_zero, List.getD_cons_succ]
    repeat (first | (refine HP.take (v := ?_) (by rfl) ?_ ?_; rotate_left; (· (intro w hSw; (try dsimp only at hSw); go_simp; try with_reducible rfl)); (try simp only [Act.put, List.setIfInBounds_toArray, List.set_cons_zero, List.set_cons_succ])) | (refine HP.skip (by rfl) ?_; (try simp only [Act.put, List.setIfInBounds_toArray, List.set_cons_zero, List.set_cons_succ])))
    refine HP.call ?_
    refine CallStep.mk (by rfl) (fun K hK => ?_)
    go_simp
    have hcl := valuesForward_c f t9 m Ac cc B cs im _ (hch.below hx2 hB) (Nat.le_trans hB hx2.size) HOK.out H8.out; rw [Hys.out] at hcl; unfold vA at hcl; refine hcl.mono ?_; rintro e w2 ⟨rfl, hx3⟩; clear hcl; have hb2 := hbd.nx hx3; have r2 := rd.nx hx3; replace p0 := (hx3.cell (p := ⟨bb, off + k * 4, none⟩) hbw).trans p0; replace p1 := (hx3.cell (p := ⟨bb, off + k * 4 + 1, none⟩) hbw).trans p1; replace p2 := (hx3.cell (p := ⟨bb, off + k * 4 + 2, none⟩) hbw).trans p2; replace p3 := (hx3.cell (p := ⟨bb, off + k * 4 + 3, none⟩) hbw).trans p3; have hX3 := hx2.trans hx3
    go_wp2_with fail
    refine hK.out _ _ (by exact ⟨hb2.e15, p0, p1, p2, p3⟩) ?_
    clear hK K
    try simp only [Act.put, List.setIfInBounds_toArray, List.set_cons_zero, List.set_cons_succ]
    refine HP.call ?_
    refine CallStep.mk (by rfl) (fun K hK => ?_)
    refine wp_store_row _ _ _ rfl gR #[inAt ys 0, inAt ys 1, inAt ys 2, inAt ys 3, inAt ys 4, inAt ys 5, inAt ys 6, inAt ys 7] rfl rfl 116 #[.int .i64 0, .int .i64 0, .int .i64 0, .int .i64 0, .int .i64 0, .int .i64 0, .int .i64 0, .int .i64 0] r2 (by kernel_rfl) rfl (by simp [Value.oneCell', inAt]) ?_
    refine hK.out _ _ (by exact ⟨(hb2.rowfar hneR #[inAt ys 0, inAt ys 1, inAt ys 2, inAt ys 3, inAt ys 4, inAt ys 5, inAt ys 6, inAt ys 7]).e15, ((cell_row_far w2 gR #[inAt ys 0, inAt ys 1, inAt ys 2, inAt ys 3, inAt ys 4, inAt ys 5, inAt ys 6, inAt ys 7] (p := ⟨bb, off + k * 4, none⟩) (by simp; omega)).trans p0), ((cell_row_far w2 gR #[inAt ys 0, inAt ys 1, inAt ys 2, inAt ys 3, inAt ys 4, inAt ys 5, inAt ys 6, inAt ys 7] (p := ⟨bb, off + k * 4 + 1, none⟩) (by simp; omega)).trans p1), ((cell_row_far w2 gR #[inAt ys 0, inAt ys 1, inAt ys 2, inAt ys 3, inAt ys 4, inAt ys 5, inAt ys 6, inAt ys 7] (p := ⟨bb, off + k * 4 + 2, none⟩) (by simp; omega)).trans p2), ((cell_row_far w2 gR #[inAt ys 0, inAt ys 1, inAt ys 2, inAt ys 3, inAt ys 4, inAt ys 5, inAt ys 6, inAt ys 7] (p := ⟨bb, off + k * 4 + 3, none⟩) (by simp; omega)).trans p3)⟩) ?_
    clear hK K
    try simp only [Act.put]
    repeat (first | (refine HP.take (v := ?_) (by rfl) ?_ ?_; rotate_left; (· (intro w hSw; (try dsimp only at hSw); go_simp; try with_reducible rfl)); (try simp only [Act.put, List.setIfInBounds_toArray, List.set_cons_zero, List.set_cons_succ])) | (refine HP.skip (by rfl) ?_; (try simp only [Act.put, List.setIfInBounds_toArray, List.set_cons_zero, List.set_cons_succ])))
    refine HP.done ?_
    have q := r2.row #[inAt ys 0, inAt ys 1, inAt ys 2, inAt ys 3, inAt ys 4, inAt ys 5, inAt ys 6, inAt ys 7]
    have hnf := hX3.setRow hgR #[inAt ys 0, inAt ys 1, inAt ys 2, inAt ys 3, inAt ys 4, inAt ys 5, inAt ys 6, inAt ys 7]
    generalize w2.setRow gR #[inAt ys 0, inAt ys 1, inAt ys 2, inAt ys 3, inAt ys 4, inAt ys 5, inAt ys 6, inAt ys 7] = Wf at *
    obtain ⟨g0, g1, g2, g3, g4, g5, g6, g7⟩ := q.e8
    go_wp2
    exact bodyPost_ret (v := .tuple #[.agg #[inAt ys 0, inAt ys 1, inAt ys 2, inAt ys 3, inAt ys 4, inAt ys 5, inAt ys 6, inAt ys 7], .int .i64 ((k : Int) + 1)]) (by simp [results, Tryz.results176, go_sem, g0, g1, g2, g3, g4, g5, g6, g7]) rfl ⟨by rw [HSB.out, Hk.out, Hs.out]; show _ = Ending.returned (.tuple #[vA (app _ im cs), _]); rw [Hys.out]; rfl, hnf⟩
  rw [decide_eq_false hlt]
  have Hlt := Lib.hid hlt
  clear hlt
  obtain ⟨y0, y1, y2, y3, y4, y5, y6, y7, y8, y9, y10, y11, y12, y13, y14⟩ := bq.e15
  go_wp2_with fail
  clear y0 y1 y2 y3 y4 y5 y6 y7 y8 y9 y10 y11 y12 y13 y14
  refine (goesBack_c g b p t A A2 c c2 _ _ _).mono ?_
  rintro e wz ⟨rfl, hk⟩
  replace bq := bq.nx hk
  replace rq := rq.nx hk
  replace hx0 := hx0.trans hk
  clear hk
  by_cases hgt : t < p
  · have HSB := Lib.hid (show stp b p t gs im = (app pO im (gs.getD (a - 1) sgZ).cs, a - 1) by rw [Hstp.out, if_neg (by have := Hlt.out; omega), if_pos hgt])
    have han := hd.2 hgt
    rw [decide_eq_true hgt]
    clear hd hgt
    obtain ⟨k, Hk⟩ : ∃ k, Hid (a - 1 = k) := ⟨_, rfl⟩
    have hkn : k < n := by have := Hk.out; omega
    have HOK := Lib.hid (HOKs.out k hkn)
    have hch := h3c k hkn
    obtain ⟨bb, off, rfl, hbb, p0, p1, p2, p3⟩ := h3' k hkn _ _ hx0 hB
    obtain ⟨⟨f, t9, m, Ac, cc, cs⟩, Hs⟩ : ∃ s, Hid (gs.getD k sgZ = s) := ⟨_, rfl⟩
    rw [Hs.out] at p0 p1 p2 p3 hch HOK
    simp only at p0 p1 p2 p3 hch HOK
    obtain ⟨ys, Hys⟩ : ∃ ys, Hid (app pO im cs = ys) := ⟨_, rfl⟩
    have hbd : Box wz.drew w.heap.size 118 #[.int .i64 g, .int .i64 b, .int .i64 p, .int .i64 t, .slice A xs.length c, .slice A2 ms.length c2, .slice (some ⟨bb, off, none⟩) n c3, inAt im 0, inAt im 1, inAt im 2, inAt im 3, inAt im 4, inAt im 5, inAt im 6, inAt im 7] := bq
    have rd := rq.nx (Nx.refl _).drew
    have hx2 := hx0.drew
    have hbw : bb < wz.drew.heap.size := Nat.lt_of_lt_of_le hbb (Nat.le_trans hB hx2.size)
    have hneb : bb ≠ gR := by have := HgR.out; omega
    have hak : (a : Int) = (k : Int) + 1 := by have := Hk.out; omega
    rw [hak]
    have hkc : (k : Int) < (n : Int) := by omega
    have hk0 : (0 : Int) ≤ (k : Int) := by omega
    have hwk : IntKind.i64.wrap (k : Int) = (k : Int) := IntWalk.i64_in _ (by omega)
    clear hak
    go_wp2_with fail
    refine wp_region_plan (.t 0 (.t 1 (.t 2 (.t 3 (.t 4 (.t 5 (.t 6 (.t 7 (.t 9 (.t 10 (.c 8 (.c 11 (.t 12 .e))))))))))))) (fun w' => (w'.cell? ⟨w.heap.size, 0, none⟩ = some (.int .i64 g) ∧ w'.cell? ⟨w.heap.size, 1, none⟩ = some (.int .i64 b) ∧ w'.cell? ⟨w.heap.size, 2, none⟩ = some (.int .i64 p) ∧ w'.cell? ⟨w.heap.size, 3, none⟩ = some (.int .i64 t) ∧ w'.cell? ⟨w.heap.size, 4, none⟩ = some (.slice A xs.length c) ∧ w'.cell? ⟨w.heap.size, 5, none⟩ = some (.slice A2 ms.length c2) ∧ w'.cell? ⟨w.heap.size, 6, none⟩ = some (.slice (some ⟨bb, off, none⟩) n c3) ∧ w'.cell? ⟨w.heap.size, 7, none⟩ = some (inAt im 0) ∧ w'.cell? ⟨w.heap.size, 8, none⟩ = some (inAt im 1) ∧ w'.cell? ⟨w.heap.size, 9, none⟩ = some (inAt im 2) ∧ w'.cell? ⟨w.heap.size, 10, none⟩ = some (inAt im 3) ∧ w'.cell? ⟨w.heap.size, 11, none⟩ = some (inAt im 4) ∧ w'.cell? ⟨w.heap.size, 12, none⟩ = some (inAt im 5) ∧ w'.cell? ⟨w.heap.size, 13, none⟩ = some (inAt im 6) ∧ w'.cell? ⟨w.heap.size, 14, none⟩ = some (inAt im 7)) ∧ w'.cell? ⟨bb, off + k * 4, none⟩ = some (.int .i64 f) ∧ w'.cell? ⟨bb, off + k * 4 + 1, none⟩ = some (.int .i64 t9) ∧ w'.cell? ⟨bb, off + k * 4 + 2, none⟩ = some (.int .i64 m) ∧ w'.cell? ⟨bb, off + k * 4 + 3, none⟩ = some (.slice Ac cs.length cc)) (by kernel_rfl) (by kernel_rfl) rfl (by kernel_rfl) (fun _ _ d _ _ h => by cases d <;> exact h) (by exact ⟨hbd.e15, p0, p1, p2, p3⟩) ?_
    simp only [psOf, List.getD_cons_zero, List.getD_cons_succ]
    repeat (first | (refine HP.take (v := ?_) (by rfl) ?_ ?_; rotate_left; (· (intro w hSw; (try dsimp only at hSw); go_simp; try with_reducible rfl)); (try simp only [Act.put, List.setIfInBounds_toArray, List.set_cons_zero, List.set_cons_succ])) | (refine HP.skip (by rfl) ?_; (try simp only [Act.put, List.setIfInBounds_toArray, List.set_cons_zero, List.set_cons_succ])))
    refine HP.call ?_
    refine CallStep.mk (by rfl) (fun K hK => ?_)
    go_simp
    have hcl := valuesBackward_c f t9 m Ac cc B cs im _ (hch.below hx2 hB) (Nat.le_trans hB hx2.size) HOK.out H8.out; rw [Hys.out] at hcl; unfold vA at hcl; refine hcl.mono ?_; rintro e w2 ⟨rfl, hx3⟩; clear hcl; have hb2 := hbd.nx hx3; have r2 := rd.nx hx3; replace p0 := (hx3.cell (p := ⟨bb, off + k * 4, none⟩) hbw).trans p0; replace p1 := (hx3.cell (p := ⟨bb, off + k * 4 + 1, none⟩) hbw).trans p1; replace p2 := (hx3.cell (p := ⟨bb, off + k * 4 + 2, none⟩) hbw).trans p2; replace p3 := (hx3.cell (p := ⟨bb, off + k * 4 + 3, none⟩) hbw).trans p3; have hX3 := hx2.trans hx3
    go_wp2_with fail
    refine hK.out _ _ (by exact ⟨hb2.e15, p0, p1, p2, p3⟩) ?_
    clear hK K
    try simp only [Act.put, List.setIfInBounds_toArray, List.set_cons_zero, List.set_cons_succ]
    refine HP.call ?_
    refine CallStep.mk (by rfl) (fun K hK => ?_)
    refine wp_store_row _ _ _ rfl gR #[inAt ys 0, inAt ys 1, inAt ys 2, inAt ys 3, inAt ys 4, inAt ys 5, inAt ys 6, inAt ys 7] rfl rfl 116 #[.int .i64 0, .int .i64 0, .int .i64 0, .int .i64 0, .int .i64 0, .int .i64 0, .int .i64 0, .int .i64 0] r2 (by kernel_rfl) rfl (by simp [Value.oneCell', inAt]) ?_
    refine hK.out _ _ (by exact ⟨(hb2.rowfar hneR #[inAt ys 0, inAt ys 1, inAt ys 2, inAt ys 3, inAt ys 4, inAt ys 5, inAt ys 6, inAt ys 7]).e15, ((cell_row_far w2 gR #[inAt ys 0, inAt ys 1, inAt ys 2, inAt ys 3, inAt ys 4, inAt ys 5, inAt ys 6, inAt ys 7] (p := ⟨bb, off + k * 4, none⟩) (by simp; omega)).trans p0), ((cell_row_far w2 gR #[inAt ys 0, inAt ys 1, inAt ys 2, inAt ys 3, inAt ys 4, inAt ys 5, inAt ys 6, inAt ys 7] (p := ⟨bb, off + k * 4 + 1, none⟩) (by simp; omega)).trans p1), ((cell_row_far w2 gR #[inAt ys 0, inAt ys 1, inAt ys 2, inAt ys 3, inAt ys 4, inAt ys 5, inAt ys 6, inAt ys 7] (p := ⟨bb, off + k * 4 + 2, none⟩) (by simp; omega)).trans p2), ((cell_row_far w2 gR #[inAt ys 0, inAt ys 1, inAt ys 2, inAt ys 3, inAt ys 4, inAt ys 5, inAt ys 6, inAt ys 7] (p := ⟨bb, off + k * 4 + 3, none⟩) (by simp; omega)).trans p3)⟩) ?_
    clear hK K
    try simp only [Act.put]
    repeat (first | (refine HP.take (v := ?_) (by rfl) ?_ ?_; rotate_left; (· (intro w hSw; (try dsimp only at hSw); go_simp; try with_reducible rfl)); (try simp only [Act.put, List.setIfInBounds_toArray, List.set_cons_zero, List.set_cons_succ])) | (refine HP.skip (by rfl) ?_; (try simp only [Act.put, List.setIfInBounds_toArray, List.set_cons_zero, List.set_cons_succ])))
    refine HP.done ?_
    have q := r2.row #[inAt ys 0, inAt ys 1, inAt ys 2, inAt ys 3, inAt ys 4, inAt ys 5, inAt ys 6, inAt ys 7]
    have hnf := hX3.setRow hgR #[inAt ys 0, inAt ys 1, inAt ys 2, inAt ys 3, inAt ys 4, inAt ys 5, inAt ys 6, inAt ys 7]
    generalize w2.setRow gR #[inAt ys 0, inAt ys 1, inAt ys 2, inAt ys 3, inAt ys 4, inAt ys 5, inAt ys 6, inAt ys 7] = Wf at *
    obtain ⟨g0, g1, g2, g3, g4, g5, g6, g7⟩ := q.e8
    go_wp2
    exact bodyPost_ret (v := .tuple #[.agg #[inAt ys 0, inAt ys 1, inAt ys 2, inAt ys 3, inAt ys 4, inAt ys 5, inAt ys 6, inAt ys 7], .int .i64 (k : Int)]) (by simp [results, Tryz.results176, go_sem, g0, g1, g2, g3, g4, g5, g6, g7]) rfl ⟨by rw [HSB.out, Hk.out, Hs.out]; show _ = Ending.returned (.tuple #[vA (app _ im cs), _]); rw [Hys.out]; rfl, hnf⟩
  rw [decide_eq_false hgt]
  have HSB := Lib.hid (show stp b p t gs im = (im, a) by rw [Hstp.out, if_neg (by have := Hlt.out; omega), if_neg hgt])
  clear hd hgt
  obtain ⟨y0, y1, y2, y3, y4, y5, y6, y7, y8, y9, y10, y11, y12, y13, y14⟩ := bq.e15
  go_wp2_with (refine wpList_store_row rfl _ _ _ rfl gR #[inAt im 0, inAt im 1, inAt im 2, inAt im 3, inAt im 4, inAt im 5, inAt im 6, inAt im 7] rfl rfl 116 #[.int .i64 0, .int .i64 0, .int .i64 0, .int .i64 0, .int .i64 0, .int .i64 0, .int .i64 0, .int .i64 0] rq (by kernel_rfl) rfl (by simp [Value.oneCell', inAt]) ?_)
  have q := rq.row #[inAt im 0, inAt im 1, inAt im 2, inAt im 3, inAt im 4, inAt im 5, inAt im 6, inAt im 7]
  have hnf := hx0.setRow hgR #[inAt im 0, inAt im 1, inAt im 2, inAt im 3, inAt im 4, inAt im 5, inAt im 6, inAt im 7]
  generalize wz.setRow gR #[inAt im 0, inAt im 1, inAt im 2, inAt im 3, inAt im 4, inAt im 5, inAt im 6, inAt im 7] = Wf at *
  obtain ⟨g0, g1, g2, g3, g4, g5, g6, g7⟩ := q.e8
  exact bodyPost_ret (v := .tuple #[.agg #[inAt im 0, inAt im 1, inAt im 2, inAt im 3, inAt im 4, inAt im 5, inAt im 6, inAt im 7], .int .i64 a]) (by simp [results, Tryz.results176, go_sem, g0, g1, g2, g3, g4, g5, g6, g7]) rfl ⟨by rw [HSB.out]; rfl, hnf⟩
end Go.Proofs.YtehahodomfbpjaaGreatDoor
/- Arrays of eight ints compared with '!='. Conditions: none. -/
namespace Go.Proofs.YtehahodomfbpjaaGreatDoor
set_option linter.unusedVariables false
set_option maxRecDepth 100000
open Go.RowKit

theorem pk_int : Tryz.prog.plainKey 3 = true := by kernel_rfl
theorem eq_step (d : Nat) (a b : Array Value) (x y : Int) (i : Nat) (is : List Nat) (w : World) (ha : a[i]? = some (.int .i64 x)) (hb : b[i]? = some (.int .i64 y)) :
    (Op.eqItems (d + 1) 3 1 a b (i :: is)).run Tryz.prog w = if x = y then (Op.eqItems (d + 1) 3 1 a b is).run Tryz.prog w else .ok false w := by
  simp only [Op.eqItems, Sem.run_bind, Nat.mul_one]
  rw [run_part_plain (P := Tryz.prog) w pk_int ha]
  simp only [Result.andThen_ok]
  rw [run_part_plain (P := Tryz.prog) w pk_int hb]
  simp only [Result.andThen_ok]
  rw [run_equalIn_int (P := Tryz.prog) w d 3 .i64 .i64 x y Tryz.underlying3]
  simp only [Result.andThen_ok]
  by_cases h : x = y
  · subst h; simp
  · rw [if_neg h, show (x == y) = false by simp [h]]; simp
theorem eq_all (d : Nat) (a b : Array Value) (xs ys : List Int) (w : World) : ∀ is : List Nat, (∀ i ∈ is, a[i]? = some (inAt xs i)) → (∀ i ∈ is, b[i]? = some (inAt ys i)) →
    (Op.eqItems (d + 1) 3 1 a b is).run Tryz.prog w = .ok (is.all fun i => decide (xs.getD i 0 = ys.getD i 0)) w
  | [], _, _ => by simp [Op.eqItems]
  | i :: is, ha, hb => by
    rw [eq_step d a b (xs.getD i 0) (ys.getD i 0) i is w (ha i (by simp)) (hb i (by simp)), List.all_cons]
    by_cases h : xs.getD i 0 = ys.getD i 0
    · rw [if_pos h, eq_all d a b xs ys w is (fun j hj => ha j (by simp [hj])) (fun j hj => hb j (by simp [hj])), decide_eq_true h, Bool.true_and]
    · rw [if_neg h, decide_eq_false h, Bool.false_and]
def arr8 (xs : List Int) : Array Value := #[inAt xs 0, inAt xs 1, inAt xs 2, inAt xs 3, inAt xs 4, inAt xs 5, inAt xs 6, inAt xs 7]
theorem arr8_at (xs : List Int) : ∀ i ∈ List.range 8, (arr8 xs)[i]? = some (inAt xs i) := fun i hi => by
  have : i < 8 := by simpa using hi
  match i, this with
  | 0, _ => rfl
  | 1, _ => rfl
  | 2, _ => rfl
  | 3, _ => rfl
  | 4, _ => rfl
  | 5, _ => rfl
  | 6, _ => rfl
  | 7, _ => rfl
theorem all8 {xs ys : List Int} (h : xs.length = 8) (h2 : ys.length = 8) : ((List.range 8).all fun i => decide (xs.getD i 0 = ys.getD i 0)) = decide (xs = ys) := by
  by_cases e : xs = ys
  · rw [decide_eq_true e, List.all_eq_true]
    intro i _
    rw [e]; simp
  · rw [decide_eq_false e, List.all_eq_false]
    refine Classical.byContradiction fun hc => e (ext8 h h2 fun j hj => Classical.byContradiction fun hn => hc ⟨j, by simpa using hj, by simpa using hn⟩)
theorem und_values : Tryz.prog.underlying 116 = some (.array 8 3) := Tryz.underlying116
theorem equal_arr (d : Nat) {xs ys : List Int} (h : xs.length = 8) (h2 : ys.length = 8) (w : World) : (Op.equalIn (d + 2) 116 (.agg (arr8 xs)) (.agg (arr8 ys))).run Tryz.prog w = .ok (decide (xs = ys)) w := by
  obtain ⟨i0, hi0, hz0, hz1, hz2⟩ := info_parts info_int
  rw [run_equalIn_array (P := Tryz.prog) w (d + 1) (arr8 xs) (arr8 ys) und_values hi0, show Tryz.prog.cellsOf 3 = 1 from ci_, eq_all d _ _ xs ys w _ (arr8_at xs) (arr8_at ys), all8 h h2]
theorem neq_arr {xs ys : List Int} (h : xs.length = 8) (h2 : ys.length = 8) (w : World) : (binOp .neq 116 (.agg (arr8 xs)) (.agg (arr8 ys))).run Tryz.prog w = .ok (.bool (!decide (xs = ys))) w := by
  rw [run_neq_struct, show (10000 : Nat) = 9998 + 2 from rfl, equal_arr 9998 h h2]; rfl
theorem eqg_values : Tryz.prog.eqGuardType Tryz.prog.depth 116 = false := by kernel_rfl
/-- The comparison as an operation. -/
theorem neq_op {o : Oper} {a : Act} {x y : Operand} {xs ys : List Int} {t : TypeId} (h : xs.length = 8) (h2 : ys.length = 8) (w : World) (ho : o.op = .binOp .neq 116 x y t) (hx : a.eval x = .agg (arr8 xs)) (hy : a.eval y = .agg (arr8 ys)) :
    (execOp a.eval o).run Tryz.prog w = .ok (.value (.bool (!decide (xs = ys)))) w := by
  unfold execOp
  simp only [ho, hx, hy]
  simp [run_eqGuard_agg (P := Tryz.prog) w .neq 116 x y (arr8 xs) (arr8 ys) eqg_values, neq_arr h h2]
end Go.Proofs.YtehahodomfbpjaaGreatDoor
