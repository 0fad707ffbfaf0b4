/-
  The program's view of a vault: words.
  Conditions: what is read can be read, and holds at most 1048576 elements of a kind.
-/
import Derived.Test.YtihpadelfpogmaaVix
import Derived.Test.YtihpadelfpogmaaLex
import Derived.Test.YtihpadelfpogmaaPln
import Derived.Test.YtihpadelfpogmaaFwl
namespace Go.Proofs.Ytihpadelfpogmaa
set_option linter.unusedVariables false
set_option maxRecDepth 100000
open Go.RowKit

/-- The program's view of a vault. -/
def Vl.wcells (V : Vl) : Array Value := #[.int .i64 V.g, .int .i64 V.b, .int .i64 V.p, .int .i64 V.t, .slice V.A V.xs.length V.c, .slice V.A2 V.ms.length V.c2, .slice V.A3 V.gs.length V.c3, inAt V.im 0, inAt V.im 1, inAt V.im 2, inAt V.im 3, inAt V.im 4, inAt V.im 5, inAt V.im 6, inAt V.im 7]
def Vl.w (V : Vl) : Value := .agg V.wcells
theorem Box.e15 {w : World} {g : Nat} {t : TypeId} {v0 v1 v2 v3 v4 v5 v6 v7 v8 v9 v10 v11 v12 v13 v14 : Value} (h : Box w g t #[v0, v1, v2, v3, v4, v5, v6, v7, v8, v9, v10, v11, v12, v13, v14]) : w.cell? ⟨g, 0, none⟩ = some v0 ∧ w.cell? ⟨g, 1, none⟩ = some v1 ∧ w.cell? ⟨g, 2, none⟩ = some v2 ∧ w.cell? ⟨g, 3, none⟩ = some v3 ∧ w.cell? ⟨g, 4, none⟩ = some v4 ∧ w.cell? ⟨g, 5, none⟩ = some v5 ∧ w.cell? ⟨g, 6, none⟩ = some v6 ∧ w.cell? ⟨g, 7, none⟩ = some v7 ∧ w.cell? ⟨g, 8, none⟩ = some v8 ∧ w.cell? ⟨g, 9, none⟩ = some v9 ∧ w.cell? ⟨g, 10, none⟩ = some v10 ∧ w.cell? ⟨g, 11, none⟩ = some v11 ∧ w.cell? ⟨g, 12, none⟩ = some v12 ∧ w.cell? ⟨g, 13, none⟩ = some v13 ∧ w.cell? ⟨g, 14, none⟩ = some v14 :=
  ⟨h.cell 0, h.cell 1, h.cell 2, h.cell 3, h.cell 4, h.cell 5, h.cell 6, h.cell 7, h.cell 8, h.cell 9, h.cell 10, h.cell 11, h.cell 12, h.cell 13, h.cell 14⟩
theorem Box.row {w : World} {g : Nat} {t : TypeId} {cs : Array Value} (h : Box w g t cs) (ds : Array Value) : Box (w.setRow g ds) g t ds := setRow_heap w g cs ds t _ h
theorem heap_setRow_ne (w : World) (g : Nat) (ds : Array Value) {k : Nat} (h : k ≠ g) : (w.setRow g ds).heap[k]? = w.heap[k]? := by
  simp only [World.setRow, Array.getElem?_modify]
  rw [if_neg (fun e : g = k => h e.symm)]
theorem size_setRow (w : World) (g : Nat) (ds : Array Value) : (w.setRow g ds).heap.size = w.heap.size := by simp [World.setRow]
theorem Nx.setRow {a w : World} (h : Nx a w) {g : Nat} (hg : a.heap.size ≤ g) (ds : Array Value) : Nx a (w.setRow g ds) :=
  ⟨h.os, h.tape, h.output, by rw [size_setRow]; exact h.size, fun k hk => (heap_setRow_ne w g ds (by omega)).trans (h.block k hk)⟩
theorem Box.rowfar {w : World} {g k : Nat} {t : TypeId} {cs : Array Value} (h : Box w k t cs) (hne : k ≠ g) (ds : Array Value) : Box (w.setRow g ds) k t cs := (heap_setRow_ne w g ds hne).trans h
theorem Own.rowfar {w : World} {g k m : Nat} {t : TypeId} {f : Nat → Value} (h : Own w k t m f) (hne : k ≠ g) (ds : Array Value) : Own (w.setRow g ds) k t m f := h.of_block (heap_setRow_ne w g ds hne)
theorem Sl.rowfar {w : World} {lo m g : Nat} {A : Option Addr} {t : TypeId} {f : Nat → Value} (h : Sl w lo A t m f) (hg : g < lo) (ds : Array Value) : Sl (w.setRow g ds) lo A t m f := fun hm => by
  obtain ⟨k, e, hl, ho⟩ := h hm; exact ⟨k, e, hl, ho.rowfar (by omega) ds⟩

set_option maxHeartbeats 1000000 in
theorem goesForward_c (g b p t : Int) (A A2 : Option Addr) (c c2 n n2 : Nat) (w : World) :
    Calls Try.prog 159 #[.agg #[.int .i64 g, .int .i64 b, .int .i64 p, .int .i64 t, .slice A n c, .slice A2 n2 c2]] w fun e w' => e = .returned (.bool (decide (p < t))) ∧ Nx w w' := by
  have hx0 := (Nx.refl w).alloc (.cells #[.int .i64 g, .int .i64 b, .int .i64 p, .int .i64 t, .slice A n c, .slice A2 n2 c2] 33)
  go_enter Try.func159, Try.ntmps159
  go_wp2
  go_ret
  exact ⟨rfl, hx0⟩

set_option maxHeartbeats 1000000 in
theorem goesBack_c (g b p t : Int) (A A2 : Option Addr) (c c2 n n2 : Nat) (w : World) :
    Calls Try.prog 160 #[.agg #[.int .i64 g, .int .i64 b, .int .i64 p, .int .i64 t, .slice A n c, .slice A2 n2 c2]] w fun e w' => e = .returned (.bool (decide (t < p))) ∧ Nx w w' := by
  have hx0 := (Nx.refl w).alloc (.cells #[.int .i64 g, .int .i64 b, .int .i64 p, .int .i64 t, .slice A n c, .slice A2 n2 c2] 33)
  go_enter Try.func160, Try.ntmps160
  go_wp2
  go_ret
  exact ⟨rfl, hx0⟩
end Go.Proofs.Ytihpadelfpogmaa
