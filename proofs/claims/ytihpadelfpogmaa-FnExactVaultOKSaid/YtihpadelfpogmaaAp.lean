/-
  Laws on append onto an empty slice of the call's own, and on copy into a row of the call's own, whatever the elements' size, nil sources let in.
  Conditions: at most 1048576 elements of at most 64 bytes each.
-/
import Derived.Test.YtihpadelfpogmaaCore
import Derived.Laws.Append
import Derived.Laws.AppendOwn
import Derived.Laws.CopyRow
import Derived.Laws.Cells
import Derived.RegionTactic
import Derived.Deep.RegionLaw
namespace Go.Proofs.Ytihpadelfpogmaa
set_option linter.unusedVariables false
set_option maxRecDepth 100000
open Go.RowKit

theorem addr_add' (b off i : Nat) : (Addr.mk b off none).add i = ⟨b, off + i, none⟩ := by
  unfold Addr.add
  by_cases h : i = 0
  · subst h; simp
  · simp [h]
def NewRow (w w' : World) (e : TypeId) (size : Nat) (A : Option Addr) (m : Nat) (f : Nat → Value) : Prop :=
  Nx w w' ∧ (0 < m → ∃ g, A = some ⟨g, 0, none⟩ ∧ w.heap.size ≤ g ∧ Own w' g e (m * size) f)
theorem cells_list (N : Nat) (f : Nat → Value) (j : Nat) (u : Value) (h : ((List.range N).map f)[j]? = some u) : j < N ∧ f j = u := by
  rw [List.getElem?_map] at h
  by_cases hj : j < N
  · rw [List.getElem?_range hj] at h
    exact ⟨hj, by simpa using h⟩
  · rw [List.getElem?_eq_none (by simpa using hj)] at h
    cases h

section
variable {P : Program}
theorem run_append_new (w : World) (t ty e : TypeId) (i : TypeInfo) (z : Value) (size bytes : Nat) (ht : P.underlying t = some (.slice e)) (hi : P.info? e = some i) (hz : i.zero = some z) (hsize : i.size = size) (hby : i.bytes = bytes)
    (hsz : 0 < size) (hb64 : bytes ≤ 64) (g0 : Nat) (A : Option Addr) (m c B : Nat) (f : Nat → Value) (hrow : Row w B A (m * size) f) (hm : m ≤ 1048576) :
    ∃ A' c' w', (Builtin.append_ #[t, t] ty #[.slice (some ⟨g0, 0, none⟩) 0 0, .slice A m c]).run P w = .ok (.slice A' m c') w' ∧ NewRow w w' e size A' m f := by
  subst hsize hby
  rcases Nat.eq_zero_or_pos m with h0 | hp
  · subst h0
    refine ⟨some ⟨g0, 0, none⟩, 0, w, ?_, Nx.refl _, fun h => absurd h (by omega)⟩
    rcases A with _ | a
    · simp [Builtin.append_, run_underlying ht, sizeOf, typeInfo, hi, Builtin.lenOf, Builtin.firstCells, storeCells]
    · simp [Builtin.append_, run_underlying ht, sizeOf, typeInfo, hi, Builtin.lenOf, Builtin.firstCells, storeCells, loadCells, loadCellsFrom]
  · have hpos : 0 < m * i.size := Nat.mul_pos hp hsz
    obtain ⟨b, off, rfl, hb, hc⟩ := hrow hpos
    have hgrow := run_append_grow (P := P) w t ty e i z ht hi hz ⟨g0, 0, none⟩ 0 0 [] (by simp) (fun j v h => by simp at h) ⟨b, off, none⟩ m c ((List.range (m * i.size)).map f) (by simp)
      (fun j u h => by
        obtain ⟨hj, rfl⟩ := cells_list _ _ _ _ h
        rw [addr_add']; exact hc j hj) (by omega) (by omega) (growslice_fits (by omega) (by
          have h1 : (0 + m) * i.bytes ≤ 1048576 * 64 := Nat.mul_le_mul (by omega) hb64
          omega))
    rw [Nat.zero_add] at hgrow
    refine ⟨_, _, _, hgrow, ?_, fun _ => ⟨_, rfl, Nat.le_refl _, ?_⟩⟩
    · exact ((Nx.refl w).drew).alloc _
    · refine ⟨_, heap_alloc_new w.drew _, ?_, fun k hk => ?_⟩
      · simp only [Array.size_append, List.size_toArray, List.length_map, List.length_range, List.length_nil]; omega
      · rw [Array.getElem?_append_left (by simp only [Array.size_append, List.size_toArray, List.length_map, List.length_range, List.length_nil]; omega)]
        simp [List.getElem?_range hk]

theorem wp_append_new {o : Oper} {a : Act} {w : World} {K : Act → World → Prop} {Q : Exit → Act → World → Prop} (s x : Operand) (t : TypeId) (ho : o.op = .call { callee := .builtin .append, args := #[s, x], argTypes := #[t, t] })
    (e : TypeId) (i : TypeInfo) (z : Value) (size bytes : Nat) (ht : P.underlying t = some (.slice e)) (hi : P.info? e = some i) (hz : i.zero = some z) (hsize : i.size = size) (hby : i.bytes = bytes)
    (hsz : 0 < size) (hb64 : bytes ≤ 64) (g0 : Nat) (A : Option Addr) (m c B : Nat) (f : Nat → Value) (hs : a.eval s = .slice (some ⟨g0, 0, none⟩) 0 0) (hx : a.eval x = .slice A m c) (hrow : Row w B A (m * size) f) (hm : m ≤ 1048576)
    (h : ∀ A' c' w', NewRow w w' e size A' m f → K (a.put o.dst (.slice A' m c')) w') : o.wp P a w K Q := by
  obtain ⟨A', c', w', hrun, hn⟩ := run_append_new (P := P) w t o.type e i z size bytes ht hi hz hsize hby hsz hb64 g0 A m c B f hrow hm
  unfold Oper.wp execOp
  simp only [ho, resolve, invoke, builtin, Sem.run_bind, Sem.run_pure, Result.andThen_ok, List.map_toArray, List.map_cons, List.map_nil, hs, hx, hrun]
  exact h A' c' w' hn
theorem wpList_append_new {ops : Array Oper} {rest : List Oper} {o : Oper} {a : Act} {w : World} {Q : Exit → Act → World → Prop} (hgd : o.guard = none) (s x : Operand) (t : TypeId) (ho : o.op = .call { callee := .builtin .append, args := #[s, x], argTypes := #[t, t] })
    (e : TypeId) (i : TypeInfo) (z : Value) (size bytes : Nat) (ht : P.underlying t = some (.slice e)) (hi : P.info? e = some i) (hz : i.zero = some z) (hsize : i.size = size) (hby : i.bytes = bytes)
    (hsz : 0 < size) (hb64 : bytes ≤ 64) (g0 : Nat) (A : Option Addr) (m c B : Nat) (f : Nat → Value) (hs : a.eval s = .slice (some ⟨g0, 0, none⟩) 0 0) (hx : a.eval x = .slice A m c) (hrow : Row w B A (m * size) f) (hm : m ≤ 1048576)
    (h : ∀ A' c' w', NewRow w w' e size A' m f → wpList P ops Q rest (a.put o.dst (.slice A' m c')) w') : wpList P ops Q (o :: rest) a w :=
  wpList_plain hgd fun _ hK => wp_append_new s x t ho e i z size bytes ht hi hz hsize hby hsz hb64 g0 A m c B f hs hx hrow hm fun A' c' w' hn => hK _ _ (h A' c' w' hn)
theorem step_append_new {ops : Array Oper} {o : Oper} {a : Act} {w : World} {K : Act → World → Prop} {Q : Exit → Act → World → Prop} {E : Prop} (hgd : o.guard = none) (s x : Operand) (t : TypeId) (ho : o.op = .call { callee := .builtin .append, args := #[s, x], argTypes := #[t, t] })
    (e : TypeId) (i : TypeInfo) (z : Value) (size bytes : Nat) (ht : P.underlying t = some (.slice e)) (hi : P.info? e = some i) (hz : i.zero = some z) (hsize : i.size = size) (hby : i.bytes = bytes)
    (hsz : 0 < size) (hb64 : bytes ≤ 64) (g0 : Nat) (A : Option Addr) (m c B : Nat) (f : Nat → Value) (hs : a.eval s = .slice (some ⟨g0, 0, none⟩) 0 0) (hx : a.eval x = .slice A m c) (hrow : Row w B A (m * size) f) (hm : m ≤ 1048576)
    (h : ∀ A' c' w', NewRow w w' e size A' m f → K (a.put o.dst (.slice A' m c')) w') :
    if Region.wanted o (yielded ops a.tmps) = true then Oper.wp P o a w K Q else E := by
  have hw : Region.wanted o (yielded ops a.tmps) = true := by simp [Region.wanted, hgd]
  rw [if_pos hw]
  exact wp_append_new s x t ho e i z size bytes ht hi hz hsize hby hsz hb64 g0 A m c B f hs hx hrow hm h

/-- copy into a row of the call's own. -/
theorem run_copy_new (w : World) (dT sT ty elem : TypeId) (i : TypeInfo) (size : Nat) (hu : P.underlying dT = some (.slice elem)) (hi : P.info? elem = some i) (hsize : i.size = size)
    (g n cap : Nat) (A : Option Addr) (m c B M : Nat) (t : TypeId) (f f0 : Nat → Value) (ho : Own w g t M f0) (hM : n * size ≤ M) (hmn : m ≤ n) (hrow : Row w B A (m * size) f) (h1 : ∀ k, (f k).oneCell' = true) :
    ∃ w', (Builtin.copy_ #[dT, sT] ty #[.slice (some ⟨g, 0, none⟩) n cap, .slice A m c]).run P w = .ok (goInt m) w' ∧ Own w' g t M (fun k => if k < m * size then f k else f0 k) ∧
      (∀ a, Nx a w → a.heap.size ≤ g → Nx a w') ∧ w'.heap.size = w.heap.size ∧ (∀ k, k ≠ g → w'.heap[k]? = w.heap[k]?) := by
  subst hsize
  have hmin : Nat.min m n = m := Nat.min_eq_left hmn
  rcases Nat.eq_zero_or_pos (m * i.size) with h0 | hp
  · refine ⟨w, ?_, ho.congr (fun k _ => by rw [if_neg (by omega)]), fun _ h _ => h, rfl, fun _ _ => rfl⟩
    rcases A with _ | a
    · simp [Builtin.copy_, run_underlying hu, Builtin.lenOf, Builtin.firstCells, sizeOf, typeInfo, hi, hmin, storeCells]
    · simp [Builtin.copy_, run_underlying hu, Builtin.lenOf, Builtin.firstCells, sizeOf, typeInfo, hi, hmin, storeCells, h0, loadCells, loadCellsFrom]
  · obtain ⟨b, off, rfl, hb, hc⟩ := hrow hp
    obtain ⟨cur, hg, hcM, hcur⟩ := ho
    have hle : m * i.size ≤ n * i.size := Nat.mul_le_mul_right _ hmn
    have hl := run_loadCells_list (P := P) w ⟨b, off, none⟩ ((List.range (m * i.size)).map f) (fun j u h => by
      obtain ⟨hj, rfl⟩ := cells_list _ _ _ _ h
      rw [addr_add']; exact hc j hj)
    have hst := run_storeCells_at P g 0 t ((List.range (m * i.size)).map f) 0 cur w hg (by simp; omega) (fun v hv => by
      simp only [List.mem_map, List.mem_range] at hv
      obtain ⟨k, _, rfl⟩ := hv
      exact h1 k)
    simp only [List.length_map, List.length_range] at hl hst
    refine ⟨_, by
      simp only [Builtin.copy_]
      simp [run_underlying hu, Builtin.lenOf, Builtin.firstCells, sizeOf, typeInfo, hi, hmin, hl]
      rw [hst]; rfl, ?_, ?_, ?_, ?_⟩
    · refine ⟨_, setRow_heap w g cur _ t _ hg, ?_, fun k hk => ?_⟩
      · simp; omega
      · by_cases hkm : k < m * i.size
        · simp [hkm, List.getElem?_append]
        · have h2 : m * i.size + (k - m * i.size) = k := by omega
          simp [hkm, List.getElem?_append, h2, hcur k hk]
    · intro a hna hag
      exact ⟨hna.os, hna.tape, hna.output, by have := hna.size; simpa [World.setRow] using this, fun k hk => (setRow_other w g k _ (by omega)).trans (hna.block k hk)⟩
    · simp [World.setRow]
    · exact fun k hk => setRow_other w g k _ hk
end
end Go.Proofs.Ytihpadelfpogmaa
