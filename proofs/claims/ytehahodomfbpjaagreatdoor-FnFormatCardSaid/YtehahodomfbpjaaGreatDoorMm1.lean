/-
  Texts of the proof, put together in their order: Seg, Ap, Fwd, Val, Cnt, Lex.
  Conditions: those of each.
-/
import Derived.Test.YtehahodomfbpjaaGreatDoorMm0
import Derived.Deep.RegionHeld3
import Derived.Laws.Append
import Derived.Laws.AppendOwn
import Derived.Laws.CopyRow
import Derived.Laws.Cells
import Derived.RegionTactic
import Derived.Deep.RegionLaw
import Derived.Outline
/- Words on segments: lists of changes in memory, what a segment is, and contracts of SegOK, as the model and as the program have it: both answer the same bool. Conditions: the segment can be read, and has at most 1048576 changes. -/
namespace Go.Proofs.YtehahodomfbpjaaGreatDoor
set_option linter.unusedVariables false
set_option maxRecDepth 100000
open Go.RowKit

/-- A change: block, new value, old value. -/
abbrev Chg := Int × Int × Int
def chZ : Chg := (0, 0, 0)
def chAt (cs : List Chg) (i : Nat) : Value := .int .i64 (if i % 3 = 0 then (cs.getD (i / 3) chZ).1 else if i % 3 = 1 then (cs.getD (i / 3) chZ).2.1 else (cs.getD (i / 3) chZ).2.2)
theorem chAt0 (cs : List Chg) (k : Nat) : chAt cs (k * 3) = .int .i64 (cs.getD k chZ).1 := by
  unfold chAt; rw [if_pos (by omega), show k * 3 / 3 = k by omega]
theorem chAt1 (cs : List Chg) (k : Nat) : chAt cs (k * 3 + 1) = .int .i64 (cs.getD k chZ).2.1 := by
  unfold chAt; rw [if_neg (by omega), if_pos (by omega), show (k * 3 + 1) / 3 = k by omega]
theorem chAt2 (cs : List Chg) (k : Nat) : chAt cs (k * 3 + 2) = .int .i64 (cs.getD k chZ).2.2 := by
  unfold chAt; rw [if_neg (by omega), if_neg (by omega), show (k * 3 + 2) / 3 = k by omega]
/-- A list of changes that is read. -/
def Chs (w : World) (B : Nat) (A : Option Addr) (cs : List Chg) : Prop := Row w B A (cs.length * 3) (chAt cs)
theorem Chs.below {w w' : World} {B B' : Nat} {A : Option Addr} {cs : List Chg} (h : Chs w B A cs) (hb : Below B' w w') (hB : B ≤ B') : Chs w' B A cs := Row.below h hb hB
theorem Chs.at_ {w : World} {B k : Nat} {A : Option Addr} {cs : List Chg} (h : Chs w B A cs) (hk : k < cs.length) :
    ∃ b off, A = some ⟨b, off, none⟩ ∧ b < B ∧ w.cell? ⟨b, off + k * 3, none⟩ = some (.int .i64 (cs.getD k chZ).1) ∧ w.cell? ⟨b, off + k * 3 + 1, none⟩ = some (.int .i64 (cs.getD k chZ).2.1) ∧ w.cell? ⟨b, off + k * 3 + 2, none⟩ = some (.int .i64 (cs.getD k chZ).2.2) := by
  obtain ⟨b, off, e, hb, hc⟩ := h (by omega)
  have h0 := hc (k * 3) (by omega)
  have h1 := hc (k * 3 + 1) (by omega)
  have h2 := hc (k * 3 + 2) (by omega)
  rw [chAt0] at h0
  rw [chAt1] at h1
  rw [chAt2] at h2
  exact ⟨b, off, e, hb, h0, h1, h2⟩
def chB (c : Chg) : Bool := inB 0 7 c.1 && inB 0 999999 c.2.1 && inB 0 999999 c.2.2
def okCh (cs : List Chg) (k : Nat) : Bool := chB (cs.getD k chZ) && (k == 0 || decide ((cs.getD (k - 1) chZ).1 < (cs.getD k chZ).1))
def chsB (cs : List Chg) : Bool := (List.range cs.length).all (okCh cs)
/-- What a segment is. -/
def segB (f t m : Int) (cs : List Chg) : Bool := inB 0 999999 f && inB 0 999999 t && decide (f < t) && inB 0 999999 m && chsB cs
def OkTo (cs : List Chg) (k : Nat) : Prop := ∀ j, j < k → okCh cs j = true
theorem OkTo.zero (cs : List Chg) : OkTo cs 0 := fun j h => absurd h (by omega)
theorem OkTo.succ {cs : List Chg} {k : Nat} (h : OkTo cs k) (hk : okCh cs k = true) : OkTo cs (k + 1) := fun j hj => by
  rcases Nat.lt_or_ge j k with hlt | hge
  · exact h j hlt
  · obtain rfl : j = k := by omega
    exact hk
theorem OkTo.all {cs : List Chg} (h : OkTo cs cs.length) : chsB cs = true := List.all_eq_true.2 fun j hj => h j (by simpa using hj)
theorem chsB_to {cs : List Chg} (h : chsB cs = true) : OkTo cs cs.length := fun j hj => List.all_eq_true.1 h j (by simpa using hj)
theorem chsB_no {cs : List Chg} {k : Nat} (hk : k < cs.length) (h : okCh cs k = false) : chsB cs = false := by
  unfold chsB
  rw [List.all_eq_false]
  exact ⟨k, by simpa using hk, by rw [h]; simp⟩
theorem OkTo.rise {cs : List Chg} {k : Nat} (h : OkTo cs k) : ∀ j, j < k → (j : Int) ≤ (cs.getD j chZ).1 ∧ (cs.getD j chZ).1 ≤ 7 := by
  intro j
  induction j with
  | zero =>
    intro hj
    have h0 := h 0 hj
    unfold okCh chB at h0
    simp only [Bool.and_eq_true] at h0
    exact inB_yes h0.1.1.1
  | succ j ih =>
    intro hj
    have h0 := h (j + 1) hj
    obtain ⟨h1, _⟩ := ih (by omega)
    unfold okCh chB at h0
    simp only [Bool.and_eq_true, Bool.or_eq_true, decide_eq_true_eq, Nat.add_sub_cancel] at h0
    obtain ⟨_, h3⟩ := inB_yes h0.1.1.1
    rcases h0.2 with h2 | h2
    · simp at h2
    · exact ⟨by omega, h3⟩
theorem chsB_len {cs : List Chg} (h : chsB cs = true) : cs.length ≤ 8 := by
  rcases Nat.lt_or_ge 8 cs.length with hl | hl
  · have := (chsB_to h).rise 8 hl
    omega
  · exact hl
theorem segB_no {f t m : Int} {cs : List Chg} (h : inB 0 999998 f = false ∨ inB (f + 1) 999999 t = false ∨ inB 0 999999 f = false ∨ inB 0 999999 t = false ∨ decide (f < t) = false ∨ inB 0 999999 m = false ∨ chsB cs = false) : segB f t m cs = false := by
  rcases h with h | h | h | h | h | h | h
  · unfold segB inB at *
    simp only [Bool.and_eq_false_iff, decide_eq_false_iff_not] at *
    omega
  · unfold segB inB at *
    simp only [Bool.and_eq_false_iff, decide_eq_false_iff_not] at *
    omega
  · unfold segB; rw [h]; rfl
  · unfold segB; rw [h]; simp
  · unfold segB; rw [h]; simp
  · unfold segB; rw [h]; simp
  · unfold segB; rw [h]; simp
theorem segB_mk {f t m : Int} {cs : List Chg} (h1 : 0 ≤ f) (h2 : f < t) (h3 : t ≤ 999999) (h4 : inB 0 999999 m = true) (h5 : chsB cs = true) : segB f t m cs = true := by
  unfold segB
  rw [inB_mk h1 (by omega), inB_mk (by omega) h3, h4, h5, decide_eq_true h2]; rfl

set_option maxHeartbeats 1000000 in
theorem changeRight_c (a b c : Int) (w : World) : Calls Tryz.prog 253 #[.agg #[.int .i64 a, .int .i64 b, .int .i64 c]] w fun e w' => e = .returned (.bool (chB (a, b, c))) ∧ Nx w w' := by
  obtain ⟨x1, H1⟩ : ∃ r, Hid (inB 0 7 a = r) := ⟨_, rfl⟩
  obtain ⟨x2, H2⟩ : ∃ r, Hid (inB 0 999999 b = r) := ⟨_, rfl⟩
  obtain ⟨x3, H3⟩ : ∃ r, Hid (inB 0 999999 c = r) := ⟨_, rfl⟩
  have HR := Lib.hid (show (x1 && x2 && x3) = chB (a, b, c) by rw [← H1.out, ← H2.out, ← H3.out]; rfl)
  cases x1 <;> cases x2 <;> cases x3 <;> (
    go_enter Tryz.func253, Tryz.ntmps253
    go_wp2_with (first
      | (go_at_call 150; refine (isBlock_c _ _).mono ?_; rintro e w' ⟨rfl, rfl⟩; rw [H1.out])
      | (go_at_call 151; refine (isValue_c _ _).mono ?_; rintro e w' ⟨rfl, rfl⟩; first | rw [H2.out] | rw [H3.out]))
    go_ret
    exact ⟨ret_bool HR.out, (Nx.refl _).alloc _⟩)
end Go.Proofs.YtehahodomfbpjaaGreatDoor
/- Laws on append onto an empty slice of the call's own, and on copy into a row of the call's own, whatever the elements' size, nil sources let in. Conditions: at most 1048576 elements of at most 64 bytes each. -/
namespace Go.Proofs.YtehahodomfbpjaaGreatDoor
set_option linter.unusedVariables false
set_option maxRecDepth 100000
open Go.RowKit

theorem addr_add' (b off i : Nat) : (Addr.mk b off none).add i = ⟨b, off + i, none⟩ := by
  unfold Addr.add
  by_cases h : i = 0
  · subst h; simp
  · simp [h]
theorem cells_list (N : Nat) (f : Nat → Value) (j : Nat) (u : Value) (h : ((List.range N).map f)[j]? = some u) : j < N ∧ f j = u := by
  rw [List.getElem?_map] at h
  by_cases hj : j < N
  · rw [List.getElem?_range hj] at h
    exact ⟨hj, by simpa using h⟩
  · rw [List.getElem?_eq_none (by simpa using hj)] at h
    cases h

section
variable {P : Program}
/-- copy into a row of the call's own. -/
theorem run_copy_new (w : World) (dT sT ty elem : TypeId) (i : TypeInfo) (size : Nat) (hu : P.underlying dT = some (.slice elem)) (hi : P.info? elem = some i) (hsize : i.size = size)
    (g n cap : Nat) (A : Option Addr) (m c B M : Nat) (t : TypeId) (f f0 : Nat → Value) (ho : Own w g t M f0) (hM : n * size ≤ M) (hmn : m ≤ n) (hrow : Row w B A (m * size) f) (h1 : ∀ k, (f k).oneCell' = true) :
    ∃ w', (Builtin.copy_ #[dT, sT] ty #[.slice (some ⟨g, 0, none⟩) n cap, .slice A m c]).run P w = .ok (goInt m) w' ∧ Own w' g t M (fun k => if k < m * size then f k else f0 k) ∧
      (∀ a, Nx a w → a.heap.size ≤ g → Nx a w') ∧ w'.heap.size = w.heap.size ∧ (∀ k, k ≠ g → w'.heap[k]? = w.heap[k]?) := by
  subst hsize
  have hmin : Nat.min m n = m := Nat.min_eq_left hmn
  rcases Nat.eq_zero_or_pos (m * i.size) with h0 | hp
  · refine ⟨w, ?_, ho.congr (fun k _ => by rw [if_neg (by omega)]), fun _ h _ => h, rfl, fun _ _ => rfl⟩
    rcases A with _ | a
    · simp [Builtin.copy_, run_underlying hu, Builtin.lenOf, Builtin.firstCells, sizeOf, typeInfo, hi, hmin, storeCells]
    · simp [Builtin.copy_, run_underlying hu, Builtin.lenOf, Builtin.firstCells, sizeOf, typeInfo, hi, hmin, storeCells, h0, loadCells, loadCellsFrom]
  · obtain ⟨b, off, rfl, hb, hc⟩ := hrow hp
    obtain ⟨cur, hg, hcM, hcur⟩ := ho
    have hle : m * i.size ≤ n * i.size := Nat.mul_le_mul_right _ hmn
    have hl := run_loadCells_list (P := P) w ⟨b, off, none⟩ ((List.range (m * i.size)).map f) (fun j u h => by
      obtain ⟨hj, rfl⟩ := cells_list _ _ _ _ h
      rw [addr_add']; exact hc j hj)
    have hst := run_storeCells_at P g 0 t ((List.range (m * i.size)).map f) 0 cur w hg (by simp; omega) (fun v hv => by
      simp only [List.mem_map, List.mem_range] at hv
      obtain ⟨k, _, rfl⟩ := hv
      exact h1 k)
    simp only [List.length_map, List.length_range] at hl hst
    refine ⟨_, by
      simp only [Builtin.copy_]
      simp [run_underlying hu, Builtin.lenOf, Builtin.firstCells, sizeOf, typeInfo, hi, hmin, hl]
      rw [hst]; rfl, ?_, ?_, ?_, ?_⟩
    · refine ⟨_, setRow_heap w g cur _ t _ hg, ?_, fun k hk => ?_⟩
      · simp; omega
      · by_cases hkm : k < m * i.size
        · simp [hkm, List.getElem?_append]
        · have h2 : m * i.size + (k - m * i.size) = k := by omega
          simp [hkm, List.getElem?_append, h2, hcur k hk]
    · intro a hna hag
      exact ⟨hna.os, hna.tape, hna.output, by have := hna.size; simpa [World.setRow] using this, fun k hk => (setRow_other w g k _ (by omega)).trans (hna.block k hk)⟩
    · simp [World.setRow]
    · exact fun k hk => setRow_other w g k _ hk
end
end Go.Proofs.YtehahodomfbpjaaGreatDoor
/- Contracts of the program's functions on arrays of values: a list as an array, an array as a list, an array with what a segment made new or had old. Conditions: the lists and segments can be read; the list has eight elements; the segment is right. -/
namespace Go.Proofs.YtehahodomfbpjaaGreatDoor
set_option linter.unusedVariables false
set_option maxRecDepth 100000
open Go.RowKit

theorem Box.own {w : World} {g : Nat} {t : TypeId} {cs : Array Value} (h : Box w g t cs) : Own w g t cs.size (fun i => cs[i]!) :=
  ⟨cs, h, Nat.le_refl _, fun i hi => by simp [hi]⟩
theorem inAt_oneF (xs : List Int) (k : Nat) : (inAt xs k).oneCell' = true := rfl
theorem list8 {xs : List Int} (h : xs.length = 8) : ∃ x0 x1 x2 x3 x4 x5 x6 x7, xs = [x0, x1, x2, x3, x4, x5, x6, x7] := by
  match xs, h with
  | [x0, x1, x2, x3, x4, x5, x6, x7], _ => exact ⟨x0, x1, x2, x3, x4, x5, x6, x7, rfl⟩
/-- An array of eight values. -/
def vA (xs : List Int) : Value := .agg #[inAt xs 0, inAt xs 1, inAt xs 2, inAt xs 3, inAt xs 4, inAt xs 5, inAt xs 6, inAt xs 7]
def zA : Array Value := #[.int .i64 0, .int .i64 0, .int .i64 0, .int .i64 0, .int .i64 0, .int .i64 0, .int .i64 0, .int .i64 0]

set_option maxHeartbeats 1000000 in
theorem copyListF_c (A : Option Addr) (c B : Nat) (xs : List Int) (w : World) (h : Ins w B A xs) (hB : B ≤ w.heap.size) (hn : xs.length ≤ 1048576) :
    Calls Tryz.prog 180 #[.slice A xs.length c] w (RetI w xs) := by
  rcases Nat.eq_zero_or_pos xs.length with hz | hp
  · have h0 : ((xs.length : Int) == 0) = true := by rw [hz]; rfl
    have HZ := Lib.hid hz
    clear hz
    go_enter Tryz.func180, Tryz.ntmps180
    go_wp2
    go_ret
    exact ⟨none, 0, by rw [HZ.out]; rfl, fun h => absurd h (by have := HZ.out; omega), Nx.refl _⟩
  have h0 : ((xs.length : Int) == 0) = false := beq_eq_false_iff_ne.2 (by omega)
  obtain ⟨i0, hi0, hz0, hz1, hz2⟩ := info_parts info_int
  have hmk := fun W => run_make_rowN (P := Tryz.prog) 27 3 i0 _ Tryz.underlying27 hi0 hz0 .i64 .i64 xs.length xs.length (Nat.le_refl _) (by rw [hz2]; omega) (by omega) W
  rw [hz1, Nat.mul_one] at hmk
  have hmade := Own.made w #[Value.int .i64 0] xs.length 3
  have hnx := (Nx.refl w).alloc (.cells (madeCells #[Value.int .i64 0] xs.length) 3)
  obtain ⟨w1, hrun, ho1, hnx1, _, _⟩ := run_copy_new (P := Tryz.prog) (w.alloc (.cells (madeCells #[Value.int .i64 0] xs.length) 3)) 27 27 3 3 i0 1 Tryz.underlying27 hi0 hz1
    w.heap.size xs.length xs.length A xs.length c B xs.length 3 (inAt xs) _ hmade (by omega) (Nat.le_refl _) (by rw [Nat.mul_one]; exact h.below hnx hB) (inAt_oneF xs)
  have hx1 := hnx1 w hnx (Nat.le_refl _)
  have HO := Lib.hid (ho1.congr (f' := inAt xs) (fun k hk => by rw [if_pos (by omega)]))
  clear ho1 hnx1 hmade
  go_enter Tryz.func180, Tryz.ntmps180
  go_wp2
  go_ret
  exact ⟨_, _, rfl, Sl.own HO.out (Nat.le_refl _), hx1⟩

/-- The eight cells of an array in a block of the call's own. -/
theorem Own.d8 {w : World} {g : Nat} {t : TypeId} {f : Nat → Value} (h : Own w g t 8 f) : w.cell? ⟨g, 0, none⟩ = some (f 0) ∧ w.cell? ⟨g, 1, none⟩ = some (f 1) ∧ w.cell? ⟨g, 2, none⟩ = some (f 2) ∧ w.cell? ⟨g, 3, none⟩ = some (f 3) ∧ w.cell? ⟨g, 4, none⟩ = some (f 4) ∧ w.cell? ⟨g, 5, none⟩ = some (f 5) ∧ w.cell? ⟨g, 6, none⟩ = some (f 6) ∧ w.cell? ⟨g, 7, none⟩ = some (f 7) :=
  ⟨h.cell (by omega), h.cell (by omega), h.cell (by omega), h.cell (by omega), h.cell (by omega), h.cell (by omega), h.cell (by omega), h.cell (by omega)⟩
def put8 (u : World) (g : Nat) (x0 x1 x2 x3 x4 x5 x6 x7 : Int) : World := (((((((u.setCell ⟨g, 0, none⟩ (.int .i64 x0)).setCell ⟨g, 1, none⟩ (.int .i64 x1)).setCell ⟨g, 2, none⟩ (.int .i64 x2)).setCell ⟨g, 3, none⟩ (.int .i64 x3)).setCell ⟨g, 4, none⟩ (.int .i64 x4)).setCell ⟨g, 5, none⟩ (.int .i64 x5)).setCell ⟨g, 6, none⟩ (.int .i64 x6)).setCell ⟨g, 7, none⟩ (.int .i64 x7)
theorem put8_nx {w u : World} {g : Nat} (hx : Nx w u) (hg : w.heap.size ≤ g) (x0 x1 x2 x3 x4 x5 x6 x7 : Int) : Nx w (put8 u g x0 x1 x2 x3 x4 x5 x6 x7) :=
  (((((((hx.setCell (p := ⟨g, 0, none⟩) hg _).setCell (p := ⟨g, 1, none⟩) hg _).setCell (p := ⟨g, 2, none⟩) hg _).setCell (p := ⟨g, 3, none⟩) hg _).setCell (p := ⟨g, 4, none⟩) hg _).setCell (p := ⟨g, 5, none⟩) hg _).setCell (p := ⟨g, 6, none⟩) hg _).setCell (p := ⟨g, 7, none⟩) hg _
theorem put8_own {u : World} {g : Nat} {t : TypeId} {f : Nat → Value} (h : Own u g t 8 f) (x0 x1 x2 x3 x4 x5 x6 x7 : Int) : Own (put8 u g x0 x1 x2 x3 x4 x5 x6 x7) g t 8 (inAt [x0, x1, x2, x3, x4, x5, x6, x7]) := by
  have q := (((((((h.set (k := 0) (by omega) (.int .i64 x0)).set (k := 1) (by omega) (.int .i64 x1)).set (k := 2) (by omega) (.int .i64 x2)).set (k := 3) (by omega) (.int .i64 x3)).set (k := 4) (by omega) (.int .i64 x4)).set (k := 5) (by omega) (.int .i64 x5)).set (k := 6) (by omega) (.int .i64 x6)).set (k := 7) (by omega) (.int .i64 x7)
  refine q.congr fun i hi => ?_
  match i, hi with
  | 0, _ => rfl
  | 1, _ => rfl
  | 2, _ => rfl
  | 3, _ => rfl
  | 4, _ => rfl
  | 5, _ => rfl
  | 6, _ => rfl
  | 7, _ => rfl

set_option maxRecDepth 100000 in
set_option maxHeartbeats 4000000 in
theorem valuesOf_c (A : Option Addr) (c B : Nat) (xs : List Int) (w : World) (h : Ins w B A xs) (hB : B ≤ w.heap.size) (h8 : xs.length = 8) :
    Calls Tryz.prog 174 #[.slice A xs.length c] w fun e w' => e = .returned (vA xs) ∧ Nx w w' := by
  obtain ⟨x0, x1, x2, x3, x4, x5, x6, x7, rfl⟩ := list8 h8
  obtain ⟨i0, hi0, hz0, hz1, hz2⟩ := info_parts info_int
  have r0 := (Box.new w 116 zA).alloc (.cells zA 116)
  have b0 := Box.new (w.alloc (.cells zA 116)) 116 zA
  have hx0 := ((Nx.refl w).alloc (.cells zA 116)).alloc (.cells zA 116)
  simp only [World.size_alloc] at b0
  unfold zA at r0 b0 hx0
  go_enter Tryz.func174, Tryz.ntmps174
  go_wp2_with fail
  generalize ((w.alloc (.cells #[.int .i64 0, .int .i64 0, .int .i64 0, .int .i64 0, .int .i64 0, .int .i64 0, .int .i64 0, .int .i64 0] 116)).alloc (.cells #[.int .i64 0, .int .i64 0, .int .i64 0, .int .i64 0, .int .i64 0, .int .i64 0, .int .i64 0, .int .i64 0] 116)) = W at *
  obtain ⟨w1, hrun, ho1, hnx1, hsz, hoth⟩ := run_copy_new (P := Tryz.prog) W 27 27 3 3 i0 1 Tryz.underlying27 hi0 hz1
    (w.heap.size + 1) 8 8 A 8 c B 8 116 (inAt [x0, x1, x2, x3, x4, x5, x6, x7]) _ b0.own (by omega) (Nat.le_refl _) (h.below hx0 hB) (inAt_oneF _)
  rw [hrun]
  have hx1 := hnx1 w hx0 (by omega)
  have ho := ho1.congr (f' := inAt [x0, x1, x2, x3, x4, x5, x6, x7]) (fun k hk => by rw [if_pos (by omega)])
  have r1 : Box w1 w.heap.size 116 _ := (hoth _ (by omega)).trans r0
  have hlt := ho.lt
  clear hrun ho1 hnx1 hsz hoth hx0 b0 r0 W
  obtain ⟨c0, c1, c2, c3, c4, c5, c6, c7⟩ := ho.d8
  change w1.cell? _ = some (.int .i64 x0) at c0
  change w1.cell? _ = some (.int .i64 x1) at c1
  change w1.cell? _ = some (.int .i64 x2) at c2
  change w1.cell? _ = some (.int .i64 x3) at c3
  change w1.cell? _ = some (.int .i64 x4) at c4
  change w1.cell? _ = some (.int .i64 x5) at c5
  change w1.cell? _ = some (.int .i64 x6) at c6
  change w1.cell? _ = some (.int .i64 x7) at c7
  obtain ⟨s0, s1, s2, s3, s4, s5, s6, s7⟩ := r1.own.d8
  have f0 := r1.frozen 0
  have f1 := r1.frozen 1
  have f2 := r1.frozen 2
  have f3 := r1.frozen 3
  have f4 := r1.frozen 4
  have f5 := r1.frozen 5
  have f6 := r1.frozen 6
  have f7 := r1.frozen 7
  go_wp2_with fail
  have q := put8_own r1.own x0 x1 x2 x3 x4 x5 x6 x7
  have hxf := put8_nx hx1 (Nat.le_refl _) x0 x1 x2 x3 x4 x5 x6 x7
  unfold put8 at q hxf
  generalize (((((((w1.setCell ⟨w.heap.size, 0, none⟩ (.int .i64 x0)).setCell ⟨w.heap.size, 1, none⟩ (.int .i64 x1)).setCell ⟨w.heap.size, 2, none⟩ (.int .i64 x2)).setCell ⟨w.heap.size, 3, none⟩ (.int .i64 x3)).setCell ⟨w.heap.size, 4, none⟩ (.int .i64 x4)).setCell ⟨w.heap.size, 5, none⟩ (.int .i64 x5)).setCell ⟨w.heap.size, 6, none⟩ (.int .i64 x6)).setCell ⟨w.heap.size, 7, none⟩ (.int .i64 x7) = Wf at *
  obtain ⟨g0, g1, g2, g3, g4, g5, g6, g7⟩ := q.d8
  exact bodyPost_ret (v := vA [x0, x1, x2, x3, x4, x5, x6, x7]) (by simp [results, Tryz.results174, go_sem, g0, g1, g2, g3, g4, g5, g6, g7, vA]) rfl ⟨rfl, hxf⟩
end Go.Proofs.YtehahodomfbpjaaGreatDoor
/- Contracts of the program's methods of arrays of values: list, forward, backward. Conditions: the segment can be read and is right. -/
namespace Go.Proofs.YtehahodomfbpjaaGreatDoor
set_option linter.unusedVariables false
set_option maxRecDepth 100000
open Go.RowKit

def pN (c : Chg) : Int := c.2.1
def pO (c : Chg) : Int := c.2.2
/-- A content with what the changes say. -/
def app (p : Chg → Int) (xs : List Int) (cs : List Chg) : List Int := cs.foldl (fun xs c => xs.set c.1.toNat (p c)) xs
theorem app_len (p : Chg → Int) (cs : List Chg) : ∀ xs, (app p xs cs).length = xs.length := by
  induction cs with
  | nil => intro xs; rfl
  | cons c cs ih => intro xs; show (app p (xs.set c.1.toNat (p c)) cs).length = _; rw [ih]; simp
theorem app_succ (p : Chg → Int) (xs : List Int) (cs : List Chg) {k : Nat} (hk : k < cs.length) : app p xs (cs.take (k + 1)) = (app p xs (cs.take k)).set (cs.getD k chZ).1.toNat (p (cs.getD k chZ)) := by
  unfold app
  rw [List.take_succ_eq_append_getElem hk, List.foldl_append, List.getD_eq_getElem?_getD, List.getElem?_eq_getElem hk]
  rfl
theorem inAt_set {ys : List Int} {n i : Nat} (v : Int) (hn : n < ys.length) : inAt (ys.set n v) i = if i = n then .int .i64 v else inAt ys i := by
  unfold inAt
  by_cases h : i = n
  · subst h; rw [if_pos rfl, List.getD_eq_getElem?_getD, List.getElem?_set_self hn]; rfl
  · rw [if_neg h, List.getD_eq_getElem?_getD, List.getD_eq_getElem?_getD, List.getElem?_set_ne (fun e => h e.symm)]
theorem box_inAt {w : World} {g : Nat} {t : TypeId} {xs : List Int} (h : Box w g t #[inAt xs 0, inAt xs 1, inAt xs 2, inAt xs 3, inAt xs 4, inAt xs 5, inAt xs 6, inAt xs 7]) : Own w g t 8 (inAt xs) := by
  refine h.own.congr fun i hi => ?_
  match i, hi with
  | 0, _ => rfl
  | 1, _ => rfl
  | 2, _ => rfl
  | 3, _ => rfl
  | 4, _ => rfl
  | 5, _ => rfl
  | 6, _ => rfl
  | 7, _ => rfl

set_option maxHeartbeats 1000000 in
theorem valuesList_c (xs : List Int) (w : World) (h8 : xs.length = 8) : Calls Tryz.prog 98 #[vA xs] w (RetI w xs) := by
  have b0 := Box.new w 116 #[inAt xs 0, inAt xs 1, inAt xs 2, inAt xs 3, inAt xs 4, inAt xs 5, inAt xs 6, inAt xs 7]
  have hx0 := (Nx.refl w).alloc (.cells #[inAt xs 0, inAt xs 1, inAt xs 2, inAt xs 3, inAt xs 4, inAt xs 5, inAt xs 6, inAt xs 7] 116)
  unfold vA
  go_enter Tryz.func98, Tryz.ntmps98
  have H8 := Lib.hid h8
  clear h8
  go_wp2_with fail
  generalize w.alloc (.cells #[inAt xs 0, inAt xs 1, inAt xs 2, inAt xs 3, inAt xs 4, inAt xs 5, inAt xs 6, inAt xs 7] 116) = W at *
  have hc := copyListF_c (some ⟨w.heap.size, 0, none⟩) 8 W.heap.size xs W (by have := (box_inAt b0).row (B := W.heap.size) b0.lt; unfold Ins; rw [H8.out]; exact this) (Nat.le_refl _) (by rw [H8.out]; omega)
  rw [H8.out] at hc
  refine hc.mono ?_
  rintro e w1 ⟨A1, c1, rfl, hS1, hx1⟩
  go_wp2
  go_ret
  exact ⟨A1, c1, rfl, hS1.low hx0.size, hx0.trans hx1⟩

set_option maxRecDepth 100000 in
set_option maxHeartbeats 4000000 in
theorem valuesForward_c (f t m : Int) (A : Option Addr) (c B : Nat) (cs : List Chg) (xs : List Int) (w : World) (h : Chs w B A cs) (hB : B ≤ w.heap.size) (hok : chsB cs = true) (h8 : xs.length = 8) :
    Calls Tryz.prog 178 #[vA xs, .agg #[.int .i64 f, .int .i64 t, .int .i64 m, .slice A cs.length c]] w fun e w' => e = .returned (vA (app pN xs cs)) ∧ Nx w w' := by
  have b0 := ((Box.new w 116 #[inAt xs 0, inAt xs 1, inAt xs 2, inAt xs 3, inAt xs 4, inAt xs 5, inAt xs 6, inAt xs 7]).alloc (.cells #[.int .i64 f, .int .i64 t, .int .i64 m, .slice A cs.length c] 130)).alloc (.cells zA 116)
  have r0 := Box.new ((w.alloc (.cells #[inAt xs 0, inAt xs 1, inAt xs 2, inAt xs 3, inAt xs 4, inAt xs 5, inAt xs 6, inAt xs 7] 116)).alloc (.cells #[.int .i64 f, .int .i64 t, .int .i64 m, .slice A cs.length c] 130)) 116 zA
  have hx0 := (((Nx.refl w).alloc (.cells #[inAt xs 0, inAt xs 1, inAt xs 2, inAt xs 3, inAt xs 4, inAt xs 5, inAt xs 6, inAt xs 7] 116)).alloc (.cells #[.int .i64 f, .int .i64 t, .int .i64 m, .slice A cs.length c] 130)).alloc (.cells zA 116)
  simp only [World.size_alloc] at r0
  unfold zA at r0 b0 hx0
  unfold vA
  have H8 := Lib.hid h8
  have hl8 := chsB_len hok
  have hto := chsB_to hok
  clear h8 hok
  go_enter Tryz.func178, Tryz.ntmps178
  go_wp2_with fail
  generalize (((w.alloc (.cells #[inAt xs 0, inAt xs 1, inAt xs 2, inAt xs 3, inAt xs 4, inAt xs 5, inAt xs 6, inAt xs 7] 116)).alloc (.cells #[.int .i64 f, .int .i64 t, .int .i64 m, .slice A cs.length c] 130)).alloc (.cells #[.int .i64 0, .int .i64 0, .int .i64 0, .int .i64 0, .int .i64 0, .int .i64 0, .int .i64 0, .int .i64 0] 116)) = W at *
  have hW := r0.lt
  go_loopw [10] (fun i wr => ∃ k : Nat, k ≤ cs.length ∧ i = .int .i64 k ∧ Own wr w.heap.size 116 8 (inAt (app pN xs (cs.take k))) ∧ Box wr (w.heap.size + 1 + 1) 116 #[.int .i64 0, .int .i64 0, .int .i64 0, .int .i64 0, .int .i64 0, .int .i64 0, .int .i64 0, .int .i64 0] ∧ Nx w wr) (fun i _ => cs.length - (intOf i).toNat)
  case atStart => exact ⟨0, Nat.zero_le _, rfl, box_inAt b0, r0, hx0⟩
  case round =>
    obtain ⟨k, hk, rfl, hown, hbox, hnx⟩ := hrel
    clear b0 r0 hx0
    by_cases hlt : k < cs.length
    · obtain ⟨b, off, rfl, hb, k0, k1, k2⟩ := (h.below hnx hB).at_ hlt
      obtain ⟨hr0, hr1⟩ := hto.rise k hlt
      obtain ⟨⟨q0, q1, q2⟩, Hq⟩ : ∃ q, Hid (cs.getD k chZ = q) := ⟨_, rfl⟩
      rw [Hq.out] at k0 k1 k2 hr0 hr1
      obtain ⟨n0, rfl⟩ : ∃ n : Nat, q0 = n := ⟨q0.toNat, by simp only at hr0; omega⟩
      have hn0 : n0 < 8 := by simp only at hr1; omega
      clear hr0 hr1
      obtain ⟨v, hv⟩ : ∃ v, wr.cell? ⟨w.heap.size, n0, none⟩ = some v := ⟨_, hown.cell hn0⟩
      have hz := hown.frozen n0
      have hlt2 : w.heap.size < wr.heap.size := hown.lt
      go_wp2
      go_roundw
      case rel =>
        have hal := (hown.set (k := n0) hn0 (.int .i64 q1)).alloc (.cells #[.int .i64 (n0 : Int), .int .i64 q1, .int .i64 q2] 202)
        refine ⟨k + 1, by omega, by go_num, hal.congr fun i hi => ?_, (hbox.far (p := ⟨w.heap.size, n0, none⟩) (by simp; omega) _).alloc _, (hnx.setCell (p := ⟨w.heap.size, n0, none⟩) (Nat.le_refl _) _).alloc _⟩
        rw [app_succ pN xs cs hlt, Hq.out]
        rw [inAt_set _ (by rw [app_len, H8.out]; simpa using hn0)]
        simp [pN]
      case measure => simp [intOf]; omega
    · obtain rfl : k = cs.length := by omega
      rw [List.take_length] at hown
      obtain ⟨y0, y1, y2, y3, y4, y5, y6, y7, hy⟩ := list8 (show (app pN xs cs).length = 8 by rw [app_len, H8.out])
      rw [hy] at hown
      have Hy := Lib.hid hy
      clear hy
      obtain ⟨c0, c1, c2, c3, c4, c5, c6, c7⟩ := hown.d8
      change wr.cell? _ = some (.int .i64 y0) at c0
      change wr.cell? _ = some (.int .i64 y1) at c1
      change wr.cell? _ = some (.int .i64 y2) at c2
      change wr.cell? _ = some (.int .i64 y3) at c3
      change wr.cell? _ = some (.int .i64 y4) at c4
      change wr.cell? _ = some (.int .i64 y5) at c5
      change wr.cell? _ = some (.int .i64 y6) at c6
      change wr.cell? _ = some (.int .i64 y7) at c7
      obtain ⟨s0, s1, s2, s3, s4, s5, s6, s7⟩ := hbox.own.d8
      have f0 := hbox.frozen 0
      have f1 := hbox.frozen 1
      have f2 := hbox.frozen 2
      have f3 := hbox.frozen 3
      have f4 := hbox.frozen 4
      have f5 := hbox.frozen 5
      have f6 := hbox.frozen 6
      have f7 := hbox.frozen 7
      go_wp2_with fail
      have q := put8_own hbox.own y0 y1 y2 y3 y4 y5 y6 y7
      have hxf := put8_nx (g := w.heap.size + 1 + 1) hnx (by omega) y0 y1 y2 y3 y4 y5 y6 y7
      unfold put8 at q hxf
      generalize (((((((wr.setCell ⟨w.heap.size + 1 + 1, 0, none⟩ (.int .i64 y0)).setCell ⟨w.heap.size + 1 + 1, 1, none⟩ (.int .i64 y1)).setCell ⟨w.heap.size + 1 + 1, 2, none⟩ (.int .i64 y2)).setCell ⟨w.heap.size + 1 + 1, 3, none⟩ (.int .i64 y3)).setCell ⟨w.heap.size + 1 + 1, 4, none⟩ (.int .i64 y4)).setCell ⟨w.heap.size + 1 + 1, 5, none⟩ (.int .i64 y5)).setCell ⟨w.heap.size + 1 + 1, 6, none⟩ (.int .i64 y6)).setCell ⟨w.heap.size + 1 + 1, 7, none⟩ (.int .i64 y7) = Wf at *
      obtain ⟨g0, g1, g2, g3, g4, g5, g6, g7⟩ := q.d8
      exact bodyPost_ret (v := vA [y0, y1, y2, y3, y4, y5, y6, y7]) (by simp [results, Tryz.results178, go_sem, g0, g1, g2, g3, g4, g5, g6, g7, vA]) rfl ⟨congrArg Ending.returned (by show vA _ = vA _; rw [Hy.out]), hxf⟩

set_option maxRecDepth 100000 in
set_option maxHeartbeats 4000000 in
theorem valuesBackward_c (f t m : Int) (A : Option Addr) (c B : Nat) (cs : List Chg) (xs : List Int) (w : World) (h : Chs w B A cs) (hB : B ≤ w.heap.size) (hok : chsB cs = true) (h8 : xs.length = 8) :
    Calls Tryz.prog 179 #[vA xs, .agg #[.int .i64 f, .int .i64 t, .int .i64 m, .slice A cs.length c]] w fun e w' => e = .returned (vA (app pO xs cs)) ∧ Nx w w' := by
  have b0 := ((Box.new w 116 #[inAt xs 0, inAt xs 1, inAt xs 2, inAt xs 3, inAt xs 4, inAt xs 5, inAt xs 6, inAt xs 7]).alloc (.cells #[.int .i64 f, .int .i64 t, .int .i64 m, .slice A cs.length c] 130)).alloc (.cells zA 116)
  have r0 := Box.new ((w.alloc (.cells #[inAt xs 0, inAt xs 1, inAt xs 2, inAt xs 3, inAt xs 4, inAt xs 5, inAt xs 6, inAt xs 7] 116)).alloc (.cells #[.int .i64 f, .int .i64 t, .int .i64 m, .slice A cs.length c] 130)) 116 zA
  have hx0 := (((Nx.refl w).alloc (.cells #[inAt xs 0, inAt xs 1, inAt xs 2, inAt xs 3, inAt xs 4, inAt xs 5, inAt xs 6, inAt xs 7] 116)).alloc (.cells #[.int .i64 f, .int .i64 t, .int .i64 m, .slice A cs.length c] 130)).alloc (.cells zA 116)
  simp only [World.size_alloc] at r0
  unfold zA at r0 b0 hx0
  unfold vA
  have H8 := Lib.hid h8
  have hl8 := chsB_len hok
  have hto := chsB_to hok
  clear h8 hok
  go_enter Tryz.func179, Tryz.ntmps179
  go_wp2_with fail
  generalize (((w.alloc (.cells #[inAt xs 0, inAt xs 1, inAt xs 2, inAt xs 3, inAt xs 4, inAt xs 5, inAt xs 6, inAt xs 7] 116)).alloc (.cells #[.int .i64 f, .int .i64 t, .int .i64 m, .slice A cs.length c] 130)).alloc (.cells #[.int .i64 0, .int .i64 0, .int .i64 0, .int .i64 0, .int .i64 0, .int .i64 0, .int .i64 0, .int .i64 0] 116)) = W at *
  have hW := r0.lt
  go_loopw [10] (fun i wr => ∃ k : Nat, k ≤ cs.length ∧ i = .int .i64 k ∧ Own wr w.heap.size 116 8 (inAt (app pO xs (cs.take k))) ∧ Box wr (w.heap.size + 1 + 1) 116 #[.int .i64 0, .int .i64 0, .int .i64 0, .int .i64 0, .int .i64 0, .int .i64 0, .int .i64 0, .int .i64 0] ∧ Nx w wr) (fun i _ => cs.length - (intOf i).toNat)
  case atStart => exact ⟨0, Nat.zero_le _, rfl, box_inAt b0, r0, hx0⟩
  case round =>
    obtain ⟨k, hk, rfl, hown, hbox, hnx⟩ := hrel
    clear b0 r0 hx0
    by_cases hlt : k < cs.length
    · obtain ⟨b, off, rfl, hb, k0, k1, k2⟩ := (h.below hnx hB).at_ hlt
      obtain ⟨hr0, hr1⟩ := hto.rise k hlt
      obtain ⟨⟨q0, q1, q2⟩, Hq⟩ : ∃ q, Hid (cs.getD k chZ = q) := ⟨_, rfl⟩
      rw [Hq.out] at k0 k1 k2 hr0 hr1
      obtain ⟨n0, rfl⟩ : ∃ n : Nat, q0 = n := ⟨q0.toNat, by simp only at hr0; omega⟩
      have hn0 : n0 < 8 := by simp only at hr1; omega
      clear hr0 hr1
      obtain ⟨v, hv⟩ : ∃ v, wr.cell? ⟨w.heap.size, n0, none⟩ = some v := ⟨_, hown.cell hn0⟩
      have hz := hown.frozen n0
      have hlt2 : w.heap.size < wr.heap.size := hown.lt
      go_wp2
      go_roundw
      case rel =>
        have hal := (hown.set (k := n0) hn0 (.int .i64 q2)).alloc (.cells #[.int .i64 (n0 : Int), .int .i64 q1, .int .i64 q2] 202)
        refine ⟨k + 1, by omega, by go_num, hal.congr fun i hi => ?_, (hbox.far (p := ⟨w.heap.size, n0, none⟩) (by simp; omega) _).alloc _, (hnx.setCell (p := ⟨w.heap.size, n0, none⟩) (Nat.le_refl _) _).alloc _⟩
        rw [app_succ pO xs cs hlt, Hq.out]
        rw [inAt_set _ (by rw [app_len, H8.out]; simpa using hn0)]
        simp [pO]
      case measure => simp [intOf]; omega
    · obtain rfl : k = cs.length := by omega
      rw [List.take_length] at hown
      obtain ⟨y0, y1, y2, y3, y4, y5, y6, y7, hy⟩ := list8 (show (app pO xs cs).length = 8 by rw [app_len, H8.out])
      rw [hy] at hown
      have Hy := Lib.hid hy
      clear hy
      obtain ⟨c0, c1, c2, c3, c4, c5, c6, c7⟩ := hown.d8
      change wr.cell? _ = some (.int .i64 y0) at c0
      change wr.cell? _ = some (.int .i64 y1) at c1
      change wr.cell? _ = some (.int .i64 y2) at c2
      change wr.cell? _ = some (.int .i64 y3) at c3
      change wr.cell? _ = some (.int .i64 y4) at c4
      change wr.cell? _ = some (.int .i64 y5) at c5
      change wr.cell? _ = some (.int .i64 y6) at c6
      change wr.cell? _ = some (.int .i64 y7) at c7
      obtain ⟨s0, s1, s2, s3, s4, s5, s6, s7⟩ := hbox.own.d8
      have f0 := hbox.frozen 0
      have f1 := hbox.frozen 1
      have f2 := hbox.frozen 2
      have f3 := hbox.frozen 3
      have f4 := hbox.frozen 4
      have f5 := hbox.frozen 5
      have f6 := hbox.frozen 6
      have f7 := hbox.frozen 7
      go_wp2_with fail
      have q := put8_own hbox.own y0 y1 y2 y3 y4 y5 y6 y7
      have hxf := put8_nx (g := w.heap.size + 1 + 1) hnx (by omega) y0 y1 y2 y3 y4 y5 y6 y7
      unfold put8 at q hxf
      generalize (((((((wr.setCell ⟨w.heap.size + 1 + 1, 0, none⟩ (.int .i64 y0)).setCell ⟨w.heap.size + 1 + 1, 1, none⟩ (.int .i64 y1)).setCell ⟨w.heap.size + 1 + 1, 2, none⟩ (.int .i64 y2)).setCell ⟨w.heap.size + 1 + 1, 3, none⟩ (.int .i64 y3)).setCell ⟨w.heap.size + 1 + 1, 4, none⟩ (.int .i64 y4)).setCell ⟨w.heap.size + 1 + 1, 5, none⟩ (.int .i64 y5)).setCell ⟨w.heap.size + 1 + 1, 6, none⟩ (.int .i64 y6)).setCell ⟨w.heap.size + 1 + 1, 7, none⟩ (.int .i64 y7) = Wf at *
      obtain ⟨g0, g1, g2, g3, g4, g5, g6, g7⟩ := q.d8
      exact bodyPost_ret (v := vA [y0, y1, y2, y3, y4, y5, y6, y7]) (by simp [results, Tryz.results179, go_sem, g0, g1, g2, g3, g4, g5, g6, g7, vA]) rfl ⟨congrArg Ending.returned (by show vA _ = vA _; rw [Hy.out]), hxf⟩
end Go.Proofs.YtehahodomfbpjaaGreatDoor
/- Contracts of ContentOK, as the model and as the program have it: both answer the same bool. Conditions: the list can be read, and holds at most 1048576 elements. -/
namespace Go.Proofs.YtehahodomfbpjaaGreatDoor
set_option linter.unusedVariables false
set_option maxRecDepth 100000
open Go.RowKit

set_option maxHeartbeats 1000000 in
theorem specContentOK_c (A : Option Addr) (c B : Nat) (xs : List Int) (w : World) (h : Ins w B A xs) (hB : B ≤ w.heap.size) (hn : xs.length ≤ 1048576) :
    Calls Tryz.prog 92 #[.slice A xs.length c] w fun e w' => e = .returned (.bool (contB xs)) ∧ Nx w w' := by
  by_cases hl : 4096 < xs.length
  · have hd : decide (4096 < (xs.length : Int)) = true := by simp; omega
    have HR := Lib.hid (contB_len (xs := xs) (by omega)).symm
    go_enter Tryz.func92, Tryz.ntmps92
    go_wp2
    go_ret
    exact ⟨ret_bool HR.out, Nx.refl _⟩
  have hd : decide (4096 < (xs.length : Int)) = false := by simp; omega
  go_enter Tryz.func92, Tryz.ntmps92
  go_wp2
  go_loopw [3] (fun i wr => ∃ k : Nat, k ≤ xs.length ∧ i = .int .i64 k ∧ InTo xs k ∧ Nx w wr) (fun i _ => xs.length - (intOf i).toNat)
  case atStart => exact ⟨0, Nat.zero_le _, rfl, InTo.zero _, Nx.refl _⟩
  case round =>
    obtain ⟨k, hk, rfl, hto, hnx⟩ := hrel
    by_cases hlt : k < xs.length
    · obtain ⟨b, off, rfl, hb, hc⟩ := (h.below hnx hB).at_ hlt
      obtain ⟨s, Hs⟩ : ∃ s, Hid (xs.getD k 0 = s) := ⟨_, rfl⟩
      rw [Hs.out] at hc
      cases hx : inB 0 999999 s with
      | false =>
        have HX := Lib.hid hx
        have HR := Lib.hid (contB_no hlt (by rw [Hs.out]; exact hx)).symm
        clear hx
        go_wp2_with (go_at_call 124; refine (l01In_c _ _ _ _).mono ?_; rintro e w' ⟨rfl, rfl⟩; rw [HX.out])
        go_ret
        exact ⟨ret_bool HR.out, hnx⟩
      | true =>
        have HX := Lib.hid hx
        clear hx
        go_wp2_with (go_at_call 124; refine (l01In_c _ _ _ _).mono ?_; rintro e w' ⟨rfl, rfl⟩; rw [HX.out])
        go_roundw
        case rel => exact ⟨k + 1, by omega, by go_num, hto.succ (by rw [Hs.out]; exact HX.out), hnx⟩
        case measure => simp [intOf]; omega
    · obtain rfl : k = xs.length := by omega
      by_cases h8 : xs.length = 8
      · have HR := Lib.hid (contB_mk h8 hto).symm
        have he : ((xs.length : Int) == 8) = true := by rw [h8]; rfl
        go_wp2
        go_ret
        exact ⟨ret_bool HR.out, hnx⟩
      · have HR := Lib.hid (contB_len h8).symm
        have he : ((xs.length : Int) == 8) = false := by simp; omega
        go_wp2
        go_ret
        exact ⟨ret_bool HR.out, hnx⟩

set_option maxHeartbeats 1000000 in
theorem implContentOK_c (A : Option Addr) (c B : Nat) (xs : List Int) (w : World) (h : Ins w B A xs) (hB : B ≤ w.heap.size) (hn : xs.length ≤ 1048576) :
    Calls Tryz.prog 161 #[.slice A xs.length c] w fun e w' => e = .returned (.bool (contB xs)) ∧ Nx w w' := by
  by_cases h8 : xs.length = 8
  case neg =>
    have hd : ((xs.length : Int) != 8) = true := by simp; omega
    have HR := Lib.hid (contB_len (xs := xs) h8).symm
    go_enter Tryz.func161, Tryz.ntmps161
    go_wp2
    go_ret
    exact ⟨ret_bool HR.out, Nx.refl _⟩
  have hd : ((xs.length : Int) != 8) = false := by simp; omega
  have H8 := Lib.hid h8
  clear h8
  go_enter Tryz.func161, Tryz.ntmps161
  go_wp2
  go_loopw [4, 10] (fun v i wr => ∃ k : Nat, k ≤ xs.length ∧ i = .int .i64 k ∧ InTo xs k ∧ Nx w wr) (fun _ i _ => xs.length - (intOf i).toNat)
  case atStart => exact ⟨0, Nat.zero_le _, rfl, InTo.zero _, Nx.refl _⟩
  case round =>
    obtain ⟨k, hk, rfl, hto, hnx⟩ := hrel
    by_cases hlt : k < xs.length
    · obtain ⟨b, off, rfl, hb, hc⟩ := (h.below hnx hB).at_ hlt
      obtain ⟨s, Hs⟩ : ∃ s, Hid (xs.getD k 0 = s) := ⟨_, rfl⟩
      rw [Hs.out] at hc
      cases hx : inB 0 999999 s with
      | false =>
        have HX := Lib.hid hx
        have HR := Lib.hid (contB_no hlt (by rw [Hs.out]; exact hx)).symm
        clear hx
        go_wp2_with (go_at_call 151; refine (isValue_c _ _).mono ?_; rintro e w' ⟨rfl, rfl⟩; rw [HX.out])
        go_ret
        exact ⟨ret_bool HR.out, hnx⟩
      | true =>
        have HX := Lib.hid hx
        clear hx
        go_wp2_with (go_at_call 151; refine (isValue_c _ _).mono ?_; rintro e w' ⟨rfl, rfl⟩; rw [HX.out])
        go_roundw
        case rel => exact ⟨k + 1, by omega, by go_num, hto.succ (by rw [Hs.out]; exact HX.out), hnx⟩
        case measure => simp [intOf]; omega
    · obtain rfl : k = xs.length := by omega
      have HR := Lib.hid (contB_mk H8.out hto).symm
      go_wp2
      go_ret
      exact ⟨ret_bool HR.out, hnx⟩
end Go.Proofs.YtehahodomfbpjaaGreatDoor
/- A region that draws its order, walked once, in the order of its text: what only reads cells that stay as they are (S) is taken first, a call comes up when nothing else may. Conditions: those of each theorem. -/
namespace Go.Proofs.YtehahodomfbpjaaGreatDoor
set_option linter.unusedVariables false
set_option maxRecDepth 100000
open Go.RowKit
section
variable {P : Program} {ops : Array Oper} {Q : Exit → Act → World → Prop} {S : World → Prop}
/-- The walk: of each operation a mark: true: a call that is met by its contract. -/
def HL (P : Program) (ops : Array Oper) (Q : Exit → Act → World → Prop) (S : World → Prop) : List Bool → List Oper → Act → World → Prop
  | false :: cs, o :: l, a, w => ∃ v, YieldsIf P ops S o v a ∧ HL P ops Q S cs l (a.put o.dst v) w
  | true :: cs, o :: l, a, w => Region.wanted o (yielded ops a.tmps) = true ∧ ∀ K : Act → World → Prop, Hid (∀ a' w', S w' → HL P ops Q S cs l a' w' → K a' w') → o.wp P a w K Q
  | _, _, a, w => Q .normal a w
/-- What is asked of the region's edges alone. -/
def lexB (md : Region.Mode) (ops : Array Oper) : List Bool → Nat → Array Bool → Bool
  | [], _, listed => Region.ready md ops listed == []
  | false :: cs, k, listed => (Region.ready md ops listed).contains k && Region.free md ops listed k && lexB md ops cs (k + 1) (listed.setIfInBounds k true)
  | true :: cs, k, listed => (Region.ready md ops listed == [k]) && lexB md ops cs (k + 1) (listed.setIfInBounds k true)
theorem HL.take {cs : List Bool} {o : Oper} {l : List Oper} {a : Act} {w : World} {v : Value} (hw : Region.wanted o (yielded ops a.tmps) = true) (h : ∀ w, S w → (execOp a.eval o).run P w = .ok (.value v) w)
    (hr : HL P ops Q S cs l (a.put o.dst v) w) : HL P ops Q S (false :: cs) (o :: l) a w := ⟨v, .inl ⟨hw, h⟩, hr⟩
theorem HL.skip {cs : List Bool} {o : Oper} {l : List Oper} {a : Act} {w : World} (hw : Region.wanted o (yielded ops a.tmps) = false) (hr : HL P ops Q S cs l (a.put o.dst undef) w) : HL P ops Q S (false :: cs) (o :: l) a w :=
  ⟨undef, .inr ⟨hw, rfl⟩, hr⟩
theorem HL.call {cs : List Bool} {o : Oper} {l : List Oper} {a : Act} {w : World} (hw : Region.wanted o (yielded ops a.tmps) = true)
    (h : ∀ K : Act → World → Prop, Hid (∀ a' w', S w' → HL P ops Q S cs l a' w' → K a' w') → o.wp P a w K Q) : HL P ops Q S (true :: cs) (o :: l) a w := ⟨hw, h⟩
theorem HL.done {a : Act} {w : World} (h : Q .normal a w) : HL P ops Q S [] [] a w := h
theorem HL.any {md : Region.Mode} (hs : Region.noSelect ops = true) (hQ : ∀ c a d v w, Q (.panic c) (Act.put a d v) w → Q (.panic c) a w) :
    ∀ (cs : List Bool) (l : List Oper) (k : Nat) (listed : Array Bool) (a : Act) (w : World), (∀ j, j < l.length → ops[k + j]? = l[j]?) → l.length = cs.length → lexB md ops cs k listed = true → S w →
      HL P ops Q S cs l a w → wpAnyH P md ops Q S cs.length listed a w
  | [], [], k, listed, a, w, _, _, hB, _, h => by
    refine wpAnyH_done ?_ h _
    simpa [lexB] using hB
  | [], _ :: _, _, _, _, _, _, hl, _, _, _ => by simp at hl
  | _ :: _, [], _, _, _, _, _, hl, _, _, _ => by simp at hl
  | c :: cs, o :: l, k, listed, a, w, ho, hl, hB, hS, h => by
    have h0 : ops[k]? = some o := by simpa using ho 0 (by simp)
    have ho' : ∀ j, j < l.length → ops[k + 1 + j]? = l[j]? := fun j hj => by
      have := ho (j + 1) (by simp; omega)
      rw [show k + 1 + j = k + (j + 1) by omega, this]; simp
    have hl' : l.length = cs.length := by simpa using hl
    cases c with
    | false =>
      simp only [lexB, Bool.and_eq_true] at hB
      obtain ⟨⟨hr, hf⟩, hB'⟩ := hB
      obtain ⟨v, hy, hK⟩ := h
      exact wpAnyH_take h0 hs hf hr (fun c a w => hQ c a _ _ w) hy hS (HL.any hs hQ cs l (k + 1) _ _ w ho' hl' hB' hS hK)
    | true =>
      simp only [lexB, Bool.and_eq_true, beq_iff_eq] at hB
      obtain ⟨hr, hB'⟩ := hB
      obtain ⟨hw, hK⟩ := h
      refine wpAnyH_all hr (by simp) fun i hi => ?_
      obtain rfl : i = k := by simpa using hi
      unfold wpOp
      simp only [h0, hw, if_true]
      exact .inl (hK _ (Lib.hid fun a' w' hS' h' => ⟨hS', HL.any hs hQ cs l (i + 1) _ a' w' ho' hl' hB' hS' h'⟩))
/-- The region. -/
theorem wp_region_lex {id : Nat} {a : Act} {w : World} {l : List Oper} (cs : List Bool) (S : World → Prop) (hm : P.follows .mixedOrders = true) (hs : Region.noSelect l.toArray = true) (hl : l.length = cs.length)
    (hB : lexB .any l.toArray cs 0 (Array.replicate l.toArray.size false) = true) (hQ : ∀ c a d v w, Q (.panic c) (Act.put a d v) w → Q (.panic c) a w) (hS : S w.drew)
    (h : HL P l.toArray Q S cs l a w.drew) : (Code.region id l.toArray true).wp P Q a w := by
  refine wp_region_held_drew (S := S) hm hS fun _ => ?_
  have := HL.any (md := .any) hs hQ cs l 0 (Array.replicate l.toArray.size false) a w.drew (fun j hj => by simp) hl hB hS h
  have e : l.toArray.size = cs.length := by simpa using hl
  rw [e]
  rw [e] at this
  exact this
end
end Go.Proofs.YtehahodomfbpjaaGreatDoor
