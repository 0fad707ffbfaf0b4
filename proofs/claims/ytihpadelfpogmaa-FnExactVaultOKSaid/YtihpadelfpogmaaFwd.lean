/-
  Contracts of the program's functions on arrays of values: a list as an array, an array as a list, an array with what a segment made new or had old.
  Conditions: the lists and segments can be read; the list has eight elements; the segment is right.
-/
import Derived.Test.YtihpadelfpogmaaIns
import Derived.Test.YtihpadelfpogmaaSeg
import Derived.Test.YtihpadelfpogmaaAp
import Derived.Outline
namespace Go.Proofs.Ytihpadelfpogmaa
set_option linter.unusedVariables false
set_option maxRecDepth 100000
open Go.RowKit

theorem Box.own {w : World} {g : Nat} {t : TypeId} {cs : Array Value} (h : Box w g t cs) : Own w g t cs.size (fun i => cs[i]!) :=
  ⟨cs, h, Nat.le_refl _, fun i hi => by simp [hi]⟩
theorem inAt_one (xs : List Int) (k : Nat) : (inAt xs k).oneCell' = true := rfl
theorem list8 {xs : List Int} (h : xs.length = 8) : ∃ x0 x1 x2 x3 x4 x5 x6 x7, xs = [x0, x1, x2, x3, x4, x5, x6, x7] := by
  match xs, h with
  | [x0, x1, x2, x3, x4, x5, x6, x7], _ => exact ⟨x0, x1, x2, x3, x4, x5, x6, x7, rfl⟩
/-- An array of eight values. -/
def vA (xs : List Int) : Value := .agg #[inAt xs 0, inAt xs 1, inAt xs 2, inAt xs 3, inAt xs 4, inAt xs 5, inAt xs 6, inAt xs 7]
def zA : Array Value := #[.int .i64 0, .int .i64 0, .int .i64 0, .int .i64 0, .int .i64 0, .int .i64 0, .int .i64 0, .int .i64 0]

set_option maxHeartbeats 1000000 in
theorem copyListI_c (A : Option Addr) (c B : Nat) (xs : List Int) (w : World) (h : Ins w B A xs) (hB : B ≤ w.heap.size) (hn : xs.length ≤ 1048576) :
    Calls Try.prog 138 #[.slice A xs.length c] w (RetI w xs) := by
  rcases Nat.eq_zero_or_pos xs.length with hz | hp
  · have h0 : ((xs.length : Int) == 0) = true := by rw [hz]; rfl
    have HZ := Lib.hid hz
    clear hz
    go_enter Try.func138, Try.ntmps138
    go_wp2
    go_ret
    exact ⟨none, 0, by rw [HZ.out]; rfl, fun h => absurd h (by have := HZ.out; omega), Nx.refl _⟩
  have h0 : ((xs.length : Int) == 0) = false := beq_eq_false_iff_ne.2 (by omega)
  obtain ⟨i0, hi0, hz0, hz1, hz2⟩ := info_parts info_int
  have hmk := fun W => run_make_rowN (P := Try.prog) 22 3 i0 _ Try.underlying22 hi0 hz0 .i64 .i64 xs.length xs.length (Nat.le_refl _) (by rw [hz2]; omega) (by omega) W
  rw [hz1, Nat.mul_one] at hmk
  have hmade := Own.made w #[Value.int .i64 0] xs.length 3
  have hnx := (Nx.refl w).alloc (.cells (madeCells #[Value.int .i64 0] xs.length) 3)
  obtain ⟨w1, hrun, ho1, hnx1, _, _⟩ := run_copy_new (P := Try.prog) (w.alloc (.cells (madeCells #[Value.int .i64 0] xs.length) 3)) 22 22 3 3 i0 1 Try.underlying22 hi0 hz1
    w.heap.size xs.length xs.length A xs.length c B xs.length 3 (inAt xs) _ hmade (by omega) (Nat.le_refl _) (by rw [Nat.mul_one]; exact h.below hnx hB) (inAt_one xs)
  have hx1 := hnx1 w hnx (Nat.le_refl _)
  have HO := Lib.hid (ho1.congr (f' := inAt xs) (fun k hk => by rw [if_pos (by omega)]))
  clear ho1 hnx1 hmade
  go_enter Try.func138, Try.ntmps138
  go_wp2
  go_ret
  exact ⟨_, _, rfl, Sl.own HO.out (Nat.le_refl _), hx1⟩

/-- The eight cells of an array in a block of the call's own. -/
theorem Own.d8 {w : World} {g : Nat} {t : TypeId} {f : Nat → Value} (h : Own w g t 8 f) : w.cell? ⟨g, 0, none⟩ = some (f 0) ∧ w.cell? ⟨g, 1, none⟩ = some (f 1) ∧ w.cell? ⟨g, 2, none⟩ = some (f 2) ∧ w.cell? ⟨g, 3, none⟩ = some (f 3) ∧ w.cell? ⟨g, 4, none⟩ = some (f 4) ∧ w.cell? ⟨g, 5, none⟩ = some (f 5) ∧ w.cell? ⟨g, 6, none⟩ = some (f 6) ∧ w.cell? ⟨g, 7, none⟩ = some (f 7) :=
  ⟨h.cell (by omega), h.cell (by omega), h.cell (by omega), h.cell (by omega), h.cell (by omega), h.cell (by omega), h.cell (by omega), h.cell (by omega)⟩
def put8 (u : World) (g : Nat) (x0 x1 x2 x3 x4 x5 x6 x7 : Int) : World := (((((((u.setCell ⟨g, 0, none⟩ (.int .i64 x0)).setCell ⟨g, 1, none⟩ (.int .i64 x1)).setCell ⟨g, 2, none⟩ (.int .i64 x2)).setCell ⟨g, 3, none⟩ (.int .i64 x3)).setCell ⟨g, 4, none⟩ (.int .i64 x4)).setCell ⟨g, 5, none⟩ (.int .i64 x5)).setCell ⟨g, 6, none⟩ (.int .i64 x6)).setCell ⟨g, 7, none⟩ (.int .i64 x7)
theorem put8_nx {w u : World} {g : Nat} (hx : Nx w u) (hg : w.heap.size ≤ g) (x0 x1 x2 x3 x4 x5 x6 x7 : Int) : Nx w (put8 u g x0 x1 x2 x3 x4 x5 x6 x7) :=
  (((((((hx.setCell (p := ⟨g, 0, none⟩) hg _).setCell (p := ⟨g, 1, none⟩) hg _).setCell (p := ⟨g, 2, none⟩) hg _).setCell (p := ⟨g, 3, none⟩) hg _).setCell (p := ⟨g, 4, none⟩) hg _).setCell (p := ⟨g, 5, none⟩) hg _).setCell (p := ⟨g, 6, none⟩) hg _).setCell (p := ⟨g, 7, none⟩) hg _
theorem put8_own {u : World} {g : Nat} {t : TypeId} {f : Nat → Value} (h : Own u g t 8 f) (x0 x1 x2 x3 x4 x5 x6 x7 : Int) : Own (put8 u g x0 x1 x2 x3 x4 x5 x6 x7) g t 8 (inAt [x0, x1, x2, x3, x4, x5, x6, x7]) := by
  have q := (((((((h.set (k := 0) (by omega) (.int .i64 x0)).set (k := 1) (by omega) (.int .i64 x1)).set (k := 2) (by omega) (.int .i64 x2)).set (k := 3) (by omega) (.int .i64 x3)).set (k := 4) (by omega) (.int .i64 x4)).set (k := 5) (by omega) (.int .i64 x5)).set (k := 6) (by omega) (.int .i64 x6)).set (k := 7) (by omega) (.int .i64 x7)
  refine q.congr fun i hi => ?_
  match i, hi with
  | 0, _ => rfl
  | 1, _ => rfl
  | 2, _ => rfl
  | 3, _ => rfl
  | 4, _ => rfl
  | 5, _ => rfl
  | 6, _ => rfl
  | 7, _ => rfl

set_option maxRecDepth 100000 in
set_option maxHeartbeats 4000000 in
theorem valuesOf_c (A : Option Addr) (c B : Nat) (xs : List Int) (w : World) (h : Ins w B A xs) (hB : B ≤ w.heap.size) (h8 : xs.length = 8) :
    Calls Try.prog 93 #[.slice A xs.length c] w fun e w' => e = .returned (vA xs) ∧ Nx w w' := by
  obtain ⟨x0, x1, x2, x3, x4, x5, x6, x7, rfl⟩ := list8 h8
  obtain ⟨i0, hi0, hz0, hz1, hz2⟩ := info_parts info_int
  have r0 := (Box.new w 99 zA).alloc (.cells zA 99)
  have b0 := Box.new (w.alloc (.cells zA 99)) 99 zA
  have hx0 := ((Nx.refl w).alloc (.cells zA 99)).alloc (.cells zA 99)
  simp only [World.size_alloc] at b0
  unfold zA at r0 b0 hx0
  go_enter Try.func93, Try.ntmps93
  go_wp2_with fail
  generalize ((w.alloc (.cells #[.int .i64 0, .int .i64 0, .int .i64 0, .int .i64 0, .int .i64 0, .int .i64 0, .int .i64 0, .int .i64 0] 99)).alloc (.cells #[.int .i64 0, .int .i64 0, .int .i64 0, .int .i64 0, .int .i64 0, .int .i64 0, .int .i64 0, .int .i64 0] 99)) = W at *
  obtain ⟨w1, hrun, ho1, hnx1, hsz, hoth⟩ := run_copy_new (P := Try.prog) W 22 22 3 3 i0 1 Try.underlying22 hi0 hz1
    (w.heap.size + 1) 8 8 A 8 c B 8 99 (inAt [x0, x1, x2, x3, x4, x5, x6, x7]) _ b0.own (by omega) (Nat.le_refl _) (h.below hx0 hB) (inAt_one _)
  rw [hrun]
  have hx1 := hnx1 w hx0 (by omega)
  have ho := ho1.congr (f' := inAt [x0, x1, x2, x3, x4, x5, x6, x7]) (fun k hk => by rw [if_pos (by omega)])
  have r1 : Box w1 w.heap.size 99 _ := (hoth _ (by omega)).trans r0
  have hlt := ho.lt
  clear hrun ho1 hnx1 hsz hoth hx0 b0 r0 W
  obtain ⟨c0, c1, c2, c3, c4, c5, c6, c7⟩ := ho.d8
  change w1.cell? _ = some (.int .i64 x0) at c0
  change w1.cell? _ = some (.int .i64 x1) at c1
  change w1.cell? _ = some (.int .i64 x2) at c2
  change w1.cell? _ = some (.int .i64 x3) at c3
  change w1.cell? _ = some (.int .i64 x4) at c4
  change w1.cell? _ = some (.int .i64 x5) at c5
  change w1.cell? _ = some (.int .i64 x6) at c6
  change w1.cell? _ = some (.int .i64 x7) at c7
  obtain ⟨s0, s1, s2, s3, s4, s5, s6, s7⟩ := r1.own.d8
  have f0 := r1.frozen 0
  have f1 := r1.frozen 1
  have f2 := r1.frozen 2
  have f3 := r1.frozen 3
  have f4 := r1.frozen 4
  have f5 := r1.frozen 5
  have f6 := r1.frozen 6
  have f7 := r1.frozen 7
  go_wp2_with fail
  have q := put8_own r1.own x0 x1 x2 x3 x4 x5 x6 x7
  have hxf := put8_nx hx1 (Nat.le_refl _) x0 x1 x2 x3 x4 x5 x6 x7
  unfold put8 at q hxf
  generalize (((((((w1.setCell ⟨w.heap.size, 0, none⟩ (.int .i64 x0)).setCell ⟨w.heap.size, 1, none⟩ (.int .i64 x1)).setCell ⟨w.heap.size, 2, none⟩ (.int .i64 x2)).setCell ⟨w.heap.size, 3, none⟩ (.int .i64 x3)).setCell ⟨w.heap.size, 4, none⟩ (.int .i64 x4)).setCell ⟨w.heap.size, 5, none⟩ (.int .i64 x5)).setCell ⟨w.heap.size, 6, none⟩ (.int .i64 x6)).setCell ⟨w.heap.size, 7, none⟩ (.int .i64 x7) = Wf at *
  obtain ⟨g0, g1, g2, g3, g4, g5, g6, g7⟩ := q.d8
  exact bodyPost_ret (v := vA [x0, x1, x2, x3, x4, x5, x6, x7]) (by simp [results, Try.results93, go_sem, g0, g1, g2, g3, g4, g5, g6, g7, vA]) rfl ⟨rfl, hxf⟩
end Go.Proofs.Ytihpadelfpogmaa
