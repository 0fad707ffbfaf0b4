/-
  A result's block of six cells, filled at the end; lists of ints copied.
  Conditions: what is copied can be read, and holds at most 1048576 elements.
-/
import Derived.Test.YteckhdkghfidiaaDoorIns
import Derived.Test.YteckhdkghfidiaaDoorAp
import Derived.Test.YteckhdkghfidiaaDoorMks
namespace Go.Proofs.YteckhdkghfidiaaDoor
set_option linter.unusedVariables false
set_option maxRecDepth 100000
open Go.RowKit

def put6 (u : World) (g : Nat) (v0 v1 v2 v3 v4 v5 : Value) : World := (((((u.setCell ⟨g, 0, none⟩ v0).setCell ⟨g, 1, none⟩ v1).setCell ⟨g, 2, none⟩ v2).setCell ⟨g, 3, none⟩ v3).setCell ⟨g, 4, none⟩ v4).setCell ⟨g, 5, none⟩ v5
theorem put6_box {u : World} {g : Nat} {t : TypeId} {a b c d x y : Value} (hb : Box u g t #[a, b, c, d, x, y]) (v0 v1 v2 v3 v4 v5 : Value) : Box (put6 u g v0 v1 v2 v3 v4 v5) g t #[v0, v1, v2, v3, v4, v5] :=
  (((((hb.set 0 v0).set 1 v1).set 2 v2).set 3 v3).set 4 v4).set 5 v5
theorem put6_nx {w u : World} {g : Nat} (hx : Nx w u) (hg : w.heap.size ≤ g) (v0 v1 v2 v3 v4 v5 : Value) : Nx w (put6 u g v0 v1 v2 v3 v4 v5) :=
  (((((hx.setCell (p := ⟨g, 0, none⟩) hg v0).setCell (p := ⟨g, 1, none⟩) hg v1).setCell (p := ⟨g, 2, none⟩) hg v2).setCell (p := ⟨g, 3, none⟩) hg v3).setCell (p := ⟨g, 4, none⟩) hg v4).setCell (p := ⟨g, 5, none⟩) hg v5
theorem Sl.pt6 {u : World} {lo g : Nat} {A : Option Addr} {t : TypeId} {m : Nat} {f : Nat → Value} (h : Sl u lo A t m f) (hg : g < lo) (v0 v1 v2 v3 v4 v5 : Value) : Sl (put6 u g v0 v1 v2 v3 v4 v5) lo A t m f :=
  (((((h.far (p := ⟨g, 0, none⟩) hg v0).far (p := ⟨g, 1, none⟩) hg v1).far (p := ⟨g, 2, none⟩) hg v2).far (p := ⟨g, 3, none⟩) hg v3).far (p := ⟨g, 4, none⟩) hg v4).far (p := ⟨g, 5, none⟩) hg v5
theorem Sl.pt6t {u : World} {lo g : Nat} {A : Option Addr} {t t' : TypeId} {m : Nat} {f : Nat → Value} {a b c d x y : Value} (h : Sl u lo A t m f) (hb : Box u g t' #[a, b, c, d, x, y]) (ht : t' ≠ t) (v0 v1 v2 v3 v4 v5 : Value) : Sl (put6 u g v0 v1 v2 v3 v4 v5) lo A t m f :=
  (((((h.far_ty (p := ⟨g, 0, none⟩) hb ht v0).far_ty (p := ⟨g, 1, none⟩) (hb.set 0 v0) ht v1).far_ty (p := ⟨g, 2, none⟩) ((hb.set 0 v0).set 1 v1) ht v2).far_ty (p := ⟨g, 3, none⟩) (((hb.set 0 v0).set 1 v1).set 2 v2) ht v3).far_ty (p := ⟨g, 4, none⟩) ((((hb.set 0 v0).set 1 v1).set 2 v2).set 3 v3) ht v4).far_ty (p := ⟨g, 5, none⟩) (((((hb.set 0 v0).set 1 v1).set 2 v2).set 3 v3).set 4 v4) ht v5
theorem Box.far6 {u : World} {g g2 : Nat} {t : TypeId} {cs : Array Value} (h : Box u g2 t cs) (hg : g2 ≠ g) (v0 v1 v2 v3 v4 v5 : Value) : Box (put6 u g v0 v1 v2 v3 v4 v5) g2 t cs :=
  (((((h.far (p := ⟨g, 0, none⟩) hg v0).far (p := ⟨g, 1, none⟩) hg v1).far (p := ⟨g, 2, none⟩) hg v2).far (p := ⟨g, 3, none⟩) hg v3).far (p := ⟨g, 4, none⟩) hg v4).far (p := ⟨g, 5, none⟩) hg v5
theorem Box.drew {w : World} {g : Nat} {t : TypeId} {cs : Array Value} (h : Box w g t cs) : Box w.drew g t cs := h
theorem inAt_one (xs : List Int) (k : Nat) : (inAt xs k).oneCell' = true := rfl
/-- What a function leaves that answers a list of ints in new memory, no longer than its room. -/
def RetIx (w : World) (xs : List Int) (e : Ending) (w' : World) : Prop := ∃ (A : Option Addr) (c : Nat), e = .returned (.slice A xs.length c) ∧ xs.length ≤ c ∧ SlI w' w.heap.size A xs ∧ Nx w w'
set_option maxHeartbeats 1000000 in
theorem copyListI_c (A : Option Addr) (c B : Nat) (xs : List Int) (w : World) (h : Ins w B A xs) (hB : B ≤ w.heap.size) (hn : xs.length ≤ 1048576) :
    Calls Tryd.prog 56 #[.slice A xs.length c] w (RetIx w xs) := by
  rcases Nat.eq_zero_or_pos xs.length with hz | hp
  · have h0 : ((xs.length : Int) == 0) = true := beq_iff_eq.2 (by omega)
    have HZ := Lib.hid hz
    clear hz
    go_enter Tryd.func56, Tryd.ntmps56
    go_wp2
    go_ret
    exact ⟨none, 0, by rw [HZ.out]; rfl, by rw [HZ.out]; exact Nat.le_refl _, (fun h => absurd h (by rw [HZ.out]; omega)), Nx.refl _⟩
  have h0 : ((xs.length : Int) == 0) = false := beq_eq_false_iff_ne.2 (by omega)
  obtain ⟨i0, hi0, hz0, hz1, hz2⟩ := info_parts info_int
  have hmk := fun W => run_make_rowN (P := Tryd.prog) 22 3 i0 _ Tryd.underlying22 hi0 hz0 .i64 .i64 xs.length xs.length (Nat.le_refl _) (by rw [hz2]; omega) (by omega) W
  rw [hz1] at hmk
  have hmade := Own.made w #[Value.int .i64 0] xs.length 3
  have hnx := (Nx.refl w).alloc (.cells (madeCells #[Value.int .i64 0] xs.length) 3)
  obtain ⟨w1, hrun, ho1, hnx1, _, _⟩ := run_copy_new (P := Tryd.prog) (w.alloc (.cells (madeCells #[Value.int .i64 0] xs.length) 3)) 22 22 3 3 i0 1 Tryd.underlying22 hi0 hz1
    w.heap.size xs.length xs.length A xs.length c B xs.length 3 (inAt xs) _ hmade (by omega) (Nat.le_refl _) (by rw [Nat.mul_one]; exact h.below hnx hB) (inAt_one xs)
  have hx1 := hnx1 w hnx (Nat.le_refl _)
  have HO := Lib.hid (ho1.congr (f' := inAt xs) (fun k hk => by rw [if_pos (by omega)]))
  clear ho1 hnx1 hmade
  go_enter Tryd.func56, Tryd.ntmps56
  go_wp2
  go_ret
  exact ⟨_, _, rfl, Nat.le_refl _, Sl.own HO.out (Nat.le_refl _), hx1⟩
end Go.Proofs.YteckhdkghfidiaaDoor
