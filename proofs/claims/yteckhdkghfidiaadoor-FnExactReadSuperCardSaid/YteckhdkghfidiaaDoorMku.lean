/-
  Contracts of the laws' functions that mark supers and ask whether the marks are still there.
  Conditions: numbers below 2^40.
-/
import Derived.Test.YteckhdkghfidiaaDoorMk
import Derived.Test.YteckhdkghfidiaaDoorMks
namespace Go.Proofs.YteckhdkghfidiaaDoor
set_option linter.unusedVariables false
set_option maxRecDepth 100000
open Go.RowKit

def markM (k n : Nat) : List Mrk := (List.range n).map (fun i => (mt (k + i * 2), ((k + i * 2 + 1 : Nat) : Int)))
theorem markM_len (k n : Nat) : (markM k n).length = n := by simp [markM]
theorem markM_at {k n i : Nat} (h : i < n) : (markM k n).getD i mrZ = (mt (k + i * 2), ((k + i * 2 + 1 : Nat) : Int)) := by
  unfold markM; rw [List.getD_eq_getElem?_getD, List.getElem?_map, List.getElem?_range h]; rfl
set_option maxHeartbeats 1000000 in
theorem markMarkS_c (A : Option Addr) (n c k lo hi : Nat) (f : Nat → Value) (w : World) (h : Sr w lo hi A 63 (n * 2) f) (hi' : hi ≤ w.heap.size) (hn : n ≤ 1048576) (hk : k ≤ 1099500000000) :
    Calls Tryd.prog 28 #[.slice A n c, .int .i64 k] w fun e w' => e = .returned (.int .i64 ((k + n * 2 : Nat) : Int)) ∧ Sr w' lo hi A 63 (n * 2) (mrAt (markM k n)) ∧ Rg lo hi w w' ∧ TyK 63 w w' := by
  have HS : FillA w lo hi A n 63 (n * 2) 0 (mrAt (markM k n)) := fun hn0 => by
    obtain ⟨g, e, h1, h2, ho⟩ := h (by omega)
    exact ⟨g, e, h1, h2, Fill.start ho⟩
  go_enter Tryd.func28, Tryd.ntmps28
  go_wp2
  go_loopw [1, 5] (fun q i wr => ∃ j : Nat, j ≤ n ∧ i = .int .i64 j ∧ q = .int .i64 ((k + j * 2 : Nat) : Int) ∧ FillA wr lo hi A n 63 (n * 2) (j * 2) (mrAt (markM k n)) ∧ Rg lo hi w wr ∧ TyK 63 w wr) (fun _ i _ => n - (intOf i).toNat)
  case atStart => exact ⟨0, Nat.zero_le _, rfl, rfl, HS, Rg.of_nx (Nx.refl _), TyK.refl _ _⟩
  case round =>
    obtain ⟨j, hj, rfl, rfl, hf, hrg, hty⟩ := hrel
    clear HS
    by_cases hlt : j < n
    · obtain ⟨g, rfl, hg1, hg2, hfill⟩ := hf (by omega)
      go_wp2_with fail
      refine (markText_c (k + j * 2) _ (by omega)).mono ?_
      rintro e w2 ⟨rfl, hnx2⟩
      have hf2 := hfill.nx hnx2
      obtain ⟨v0, hv0⟩ := hf2.some_ (i := j * 2) (by omega)
      obtain ⟨v1, hv1⟩ := hf2.some_ (i := j * 2 + 1) (by omega)
      have hz0 := hf2.frozen (j * 2)
      have hz1 := hf2.frozen (j * 2 + 1)
      have hs1 := hf2.step (v := .string (mt (k + j * 2))) (by omega) (by rw [mrAt0, markM_at hlt])
      have hs2 := hs1.step (v := .int .i64 ((k + j * 2 + 1 : Nat) : Int)) (by omega) (by rw [mrAt1, markM_at hlt])
      have hr2 := ((hrg.trans (Rg.of_nx hnx2)).setCell (p := ⟨g, j * 2, none⟩) hg1 hg2 (.string (mt (k + j * 2)))).setCell (p := ⟨g, j * 2 + 1, none⟩) hg1 hg2 (.int .i64 ((k + j * 2 + 1 : Nat) : Int))
      have ht2 := ((hty.nx hnx2).set_fill (i := j * 2) hf2 (.string (mt (k + j * 2)))).set_fill (i := j * 2 + 1) hs1 (.int .i64 ((k + j * 2 + 1 : Nat) : Int))
      have e1 : (((k + j * 2 + 1 : Nat) : Int)) = (k : Int) + (j : Int) * 2 + 1 := by omega
      rw [e1] at hs2 hr2 ht2
      clear e1
      go_wp2
      go_roundw
      case rel =>
        refine ⟨j + 1, by omega, by go_num, by go_num, fun _ => ⟨g, rfl, hg1, hg2, ?_⟩, ?_, ?_⟩
        · rw [show (j + 1) * 2 = j * 2 + 1 + 1 by omega]
          exact hs2
        · exact hr2
        · exact ht2
      case measure => simp [intOf]; omega
    · obtain rfl : j = n := by omega
      go_wp2
      go_ret
      refine ⟨rfl, fun hn0 => ?_, hrg, hty⟩
      obtain ⟨g, e, h1, h2, ho⟩ := hf (by omega)
      exact ⟨g, e, h1, h2, ho.done⟩
set_option maxHeartbeats 1000000 in
/-- The marks come behind the table, so their block is not the table's: it holds another type. -/
theorem markIntT_c (A : Option Addr) (n c k lo hi : Nat) (f : Nat → Value) (w : World) (h : Sr w lo hi A 3 n f) (hn : n ≤ 1048576) (hk : k ≤ 1048576) :
    Calls Tryd.prog 27 #[.slice A n c, .int .i64 k] w fun e w' => e = .returned (.int .i64 ((k + n : Nat) : Int)) ∧ Sr w' lo hi A 3 n (mkAt k) ∧ Rg lo hi w w' ∧ TyK 3 w w' := by
  have HS : FillI w lo hi A n 0 k := fun hn0 => by
    obtain ⟨g, e, h1, h2, ho⟩ := h (by omega)
    exact ⟨g, e, h1, h2, Fill.start ho⟩
  go_enter Tryd.func27, Tryd.ntmps27
  go_wp2
  go_loopw [1, 5] (fun q i wr => ∃ j : Nat, j ≤ n ∧ i = .int .i64 j ∧ q = .int .i64 ((k + j : Nat) : Int) ∧ FillI wr lo hi A n j k ∧ Rg lo hi w wr ∧ TyK 3 w wr) (fun _ i _ => n - (intOf i).toNat)
  case atStart => exact ⟨0, Nat.zero_le _, rfl, rfl, HS, Rg.of_nx (Nx.refl _), TyK.refl _ _⟩
  case round =>
    obtain ⟨j, hj, rfl, rfl, hf, hrg, hty⟩ := hrel
    clear HS
    by_cases hlt : j < n
    · obtain ⟨g, rfl, hg1, hg2, hfill⟩ := hf (by omega)
      obtain ⟨v0, hv0⟩ := hfill.some_ (i := j) (by omega)
      have hz0 := hfill.frozen j
      clear hf
      go_wp2
      go_roundw
      case rel => exact ⟨j + 1, by omega, by go_num, by go_num, fun _ => ⟨g, rfl, hg1, hg2, hfill.step hlt rfl⟩, hrg.setCell hg1 hg2 _, hty.set_fill hfill _⟩
      case measure => simp [intOf]; omega
    · obtain rfl : j = n := by omega
      go_wp2
      go_ret
      refine ⟨rfl, fun hn0 => ?_, hrg, hty⟩
      obtain ⟨g, e, h1, h2, ho⟩ := hf (by omega)
      exact ⟨g, e, h1, h2, ho.done⟩
set_option maxHeartbeats 1000000 in
theorem markSuper_c (g b p t : Int) (A A2 : Option Addr) (n c n2 c2 k lo hi : Nat) (f f2 : Nat → Value) (w : World) (h : Sr w lo hi A 3 n f) (h2 : Sr w lo hi A2 63 (n2 * 2) f2) (hi' : hi ≤ w.heap.size) (hn : n ≤ 1048576) (hn2 : n2 ≤ 1048576) (hk : k ≤ 1048576) :
    Calls Tryd.prog 12 #[.agg #[.int .i64 g, .int .i64 b, .int .i64 p, .int .i64 t, .slice A n c, .slice A2 n2 c2], .int .i64 k] w fun e w' => e = .returned (.int .i64 ((k + n + n2 * 2 : Nat) : Int)) ∧ Sr w' lo hi A 3 n (mkAt k) ∧ Sr w' lo hi A2 63 (n2 * 2) (mrAt (markM (k + n) n2)) ∧ Rg lo hi w w' := by
  go_enter Tryd.func12, Tryd.ntmps12
  go_wp2_with fail
  have b0 := Box.new w 31 #[.int .i64 g, .int .i64 b, .int .i64 p, .int .i64 t, .slice A n c, .slice A2 n2 c2]
  have hnx0 := (Nx.refl w).alloc (.cells #[.int .i64 g, .int .i64 b, .int .i64 p, .int .i64 t, .slice A n c, .slice A2 n2 c2] 31)
  have HZ := Lib.hid (show (w.alloc (.cells #[.int .i64 g, .int .i64 b, .int .i64 p, .int .i64 t, .slice A n c, .slice A2 n2 c2] 31)).heap.size = w.heap.size + 1 by simp)
  generalize w.alloc (.cells #[.int .i64 g, .int .i64 b, .int .i64 p, .int .i64 t, .slice A n c, .slice A2 n2 c2] 31) = W at *
  refine (markIntT_c A n c k lo hi f _ (h.nx hnx0) hn hk).mono ?_
  rintro e w1 ⟨rfl, hS1, hr1, ht1⟩
  have b1 := b0.rg hr1 (.inr hi')
  obtain ⟨_, _, _, _, c4, c5⟩ := b1.d6
  have hsz1 := hr1.size
  go_wp2_with fail
  rw [show ((k : Int) + (n : Int)) = ((k + n : Nat) : Int) from by omega]
  refine (markMarkS_c A2 n2 c2 (k + n) lo hi f2 _ ((h2.nx hnx0).ty ht1 (by decide)) (by have := HZ.out; omega) hn2 (by omega)).mono ?_
  rintro e w2 ⟨rfl, hW2, hr2, ht2⟩
  go_wp2
  go_ret
  exact ⟨rfl, hS1.ty ht2 (by decide), hW2, ((Rg.of_nx hnx0).trans hr1).trans hr2⟩
end Go.Proofs.YteckhdkghfidiaaDoor
