/-
  Contracts of the laws' functions that mark the memory of segments and look for the marks.
  Conditions: the changes lie in a block of the call's own; at most 1048576.
-/
import Derived.Test.YtihpadelfpogmaaSeg
namespace Go.Proofs.Ytihpadelfpogmaa
set_option linter.unusedVariables false
set_option maxRecDepth 100000
open Go.RowKit

def markAt (k i : Nat) : Value := .int .i64 ((k + i : Nat) : Int)
def FillG (w : World) (lo hi : Nat) (A : Option Addr) (n j k : Nat) : Prop := 0 < n → ∃ g, A = some ⟨g, 0, none⟩ ∧ lo ≤ g ∧ g < hi ∧ Fill w g 84 (n * 3) (j * 3) (markAt k)
set_option maxHeartbeats 1000000 in
theorem markChangeS_c (A : Option Addr) (n c k lo hi : Nat) (f : Nat → Value) (w : World) (h : Sr w lo hi A 84 (n * 3) f) (hn : n ≤ 1048576) (hk : k ≤ 3145729) :
    Calls Try.prog 96 #[.slice A n c, .int .i64 k] w fun e w' => e = .returned (.int .i64 ((k + n * 3 : Nat) : Int)) ∧ Sr w' lo hi A 84 (n * 3) (markAt k) ∧ Rg lo hi w w' := by
  have HS : FillG w lo hi A n 0 k := fun hn0 => by
    obtain ⟨g, e, h1, h2, ho⟩ := h (by omega)
    exact ⟨g, e, h1, h2, Fill.start ho⟩
  go_enter Try.func96, Try.ntmps96
  go_wp2
  go_loopw [1, 5] (fun q i wr => ∃ j : Nat, j ≤ n ∧ i = .int .i64 j ∧ q = .int .i64 ((k + j * 3 : Nat) : Int) ∧ FillG wr lo hi A n j k ∧ Rg lo hi w wr) (fun _ i _ => n - (intOf i).toNat)
  case atStart => exact ⟨0, Nat.zero_le _, rfl, rfl, HS, Rg.of_nx (Nx.refl _)⟩
  case round =>
    obtain ⟨j, hj, rfl, rfl, hf, hrg⟩ := hrel
    clear HS
    by_cases hlt : j < n
    · obtain ⟨g, rfl, hg1, hg2, hfill⟩ := hf (by omega)
      obtain ⟨q, Hq⟩ : ∃ q, Hid (k + j * 3 = q) := ⟨_, rfl⟩
      have hq9 : q ≤ 8000000 := by have := Hq.out; omega
      rw [Hq.out]
      obtain ⟨v0, hv0⟩ := hfill.some_ (i := j * 3) (by omega)
      obtain ⟨v1, hv1⟩ := hfill.some_ (i := j * 3 + 1) (by omega)
      obtain ⟨v2, hv2⟩ := hfill.some_ (i := j * 3 + 2) (by omega)
      have hz0 := hfill.frozen (j * 3)
      have hz1 := hfill.frozen (j * 3 + 1)
      have hz2 := hfill.frozen (j * 3 + 2)
      go_wp2
      go_roundw
      case rel =>
        have e0 : Value.int .i64 (q : Int) = markAt k (j * 3) := by unfold markAt; rw [Hq.out]
        have e1 : Value.int .i64 ((q : Int) + 1) = markAt k (j * 3 + 1) := by unfold markAt; rw [← Hq.out]; go_num
        have e2 : Value.int .i64 ((q : Int) + 1 + 1) = markAt k (j * 3 + 1 + 1) := by unfold markAt; rw [← Hq.out]; go_num
        first
          | (refine ⟨j + 1, by omega, by go_num, by rw [show k + (j + 1) * 3 = q + 3 by have := Hq.out; omega]; go_num, fun _ => ⟨g, rfl, hg1, hg2, ?_⟩, ((hrg.setCell hg1 hg2 _).setCell hg1 hg2 _).setCell hg1 hg2 _⟩
             rw [show (j + 1) * 3 = j * 3 + 1 + 1 + 1 by omega]
             exact ((hfill.step (by omega) e0).step (by omega) e1).step (by omega) e2)
          | (refine ⟨j + 1, by omega, by go_num, by rw [show k + (j + 1) * 3 = q + 3 by have := Hq.out; omega]; go_num, fun _ => ⟨g, rfl, hg1, hg2, ?_⟩, ((hrg.setCell hg1 hg2 _).setCell hg1 hg2 _).setCell hg1 hg2 _⟩
             rw [show (j + 1) * 3 = j * 3 + 1 + 1 + 1 by omega]
             exact ((hfill.step (by omega) e0).step (by omega) e1).step (by omega) (by rw [← e2]; go_num))
      case measure => simp [intOf]; omega
    · obtain rfl : j = n := by omega
      go_wp2
      go_ret
      refine ⟨rfl, fun hn0 => ?_, hrg⟩
      obtain ⟨g, e, h1, h2, ho⟩ := hf (by omega)
      exact ⟨g, e, h1, h2, ho.done⟩
set_option maxHeartbeats 1000000 in
theorem heldChangeS_c (A : Option Addr) (n c k B : Nat) (w : World) (h : Row w B A (n * 3) (markAt k)) (hn : n ≤ 1048576) (hk : k ≤ 1048576) :
    Calls Try.prog 97 #[.slice A n c, .int .i64 k] w fun e w' => e = .returned (.int .i64 ((k + n * 3 : Nat) : Int)) ∧ w = w' := by
  go_enter Try.func97, Try.ntmps97
  go_wp2
  go_loop [1, 5] (fun q i => ∃ j : Nat, j ≤ n ∧ i = .int .i64 j ∧ q = .int .i64 ((k + j * 3 : Nat) : Int)) (fun _ i => n - (intOf i).toNat)
  case atStart => exact ⟨0, Nat.zero_le _, rfl, rfl⟩
  case round =>
    obtain ⟨j, hj, rfl, rfl⟩ := hrel
    by_cases hlt : j < n
    · obtain ⟨b, off, rfl, hb, hc⟩ := h (by omega)
      obtain ⟨q, Hq⟩ : ∃ q, Hid (k + j * 3 = q) := ⟨_, rfl⟩
      have hq9 : q ≤ 8000000 := by have := Hq.out; omega
      have c0 : w.cell? ⟨b, off + j * 3, none⟩ = some (.int .i64 (q : Int)) := by rw [hc (j * 3) (by omega)]; unfold markAt; rw [Hq.out]
      have c1 : w.cell? ⟨b, off + j * 3 + 1, none⟩ = some (.int .i64 ((q : Int) + 1)) := by rw [show off + j * 3 + 1 = off + (j * 3 + 1) by omega, hc (j * 3 + 1) (by omega)]; unfold markAt; rw [← Hq.out]; congr 2
      have c2 : w.cell? ⟨b, off + j * 3 + 2, none⟩ = some (.int .i64 ((q : Int) + 2)) := by rw [show off + j * 3 + 2 = off + (j * 3 + 2) by omega, hc (j * 3 + 2) (by omega)]; unfold markAt; rw [← Hq.out]; congr 2
      have d1 : ((q : Int) + 2 != (q : Int) + 1 + 1) = false := by rw [bne_eq_false_iff_eq]; omega
      rw [Hq.out]
      clear hc
      go_wp2
      go_round
      case rel => exact ⟨j + 1, by omega, by go_num, by rw [show k + (j + 1) * 3 = q + 3 by have := Hq.out; omega]; go_num⟩
      case measure => simp [intOf]; omega
    · obtain rfl : j = n := by omega
      go_wp2
      go_ret
      exact ⟨rfl, rfl⟩
set_option maxHeartbeats 1000000 in
theorem markSeg_c (f t m : Int) (A : Option Addr) (n c lo hi : Nat) (F : Nat → Value) (w : World) (h : Sr w lo hi A 84 (n * 3) F) (hi' : hi ≤ w.heap.size) (hn : n ≤ 1048576) :
    Calls Try.prog 36 #[.agg #[.int .i64 f, .int .i64 t, .int .i64 m, .slice A n c], .int .i64 1] w fun e w' => e = .returned (.int .i64 ((1 + n * 3 : Nat) : Int)) ∧ Sr w' lo hi A 84 (n * 3) (markAt 1) ∧ Rg lo hi w w' := by
  have hx0 := (Nx.refl w).alloc (.cells #[.int .i64 f, .int .i64 t, .int .i64 m, .slice A n c] 54)
  go_enter Try.func36, Try.ntmps36
  go_wp2_with fail
  refine (markChangeS_c A n c 1 lo hi F _ (h.nx hx0) hn (by omega)).mono ?_
  rintro e w1 ⟨rfl, hs, hr⟩
  obtain ⟨q, Hq⟩ : ∃ q, Hid (1 + n * 3 = q) := ⟨_, rfl⟩
  rw [Hq.out]
  go_wp2
  go_ret
  exact ⟨by rw [Hq.out]; rfl, hs, (Rg.of_nx hx0).trans hr⟩
set_option maxHeartbeats 1000000 in
theorem heldSeg_c (f t m : Int) (A : Option Addr) (n c B : Nat) (w : World) (h : Row w B A (n * 3) (markAt 1)) (hB : B ≤ w.heap.size) (hn : n ≤ 1048576) :
    Calls Try.prog 37 #[.agg #[.int .i64 f, .int .i64 t, .int .i64 m, .slice A n c], .int .i64 1] w fun e w' => e = .returned (.int .i64 ((1 + n * 3 : Nat) : Int)) ∧ Nx w w' := by
  have hx0 := (Nx.refl w).alloc (.cells #[.int .i64 f, .int .i64 t, .int .i64 m, .slice A n c] 54)
  go_enter Try.func37, Try.ntmps37
  go_wp2_with fail
  refine (heldChangeS_c A n c 1 B _ (h.below hx0 hB) hn (by omega)).mono ?_
  rintro e w1 ⟨rfl, rfl⟩
  obtain ⟨q, Hq⟩ : ∃ q, Hid (1 + n * 3 = q) := ⟨_, rfl⟩
  have hd : decide ((q : Int) < 0) = false := by simp
  rw [Hq.out]
  go_wp2
  go_ret
  exact ⟨by rw [Hq.out]; rfl, hx0⟩
end Go.Proofs.Ytihpadelfpogmaa
