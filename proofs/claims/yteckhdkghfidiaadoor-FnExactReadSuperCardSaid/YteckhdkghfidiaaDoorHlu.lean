/-
  Contracts of the laws' functions that ask whether a super's marks are still there.
  Conditions: numbers below 2^40.
-/
import Derived.Test.YteckhdkghfidiaaDoorMku
import Derived.Test.YteckhdkghfidiaaDoorLex
namespace Go.Proofs.YteckhdkghfidiaaDoor
set_option linter.unusedVariables false
set_option maxRecDepth 100000
open Go.RowKit

set_option maxHeartbeats 1000000 in
theorem heldMarkS_c (A : Option Addr) (n c k B : Nat) (w : World) (h : Row w B A (n * 2) (mrAt (markM k n))) (hB : B ≤ w.heap.size) (hn : n ≤ 1048576) (hk : k ≤ 1099500000000) :
    Calls Tryd.prog 30 #[.slice A n c, .int .i64 k] w fun e w' => e = .returned (.int .i64 ((k + n * 2 : Nat) : Int)) ∧ Nx w w' := by
  go_enter Tryd.func30, Tryd.ntmps30
  go_wp2
  go_loopw [1, 5] (fun q i wr => ∃ j : Nat, j ≤ n ∧ i = .int .i64 j ∧ q = .int .i64 ((k + j * 2 : Nat) : Int) ∧ Nx w wr) (fun _ i _ => n - (intOf i).toNat)
  case atStart => exact ⟨0, Nat.zero_le _, rfl, rfl, Nx.refl _⟩
  case round =>
    obtain ⟨j, hj, rfl, rfl, hnx⟩ := hrel
    by_cases hlt : j < n
    · obtain ⟨b, off, rfl, hb, hrow⟩ := (h.below hnx hB) (by omega)
      have hc := hrow (j * 2) (by omega)
      have hd := hrow (j * 2 + 1) (by omega)
      rw [mrAt0, markM_at hlt] at hc
      rw [mrAt1, markM_at hlt, ← Nat.add_assoc] at hd
      dsimp only at hc hd
      have hbw : b < wr.heap.size := Nat.lt_of_lt_of_le (Nat.lt_of_lt_of_le hb hB) hnx.size
      obtain ⟨q, Hq⟩ : ∃ q, Hid (k + j * 2 = q) := ⟨_, rfl⟩
      have hq9 : q ≤ 1099511000000 := by have := Hq.out; omega
      rw [Hq.out] at hc hd ⊢
      have hd' : wr.cell? ⟨b, off + j * 2 + 1, none⟩ = some (.int .i64 ((q : Int) + 1)) := by rw [hd]; rfl
      replace hd := hd'
      clear hrow hd'
      go_wp2_with fail
      refine wp_region_lex [false, false, false, false, false, false, true, false] (fun w' => w'.cell? ⟨b, off + j * 2, none⟩ = some (.string (mt q))) (by kernel_rfl) (by kernel_rfl) rfl (by kernel_rfl) (fun _ _ d _ _ h => by cases d <;> exact h) (by exact hc) ?_
      repeat (first | (refine HL.take (v := ?_) (by rfl) ?_ ?_; rotate_left; (· (intro w hSw; (try dsimp only at hSw); go_simp; try with_reducible rfl)); (try simp only [Act.put, List.setIfInBounds_toArray, List.set_cons_zero, List.set_cons_succ])) | (refine HL.skip (by rfl) ?_; (try simp only [Act.put, List.setIfInBounds_toArray, List.set_cons_zero, List.set_cons_succ])))
      refine HL.call (by rfl) (fun K hK => ?_)
      go_simp
      refine (markText_c q _ (by omega)).mono ?_; rintro e w1 ⟨rfl, hnx1⟩; have k0 := ((Nx.drew_r hnx1).cell (p := ⟨b, off + j * 2, none⟩) hbw).trans hc; have k1 := ((Nx.drew_r hnx1).cell (p := ⟨b, off + j * 2 + 1, none⟩) hbw).trans hd
      go_wp2_with fail
      refine hK.out _ _ (by exact k0) ?_
      clear hK K
      try simp only [Act.put, List.setIfInBounds_toArray, List.set_cons_zero, List.set_cons_succ]
      repeat (first | (refine HL.take (v := ?_) (by rfl) ?_ ?_; rotate_left; (· (intro w hSw; (try dsimp only at hSw); go_simp; try with_reducible rfl)); (try simp only [Act.put, List.setIfInBounds_toArray, List.set_cons_zero, List.set_cons_succ])) | (refine HL.skip (by rfl) ?_; (try simp only [Act.put, List.setIfInBounds_toArray, List.set_cons_zero, List.set_cons_succ])))
      refine HL.done ?_
      clear hc hd
      go_wp2
      go_roundw
      case rel => exact ⟨j + 1, by omega, by go_num, by rw [show k + (j + 1) * 2 = q + 1 + 1 by have := Hq.out; omega]; go_num, hnx.trans (Nx.drew_r hnx1)⟩
      case measure => simp [intOf]; omega
    · obtain rfl : j = n := by omega
      go_wp2
      go_ret
      exact ⟨rfl, hnx⟩
set_option maxHeartbeats 1000000 in
theorem heldSuper_c (g b p t : Int) (A A2 : Option Addr) (n c n2 c2 k B : Nat) (w : World) (h : Row w B A n (mkAt k)) (h2 : Row w B A2 (n2 * 2) (mrAt (markM (k + n) n2))) (hB : B ≤ w.heap.size) (hn : n ≤ 1048576) (hn2 : n2 ≤ 1048576) (hk : k ≤ 1048576) :
    Calls Tryd.prog 13 #[.agg #[.int .i64 g, .int .i64 b, .int .i64 p, .int .i64 t, .slice A n c, .slice A2 n2 c2], .int .i64 k] w fun e w' => e = .returned (.int .i64 ((k + n + n2 * 2 : Nat) : Int)) ∧ Nx w w' := by
  go_enter Tryd.func13, Tryd.ntmps13
  go_wp2_with fail
  have b0 := Box.new w 31 #[.int .i64 g, .int .i64 b, .int .i64 p, .int .i64 t, .slice A n c, .slice A2 n2 c2]
  have hnx0 := (Nx.refl w).alloc (.cells #[.int .i64 g, .int .i64 b, .int .i64 p, .int .i64 t, .slice A n c, .slice A2 n2 c2] 31)
  generalize w.alloc (.cells #[.int .i64 g, .int .i64 b, .int .i64 p, .int .i64 t, .slice A n c, .slice A2 n2 c2] 31) = W at *
  refine (heldIntS_c A n c k B _ (h.below hnx0 hB) hn hk).mono ?_
  rintro e w1 ⟨rfl, rfl⟩
  obtain ⟨_, _, _, _, c4, c5⟩ := b0.d6
  have hd1 : decide (((k + n : Nat) : Int) < 0) = false := by simp; omega
  have hd2 : decide (((k + n + n2 * 2 : Nat) : Int) < 0) = false := by simp; omega
  obtain ⟨q, Hq⟩ : ∃ q, Hid (k + n = q) := ⟨_, rfl⟩
  have hq9 : q ≤ 3000000 := by have := Hq.out; omega
  rw [Hq.out] at hd1 h2 hd2 ⊢
  go_wp2_with fail
  refine (heldMarkS_c A2 n2 c2 q B _ (h2.below hnx0 hB) (Nat.le_trans hB hnx0.size) hn2 (by omega)).mono ?_
  rintro e w2 ⟨rfl, hnx2⟩
  obtain ⟨r, Hr⟩ : ∃ r, Hid (q + n2 * 2 = r) := ⟨_, rfl⟩
  rw [Hr.out] at hd2 ⊢
  go_wp2
  go_ret
  exact ⟨ret_int (by have := Hr.out; have := Hq.out; omega), hnx0.trans hnx2⟩
end Go.Proofs.YteckhdkghfidiaaDoor
