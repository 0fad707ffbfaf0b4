/-
  Contract of SegOK, as the model has it.
  Conditions: the segment can be read, and has at most 1048576 changes.
-/
import Derived.Test.YtihpadelfpogmaaSeg
import Derived.Test.YtihpadelfpogmaaLex
import Derived.IntWalk
namespace Go.Proofs.Ytihpadelfpogmaa
set_option linter.unusedVariables false
set_option maxRecDepth 100000
open Go.RowKit

set_option maxRecDepth 100000 in
set_option maxHeartbeats 4000000 in
theorem specSegOK_c (f t m : Int) (A : Option Addr) (c B : Nat) (cs : List Chg) (w : World) (h : Chs w B A cs) (hB : B ≤ w.heap.size) (hn : cs.length ≤ 1048576) :
    Calls Try.prog 120 #[.agg #[.int .i64 f, .int .i64 t, .int .i64 m, .slice A cs.length c]] w fun e w' => e = .returned (.bool (segB f t m cs)) ∧ Nx w w' := by
  cases x1 : inB 0 999998 f with
  | false =>
    have H1 := Lib.hid x1
    have HR := Lib.hid (segB_no (t := t) (m := m) (cs := cs) (.inl x1)).symm
    clear x1
    go_enter Try.func120, Try.ntmps120
    go_wp2_with (go_at_call 122; refine (l01In_c _ _ _ _).mono ?_; rintro e w' ⟨rfl, rfl⟩; first | rw [H1.out])
    go_ret
    exact ⟨ret_bool HR.out, (Nx.refl _).alloc _⟩
  | true =>
  have H1 := Lib.hid x1
  obtain ⟨hf0, hf1⟩ := inB_yes x1
  clear x1
  cases x2 : inB (f + 1) 999999 t with
  | false =>
    have H2 := Lib.hid x2
    have HR := Lib.hid (segB_no (f := f) (t := t) (m := m) (cs := cs) (.inr (.inl x2))).symm
    clear x2
    go_enter Try.func120, Try.ntmps120
    go_wp2_with (go_at_call 122; refine (l01In_c _ _ _ _).mono ?_; rintro e w' ⟨rfl, rfl⟩; first | rw [H1.out] | rw [H2.out])
    go_ret
    exact ⟨ret_bool HR.out, (Nx.refl _).alloc _⟩
  | true =>
  have H2 := Lib.hid x2
  obtain ⟨ht0, ht1⟩ := inB_yes x2
  clear x2
  cases x3 : inB 0 999999 m with
  | false =>
    have H3 := Lib.hid x3
    have HR := Lib.hid (segB_no (f := f) (t := t) (m := m) (cs := cs) (.inr (.inr (.inr (.inr (.inr (.inl x3))))))).symm
    clear x3
    go_enter Try.func120, Try.ntmps120
    go_wp2_with (go_at_call 122; refine (l01In_c _ _ _ _).mono ?_; rintro e w' ⟨rfl, rfl⟩; first | rw [H1.out] | rw [H2.out] | rw [H3.out])
    go_ret
    exact ⟨ret_bool HR.out, (Nx.refl _).alloc _⟩
  | true =>
  have H3 := Lib.hid x3
  clear x3
  by_cases hl : cs.length ≤ 8
  case neg =>
    have hl' : decide (8 < (cs.length : Int)) = true := by simp; omega
    have HR := Lib.hid (segB_no (f := f) (t := t) (m := m) (cs := cs) (.inr (.inr (.inr (.inr (.inr (.inr (by cases hx : chsB cs with
      | false => rfl
      | true => exact absurd (chsB_len hx) hl)))))))).symm
    go_enter Try.func120, Try.ntmps120
    go_wp2_with (go_at_call 122; refine (l01In_c _ _ _ _).mono ?_; rintro e w' ⟨rfl, rfl⟩; first | rw [H1.out] | rw [H2.out] | rw [H3.out])
    go_ret
    exact ⟨ret_bool HR.out, (Nx.refl _).alloc _⟩
  have hl' : decide (8 < (cs.length : Int)) = false := by simp; omega
  go_enter Try.func120, Try.ntmps120
  go_wp2_with (go_at_call 122; refine (l01In_c _ _ _ _).mono ?_; rintro e w' ⟨rfl, rfl⟩; first | rw [H1.out] | rw [H2.out] | rw [H3.out])
  have b0 := Box.new w 54 #[.int .i64 f, .int .i64 t, .int .i64 m, .slice A cs.length c]
  have hx0 := (Nx.refl w).alloc (.cells #[.int .i64 f, .int .i64 t, .int .i64 m, .slice A cs.length c] 54)
  generalize w.alloc (.cells #[.int .i64 f, .int .i64 t, .int .i64 m, .slice A cs.length c] 54) = W at *
  clear hl'
  go_loopw [3] (fun i wr => ∃ k : Nat, k ≤ cs.length ∧ i = .int .i64 k ∧ OkTo cs k ∧ Nx W wr) (fun i _ => cs.length - (intOf i).toNat)
  case atStart => exact ⟨0, Nat.zero_le _, rfl, OkTo.zero _, Nx.refl _⟩
  case round =>
    obtain ⟨k, hk, rfl, hto, hnx⟩ := hrel
    obtain ⟨_, _, _, c3⟩ := (b0.nx hnx).d4
    by_cases hlt : k < cs.length
    · obtain ⟨b, off, rfl, hb, k0, k1, k2⟩ := (h.below (hx0.trans hnx) hB).at_ hlt
      obtain ⟨⟨q0, q1, q2⟩, Hq⟩ : ∃ q, Hid (cs.getD k chZ = q) := ⟨_, rfl⟩
      rw [Hq.out] at k0 k1 k2
      have hbw : b < wr.heap.size := by have := hx0.size; have := hnx.size; omega
      have hbv : w.heap.size < wr.heap.size := (b0.nx hnx).lt
      cases hch : chB (q0, q1, q2) with
      | false =>
        have HC := Lib.hid hch
        have HR := Lib.hid (segB_no (f := f) (t := t) (m := m) (cs := cs) (.inr (.inr (.inr (.inr (.inr (.inr (chsB_no hlt (by unfold okCh; rw [Hq.out, hch]; rfl))))))))).symm
        clear hch
        go_wp2_with fail
        refine wp_region_lex [false, false, false, false, false, true, false, false, false, false, false, false, false, false, false, false, false, false, false, false, false, false, false, false, false, false, false] (fun w' => w'.cell? ⟨w.heap.size, 3, none⟩ = some (.slice (some ⟨b, off, none⟩) cs.length c) ∧ w'.cell? ⟨b, off + k * 3, none⟩ = some (.int .i64 q0) ∧ w'.cell? ⟨b, off + k * 3 + 1, none⟩ = some (.int .i64 q1) ∧ w'.cell? ⟨b, off + k * 3 + 2, none⟩ = some (.int .i64 q2)) (by kernel_rfl) (by kernel_rfl) rfl (by kernel_rfl) (fun _ _ d _ _ h => by cases d <;> exact h) (by exact ⟨c3, k0, k1, k2⟩) ?_
        repeat (first | (refine HL.take (v := ?_) (by rfl) ?_ ?_; rotate_left; (· (intro w hSw; (try dsimp only at hSw); go_simp; try with_reducible rfl)); (try simp only [Act.put, List.setIfInBounds_toArray, List.set_cons_zero, List.set_cons_succ])) | (refine HL.skip (by rfl) ?_; (try simp only [Act.put, List.setIfInBounds_toArray, List.set_cons_zero, List.set_cons_succ])))
        refine HL.call (by rfl) (fun K hK => ?_)
        go_simp
        refine (l02Change_c q0 q1 q2 _).mono ?_; rintro e w1 ⟨rfl, hnx1⟩; rw [HC.out]; have d3 := (hnx1.cell (p := ⟨w.heap.size, 3, none⟩) hbv).trans c3; have l0 := (hnx1.cell (p := ⟨b, off + k * 3, none⟩) hbw).trans k0; have l1 := (hnx1.cell (p := ⟨b, off + k * 3 + 1, none⟩) hbw).trans k1; have l2 := (hnx1.cell (p := ⟨b, off + k * 3 + 2, none⟩) hbw).trans k2
        go_wp2_with fail
        refine hK.out _ _ (by exact ⟨d3, l0, l1, l2⟩) ?_
        clear hK K
        try simp only [Act.put, List.setIfInBounds_toArray, List.set_cons_zero, List.set_cons_succ]
        repeat (first | (refine HL.take (v := ?_) (by rfl) ?_ ?_; rotate_left; (· (intro w hSw; (try dsimp only at hSw); go_simp; try with_reducible rfl)); (try simp only [Act.put, List.setIfInBounds_toArray, List.set_cons_zero, List.set_cons_succ])) | (refine HL.skip (by rfl) ?_; (try simp only [Act.put, List.setIfInBounds_toArray, List.set_cons_zero, List.set_cons_succ])))
        refine HL.done ?_
        go_wp2
        go_ret
        exact ⟨ret_bool HR.out, hx0.trans (hnx.drew.trans hnx1)⟩
      | true =>
        have HC := Lib.hid hch
        clear hch
        by_cases hk0 : k = 0
        · have hd0 : decide (0 < (k : Int)) = false := by simp; omega
          have HO := Lib.hid (show okCh cs k = true by unfold okCh; rw [Hq.out, HC.out, hk0]; rfl)
          have hd1 : decide (0 < k) = false := by simp; omega
          clear hk0
          go_wp2_with fail
          refine wp_region_lex [false, false, false, false, false, true, false, false, false, false, false, false, false, false, false, false, false, false, false, false, false, false, false, false, false, false, false] (fun w' => w'.cell? ⟨w.heap.size, 3, none⟩ = some (.slice (some ⟨b, off, none⟩) cs.length c) ∧ w'.cell? ⟨b, off + k * 3, none⟩ = some (.int .i64 q0) ∧ w'.cell? ⟨b, off + k * 3 + 1, none⟩ = some (.int .i64 q1) ∧ w'.cell? ⟨b, off + k * 3 + 2, none⟩ = some (.int .i64 q2)) (by kernel_rfl) (by kernel_rfl) rfl (by kernel_rfl) (fun _ _ d _ _ h => by cases d <;> exact h) (by exact ⟨c3, k0, k1, k2⟩) ?_
          repeat (first | (refine HL.take (v := ?_) (by rfl) ?_ ?_; rotate_left; (· (intro w hSw; (try dsimp only at hSw); go_simp; try with_reducible rfl)); (try simp only [Act.put, List.setIfInBounds_toArray, List.set_cons_zero, List.set_cons_succ])) | (refine HL.skip (by rfl) ?_; (try simp only [Act.put, List.setIfInBounds_toArray, List.set_cons_zero, List.set_cons_succ])))
          refine HL.call (by rfl) (fun K hK => ?_)
          go_simp
          refine (l02Change_c q0 q1 q2 _).mono ?_; rintro e w1 ⟨rfl, hnx1⟩; rw [HC.out]; have d3 := (hnx1.cell (p := ⟨w.heap.size, 3, none⟩) hbv).trans c3; have l0 := (hnx1.cell (p := ⟨b, off + k * 3, none⟩) hbw).trans k0; have l1 := (hnx1.cell (p := ⟨b, off + k * 3 + 1, none⟩) hbw).trans k1; have l2 := (hnx1.cell (p := ⟨b, off + k * 3 + 2, none⟩) hbw).trans k2
          go_wp2_with fail
          refine hK.out _ _ (by exact ⟨d3, l0, l1, l2⟩) ?_
          clear hK K
          try simp only [Act.put, List.setIfInBounds_toArray, List.set_cons_zero, List.set_cons_succ]
          repeat (first | (refine HL.take (v := ?_) (by rfl) ?_ ?_; rotate_left; (· (intro w hSw; (try dsimp only at hSw); go_simp; try with_reducible rfl)); (try simp only [Act.put, List.setIfInBounds_toArray, List.set_cons_zero, List.set_cons_succ])) | (refine HL.skip (by rfl) ?_; (try simp only [Act.put, List.setIfInBounds_toArray, List.set_cons_zero, List.set_cons_succ])))
          refine HL.done ?_
          go_wp2
          go_roundw
          case rel => exact ⟨k + 1, by omega, by go_num, hto.succ HO.out, hnx.drew.trans hnx1⟩
          case measure => simp [intOf]; omega
        · obtain ⟨j, rfl⟩ : ∃ j, k = j + 1 := ⟨k - 1, by omega⟩
          obtain ⟨b', off', he, _, m0, _, _⟩ := (h.below (hx0.trans hnx) hB).at_ (k := j) (by omega)
          obtain ⟨rfl, rfl⟩ : b = b' ∧ off = off' := by simpa using he
          clear he
          obtain ⟨⟨r0, r1, r2⟩, Hr⟩ : ∃ q, Hid (cs.getD j chZ = q) := ⟨_, rfl⟩
          rw [Hr.out] at m0
          have hd0 : decide (0 < ((j : Int) + 1)) = true := by simp
          have hd1 : decide (0 < j + 1) = true := by simp
          have hi1 : (0 : Int) ≤ (j : Int) + 1 := by omega
          have hi2 : (j : Int) + 1 < (cs.length : Int) := by omega
          have hi4 : (j : Int) < (cs.length : Int) := by omega
          have hi5 : j < cs.length := by omega
          have hi3 : ((j : Int) + 1).toNat = j + 1 := by omega
          have hw1 : IntKind.i64.wrap ((j : Int) + 1 - 1) = (j : Int) := by rw [Int.add_sub_cancel]; exact IntWalk.i64_in _ (by omega)
          have hw2 : IntKind.i64.wrap (j : Int) = (j : Int) := IntWalk.i64_in _ (by omega)
          have hi6 : (0 : Int) ≤ (j : Int) := by omega
          by_cases hlt2 : r0 < q0
          · have hd : decide (q0 ≤ r0) = false := by simp; omega
            have HO := Lib.hid (show okCh cs (j + 1) = true by unfold okCh; rw [Hq.out, HC.out, Nat.add_sub_cancel, Hr.out]; simp [hlt2])
            go_wp2_with fail
            refine wp_region_lex [false, false, false, false, false, true, false, false, false, false, false, false, false, false, false, false, false, false, false, false, false, false, false, false, false, false, false] (fun w' => w'.cell? ⟨w.heap.size, 3, none⟩ = some (.slice (some ⟨b, off, none⟩) cs.length c) ∧ w'.cell? ⟨b, off + (j + 1) * 3, none⟩ = some (.int .i64 q0) ∧ w'.cell? ⟨b, off + (j + 1) * 3 + 1, none⟩ = some (.int .i64 q1) ∧ w'.cell? ⟨b, off + (j + 1) * 3 + 2, none⟩ = some (.int .i64 q2) ∧ w'.cell? ⟨b, off + j * 3, none⟩ = some (.int .i64 r0)) (by kernel_rfl) (by kernel_rfl) rfl (by kernel_rfl) (fun _ _ d _ _ h => by cases d <;> exact h) (by exact ⟨c3, k0, k1, k2, m0⟩) ?_
            repeat (first | (refine HL.take (v := ?_) (by rfl) ?_ ?_; rotate_left; (· (intro w hSw; (try dsimp only at hSw); go_simp; try with_reducible rfl)); (try simp only [Act.put, List.setIfInBounds_toArray, List.set_cons_zero, List.set_cons_succ])) | (refine HL.skip (by rfl) ?_; (try simp only [Act.put, List.setIfInBounds_toArray, List.set_cons_zero, List.set_cons_succ])))
            refine HL.call (by rfl) (fun K hK => ?_)
            go_simp
            refine (l02Change_c q0 q1 q2 _).mono ?_; rintro e w1 ⟨rfl, hnx1⟩; rw [HC.out]; have d3 := (hnx1.cell (p := ⟨w.heap.size, 3, none⟩) hbv).trans c3; have l0 := (hnx1.cell (p := ⟨b, off + (j + 1) * 3, none⟩) hbw).trans k0; have l1 := (hnx1.cell (p := ⟨b, off + (j + 1) * 3 + 1, none⟩) hbw).trans k1; have l2 := (hnx1.cell (p := ⟨b, off + (j + 1) * 3 + 2, none⟩) hbw).trans k2; have n0 := (hnx1.cell (p := ⟨b, off + j * 3, none⟩) hbw).trans m0
            go_wp2_with fail
            refine hK.out _ _ (by exact ⟨d3, l0, l1, l2, n0⟩) ?_
            clear hK K
            try simp only [Act.put, List.setIfInBounds_toArray, List.set_cons_zero, List.set_cons_succ]
            repeat (first | (refine HL.take (v := ?_) (by rfl) ?_ ?_; rotate_left; (· (intro w hSw; (try dsimp only at hSw); go_simp; try with_reducible rfl)); (try simp only [Act.put, List.setIfInBounds_toArray, List.set_cons_zero, List.set_cons_succ])) | (refine HL.skip (by rfl) ?_; (try simp only [Act.put, List.setIfInBounds_toArray, List.set_cons_zero, List.set_cons_succ])))
            refine HL.done ?_
            clear hw1 hw2 hi6 hi1 hi2 hi3 hi4 hi5
            go_wp2
            go_roundw
            case rel => exact ⟨j + 1 + 1, by omega, by go_num, hto.succ HO.out, hnx.drew.trans hnx1⟩
            case measure => simp [intOf]; omega
          · have hd : decide (q0 ≤ r0) = true := by simp; omega
            have HR := Lib.hid (segB_no (f := f) (t := t) (m := m) (cs := cs) (.inr (.inr (.inr (.inr (.inr (.inr (chsB_no hlt (by unfold okCh; rw [Hq.out, Nat.add_sub_cancel, Hr.out]; simp [hlt2]))))))))).symm
            go_wp2_with fail
            refine wp_region_lex [false, false, false, false, false, true, false, false, false, false, false, false, false, false, false, false, false, false, false, false, false, false, false, false, false, false, false] (fun w' => w'.cell? ⟨w.heap.size, 3, none⟩ = some (.slice (some ⟨b, off, none⟩) cs.length c) ∧ w'.cell? ⟨b, off + (j + 1) * 3, none⟩ = some (.int .i64 q0) ∧ w'.cell? ⟨b, off + (j + 1) * 3 + 1, none⟩ = some (.int .i64 q1) ∧ w'.cell? ⟨b, off + (j + 1) * 3 + 2, none⟩ = some (.int .i64 q2) ∧ w'.cell? ⟨b, off + j * 3, none⟩ = some (.int .i64 r0)) (by kernel_rfl) (by kernel_rfl) rfl (by kernel_rfl) (fun _ _ d _ _ h => by cases d <;> exact h) (by exact ⟨c3, k0, k1, k2, m0⟩) ?_
            repeat (first | (refine HL.take (v := ?_) (by rfl) ?_ ?_; rotate_left; (· (intro w hSw; (try dsimp only at hSw); go_simp; try with_reducible rfl)); (try simp only [Act.put, List.setIfInBounds_toArray, List.set_cons_zero, List.set_cons_succ])) | (refine HL.skip (by rfl) ?_; (try simp only [Act.put, List.setIfInBounds_toArray, List.set_cons_zero, List.set_cons_succ])))
            refine HL.call (by rfl) (fun K hK => ?_)
            go_simp
            refine (l02Change_c q0 q1 q2 _).mono ?_; rintro e w1 ⟨rfl, hnx1⟩; rw [HC.out]; have d3 := (hnx1.cell (p := ⟨w.heap.size, 3, none⟩) hbv).trans c3; have l0 := (hnx1.cell (p := ⟨b, off + (j + 1) * 3, none⟩) hbw).trans k0; have l1 := (hnx1.cell (p := ⟨b, off + (j + 1) * 3 + 1, none⟩) hbw).trans k1; have l2 := (hnx1.cell (p := ⟨b, off + (j + 1) * 3 + 2, none⟩) hbw).trans k2; have n0 := (hnx1.cell (p := ⟨b, off + j * 3, none⟩) hbw).trans m0
            go_wp2_with fail
            refine hK.out _ _ (by exact ⟨d3, l0, l1, l2, n0⟩) ?_
            clear hK K
            try simp only [Act.put, List.setIfInBounds_toArray, List.set_cons_zero, List.set_cons_succ]
            repeat (first | (refine HL.take (v := ?_) (by rfl) ?_ ?_; rotate_left; (· (intro w hSw; (try dsimp only at hSw); go_simp; try with_reducible rfl)); (try simp only [Act.put, List.setIfInBounds_toArray, List.set_cons_zero, List.set_cons_succ])) | (refine HL.skip (by rfl) ?_; (try simp only [Act.put, List.setIfInBounds_toArray, List.set_cons_zero, List.set_cons_succ])))
            refine HL.done ?_
            clear hw1 hw2 hi6 hi1 hi2 hi3 hi4 hi5
            go_wp2
            go_ret
            exact ⟨ret_bool HR.out, hx0.trans (hnx.drew.trans hnx1)⟩
    · obtain rfl : k = cs.length := by omega
      have HR := Lib.hid (segB_mk hf0 (by omega) ht1 H3.out hto.all).symm
      go_wp2
      go_ret
      exact ⟨ret_bool HR.out, hx0.trans hnx⟩
end Go.Proofs.Ytihpadelfpogmaa
