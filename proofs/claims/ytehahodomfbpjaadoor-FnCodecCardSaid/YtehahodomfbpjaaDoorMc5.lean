/-
  Texts of the proof, put together in their order: Sgi.
  Conditions: those of each.
-/
import Derived.Test.YtehahodomfbpjaaDoorMc4
import Derived.IntWalk
/- Contracts of Seg.isRight and SegOK, as the program has them. Conditions: the segment can be read, and has at most 1048576 changes. -/
namespace Go.Proofs.YtehahodomfbpjaaDoor
set_option linter.unusedVariables false
set_option maxRecDepth 100000
open Go.RowKit

set_option maxRecDepth 100000 in
set_option maxHeartbeats 4000000 in
theorem segRight_c (f t m : Int) (A : Option Addr) (c B : Nat) (cs : List Chg) (w : World) (h : Chs w B A cs) (hB : B ≤ w.heap.size) (hn : cs.length ≤ 1048576) :
    Calls Tryd.prog 45 #[.agg #[.int .i64 f, .int .i64 t, .int .i64 m, .slice A cs.length c]] w fun e w' => e = .returned (.bool (segB f t m cs)) ∧ Nx w w' := by
  cases x1 : inB 0 999999 f with
  | false =>
    have H1 := Lib.hid x1
    clear x1
    have HR := Lib.hid (segB_no (f := f) (t := t) (m := m) (cs := cs) (.inr (.inr (.inl H1.out)))).symm
    go_enter Tryd.func45, Tryd.ntmps45
    go_wp2_with (first
      | (go_at_call 69; refine (isPosition_c _ _).mono ?_; rintro e w' ⟨rfl, rfl⟩; first | rw [H1.out])
      | (go_at_call 70; refine (isTime_c _ _).mono ?_; rintro e w' ⟨rfl, rfl⟩; fail))
    go_ret
    exact ⟨ret_bool HR.out, (Nx.refl _).alloc _⟩
  | true =>
  have H1 := Lib.hid x1
  obtain ⟨hf0, hf1⟩ := inB_yes x1
  clear x1
  cases x2 : inB 0 999999 t with
  | false =>
    have H2 := Lib.hid x2
    clear x2
    have HR := Lib.hid (segB_no (f := f) (t := t) (m := m) (cs := cs) (.inr (.inr (.inr (.inl H2.out))))).symm
    go_enter Tryd.func45, Tryd.ntmps45
    go_wp2_with (first
      | (go_at_call 69; refine (isPosition_c _ _).mono ?_; rintro e w' ⟨rfl, rfl⟩; first | rw [H1.out] | rw [H2.out])
      | (go_at_call 70; refine (isTime_c _ _).mono ?_; rintro e w' ⟨rfl, rfl⟩; fail))
    go_ret
    exact ⟨ret_bool HR.out, (Nx.refl _).alloc _⟩
  | true =>
  have H2 := Lib.hid x2
  obtain ⟨ht0, ht1⟩ := inB_yes x2
  clear x2
  by_cases x3 : f < t
  case neg =>
    have h3 : decide (t ≤ f) = true := by simp; omega
    have HR := Lib.hid (segB_no (f := f) (t := t) (m := m) (cs := cs) (.inr (.inr (.inr (.inr (.inl (by simp; omega))))))).symm
    go_enter Tryd.func45, Tryd.ntmps45
    go_wp2_with (first
      | (go_at_call 69; refine (isPosition_c _ _).mono ?_; rintro e w' ⟨rfl, rfl⟩; first | rw [H1.out] | rw [H2.out])
      | (go_at_call 70; refine (isTime_c _ _).mono ?_; rintro e w' ⟨rfl, rfl⟩; fail))
    go_ret
    exact ⟨ret_bool HR.out, (Nx.refl _).alloc _⟩
  have h3 : decide (t ≤ f) = false := by simp; omega
  cases x4 : inB 0 999999 m with
  | false =>
    have H4 := Lib.hid x4
    clear x4
    have HR := Lib.hid (segB_no (f := f) (t := t) (m := m) (cs := cs) (.inr (.inr (.inr (.inr (.inr (.inl H4.out))))))).symm
    go_enter Tryd.func45, Tryd.ntmps45
    go_wp2_with (first
      | (go_at_call 69; refine (isPosition_c _ _).mono ?_; rintro e w' ⟨rfl, rfl⟩; first | rw [H1.out] | rw [H2.out])
      | (go_at_call 70; refine (isTime_c _ _).mono ?_; rintro e w' ⟨rfl, rfl⟩; rw [H4.out]))
    go_ret
    exact ⟨ret_bool HR.out, (Nx.refl _).alloc _⟩
  | true =>
  have H4 := Lib.hid x4
  clear x4
  go_enter Tryd.func45, Tryd.ntmps45
  go_wp2_with (first
      | (go_at_call 69; refine (isPosition_c _ _).mono ?_; rintro e w' ⟨rfl, rfl⟩; first | rw [H1.out] | rw [H2.out])
      | (go_at_call 70; refine (isTime_c _ _).mono ?_; rintro e w' ⟨rfl, rfl⟩; rw [H4.out]))
  have b0 := Box.new w 38 #[.int .i64 f, .int .i64 t, .int .i64 m, .slice A cs.length c]
  have hx0 := (Nx.refl w).alloc (.cells #[.int .i64 f, .int .i64 t, .int .i64 m, .slice A cs.length c] 38)
  generalize w.alloc (.cells #[.int .i64 f, .int .i64 t, .int .i64 m, .slice A cs.length c] 38) = W at *
  clear h3
  go_loopw [31] (fun i wr => ∃ k : Nat, k ≤ cs.length ∧ i = .int .i64 k ∧ OkTo cs k ∧ Nx W wr) (fun i _ => cs.length - (intOf i).toNat)
  case atStart => exact ⟨0, Nat.zero_le _, rfl, OkTo.zero _, Nx.refl _⟩
  case round =>
    obtain ⟨k, hk, rfl, hto, hnx⟩ := hrel
    obtain ⟨_, _, _, c3⟩ := (b0.nx hnx).d4
    by_cases hlt : k < cs.length
    · obtain ⟨b, off, rfl, hb, k0, k1, k2⟩ := (h.below (hx0.trans hnx) hB).at_ hlt
      obtain ⟨⟨q0, q1, q2⟩, Hq⟩ : ∃ q, Hid (cs.getD k chZ = q) := ⟨_, rfl⟩
      rw [Hq.out] at k0 k1 k2
      cases hch : chB (q0, q1, q2) with
      | false =>
        have HC := Lib.hid hch
        have HR := Lib.hid (segB_no (f := f) (t := t) (m := m) (cs := cs) (.inr (.inr (.inr (.inr (.inr (.inr (chsB_no hlt (by unfold okCh; rw [Hq.out, hch]; rfl))))))))).symm
        clear hch
        go_wp2_with fail
        have bq := Box.new wr 85 #[.int .i64 q0, .int .i64 q1, .int .i64 q2]
        have hnxq := hnx.alloc (.cells #[.int .i64 q0, .int .i64 q1, .int .i64 q2] 85)
        have b1 := (b0.nx hnx).alloc (.cells #[.int .i64 q0, .int .i64 q1, .int .i64 q2] 85)
        generalize wr.alloc (.cells #[.int .i64 q0, .int .i64 q1, .int .i64 q2] 85) = wq at *
        clear c3 k0 k1 k2
        obtain ⟨_, _, _, c3⟩ := b1.d4
        obtain ⟨k0, k1, k2⟩ := bq.d3
        have hbv : w.heap.size < wq.heap.size := b1.lt
        refine wp_region_lex [false, true, false, false, false, false, false, false, false, false, false, false, false, false, false, false, false, false, false] (fun w' => w'.cell? ⟨w.heap.size, 3, none⟩ = some (.slice (some ⟨b, off, none⟩) cs.length c) ∧ w'.cell? ⟨wr.heap.size, 0, none⟩ = some (.int .i64 q0) ∧ w'.cell? ⟨wr.heap.size, 1, none⟩ = some (.int .i64 q1) ∧ w'.cell? ⟨wr.heap.size, 2, none⟩ = some (.int .i64 q2)) (by kernel_rfl) (by kernel_rfl) rfl (by kernel_rfl) (fun _ _ d _ _ h => by cases d <;> exact h) (by exact ⟨c3, k0, k1, k2⟩) ?_
        repeat (first | (refine HL.take (v := ?_) (by rfl) ?_ ?_; rotate_left; (· (intro w hSw; (try dsimp only at hSw); go_simp; try with_reducible rfl)); (try simp only [Act.put, List.setIfInBounds_toArray, List.set_cons_zero, List.set_cons_succ])) | (refine HL.skip (by rfl) ?_; (try simp only [Act.put, List.setIfInBounds_toArray, List.set_cons_zero, List.set_cons_succ])))
        refine HL.call (by rfl) (fun K hK => ?_)
        go_simp
        refine (changeRight_c q0 q1 q2 _).mono ?_; rintro e w1 ⟨rfl, hnx1⟩; rw [HC.out]; have d3 := (hnx1.cell (p := ⟨w.heap.size, 3, none⟩) hbv).trans c3; have l0 := (hnx1.cell (p := ⟨wr.heap.size, 0, none⟩) bq.lt).trans k0; have l1 := (hnx1.cell (p := ⟨wr.heap.size, 1, none⟩) bq.lt).trans k1; have l2 := (hnx1.cell (p := ⟨wr.heap.size, 2, none⟩) bq.lt).trans k2
        go_wp2_with fail
        refine hK.out _ _ (by exact ⟨d3, l0, l1, l2⟩) ?_
        clear hK K
        try simp only [Act.put, List.setIfInBounds_toArray, List.set_cons_zero, List.set_cons_succ]
        repeat (first | (refine HL.take (v := ?_) (by rfl) ?_ ?_; rotate_left; (· (intro w hSw; (try dsimp only at hSw); go_simp; try with_reducible rfl)); (try simp only [Act.put, List.setIfInBounds_toArray, List.set_cons_zero, List.set_cons_succ])) | (refine HL.skip (by rfl) ?_; (try simp only [Act.put, List.setIfInBounds_toArray, List.set_cons_zero, List.set_cons_succ])))
        refine HL.done ?_
        go_wp2
        go_ret
        exact ⟨ret_bool HR.out, hx0.trans (hnxq.drew.trans hnx1)⟩
      | true =>
        have HC := Lib.hid hch
        clear hch
        by_cases hk0 : k = 0
        · have hd0 : decide (0 < (k : Int)) = false := by simp; omega
          have hd1 : decide (0 < k) = false := by simp; omega
          have HO := Lib.hid (show okCh cs k = true by unfold okCh; rw [Hq.out, HC.out, hk0]; rfl)
          clear hk0
          go_wp2_with fail
          have bq := Box.new wr 85 #[.int .i64 q0, .int .i64 q1, .int .i64 q2]
          have hnxq := hnx.alloc (.cells #[.int .i64 q0, .int .i64 q1, .int .i64 q2] 85)
          have b1 := (b0.nx hnx).alloc (.cells #[.int .i64 q0, .int .i64 q1, .int .i64 q2] 85)
          generalize wr.alloc (.cells #[.int .i64 q0, .int .i64 q1, .int .i64 q2] 85) = wq at *
          clear c3 k0 k1 k2
          obtain ⟨_, _, _, c3⟩ := b1.d4
          obtain ⟨k0, k1, k2⟩ := bq.d3
          have hbv : w.heap.size < wq.heap.size := b1.lt
          refine wp_region_lex [false, true, false, false, false, false, false, false, false, false, false, false, false, false, false, false, false, false, false] (fun w' => w'.cell? ⟨w.heap.size, 3, none⟩ = some (.slice (some ⟨b, off, none⟩) cs.length c) ∧ w'.cell? ⟨wr.heap.size, 0, none⟩ = some (.int .i64 q0) ∧ w'.cell? ⟨wr.heap.size, 1, none⟩ = some (.int .i64 q1) ∧ w'.cell? ⟨wr.heap.size, 2, none⟩ = some (.int .i64 q2)) (by kernel_rfl) (by kernel_rfl) rfl (by kernel_rfl) (fun _ _ d _ _ h => by cases d <;> exact h) (by exact ⟨c3, k0, k1, k2⟩) ?_
          repeat (first | (refine HL.take (v := ?_) (by rfl) ?_ ?_; rotate_left; (· (intro w hSw; (try dsimp only at hSw); go_simp; try with_reducible rfl)); (try simp only [Act.put, List.setIfInBounds_toArray, List.set_cons_zero, List.set_cons_succ])) | (refine HL.skip (by rfl) ?_; (try simp only [Act.put, List.setIfInBounds_toArray, List.set_cons_zero, List.set_cons_succ])))
          refine HL.call (by rfl) (fun K hK => ?_)
          go_simp
          refine (changeRight_c q0 q1 q2 _).mono ?_; rintro e w1 ⟨rfl, hnx1⟩; rw [HC.out]; have d3 := (hnx1.cell (p := ⟨w.heap.size, 3, none⟩) hbv).trans c3; have l0 := (hnx1.cell (p := ⟨wr.heap.size, 0, none⟩) bq.lt).trans k0; have l1 := (hnx1.cell (p := ⟨wr.heap.size, 1, none⟩) bq.lt).trans k1; have l2 := (hnx1.cell (p := ⟨wr.heap.size, 2, none⟩) bq.lt).trans k2
          go_wp2_with fail
          refine hK.out _ _ (by exact ⟨d3, l0, l1, l2⟩) ?_
          clear hK K
          try simp only [Act.put, List.setIfInBounds_toArray, List.set_cons_zero, List.set_cons_succ]
          repeat (first | (refine HL.take (v := ?_) (by rfl) ?_ ?_; rotate_left; (· (intro w hSw; (try dsimp only at hSw); go_simp; try with_reducible rfl)); (try simp only [Act.put, List.setIfInBounds_toArray, List.set_cons_zero, List.set_cons_succ])) | (refine HL.skip (by rfl) ?_; (try simp only [Act.put, List.setIfInBounds_toArray, List.set_cons_zero, List.set_cons_succ])))
          refine HL.done ?_
          go_wp2
          go_roundw
          case rel => exact ⟨k + 1, by omega, by go_num, hto.succ HO.out, hnxq.drew.trans hnx1⟩
          case measure => simp [intOf]; omega
        · obtain ⟨j, rfl⟩ : ∃ j, k = j + 1 := ⟨k - 1, by omega⟩
          obtain ⟨b', off', he, _, m0, _, _⟩ := (h.below (hx0.trans hnx) hB).at_ (k := j) (by omega)
          obtain ⟨rfl, rfl⟩ : b = b' ∧ off = off' := by simpa using he
          clear he
          obtain ⟨⟨r0, r1, r2⟩, Hr⟩ : ∃ q, Hid (cs.getD j chZ = q) := ⟨_, rfl⟩
          rw [Hr.out] at m0
          have hb2 : b < wr.heap.size := by have := hx0.size; have := hnx.size; omega
          have hd0 : decide (0 < ((j : Int) + 1)) = true := by simp
          have hd1 : decide (0 < j + 1) = true := by simp
          have hi1 : (0 : Int) ≤ (j : Int) + 1 := by omega
          have hi2 : (j : Int) + 1 < (cs.length : Int) := by omega
          have hi4 : (j : Int) < (cs.length : Int) := by omega
          have hi5 : j < cs.length := by omega
          have hi6 : (0 : Int) ≤ (j : Int) := by omega
          by_cases hlt2 : r0 < q0
          · have hd : decide (q0 ≤ r0) = false := by simp; omega
            have HO := Lib.hid (show okCh cs (j + 1) = true by unfold okCh; rw [Hq.out, HC.out, Nat.add_sub_cancel, Hr.out]; simp [hlt2])
            go_wp2_with fail
            have bq := Box.new wr 85 #[.int .i64 q0, .int .i64 q1, .int .i64 q2]
            have hnxq := hnx.alloc (.cells #[.int .i64 q0, .int .i64 q1, .int .i64 q2] 85)
            have b1 := (b0.nx hnx).alloc (.cells #[.int .i64 q0, .int .i64 q1, .int .i64 q2] 85)
            replace m0 := (((Nx.refl wr).alloc (.cells #[.int .i64 q0, .int .i64 q1, .int .i64 q2] 85)).cell (p := ⟨b, off + j * 3, none⟩) hb2).trans m0
            generalize wr.alloc (.cells #[.int .i64 q0, .int .i64 q1, .int .i64 q2] 85) = wq at *
            clear c3 k0 k1 k2
            obtain ⟨_, _, _, c3⟩ := b1.d4
            obtain ⟨k0, k1, k2⟩ := bq.d3
            have hbv : w.heap.size < wq.heap.size := b1.lt
            have hbw : b < wq.heap.size := by have := bq.lt; omega
            have hi3 : ((j : Int) + 1).toNat = j + 1 := by omega
            have hw1 : IntKind.i64.wrap ((j : Int) + 1 - 1) = (j : Int) := by rw [Int.add_sub_cancel]; exact IntWalk.i64_in _ (by omega)
            have hw2 : IntKind.i64.wrap (j : Int) = (j : Int) := IntWalk.i64_in _ (by omega)
            refine wp_region_lex [false, true, false, false, false, false, false, false, false, false, false, false, false, false, false, false, false, false, false] (fun w' => w'.cell? ⟨w.heap.size, 3, none⟩ = some (.slice (some ⟨b, off, none⟩) cs.length c) ∧ w'.cell? ⟨wr.heap.size, 0, none⟩ = some (.int .i64 q0) ∧ w'.cell? ⟨wr.heap.size, 1, none⟩ = some (.int .i64 q1) ∧ w'.cell? ⟨wr.heap.size, 2, none⟩ = some (.int .i64 q2) ∧ w'.cell? ⟨b, off + j * 3, none⟩ = some (.int .i64 r0)) (by kernel_rfl) (by kernel_rfl) rfl (by kernel_rfl) (fun _ _ d _ _ h => by cases d <;> exact h) (by exact ⟨c3, k0, k1, k2, m0⟩) ?_
            repeat (first | (refine HL.take (v := ?_) (by rfl) ?_ ?_; rotate_left; (· (intro w hSw; (try dsimp only at hSw); go_simp; try with_reducible rfl)); (try simp only [Act.put, List.setIfInBounds_toArray, List.set_cons_zero, List.set_cons_succ])) | (refine HL.skip (by rfl) ?_; (try simp only [Act.put, List.setIfInBounds_toArray, List.set_cons_zero, List.set_cons_succ])))
            refine HL.call (by rfl) (fun K hK => ?_)
            go_simp
            refine (changeRight_c q0 q1 q2 _).mono ?_; rintro e w1 ⟨rfl, hnx1⟩; rw [HC.out]; have d3 := (hnx1.cell (p := ⟨w.heap.size, 3, none⟩) hbv).trans c3; have l0 := (hnx1.cell (p := ⟨wr.heap.size, 0, none⟩) bq.lt).trans k0; have l1 := (hnx1.cell (p := ⟨wr.heap.size, 1, none⟩) bq.lt).trans k1; have l2 := (hnx1.cell (p := ⟨wr.heap.size, 2, none⟩) bq.lt).trans k2; have n0 := (hnx1.cell (p := ⟨b, off + j * 3, none⟩) hbw).trans m0
            go_wp2_with fail
            refine hK.out _ _ (by exact ⟨d3, l0, l1, l2, n0⟩) ?_
            clear hK K
            try simp only [Act.put, List.setIfInBounds_toArray, List.set_cons_zero, List.set_cons_succ]
            repeat (first | (refine HL.take (v := ?_) (by rfl) ?_ ?_; rotate_left; (· (intro w hSw; (try dsimp only at hSw); go_simp; try with_reducible rfl)); (try simp only [Act.put, List.setIfInBounds_toArray, List.set_cons_zero, List.set_cons_succ])) | (refine HL.skip (by rfl) ?_; (try simp only [Act.put, List.setIfInBounds_toArray, List.set_cons_zero, List.set_cons_succ])))
            refine HL.done ?_
            clear hw1 hw2 hi6 hi1 hi2 hi3 hi4 hi5
            go_wp2
            go_roundw
            case rel => exact ⟨j + 1 + 1, by omega, by go_num, hto.succ HO.out, hnxq.drew.trans hnx1⟩
            case measure => simp [intOf]; omega
          · have hd : decide (q0 ≤ r0) = true := by simp; omega
            have HR := Lib.hid (segB_no (f := f) (t := t) (m := m) (cs := cs) (.inr (.inr (.inr (.inr (.inr (.inr (chsB_no hlt (by unfold okCh; rw [Hq.out, Nat.add_sub_cancel, Hr.out]; simp [hlt2]))))))))).symm
            go_wp2_with fail
            have bq := Box.new wr 85 #[.int .i64 q0, .int .i64 q1, .int .i64 q2]
            have hnxq := hnx.alloc (.cells #[.int .i64 q0, .int .i64 q1, .int .i64 q2] 85)
            have b1 := (b0.nx hnx).alloc (.cells #[.int .i64 q0, .int .i64 q1, .int .i64 q2] 85)
            replace m0 := (((Nx.refl wr).alloc (.cells #[.int .i64 q0, .int .i64 q1, .int .i64 q2] 85)).cell (p := ⟨b, off + j * 3, none⟩) hb2).trans m0
            generalize wr.alloc (.cells #[.int .i64 q0, .int .i64 q1, .int .i64 q2] 85) = wq at *
            clear c3 k0 k1 k2
            obtain ⟨_, _, _, c3⟩ := b1.d4
            obtain ⟨k0, k1, k2⟩ := bq.d3
            have hbv : w.heap.size < wq.heap.size := b1.lt
            have hbw : b < wq.heap.size := by have := bq.lt; omega
            have hi3 : ((j : Int) + 1).toNat = j + 1 := by omega
            have hw1 : IntKind.i64.wrap ((j : Int) + 1 - 1) = (j : Int) := by rw [Int.add_sub_cancel]; exact IntWalk.i64_in _ (by omega)
            have hw2 : IntKind.i64.wrap (j : Int) = (j : Int) := IntWalk.i64_in _ (by omega)
            refine wp_region_lex [false, true, false, false, false, false, false, false, false, false, false, false, false, false, false, false, false, false, false] (fun w' => w'.cell? ⟨w.heap.size, 3, none⟩ = some (.slice (some ⟨b, off, none⟩) cs.length c) ∧ w'.cell? ⟨wr.heap.size, 0, none⟩ = some (.int .i64 q0) ∧ w'.cell? ⟨wr.heap.size, 1, none⟩ = some (.int .i64 q1) ∧ w'.cell? ⟨wr.heap.size, 2, none⟩ = some (.int .i64 q2) ∧ w'.cell? ⟨b, off + j * 3, none⟩ = some (.int .i64 r0)) (by kernel_rfl) (by kernel_rfl) rfl (by kernel_rfl) (fun _ _ d _ _ h => by cases d <;> exact h) (by exact ⟨c3, k0, k1, k2, m0⟩) ?_
            repeat (first | (refine HL.take (v := ?_) (by rfl) ?_ ?_; rotate_left; (· (intro w hSw; (try dsimp only at hSw); go_simp; try with_reducible rfl)); (try simp only [Act.put, List.setIfInBounds_toArray, List.set_cons_zero, List.set_cons_succ])) | (refine HL.skip (by rfl) ?_; (try simp only [Act.put, List.setIfInBounds_toArray, List.set_cons_zero, List.set_cons_succ])))
            refine HL.call (by rfl) (fun K hK => ?_)
            go_simp
            refine (changeRight_c q0 q1 q2 _).mono ?_; rintro e w1 ⟨rfl, hnx1⟩; rw [HC.out]; have d3 := (hnx1.cell (p := ⟨w.heap.size, 3, none⟩) hbv).trans c3; have l0 := (hnx1.cell (p := ⟨wr.heap.size, 0, none⟩) bq.lt).trans k0; have l1 := (hnx1.cell (p := ⟨wr.heap.size, 1, none⟩) bq.lt).trans k1; have l2 := (hnx1.cell (p := ⟨wr.heap.size, 2, none⟩) bq.lt).trans k2; have n0 := (hnx1.cell (p := ⟨b, off + j * 3, none⟩) hbw).trans m0
            go_wp2_with fail
            refine hK.out _ _ (by exact ⟨d3, l0, l1, l2, n0⟩) ?_
            clear hK K
            try simp only [Act.put, List.setIfInBounds_toArray, List.set_cons_zero, List.set_cons_succ]
            repeat (first | (refine HL.take (v := ?_) (by rfl) ?_ ?_; rotate_left; (· (intro w hSw; (try dsimp only at hSw); go_simp; try with_reducible rfl)); (try simp only [Act.put, List.setIfInBounds_toArray, List.set_cons_zero, List.set_cons_succ])) | (refine HL.skip (by rfl) ?_; (try simp only [Act.put, List.setIfInBounds_toArray, List.set_cons_zero, List.set_cons_succ])))
            refine HL.done ?_
            clear hw1 hw2 hi6 hi1 hi2 hi3 hi4 hi5
            go_wp2
            go_ret
            exact ⟨ret_bool HR.out, hx0.trans (hnxq.drew.trans hnx1)⟩
    · obtain rfl : k = cs.length := by omega
      have HR := Lib.hid (segB_mk hf0 x3 ht1 H4.out hto.all).symm
      go_wp2
      go_ret
      exact ⟨ret_bool HR.out, hx0.trans hnx⟩
set_option maxHeartbeats 1000000 in
theorem implSegOK_c (f t m : Int) (A : Option Addr) (c B : Nat) (cs : List Chg) (w : World) (h : Chs w B A cs) (hB : B ≤ w.heap.size) (hn : cs.length ≤ 1048576) :
    Calls Tryd.prog 22 #[.agg #[.int .i64 f, .int .i64 t, .int .i64 m, .slice A cs.length c]] w fun e w' => e = .returned (.bool (segB f t m cs)) ∧ Nx w w' := by
  go_enter Tryd.func22, Tryd.ntmps22
  go_wp2_with fail
  refine (segRight_c f t m A c B cs _ (h.below ((Nx.refl w).alloc _) hB) (Nat.le_trans hB (by simp)) hn).mono ?_
  rintro e w1 ⟨rfl, hnx⟩
  go_wp2
  go_ret
  exact ⟨rfl, ((Nx.refl _).alloc _).trans hnx⟩
end Go.Proofs.YtehahodomfbpjaaDoor
