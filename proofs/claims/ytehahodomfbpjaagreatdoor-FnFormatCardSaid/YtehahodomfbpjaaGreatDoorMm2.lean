/-
  Texts of the proof, put together in their order: Sgi, Pln, Fwl, Ers, Dig, Sum, Six, Pdd.
  Conditions: those of each.
-/
import Derived.Test.YtehahodomfbpjaaGreatDoorMm1
import Derived.IntWalk
import Derived.LaidEql
import Derived.Stop.Asserts
import Derived.RowKitTokens
import Derived.Deep.RegionWith
import Derived.Laws.IdiomStrings
import Derived.Laws.Concat
import Derived.Lib.Strings
/- Contracts of Seg.isRight and SegOK, as the program has them. Conditions: the segment can be read, and has at most 1048576 changes. -/
namespace Go.Proofs.YtehahodomfbpjaaGreatDoor
set_option linter.unusedVariables false
set_option maxRecDepth 100000
open Go.RowKit

set_option maxRecDepth 100000 in
set_option maxHeartbeats 4000000 in
theorem segRight_c (f t m : Int) (A : Option Addr) (c B : Nat) (cs : List Chg) (w : World) (h : Chs w B A cs) (hB : B ≤ w.heap.size) (hn : cs.length ≤ 1048576) :
    Calls Tryz.prog 228 #[.agg #[.int .i64 f, .int .i64 t, .int .i64 m, .slice A cs.length c]] w fun e w' => e = .returned (.bool (segB f t m cs)) ∧ Nx w w' := by
  cases x1 : inB 0 999999 f with
  | false =>
    have H1 := Lib.hid x1
    clear x1
    have HR := Lib.hid (segB_no (f := f) (t := t) (m := m) (cs := cs) (.inr (.inr (.inl H1.out)))).symm
    go_enter Tryz.func228, Tryz.ntmps228
    go_wp2_with (first
      | (go_at_call 149; refine (isPosition_c _ _).mono ?_; rintro e w' ⟨rfl, rfl⟩; first | rw [H1.out])
      | (go_at_call 152; refine (isTime_c _ _).mono ?_; rintro e w' ⟨rfl, rfl⟩; fail))
    go_ret
    exact ⟨ret_bool HR.out, (Nx.refl _).alloc _⟩
  | true =>
  have H1 := Lib.hid x1
  obtain ⟨hf0, hf1⟩ := inB_yes x1
  clear x1
  cases x2 : inB 0 999999 t with
  | false =>
    have H2 := Lib.hid x2
    clear x2
    have HR := Lib.hid (segB_no (f := f) (t := t) (m := m) (cs := cs) (.inr (.inr (.inr (.inl H2.out))))).symm
    go_enter Tryz.func228, Tryz.ntmps228
    go_wp2_with (first
      | (go_at_call 149; refine (isPosition_c _ _).mono ?_; rintro e w' ⟨rfl, rfl⟩; first | rw [H1.out] | rw [H2.out])
      | (go_at_call 152; refine (isTime_c _ _).mono ?_; rintro e w' ⟨rfl, rfl⟩; fail))
    go_ret
    exact ⟨ret_bool HR.out, (Nx.refl _).alloc _⟩
  | true =>
  have H2 := Lib.hid x2
  obtain ⟨ht0, ht1⟩ := inB_yes x2
  clear x2
  by_cases x3 : f < t
  case neg =>
    have h3 : decide (t ≤ f) = true := by simp; omega
    have HR := Lib.hid (segB_no (f := f) (t := t) (m := m) (cs := cs) (.inr (.inr (.inr (.inr (.inl (by simp; omega))))))).symm
    go_enter Tryz.func228, Tryz.ntmps228
    go_wp2_with (first
      | (go_at_call 149; refine (isPosition_c _ _).mono ?_; rintro e w' ⟨rfl, rfl⟩; first | rw [H1.out] | rw [H2.out])
      | (go_at_call 152; refine (isTime_c _ _).mono ?_; rintro e w' ⟨rfl, rfl⟩; fail))
    go_ret
    exact ⟨ret_bool HR.out, (Nx.refl _).alloc _⟩
  have h3 : decide (t ≤ f) = false := by simp; omega
  cases x4 : inB 0 999999 m with
  | false =>
    have H4 := Lib.hid x4
    clear x4
    have HR := Lib.hid (segB_no (f := f) (t := t) (m := m) (cs := cs) (.inr (.inr (.inr (.inr (.inr (.inl H4.out))))))).symm
    go_enter Tryz.func228, Tryz.ntmps228
    go_wp2_with (first
      | (go_at_call 149; refine (isPosition_c _ _).mono ?_; rintro e w' ⟨rfl, rfl⟩; first | rw [H1.out] | rw [H2.out])
      | (go_at_call 152; refine (isTime_c _ _).mono ?_; rintro e w' ⟨rfl, rfl⟩; rw [H4.out]))
    go_ret
    exact ⟨ret_bool HR.out, (Nx.refl _).alloc _⟩
  | true =>
  have H4 := Lib.hid x4
  clear x4
  go_enter Tryz.func228, Tryz.ntmps228
  go_wp2_with (first
      | (go_at_call 149; refine (isPosition_c _ _).mono ?_; rintro e w' ⟨rfl, rfl⟩; first | rw [H1.out] | rw [H2.out])
      | (go_at_call 152; refine (isTime_c _ _).mono ?_; rintro e w' ⟨rfl, rfl⟩; rw [H4.out]))
  have b0 := Box.new w 130 #[.int .i64 f, .int .i64 t, .int .i64 m, .slice A cs.length c]
  have hx0 := (Nx.refl w).alloc (.cells #[.int .i64 f, .int .i64 t, .int .i64 m, .slice A cs.length c] 130)
  generalize w.alloc (.cells #[.int .i64 f, .int .i64 t, .int .i64 m, .slice A cs.length c] 130) = W at *
  clear h3
  go_loopw [31] (fun i wr => ∃ k : Nat, k ≤ cs.length ∧ i = .int .i64 k ∧ OkTo cs k ∧ Nx W wr) (fun i _ => cs.length - (intOf i).toNat)
  case atStart => exact ⟨0, Nat.zero_le _, rfl, OkTo.zero _, Nx.refl _⟩
  case round =>
    obtain ⟨k, hk, rfl, hto, hnx⟩ := hrel
    obtain ⟨_, _, _, c3⟩ := (b0.nx hnx).d4
    by_cases hlt : k < cs.length
    · obtain ⟨b, off, rfl, hb, k0, k1, k2⟩ := (h.below (hx0.trans hnx) hB).at_ hlt
      obtain ⟨⟨q0, q1, q2⟩, Hq⟩ : ∃ q, Hid (cs.getD k chZ = q) := ⟨_, rfl⟩
      rw [Hq.out] at k0 k1 k2
      cases hch : chB (q0, q1, q2) with
      | false =>
        have HC := Lib.hid hch
        have HR := Lib.hid (segB_no (f := f) (t := t) (m := m) (cs := cs) (.inr (.inr (.inr (.inr (.inr (.inr (chsB_no hlt (by unfold okCh; rw [Hq.out, hch]; rfl))))))))).symm
        clear hch
        go_wp2_with fail
        have bq := Box.new wr 202 #[.int .i64 q0, .int .i64 q1, .int .i64 q2]
        have hnxq := hnx.alloc (.cells #[.int .i64 q0, .int .i64 q1, .int .i64 q2] 202)
        have b1 := (b0.nx hnx).alloc (.cells #[.int .i64 q0, .int .i64 q1, .int .i64 q2] 202)
        generalize wr.alloc (.cells #[.int .i64 q0, .int .i64 q1, .int .i64 q2] 202) = wq at *
        clear c3 k0 k1 k2
        obtain ⟨_, _, _, c3⟩ := b1.d4
        obtain ⟨k0, k1, k2⟩ := bq.d3
        have hbv : w.heap.size < wq.heap.size := b1.lt
        refine wp_region_lex [false, true, false, false, false, false, false, false, false, false, false, false, false, false, false, false, false, false, false] (fun w' => w'.cell? ⟨w.heap.size, 3, none⟩ = some (.slice (some ⟨b, off, none⟩) cs.length c) ∧ w'.cell? ⟨wr.heap.size, 0, none⟩ = some (.int .i64 q0) ∧ w'.cell? ⟨wr.heap.size, 1, none⟩ = some (.int .i64 q1) ∧ w'.cell? ⟨wr.heap.size, 2, none⟩ = some (.int .i64 q2)) (by kernel_rfl) (by kernel_rfl) rfl (by kernel_rfl) (fun _ _ d _ _ h => by cases d <;> exact h) (by exact ⟨c3, k0, k1, k2⟩) ?_
        repeat (first | (refine HL.take (v := ?_) (by rfl) ?_ ?_; rotate_left; (· (intro w hSw; (try dsimp only at hSw); go_simp; try with_reducible rfl)); (try simp only [Act.put, List.setIfInBounds_toArray, List.set_cons_zero, List.set_cons_succ])) | (refine HL.skip (by rfl) ?_; (try simp only [Act.put, List.setIfInBounds_toArray, List.set_cons_zero, List.set_cons_succ])))
        refine HL.call (by rfl) (fun K hK => ?_)
        go_simp
        refine (changeRight_c q0 q1 q2 _).mono ?_; rintro e w1 ⟨rfl, hnx1⟩; rw [HC.out]; have d3 := (hnx1.cell (p := ⟨w.heap.size, 3, none⟩) hbv).trans c3; have l0 := (hnx1.cell (p := ⟨wr.heap.size, 0, none⟩) bq.lt).trans k0; have l1 := (hnx1.cell (p := ⟨wr.heap.size, 1, none⟩) bq.lt).trans k1; have l2 := (hnx1.cell (p := ⟨wr.heap.size, 2, none⟩) bq.lt).trans k2
        go_wp2_with fail
        refine hK.out _ _ (by exact ⟨d3, l0, l1, l2⟩) ?_
        clear hK K
        try simp only [Act.put, List.setIfInBounds_toArray, List.set_cons_zero, List.set_cons_succ]
        repeat (first | (refine HL.take (v := ?_) (by rfl) ?_ ?_; rotate_left; (· (intro w hSw; (try dsimp only at hSw); go_simp; try with_reducible rfl)); (try simp only [Act.put, List.setIfInBounds_toArray, List.set_cons_zero, List.set_cons_succ])) | (refine HL.skip (by rfl) ?_; (try simp only [Act.put, List.setIfInBounds_toArray, List.set_cons_zero, List.set_cons_succ])))
        refine HL.done ?_
        go_wp2
        go_ret
        exact ⟨ret_bool HR.out, hx0.trans (hnxq.drew.trans hnx1)⟩
      | true =>
        have HC := Lib.hid hch
        clear hch
        by_cases hk0 : k = 0
        · have hd0 : decide (0 < (k : Int)) = false := by simp; omega
          have hd1 : decide (0 < k) = false := by simp; omega
          have HO := Lib.hid (show okCh cs k = true by unfold okCh; rw [Hq.out, HC.out, hk0]; rfl)
          clear hk0
          go_wp2_with fail
          have bq := Box.new wr 202 #[.int .i64 q0, .int .i64 q1, .int .i64 q2]
          have hnxq := hnx.alloc (.cells #[.int .i64 q0, .int .i64 q1, .int .i64 q2] 202)
          have b1 := (b0.nx hnx).alloc (.cells #[.int .i64 q0, .int .i64 q1, .int .i64 q2] 202)
          generalize wr.alloc (.cells #[.int .i64 q0, .int .i64 q1, .int .i64 q2] 202) = wq at *
          clear c3 k0 k1 k2
          obtain ⟨_, _, _, c3⟩ := b1.d4
          obtain ⟨k0, k1, k2⟩ := bq.d3
          have hbv : w.heap.size < wq.heap.size := b1.lt
          refine wp_region_lex [false, true, false, false, false, false, false, false, false, false, false, false, false, false, false, false, false, false, false] (fun w' => w'.cell? ⟨w.heap.size, 3, none⟩ = some (.slice (some ⟨b, off, none⟩) cs.length c) ∧ w'.cell? ⟨wr.heap.size, 0, none⟩ = some (.int .i64 q0) ∧ w'.cell? ⟨wr.heap.size, 1, none⟩ = some (.int .i64 q1) ∧ w'.cell? ⟨wr.heap.size, 2, none⟩ = some (.int .i64 q2)) (by kernel_rfl) (by kernel_rfl) rfl (by kernel_rfl) (fun _ _ d _ _ h => by cases d <;> exact h) (by exact ⟨c3, k0, k1, k2⟩) ?_
          repeat (first | (refine HL.take (v := ?_) (by rfl) ?_ ?_; rotate_left; (· (intro w hSw; (try dsimp only at hSw); go_simp; try with_reducible rfl)); (try simp only [Act.put, List.setIfInBounds_toArray, List.set_cons_zero, List.set_cons_succ])) | (refine HL.skip (by rfl) ?_; (try simp only [Act.put, List.setIfInBounds_toArray, List.set_cons_zero, List.set_cons_succ])))
          refine HL.call (by rfl) (fun K hK => ?_)
          go_simp
          refine (changeRight_c q0 q1 q2 _).mono ?_; rintro e w1 ⟨rfl, hnx1⟩; rw [HC.out]; have d3 := (hnx1.cell (p := ⟨w.heap.size, 3, none⟩) hbv).trans c3; have l0 := (hnx1.cell (p := ⟨wr.heap.size, 0, none⟩) bq.lt).trans k0; have l1 := (hnx1.cell (p := ⟨wr.heap.size, 1, none⟩) bq.lt).trans k1; have l2 := (hnx1.cell (p := ⟨wr.heap.size, 2, none⟩) bq.lt).trans k2
          go_wp2_with fail
          refine hK.out _ _ (by exact ⟨d3, l0, l1, l2⟩) ?_
          clear hK K
          try simp only [Act.put, List.setIfInBounds_toArray, List.set_cons_zero, List.set_cons_succ]
          repeat (first | (refine HL.take (v := ?_) (by rfl) ?_ ?_; rotate_left; (· (intro w hSw; (try dsimp only at hSw); go_simp; try with_reducible rfl)); (try simp only [Act.put, List.setIfInBounds_toArray, List.set_cons_zero, List.set_cons_succ])) | (refine HL.skip (by rfl) ?_; (try simp only [Act.put, List.setIfInBounds_toArray, List.set_cons_zero, List.set_cons_succ])))
          refine HL.done ?_
          go_wp2
          go_roundw
          case rel => exact ⟨k + 1, by omega, by go_num, hto.succ HO.out, hnxq.drew.trans hnx1⟩
          case measure => simp [intOf]; omega
        · obtain ⟨j, rfl⟩ : ∃ j, k = j + 1 := ⟨k - 1, by omega⟩
          obtain ⟨b', off', he, _, m0, _, _⟩ := (h.below (hx0.trans hnx) hB).at_ (k := j) (by omega)
          obtain ⟨rfl, rfl⟩ : b = b' ∧ off = off' := by simpa using he
          clear he
          obtain ⟨⟨r0, r1, r2⟩, Hr⟩ : ∃ q, Hid (cs.getD j chZ = q) := ⟨_, rfl⟩
          rw [Hr.out] at m0
          have hb2 : b < wr.heap.size := by have := hx0.size; have := hnx.size; omega
          have hd0 : decide (0 < ((j : Int) + 1)) = true := by simp
          have hd1 : decide (0 < j + 1) = true := by simp
          have hi1 : (0 : Int) ≤ (j : Int) + 1 := by omega
          have hi2 : (j : Int) + 1 < (cs.length : Int) := by omega
          have hi4 : (j : Int) < (cs.length : Int) := by omega
          have hi5 : j < cs.length := by omega
          have hi6 : (0 : Int) ≤ (j : Int) := by omega
          by_cases hlt2 : r0 < q0
          · have hd : decide (q0 ≤ r0) = false := by simp; omega
            have HO := Lib.hid (show okCh cs (j + 1) = true by unfold okCh; rw [Hq.out, HC.out, Nat.add_sub_cancel, Hr.out]; simp [hlt2])
            go_wp2_with fail
            have bq := Box.new wr 202 #[.int .i64 q0, .int .i64 q1, .int .i64 q2]
            have hnxq := hnx.alloc (.cells #[.int .i64 q0, .int .i64 q1, .int .i64 q2] 202)
            have b1 := (b0.nx hnx).alloc (.cells #[.int .i64 q0, .int .i64 q1, .int .i64 q2] 202)
            replace m0 := (((Nx.refl wr).alloc (.cells #[.int .i64 q0, .int .i64 q1, .int .i64 q2] 202)).cell (p := ⟨b, off + j * 3, none⟩) hb2).trans m0
            generalize wr.alloc (.cells #[.int .i64 q0, .int .i64 q1, .int .i64 q2] 202) = wq at *
            clear c3 k0 k1 k2
            obtain ⟨_, _, _, c3⟩ := b1.d4
            obtain ⟨k0, k1, k2⟩ := bq.d3
            have hbv : w.heap.size < wq.heap.size := b1.lt
            have hbw : b < wq.heap.size := by have := bq.lt; omega
            have hi3 : ((j : Int) + 1).toNat = j + 1 := by omega
            have hw1 : IntKind.i64.wrap ((j : Int) + 1 - 1) = (j : Int) := by rw [Int.add_sub_cancel]; exact IntWalk.i64_in _ (by omega)
            have hw2 : IntKind.i64.wrap (j : Int) = (j : Int) := IntWalk.i64_in _ (by omega)
            refine wp_region_lex [false, true, false, false, false, false, false, false, false, false, false, false, false, false, false, false, false, false, false] (fun w' => w'.cell? ⟨w.heap.size, 3, none⟩ = some (.slice (some ⟨b, off, none⟩) cs.length c) ∧ w'.cell? ⟨wr.heap.size, 0, none⟩ = some (.int .i64 q0) ∧ w'.cell? ⟨wr.heap.size, 1, none⟩ = some (.int .i64 q1) ∧ w'.cell? ⟨wr.heap.size, 2, none⟩ = some (.int .i64 q2) ∧ w'.cell? ⟨b, off + j * 3, none⟩ = some (.int .i64 r0)) (by kernel_rfl) (by kernel_rfl) rfl (by kernel_rfl) (fun _ _ d _ _ h => by cases d <;> exact h) (by exact ⟨c3, k0, k1, k2, m0⟩) ?_
            repeat (first | (refine HL.take (v := ?_) (by rfl) ?_ ?_; rotate_left; (· (intro w hSw; (try dsimp only at hSw); go_simp; try with_reducible rfl)); (try simp only [Act.put, List.setIfInBounds_toArray, List.set_cons_zero, List.set_cons_succ])) | (refine HL.skip (by rfl) ?_; (try simp only [Act.put, List.setIfInBounds_toArray, List.set_cons_zero, List.set_cons_succ])))
            refine HL.call (by rfl) (fun K hK => ?_)
            go_simp
            refine (changeRight_c q0 q1 q2 _).mono ?_; rintro e w1 ⟨rfl, hnx1⟩; rw [HC.out]; have d3 := (hnx1.cell (p := ⟨w.heap.size, 3, none⟩) hbv).trans c3; have l0 := (hnx1.cell (p := ⟨wr.heap.size, 0, none⟩) bq.lt).trans k0; have l1 := (hnx1.cell (p := ⟨wr.heap.size, 1, none⟩) bq.lt).trans k1; have l2 := (hnx1.cell (p := ⟨wr.heap.size, 2, none⟩) bq.lt).trans k2; have n0 := (hnx1.cell (p := ⟨b, off + j * 3, none⟩) hbw).trans m0
            go_wp2_with fail
            refine hK.out _ _ (by exact ⟨d3, l0, l1, l2, n0⟩) ?_
            clear hK K
            try simp only [Act.put, List.setIfInBounds_toArray, List.set_cons_zero, List.set_cons_succ]
            repeat (first | (refine HL.take (v := ?_) (by rfl) ?_ ?_; rotate_left; (· (intro w hSw; (try dsimp only at hSw); go_simp; try with_reducible rfl)); (try simp only [Act.put, List.setIfInBounds_toArray, List.set_cons_zero, List.set_cons_succ])) | (refine HL.skip (by rfl) ?_; (try simp only [Act.put, List.setIfInBounds_toArray, List.set_cons_zero, List.set_cons_succ])))
            refine HL.done ?_
            clear hw1 hw2 hi6 hi1 hi2 hi3 hi4 hi5
            go_wp2
            go_roundw
            case rel => exact ⟨j + 1 + 1, by omega, by go_num, hto.succ HO.out, hnxq.drew.trans hnx1⟩
            case measure => simp [intOf]; omega
          · have hd : decide (q0 ≤ r0) = true := by simp; omega
            have HR := Lib.hid (segB_no (f := f) (t := t) (m := m) (cs := cs) (.inr (.inr (.inr (.inr (.inr (.inr (chsB_no hlt (by unfold okCh; rw [Hq.out, Nat.add_sub_cancel, Hr.out]; simp [hlt2]))))))))).symm
            go_wp2_with fail
            have bq := Box.new wr 202 #[.int .i64 q0, .int .i64 q1, .int .i64 q2]
            have hnxq := hnx.alloc (.cells #[.int .i64 q0, .int .i64 q1, .int .i64 q2] 202)
            have b1 := (b0.nx hnx).alloc (.cells #[.int .i64 q0, .int .i64 q1, .int .i64 q2] 202)
            replace m0 := (((Nx.refl wr).alloc (.cells #[.int .i64 q0, .int .i64 q1, .int .i64 q2] 202)).cell (p := ⟨b, off + j * 3, none⟩) hb2).trans m0
            generalize wr.alloc (.cells #[.int .i64 q0, .int .i64 q1, .int .i64 q2] 202) = wq at *
            clear c3 k0 k1 k2
            obtain ⟨_, _, _, c3⟩ := b1.d4
            obtain ⟨k0, k1, k2⟩ := bq.d3
            have hbv : w.heap.size < wq.heap.size := b1.lt
            have hbw : b < wq.heap.size := by have := bq.lt; omega
            have hi3 : ((j : Int) + 1).toNat = j + 1 := by omega
            have hw1 : IntKind.i64.wrap ((j : Int) + 1 - 1) = (j : Int) := by rw [Int.add_sub_cancel]; exact IntWalk.i64_in _ (by omega)
            have hw2 : IntKind.i64.wrap (j : Int) = (j : Int) := IntWalk.i64_in _ (by omega)
            refine wp_region_lex [false, true, false, false, false, false, false, false, false, false, false, false, false, false, false, false, false, false, false] (fun w' => w'.cell? ⟨w.heap.size, 3, none⟩ = some (.slice (some ⟨b, off, none⟩) cs.length c) ∧ w'.cell? ⟨wr.heap.size, 0, none⟩ = some (.int .i64 q0) ∧ w'.cell? ⟨wr.heap.size, 1, none⟩ = some (.int .i64 q1) ∧ w'.cell? ⟨wr.heap.size, 2, none⟩ = some (.int .i64 q2) ∧ w'.cell? ⟨b, off + j * 3, none⟩ = some (.int .i64 r0)) (by kernel_rfl) (by kernel_rfl) rfl (by kernel_rfl) (fun _ _ d _ _ h => by cases d <;> exact h) (by exact ⟨c3, k0, k1, k2, m0⟩) ?_
            repeat (first | (refine HL.take (v := ?_) (by rfl) ?_ ?_; rotate_left; (· (intro w hSw; (try dsimp only at hSw); go_simp; try with_reducible rfl)); (try simp only [Act.put, List.setIfInBounds_toArray, List.set_cons_zero, List.set_cons_succ])) | (refine HL.skip (by rfl) ?_; (try simp only [Act.put, List.setIfInBounds_toArray, List.set_cons_zero, List.set_cons_succ])))
            refine HL.call (by rfl) (fun K hK => ?_)
            go_simp
            refine (changeRight_c q0 q1 q2 _).mono ?_; rintro e w1 ⟨rfl, hnx1⟩; rw [HC.out]; have d3 := (hnx1.cell (p := ⟨w.heap.size, 3, none⟩) hbv).trans c3; have l0 := (hnx1.cell (p := ⟨wr.heap.size, 0, none⟩) bq.lt).trans k0; have l1 := (hnx1.cell (p := ⟨wr.heap.size, 1, none⟩) bq.lt).trans k1; have l2 := (hnx1.cell (p := ⟨wr.heap.size, 2, none⟩) bq.lt).trans k2; have n0 := (hnx1.cell (p := ⟨b, off + j * 3, none⟩) hbw).trans m0
            go_wp2_with fail
            refine hK.out _ _ (by exact ⟨d3, l0, l1, l2, n0⟩) ?_
            clear hK K
            try simp only [Act.put, List.setIfInBounds_toArray, List.set_cons_zero, List.set_cons_succ]
            repeat (first | (refine HL.take (v := ?_) (by rfl) ?_ ?_; rotate_left; (· (intro w hSw; (try dsimp only at hSw); go_simp; try with_reducible rfl)); (try simp only [Act.put, List.setIfInBounds_toArray, List.set_cons_zero, List.set_cons_succ])) | (refine HL.skip (by rfl) ?_; (try simp only [Act.put, List.setIfInBounds_toArray, List.set_cons_zero, List.set_cons_succ])))
            refine HL.done ?_
            clear hw1 hw2 hi6 hi1 hi2 hi3 hi4 hi5
            go_wp2
            go_ret
            exact ⟨ret_bool HR.out, hx0.trans (hnxq.drew.trans hnx1)⟩
    · obtain rfl : k = cs.length := by omega
      have HR := Lib.hid (segB_mk hf0 x3 ht1 H4.out hto.all).symm
      go_wp2
      go_ret
      exact ⟨ret_bool HR.out, hx0.trans hnx⟩
end Go.Proofs.YtehahodomfbpjaaGreatDoor
/- A region that draws its order, walked by a plan: operations that only read cells that stay as they are (S) are taken in whatever order the plan names; where two may come up, both orders are walked. Conditions: those of each theorem. -/
namespace Go.Proofs.YtehahodomfbpjaaGreatDoor
set_option linter.unusedVariables false
set_option maxRecDepth 100000
open Go.RowKit
/-- A plan: its end; take k; meet k when it alone may come up; where j and k may come up, a plan behind each. -/
inductive Pl where
  | e
  | t (k : Nat) (r : Pl)
  | c (k : Nat) (r : Pl)
  | b (j : Nat) (r1 : Pl) (k : Nat) (r2 : Pl)
  | d (i : Nat) (r0 : Pl) (j : Nat) (r1 : Pl) (k : Nat) (r2 : Pl)
/-- .. with the operations. -/
inductive Ps where
  | e
  | t (o : Oper) (r : Ps)
  | c (o : Oper) (r : Ps)
  | b (oj : Oper) (r1 : Ps) (ok : Oper) (r2 : Ps)
  | d (oi : Oper) (r0 : Ps) (oj : Oper) (r1 : Ps) (ok : Oper) (r2 : Ps)
def noOp : Oper := { dst := none, op := Op.move (Operand.const undef), type := 0, pos := "", after := #[], guard := none }
def psOf (l : List Oper) : Pl → Ps
  | .e => .e
  | .t k r => .t (l.getD k noOp) (psOf l r)
  | .c k r => .c (l.getD k noOp) (psOf l r)
  | .b j r1 k r2 => .b (l.getD j noOp) (psOf l r1) (l.getD k noOp) (psOf l r2)
  | .d i r0 j r1 k r2 => .d (l.getD i noOp) (psOf l r0) (l.getD j noOp) (psOf l r1) (l.getD k noOp) (psOf l r2)
section
variable {P : Program} {ops : Array Oper} {Q : Exit → Act → World → Prop} {S : World → Prop}
def CallStep (P : Program) (ops : Array Oper) (Q : Exit → Act → World → Prop) (S : World → Prop) (o : Oper) (R : Act → World → Prop) (a : Act) (w : World) : Prop :=
  Region.wanted o (yielded ops a.tmps) = true ∧ ∀ K : Act → World → Prop, Hid (∀ a' w', S w' → R a' w' → K a' w') → o.wp P a w K Q
def HP (P : Program) (ops : Array Oper) (Q : Exit → Act → World → Prop) (S : World → Prop) : Ps → Act → World → Prop
  | .e, a, w => Q .normal a w
  | .t o r, a, w => ∃ v, YieldsIf P ops S o v a ∧ HP P ops Q S r (a.put o.dst v) w
  | .c o r, a, w => CallStep P ops Q S o (HP P ops Q S r) a w
  | .b oj r1 ok r2, a, w => CallStep P ops Q S oj (HP P ops Q S r1) a w ∧ CallStep P ops Q S ok (HP P ops Q S r2) a w
  | .d oi r0 oj r1 ok r2, a, w => CallStep P ops Q S oi (HP P ops Q S r0) a w ∧ CallStep P ops Q S oj (HP P ops Q S r1) a w ∧ CallStep P ops Q S ok (HP P ops Q S r2) a w
def steps : Pl → Nat
  | .e => 0
  | .t _ r => steps r + 1
  | .c _ r => steps r + 1
  | .b _ r1 _ _ => steps r1 + 1
  | .d _ r0 _ _ _ _ => steps r0 + 1
/-- What is asked of the region's edges alone. -/
def planB (md : Region.Mode) (ops : Array Oper) : Pl → Array Bool → Bool
  | .e, listed => Region.ready md ops listed == []
  | .t k r, listed => decide (k < ops.size) && (Region.ready md ops listed).contains k && Region.free md ops listed k && planB md ops r (listed.setIfInBounds k true)
  | .c k r, listed => decide (k < ops.size) && (Region.ready md ops listed == [k]) && planB md ops r (listed.setIfInBounds k true)
  | .b j r1 k r2, listed => decide (j < ops.size) && decide (k < ops.size) && (Region.ready md ops listed == [j, k]) && decide (steps r2 = steps r1) && planB md ops r1 (listed.setIfInBounds j true) && planB md ops r2 (listed.setIfInBounds k true)
  | .d i r0 j r1 k r2, listed => decide (i < ops.size) && decide (j < ops.size) && decide (k < ops.size) && (Region.ready md ops listed == [i, j, k]) && decide (steps r1 = steps r0) && decide (steps r2 = steps r0) && planB md ops r0 (listed.setIfInBounds i true) && planB md ops r1 (listed.setIfInBounds j true) && planB md ops r2 (listed.setIfInBounds k true)
theorem HP.take {o : Oper} {r : Ps} {a : Act} {w : World} {v : Value} (hw : Region.wanted o (yielded ops a.tmps) = true) (h : ∀ w, S w → (execOp a.eval o).run P w = .ok (.value v) w)
    (hr : HP P ops Q S r (a.put o.dst v) w) : HP P ops Q S (.t o r) a w := ⟨v, .inl ⟨hw, h⟩, hr⟩
theorem HP.skip {o : Oper} {r : Ps} {a : Act} {w : World} (hw : Region.wanted o (yielded ops a.tmps) = false) (hr : HP P ops Q S r (a.put o.dst undef) w) : HP P ops Q S (.t o r) a w := ⟨undef, .inr ⟨hw, rfl⟩, hr⟩
theorem HP.call {o : Oper} {r : Ps} {a : Act} {w : World} (h : CallStep P ops Q S o (HP P ops Q S r) a w) : HP P ops Q S (.c o r) a w := h
theorem HP.both {oj ok : Oper} {r1 r2 : Ps} {a : Act} {w : World} (h1 : CallStep P ops Q S oj (HP P ops Q S r1) a w) (h2 : CallStep P ops Q S ok (HP P ops Q S r2) a w) : HP P ops Q S (.b oj r1 ok r2) a w := ⟨h1, h2⟩
theorem HP.done {a : Act} {w : World} (h : Q .normal a w) : HP P ops Q S .e a w := h
theorem CallStep.mk {o : Oper} {R : Act → World → Prop} {a : Act} {w : World} (hw : Region.wanted o (yielded ops a.tmps) = true)
    (h : ∀ K : Act → World → Prop, Hid (∀ a' w', S w' → R a' w' → K a' w') → o.wp P a w K Q) : CallStep P ops Q S o R a w := ⟨hw, h⟩
theorem CallStep.op {k : Nat} {o : Oper} {R K : Act → World → Prop} {a : Act} {w : World} (h : CallStep P ops Q S o R a w) (h0 : ops[k]? = some o) (hK : ∀ a' w', S w' → R a' w' → K a' w') : wpOp P ops Q k K a w := by
  unfold wpOp
  simp only [h0, h.1, if_true]
  exact .inl (h.2 _ (Lib.hid hK))
theorem getD_op {l : List Oper} {k : Nat} (h : k < l.toArray.size) : l.toArray[k]? = some (l.getD k noOp) := by
  have h' : k < l.length := by simpa using h
  rw [List.getElem?_toArray, List.getD_eq_getElem?_getD, List.getElem?_eq_getElem h']; rfl
theorem HP.any {md : Region.Mode} {l : List Oper} (hs : Region.noSelect l.toArray = true) (hQ : ∀ c a d v w, Q (.panic c) (Act.put a d v) w → Q (.panic c) a w) :
    ∀ (ks : Pl) (listed : Array Bool) (a : Act) (w : World), planB md l.toArray ks listed = true → S w → HP P l.toArray Q S (psOf l ks) a w → wpAnyH P md l.toArray Q S (steps ks) listed a w
  | .e, listed, a, w, hB, _, h => wpAnyH_done (by simpa [planB] using hB) h _
  | .t k r, listed, a, w, hB, hS, h => by
    simp only [planB, Bool.and_eq_true, decide_eq_true_eq] at hB
    obtain ⟨⟨⟨hk, hr⟩, hf⟩, hB'⟩ := hB
    obtain ⟨v, hy, hK⟩ := h
    exact wpAnyH_take (getD_op hk) hs hf hr (fun c a w => hQ c a _ _ w) hy hS (HP.any hs hQ r _ _ w hB' hS hK)
  | .c k r, listed, a, w, hB, hS, h => by
    simp only [planB, Bool.and_eq_true, decide_eq_true_eq, beq_iff_eq] at hB
    obtain ⟨⟨hk, hr⟩, hB'⟩ := hB
    refine wpAnyH_all hr (by simp) fun i hi => ?_
    obtain rfl : i = k := by simpa using hi
    exact CallStep.op h (getD_op hk) fun a' w' hS' h' => ⟨hS', HP.any hs hQ r _ a' w' hB' hS' h'⟩
  | .b j r1 k r2, listed, a, w, hB, hS, h => by
    simp only [planB, Bool.and_eq_true, decide_eq_true_eq, beq_iff_eq] at hB
    obtain ⟨⟨⟨⟨⟨hj, hk⟩, hr⟩, hst⟩, hB1⟩, hB2⟩ := hB
    refine wpAnyH_all hr (by simp) fun i hi => ?_
    rcases (show i = j ∨ i = k by simpa using hi) with rfl | rfl
    · exact CallStep.op h.1 (getD_op hj) fun a' w' hS' h' => ⟨hS', HP.any hs hQ r1 _ a' w' hB1 hS' h'⟩
    · exact CallStep.op h.2 (getD_op hk) fun a' w' hS' h' => ⟨hS', by have := HP.any hs hQ r2 _ a' w' hB2 hS' h'; rw [hst] at this; exact this⟩
  | .d i r0 j r1 k r2, listed, a, w, hB, hS, h => by
    simp only [planB, Bool.and_eq_true, decide_eq_true_eq, beq_iff_eq] at hB
    obtain ⟨⟨⟨⟨⟨⟨⟨⟨hi, hj⟩, hk⟩, hr⟩, hst1⟩, hst2⟩, hB0⟩, hB1⟩, hB2⟩ := hB
    refine wpAnyH_all hr (by simp) fun x hx => ?_
    rcases (show x = i ∨ x = j ∨ x = k by simpa using hx) with rfl | rfl | rfl
    · exact CallStep.op h.1 (getD_op hi) fun a' w' hS' h' => ⟨hS', HP.any hs hQ r0 _ a' w' hB0 hS' h'⟩
    · exact CallStep.op h.2.1 (getD_op hj) fun a' w' hS' h' => ⟨hS', by have := HP.any hs hQ r1 _ a' w' hB1 hS' h'; rw [hst1] at this; exact this⟩
    · exact CallStep.op h.2.2 (getD_op hk) fun a' w' hS' h' => ⟨hS', by have := HP.any hs hQ r2 _ a' w' hB2 hS' h'; rw [hst2] at this; exact this⟩
/-- The region. -/
theorem wp_region_plan {id : Nat} {a : Act} {w : World} {l : List Oper} (ks : Pl) (S : World → Prop) (hm : P.follows .mixedOrders = true) (hs : Region.noSelect l.toArray = true) (hl : l.length = steps ks)
    (hB : planB .any l.toArray ks (Array.replicate l.toArray.size false) = true) (hQ : ∀ c a d v w, Q (.panic c) (Act.put a d v) w → Q (.panic c) a w) (hS : S w.drew)
    (h : HP P l.toArray Q S (psOf l ks) a w.drew) : (Code.region id l.toArray true).wp P Q a w := by
  refine wp_region_held_drew (S := S) hm hS fun _ => ?_
  have := HP.any (md := .any) hs hQ ks (Array.replicate l.toArray.size false) a w.drew hB hS h
  have e : l.toArray.size = steps ks := by simpa using hl
  rw [e]
  rw [e] at this
  exact this
end
end Go.Proofs.YtehahodomfbpjaaGreatDoor
/- Contracts of the program's contentCode, turnCode, Forward and Backward. Conditions: the list and the segment can be read, and hold at most 1048576 elements each. -/
namespace Go.Proofs.YtehahodomfbpjaaGreatDoor
set_option linter.unusedVariables false
set_option maxRecDepth 100000
open Go.RowKit

/-- The code of a content and of what is asked beside it. -/
def askC (xs : List Int) (ok : Bool) : Int := if 4096 < xs.length then 2 else if contB xs && ok then 0 else 1
/-- A content that was turned, and its code. -/
def RetIC (w : World) (ys : List Int) (cd : Int) (e : Ending) (w' : World) : Prop := ∃ (A : Option Addr) (c : Nat), e = .returned (.tuple #[.slice A ys.length c, .int .i64 cd]) ∧ SlI w' w.heap.size A ys ∧ Nx w w'
theorem askC_long {xs : List Int} (h : 4096 < xs.length) (ok : Bool) : askC xs ok = 2 ∧ contB xs = false := ⟨by unfold askC; rw [if_pos h], contB_len (by omega)⟩
theorem askC_short {xs : List Int} (h : ¬ 4096 < xs.length) {a b : Bool} (ha : contB xs = a) (hb : b = b) : askC xs b = if a && b then 0 else 1 := by unfold askC; rw [if_neg h, ha]
set_option maxHeartbeats 1000000 in
theorem contentCode_c (A : Option Addr) (c B : Nat) (xs : List Int) (w : World) (h : Ins w B A xs) (hB : B ≤ w.heap.size) (hn : xs.length ≤ 1048576) :
    Calls Tryz.prog 87 #[.slice A xs.length c] w fun e w' => e = .returned (.int .i64 (askC xs true)) ∧ Nx w w' := by
  by_cases hl : 4096 < xs.length
  · have hd : decide (4096 < (xs.length : Int)) = true := by simp; omega
    have HR := Lib.hid (askC_long hl true).1.symm
    go_enter Tryz.func87, Tryz.ntmps87
    go_wp2
    go_ret
    exact ⟨ret_int HR.out, Nx.refl _⟩
  have hd : decide (4096 < (xs.length : Int)) = false := by simp; omega
  cases hc : contB xs <;> (
    have HC := Lib.hid hc
    have HR := Lib.hid (askC_short hl hc (rfl : true = true)).symm
    clear hc
    go_enter Tryz.func87, Tryz.ntmps87
    go_wp2_with fail
    refine (implContentOK_c A c B xs _ h hB hn).mono ?_
    rintro e w1 ⟨rfl, hx1⟩
    rw [HC.out]
    go_wp2
    go_ret
    exact ⟨ret_int HR.out, hx1⟩)

end Go.Proofs.YtehahodomfbpjaaGreatDoor
/- Contracts of errors.Is where both are errors of errors.New's make. Conditions: the errors' blocks are known. -/
namespace Go.Proofs.YtehahodomfbpjaaGreatDoor
set_option linter.unusedVariables false
set_option maxRecDepth 100000
open Go.RowKit Go.Extern.Stop Go.Stop Go.Extern

end Go.Proofs.YtehahodomfbpjaaGreatDoor
/- Numbers' digits: what they are, and the contract of the model's l00Digits. Conditions: the number is from 0 to 999999. -/
namespace Go.Proofs.YtehahodomfbpjaaGreatDoor
set_option linter.unusedVariables false
set_option maxRecDepth 100000
open Go.RowKit

/-- The digits of a number. -/
def digs (n : Nat) : List UInt8 := if n < 10 then [UInt8.ofNat (48 + n)] else digs (n / 10) ++ [UInt8.ofNat (48 + n % 10)]
/-- .. just so many. -/
def pad : Nat → Nat → List UInt8
  | 0, _ => []
  | k + 1, n => pad k (n / 10) ++ [UInt8.ofNat (48 + n % 10)]
theorem pad_len (k n : Nat) : (pad k n).length = k := by
  induction k generalizing n with
  | zero => rfl
  | succ k ih => simp [pad, ih]
theorem pad_zero (k : Nat) : pad k 0 = List.replicate k 48 := by
  induction k with
  | zero => rfl
  | succ k ih =>
    show pad k 0 ++ [48] = _
    rw [ih, List.replicate_succ']
theorem digs_lt {n : Nat} (h : n < 10) : digs n = [UInt8.ofNat (48 + n)] := by rw [digs, if_pos h]
theorem digs_ge {n : Nat} (h : ¬ n < 10) : digs n = digs (n / 10) ++ [UInt8.ofNat (48 + n % 10)] := by rw [digs, if_neg h]
theorem digs_pad (k : Nat) : ∀ n, n < 10 ^ (k + 1) → (digs n).length ≤ k + 1 ∧ List.replicate (k + 1 - (digs n).length) 48 ++ digs n = pad (k + 1) n := by
  induction k with
  | zero =>
    intro n h
    have h' : n < 10 := by simpa using h
    rw [digs_lt h']
    refine ⟨by simp, ?_⟩
    show _ = [] ++ [UInt8.ofNat (48 + n % 10)]
    rw [Nat.mod_eq_of_lt h']; simp
  | succ k ih =>
    intro n h
    by_cases h' : n < 10
    · rw [digs_lt h']
      refine ⟨by simp, ?_⟩
      show _ = pad (k + 1) (n / 10) ++ [UInt8.ofNat (48 + n % 10)]
      rw [Nat.mod_eq_of_lt h', Nat.div_eq_of_lt h', pad_zero]; simp
    · have h2 : n / 10 < 10 ^ (k + 1) := by
        rw [Nat.pow_succ] at h
        omega
      obtain ⟨hl, he⟩ := ih (n / 10) h2
      rw [digs_ge h']
      refine ⟨by simp; omega, ?_⟩
      show _ = pad (k + 1) (n / 10) ++ [UInt8.ofNat (48 + n % 10)]
      rw [← he, ← List.append_assoc]
      congr 2
      simp
theorem digs_len {n : Nat} (h : n ≤ 999999) : 1 ≤ (digs n).length ∧ (digs n).length ≤ 6 := by
  refine ⟨?_, (digs_pad 5 n (by omega)).1⟩
  by_cases h' : n < 10
  · rw [digs_lt h']; simp
  · rw [digs_ge h']; simp

theorem cv_one (y : Int) (hy : 0 ≤ y) (hy2 : y < 256) (W : World) (b : Nat) (h : W.cell? ⟨b, 0, none⟩ = some (.int .u8 y)) :
    (convert 58 9 (.slice (some ⟨b, 0, none⟩) 1 1)).run Tryz.prog W = .ok (.string ⟨#[UInt8.ofNat y.toNat]⟩) W := by
  have := run_convert_bytes_back (P := Tryz.prog) W 58 9 5 ⟨b, 0, none⟩ 1 [UInt8.ofNat y.toNat] Tryz.underlying58 Tryz.underlying5 Tryz.underlying9 (fun j hj => by
    obtain rfl : j = 0 := by simpa using hj
    have e : ((UInt8.ofNat y.toNat).toNat : Int) = y := by
      rw [UInt8.toNat_ofNat']
      omega
    simp only [List.getElem_cons_zero, e]
    simpa [Addr.add] using h)
  simpa using this
theorem Nx.cells {a w : World} (h : Nx a w) : ∀ b o, b < a.heap.size → w.cell? ⟨b, o, none⟩ = a.cell? ⟨b, o, none⟩ := fun b o hb => h.cell (p := ⟨b, o, none⟩) hb
theorem ret_str {a b : ByteArray} (h : a = b) : Ending.returned (.string a) = .returned (.string b) := by rw [h]

set_option maxRecDepth 100000 in
set_option maxHeartbeats 1000000 in
theorem l00Digits_c : ∀ (n : Nat) (w : World), n ≤ 999999 → Calls Tryz.prog 192 #[.int .i64 n] w fun e w' => e = .returned (.string ⟨(digs n).toArray⟩) ∧ Nx w w' := by
  intro n
  induction n using Nat.strongRecOn with
  | ind n ih =>
    intro w hn
    by_cases h' : n < 10
    · have hd : decide ((n : Int) < 10) = true := by simp; omega
      have hz : ((n : Int) == -9223372036854775808) = false := beq_eq_false_iff_ne.2 (by omega)
      have HD := Lib.hid (digs_lt h')
      have hcv := cv_one (48 + n) (by omega) (by omega)
      go_enter Tryz.func192, Tryz.ntmps192
      go_wp2
      go_ret
      refine ⟨ret_str ?_, (Nx.refl _).alloc _⟩
      rw [HD.out]
    · have hd : decide ((n : Int) < 10) = false := by simp; omega
      have hz : ((n : Int) == -9223372036854775808) = false := beq_eq_false_iff_ne.2 (by omega)
      have HD := Lib.hid (digs_ge h')
      obtain ⟨q, hq⟩ : ∃ q, n / 10 = q := ⟨_, rfl⟩
      obtain ⟨d, hd'⟩ : ∃ d, n % 10 = d := ⟨_, rfl⟩
      rw [hq, hd'] at HD
      have hd10 : d < 10 := by omega
      have ihq := ih q (by omega)
      have hq6 : q ≤ 999999 := by omega
      obtain ⟨hl1, hl2⟩ := digs_len hq6
      have hcv := cv_one (48 + d) (by omega) (by omega)
      have e1 : IntKind.i64.wrap ((n : Int) / 10) = (q : Int) := by
        rw [show (n : Int) / 10 = (q : Int) by omega]; exact IntWalk.i64_in _ (by omega)
      have e3 : (n : Int).tmod 10 = (d : Int) := by rw [Int.tmod_eq_emod_of_nonneg (by omega)]; omega
      have e4 : IntKind.i64.wrap (48 + (d : Int)) = 48 + d := IntWalk.i64_in _ (by omega)
      have e5 : IntKind.u8.wrap (48 + (d : Int)) = 48 + d := IntWalk.u8_in _ (by omega)
      clear hq hd' ih
      go_enter Tryz.func192, Tryz.ntmps192
      go_wp2_with fail
      go_region_with (go_at_call 192; refine (ihq _ hq6).mono ?_; rintro e w1 ⟨rfl, hnx1⟩; have hcl := hnx1.cells)
      all_goals
        clear e1 e3 e4 e5 hcv ihq hcl
        go_wp2
        go_ret
        refine ⟨ret_str ?_, ?_⟩
        · rw [HD.out, ByteArray.mk_append_mk]; simp
        · first
            | exact (Nx.drew_r hnx1).alloc _
            | exact ((Nx.refl w).alloc _).drew.trans hnx1
            | exact (((Nx.refl w).alloc _).drew.trans hnx1).drew
end Go.Proofs.YtehahodomfbpjaaGreatDoor
/- Contracts of SumOf, as the model and as the program have it: both answer the same number of every text. Conditions: the text is of at most maxLen bytes (what the model lets a text have). -/
namespace Go.Proofs.YtehahodomfbpjaaGreatDoor
set_option linter.unusedVariables false
set_option maxRecDepth 100000
open Go.RowKit

def sumL (l : List UInt8) : Int := l.foldl (fun n c => (n * 31 + (c.toNat : Int)) % 997) 7
theorem sumL_snoc (l : List UInt8) (c : UInt8) : sumL (l ++ [c]) = (sumL l * 31 + (c.toNat : Int)) % 997 := by
  unfold sumL; rw [List.foldl_append]; rfl
theorem sumL_bd (l : List UInt8) : 0 ≤ sumL l ∧ sumL l ≤ 996 := by
  rcases List.eq_nil_or_concat l with rfl | ⟨l', c, rfl⟩
  · exact ⟨by decide, by decide⟩
  · rw [List.concat_eq_append, sumL_snoc]; omega
/-- A text's sum. -/
def sumS (s : ByteArray) : Int := sumL s.data.toList
def sumOfS (s : ByteArray) : Int := if s.size ≤ 65536 then sumS s else 0
theorem sumOfS_yes {s : ByteArray} (h : s.size ≤ 65536) : sumS s = sumOfS s := by unfold sumOfS; rw [if_pos h]
theorem sumOfS_no {s : ByteArray} (h : ¬ s.size ≤ 65536) : 0 = sumOfS s := by unfold sumOfS; rw [if_neg h]
theorem take_snoc (s : ByteArray) (k : Nat) (h : k < s.size) : s.data.toList.take (k + 1) = s.data.toList.take k ++ [s[k]] := by
  rw [List.take_succ_eq_append_getElem (by simpa using h)]; rfl
def sumTo (s : ByteArray) (k : Nat) : Int := sumL (s.data.toList.take k)
theorem sumTo_bd (s : ByteArray) (k : Nat) : 0 ≤ sumTo s k ∧ sumTo s k ≤ 996 := sumL_bd _
theorem sumTo_succ (s : ByteArray) (k : Nat) (h : k < s.size) : sumTo s (k + 1) = (sumTo s k * 31 + (s[k].toNat : Int)) % 997 := by
  unfold sumTo; rw [take_snoc s k h, sumL_snoc]
theorem sumTo_all (s : ByteArray) : sumTo s s.size = sumS s := by
  unfold sumTo sumS; rw [List.take_of_length_le (by simp)]

set_option maxHeartbeats 400000 in
theorem l02Sum_c (s : ByteArray) (w : World) (hs : s.size ≤ maxLen) : Calls Tryz.prog 227 #[.string s] w fun e w' => e = .returned (.int .i64 (sumS s)) ∧ w = w' := by
  unfold maxLen at hs
  go_enter Tryz.func227, Tryz.ntmps227
  go_wp2
  go_loop [3, 4] (fun n i => ∃ k : Nat, k ≤ s.size ∧ i = .int .i64 k ∧ n = .int .i64 (sumTo s k)) (fun _ i => s.size - (intOf i).toNat)
  case atStart => exact ⟨0, Nat.zero_le _, rfl, rfl⟩
  case round =>
    obtain ⟨k, hk, rfl, rfl⟩ := hrel
    obtain ⟨h1, h2⟩ := sumTo_bd s k
    by_cases hlt : k < s.size
    · have HS := Lib.hid (sumTo_succ s k hlt)
      have hc1 : (s[k].toNat : Int) ≤ 255 := by have := s[k].toNat_lt; omega
      go_wp2
      go_round
      case rel => exact ⟨k + 1, by omega, by go_num, by rw [HS.out]⟩
      case measure => simp [intOf]; omega
    · obtain rfl : k = s.size := by omega
      go_wp2
      go_ret
      exact ⟨ret_int (sumTo_all s), rfl⟩

set_option maxHeartbeats 400000 in
theorem implSumOf_c (s : ByteArray) (w : World) (hs : s.size ≤ maxLen) : Calls Tryz.prog 164 #[.string s] w fun e w' => e = .returned (.int .i64 (sumOfS s)) ∧ w = w' := by
  unfold maxLen at hs
  by_cases hb : s.size ≤ 65536
  case neg =>
    have hb' : decide (65536 < (s.size : Int)) = true := by simp; omega
    have HF := Lib.hid (sumOfS_no hb)
    go_enter Tryz.func164, Tryz.ntmps164
    go_wp2
    go_ret
    exact ⟨ret_int HF.out, rfl⟩
  have hb' : decide (65536 < (s.size : Int)) = false := by simp; omega
  have HF := Lib.hid (sumOfS_yes hb)
  go_enter Tryz.func164, Tryz.ntmps164
  go_wp2
  go_loop [3, 4] (fun n i => ∃ k : Nat, k ≤ s.size ∧ i = .int .i64 k ∧ n = .int .i64 (sumTo s k)) (fun _ i => s.size - (intOf i).toNat)
  case atStart => exact ⟨0, Nat.zero_le _, rfl, rfl⟩
  case round =>
    obtain ⟨k, hk, rfl, rfl⟩ := hrel
    obtain ⟨h1, h2⟩ := sumTo_bd s k
    by_cases hlt : k < s.size
    · have HS := Lib.hid (sumTo_succ s k hlt)
      have hc1 : (s[k].toNat : Int) ≤ 255 := by have := s[k].toNat_lt; omega
      go_wp2
      go_round
      case rel => exact ⟨k + 1, by omega, by go_num, by rw [HS.out, Int.mul_comm]⟩
      case measure => simp [intOf]; omega
    · obtain rfl : k = s.size := by omega
      go_wp2
      go_ret
      exact ⟨ret_int ((sumTo_all s).trans HF.out), rfl⟩
end Go.Proofs.YtehahodomfbpjaaGreatDoor
/- Contracts of the model's l02Six, l02Seal and l02Join: numbers' six digits, the sum's three behind a text, many numbers. Conditions: the numbers are from 0 to 999999. -/
namespace Go.Proofs.YtehahodomfbpjaaGreatDoor
set_option linter.unusedVariables false
set_option maxRecDepth 100000
open Go.RowKit

def sizeOfStr : Value → Nat | .string s => s.size | _ => 0
theorem ba_eq {s : ByteArray} {l : List UInt8} (h : s.data.toList = l) : s = ⟨l.toArray⟩ := by
  subst h; cases s; simp
theorem ba_app (s t : ByteArray) : (s ++ t).data.toList = s.data.toList ++ t.data.toList := by
  cases s; cases t; rw [ByteArray.mk_append_mk]
theorem ba_size (s : ByteArray) : s.size = s.data.toList.length := by rw [Array.length_toList]; rfl

theorem six_less {s t : ByteArray} (h : s.size < 6) (ht : 0 < t.size := by decide) : 6 - sizeOfStr (.string (t ++ s)) < 6 - sizeOfStr (.string s) := by
  show 6 - (t ++ s).size < 6 - s.size
  rw [ByteArray.size_append]
  omega
set_option maxHeartbeats 1000000 in
/-- A number's six digits, as the model tells them. -/
theorem l02Six_c (n : Nat) (w : World) (hn : n ≤ 999999) : Calls Tryz.prog 169 #[.int .i64 n] w fun e w' => e = .returned (.string ⟨(pad 6 n).toArray⟩) ∧ Nx w w' := by
  obtain ⟨hl, he⟩ := digs_pad 5 n (by omega)
  obtain ⟨hl1, _⟩ := digs_len hn
  have HE := Lib.hid he
  clear he
  go_enter Tryz.func169, Tryz.ntmps169
  go_wp2_with fail
  refine (l00Digits_c n _ hn).mono ?_
  rintro e w1 ⟨rfl, hnx1⟩
  obtain ⟨s0, Hs0⟩ : ∃ s : ByteArray, Hid ((⟨(digs n).toArray⟩ : ByteArray) = s) := ⟨_, rfl⟩
  rw [Hs0.out]
  go_wp2
  go_loop [3] (fun v => ∃ (s : ByteArray) (k : Nat), v = .string s ∧ k + (digs n).length ≤ 6 ∧ s.size ≤ 6 ∧ Hid (s.data.toList = List.replicate k 48 ++ digs n)) (fun v => 6 - sizeOfStr v)
  case atStart =>
    refine ⟨s0, 0, rfl, by omega, ?_, Lib.hid ?_⟩
    · rw [← Hs0.out]; simpa [ByteArray.size] using hl
    · rw [← Hs0.out]; simp
  case round =>
    obtain ⟨s, k, rfl, hk, hs6, HS⟩ := hrel
    have hsz : s.size = k + (digs n).length := by rw [ba_size, HS.out]; simp
    by_cases hlt : s.size < 6
    · have hd : decide ((s.size : Int) < 6) = true := by simp; omega
      have Hsz := Lib.hid hsz
      clear hsz
      go_wp2
      go_round
      case rel =>
        refine ⟨_, k + 1, rfl, by have := Hsz.out; omega, ?_, Lib.hid ?_⟩
        · rw [ba_size, ba_app]; simp; have := ba_size s; simp at this; omega
        · rw [ba_app, HS.out]; simp [List.replicate_succ]
      case measure => exact six_less hlt
    · have hd : decide ((s.size : Int) < 6) = false := by simp; omega
      have hk6 : k = 6 - (digs n).length := by omega
      have HK := Lib.hid hk6
      clear hsz hk6
      go_wp2
      go_ret
      refine ⟨ret_str (ba_eq ?_), hnx1⟩
      rw [HS.out, HK.out, HE.out]

/-- The sum's three digits. -/
def sumD (s : ByteArray) : List UInt8 := pad 3 (sumS s).toNat
theorem pad_drop (j k n : Nat) : (pad (k + j) n).drop k = pad j n ∧ True := by
  induction j generalizing n with
  | zero => refine ⟨?_, trivial⟩; show (pad k n).drop k = []; rw [List.drop_of_length_le (by rw [pad_len]; omega)]
  | succ j ih =>
    refine ⟨?_, trivial⟩
    show (pad (k + j) (n / 10) ++ [_]).drop k = pad j (n / 10) ++ [_]
    rw [List.drop_append_of_le_length (by rw [pad_len]; omega), (ih (n / 10)).1]
set_option maxHeartbeats 1000000 in
/-- A text and its sum behind, as the model tells it. -/
theorem l02Seal_c (s : ByteArray) (w : World) (hs : s.size ≤ 1048576) : Calls Tryz.prog 168 #[.string s] w fun e w' => e = .returned (.string (s ++ ⟨(sumD s).toArray⟩)) ∧ Nx w w' := by
  obtain ⟨h0, h1⟩ := sumL_bd s.data.toList
  obtain ⟨q, hq⟩ : ∃ q : Nat, sumS s = (q : Int) := ⟨(sumS s).toNat, by have : 0 ≤ sumS s := h0; omega⟩
  have hq6 : q ≤ 996 := by have : sumS s ≤ 996 := h1; omega
  have HD := Lib.hid (show sumD s = pad 3 q by unfold sumD; rw [hq]; rfl)
  have HQ := Lib.hid hq
  clear hq
  go_enter Tryz.func168, Tryz.ntmps168
  go_wp2_with fail
  refine (l02Sum_c s _ (by unfold maxLen; omega)).mono ?_
  rintro e w1 ⟨rfl, rfl⟩
  rw [HQ.out]
  go_wp2_with fail
  refine (l02Six_c q _ (by omega)).mono ?_
  rintro e w1 ⟨rfl, hnx1⟩
  obtain ⟨d, Hd⟩ : ∃ d : ByteArray, Hid ((⟨(pad 6 q).toArray⟩ : ByteArray) = d) := ⟨_, rfl⟩
  have hd6 : d.size = 6 := by rw [← Hd.out]; simp [ByteArray.size, pad_len]
  rw [Hd.out]
  have hd7 : 3 ≤ d.size := by omega
  have hd8 : d.size ≤ 6 := by omega
  have Hd6 := Lib.hid hd6
  clear hd6
  go_wp2
  go_ret
  refine ⟨ret_str ?_, hnx1⟩
  congr 1
  refine ba_eq ?_
  rw [Lib.extract_data, Hd6.out, HD.out, ← Hd.out]
  have h6 := (pad_drop 3 3 q).1
  simpa [List.take_of_length_le, pad_len] using h6

/-- Many numbers' digits. -/
def padAll (ns : List Nat) : List UInt8 := ns.flatMap (pad 6)
theorem padAll_len (ns : List Nat) : (padAll ns).length = ns.length * 6 := by
  unfold padAll
  induction ns with
  | nil => rfl
  | cons a l ih => simp [pad_len, ih]; omega
def intAt (ns : List Nat) (i : Nat) : Value := .int .i64 (ns.getD i 0 : Nat)
def All6 (ns : List Nat) : Prop := ∀ k, k < ns.length → ns.getD k 0 ≤ 999999
def padTo (ns : List Nat) (k : Nat) : List UInt8 := padAll (ns.take k)
theorem padTo_len (ns : List Nat) (k : Nat) (h : k ≤ ns.length) : (padTo ns k).length = k * 6 := by
  unfold padTo; rw [padAll_len, List.length_take, Nat.min_eq_left h]
theorem padTo_succ (ns : List Nat) (k : Nat) (h : k < ns.length) : padTo ns (k + 1) = padTo ns k ++ pad 6 (ns.getD k 0) := by
  unfold padTo padAll
  rw [List.take_succ_eq_append_getElem h, List.flatMap_append, List.getD_eq_getElem?_getD, List.getElem?_eq_getElem h]; simp
theorem padTo_all (ns : List Nat) : padTo ns ns.length = padAll ns := by unfold padTo; rw [List.take_length]
set_option maxHeartbeats 1000000 in
/-- Many numbers, as the model tells them. -/
theorem l02Join_c (A : Option Addr) (c B : Nat) (ns : List Nat) (w : World) (h : Row w B A ns.length (intAt ns)) (hB : B ≤ w.heap.size) (h6 : All6 ns) (hn : ns.length ≤ 1000) :
    Calls Tryz.prog 193 #[.slice A ns.length c] w fun e w' => e = .returned (.string ⟨(padAll ns).toArray⟩) ∧ Nx w w' := by
  go_enter Tryz.func193, Tryz.ntmps193
  go_wp2
  go_loopw [3, 4] (fun v i wr => ∃ (k : Nat) (s : ByteArray), k ≤ ns.length ∧ i = .int .i64 k ∧ v = .string s ∧ s.size ≤ 6000 ∧ Hid (s.data.toList = padTo ns k) ∧ Nx w wr) (fun _ i _ => ns.length - (intOf i).toNat)
  case atStart => exact ⟨0, ⟨#[]⟩, Nat.zero_le _, rfl, rfl, by decide, Lib.hid rfl, Nx.refl _⟩
  case round =>
    obtain ⟨k, s, hk, rfl, rfl, hs, HS, hnx⟩ := hrel
    by_cases hlt : k < ns.length
    · obtain ⟨b, off, rfl, hb, hc0⟩ := (h.below hnx hB) (by omega)
      have hc := hc0 k hlt
      have hn6 := h6 k hlt
      have HP := Lib.hid (padTo_succ ns k hlt)
      have HL := Lib.hid (padTo_len ns k hk)
      clear hc0
      unfold intAt at hc
      obtain ⟨x, Hx⟩ : ∃ x, Hid (ns.getD k 0 = x) := ⟨_, rfl⟩
      rw [Hx.out] at hc hn6 HP
      go_wp2_with fail
      refine (l02Six_c x _ hn6).mono ?_
      rintro e w1 ⟨rfl, hnx1⟩
      obtain ⟨d, Hd⟩ : ∃ d : ByteArray, Hid ((⟨(pad 6 x).toArray⟩ : ByteArray) = d) := ⟨_, rfl⟩
      have hd6 : d.size ≤ 6 := by rw [← Hd.out]; simp [ByteArray.size, pad_len]
      rw [Hd.out]
      go_wp2
      go_roundw
      case rel =>
        have hds : d.data.toList = pad 6 x := by rw [← Hd.out]
        have hsz : (s ++ d).data.toList = padTo ns (k + 1) := by rw [ba_app, HS.out, HP.out, hds]
        exact ⟨k + 1, _, by omega, by go_num, rfl, by rw [ba_size, hsz, padTo_len _ _ (by omega)]; omega, Lib.hid hsz, hnx.trans hnx1⟩
      case measure => simp [intOf]; omega
    · obtain rfl : k = ns.length := by omega
      go_wp2
      go_ret
      exact ⟨ret_str (ba_eq (by rw [HS.out, padTo_all])), hnx⟩
end Go.Proofs.YtehahodomfbpjaaGreatDoor
/- Contract of the program's padded: a number's digits, just so many. Conditions: the number is from 0 to 999999, and at most six digits are asked for. -/
namespace Go.Proofs.YtehahodomfbpjaaGreatDoor
set_option linter.unusedVariables false
set_option maxRecDepth 100000
open Go.RowKit

def padAt (k n i : Nat) : Nat := 48 + n / 10 ^ (k - 1 - i) % 10
theorem pad_get (k : Nat) : ∀ n i, i < k → (pad k n)[i]? = some (UInt8.ofNat (padAt k n i)) := by
  induction k with
  | zero => intro n i h; omega
  | succ k ih =>
    intro n i h
    show (pad k (n / 10) ++ [UInt8.ofNat (48 + n % 10)])[i]? = _
    by_cases hi : i < k
    · rw [List.getElem?_append_left (by rw [pad_len]; exact hi), ih _ _ hi]
      unfold padAt
      rw [Nat.div_div_eq_div_mul, show k + 1 - 1 - i = (k - 1 - i) + 1 by omega, Nat.pow_succ, Nat.mul_comm]
    · obtain rfl : i = k := by omega
      rw [List.getElem?_append_right (by rw [pad_len]; omega), pad_len, Nat.sub_self]
      unfold padAt
      simp
def digAt (k n i : Nat) : Value := .int .u8 ((padAt k n i : Nat) : Int)
theorem info_u8 : (Tryz.prog.info? 5).map (fun i => (i.zero, i.size, i.bytes)) = some (some (.int .u8 0), 1, 1) := by kernel_rfl
/-- A row that is filled from its end. -/
def Back (w : World) (g : Nat) (t : TypeId) (m r : Nat) (F : Nat → Value) : Prop := ∃ f, Own w g t m f ∧ ∀ i, r ≤ i → i < m → f i = F i
theorem Back.step {w : World} {g : Nat} {t : TypeId} {m k : Nat} {F : Nat → Value} (h : Back w g t m (k + 1) F) (hk : k < m) {v : Value} (hv : v = F k) : Back (w.setCell ⟨g, k, none⟩ v) g t m k F := by
  obtain ⟨f, h, hf⟩ := h
  refine ⟨_, h.set hk v, fun i hi hm => ?_⟩
  by_cases e : i = k
  · subst e; simp [hv]
  · simp only [if_neg e]; exact hf i (by omega) hm
theorem back_conv {W : World} {g k n : Nat} (h : Back W g 5 k 0 (digAt k n)) :
    (convert 58 9 (.slice (some ⟨g, 0, none⟩) k k)).run Tryz.prog W = .ok (.string ⟨(pad k n).toArray⟩) W := by
  obtain ⟨f, h, hf⟩ := h
  have := run_convert_bytes_back (P := Tryz.prog) W 58 9 5 ⟨g, 0, none⟩ k (pad k n) Tryz.underlying58 Tryz.underlying5 Tryz.underlying9 (fun j hj => by
    rw [pad_len] at hj
    have e : ((Addr.mk g 0 none).add j) = ⟨g, j, none⟩ := by
      unfold Addr.add
      by_cases h : j = 0
      · subst h; simp
      · simp [h]
    rw [e, h.cell hj, hf j (by omega) hj]
    have e2 := pad_get k n j hj
    rw [List.getElem?_eq_getElem (by rw [pad_len]; exact hj)] at e2
    injection e2 with e2
    rw [e2]
    unfold digAt
    have h3 : padAt k n j < 58 := by unfold padAt; omega
    have e3 : (UInt8.ofNat (padAt k n j)).toNat = padAt k n j := by
      rw [UInt8.toNat_ofNat']
      omega
    rw [e3])
  rw [pad_len] at this
  exact this

set_option maxHeartbeats 1000000 in
theorem padded_c (n k : Nat) (w : World) (hn : n ≤ 999999) (hk1 : 1 ≤ k) (hk6 : k ≤ 6) :
    Calls Tryz.prog 163 #[.int .i64 n, .int .i64 k] w fun e w' => e = .returned (.string ⟨(pad k n).toArray⟩) ∧ Nx w w' := by
  obtain ⟨i0, hi0, hz0, hz1, hz2⟩ := info_parts info_u8
  have hmk := fun W => run_make_rowN (P := Tryz.prog) 58 5 i0 _ Tryz.underlying58 hi0 hz0 .i64 .i64 k k (Nat.le_refl _) (by rw [hz2]; omega) (by omega) W
  rw [hz1] at hmk
  have hmade := Own.made w #[Value.int .u8 0] k 5
  go_enter Tryz.func163, Tryz.ntmps163
  go_wp2
  go_loopw [0, 6] (fun v i wr => ∃ r : Nat, r ≤ k ∧ i = .int .i64 ((r : Int) - 1) ∧ v = .int .i64 ((n / 10 ^ (k - r) : Nat) : Int) ∧ Back wr w.heap.size 5 k r (digAt k n) ∧ Nx w wr) (fun _ i _ => (intOf i + 1).toNat)
  case atStart => exact ⟨k, Nat.le_refl _, rfl, by simp, ⟨_, hmade, fun i h1 h2 => by omega⟩, (Nx.refl _).alloc _⟩
  case round =>
    obtain ⟨r, hr, rfl, rfl, hb, hnx⟩ := hrel
    clear hmk hmade
    rcases Nat.eq_zero_or_pos r with h0 | hp
    · subst h0
      have hcv := back_conv hb
      go_wp2
      go_ret
      exact ⟨rfl, hnx⟩
    · obtain ⟨j, rfl⟩ : ∃ j, r = j + 1 := ⟨r - 1, by omega⟩
      rw [show ((j + 1 : Nat) : Int) - 1 = (j : Int) by omega]
      obtain ⟨m, Hm⟩ : ∃ m, Hid (n / 10 ^ (k - (j + 1)) = m) := ⟨_, rfl⟩
      rw [Hm.out]
      have hm : m ≤ 999999 := by rw [← Hm.out]; exact Nat.le_trans (Nat.div_le_self _ _) hn
      have hm1 : (m : Int) % 10 ≤ 9 := by omega
      have hm2 : 0 ≤ (m : Int) % 10 := by omega
      have hjk : j < k := by omega
      have hjk' : (j : Int) < (k : Int) := by omega
      obtain ⟨v, hv⟩ : ∃ v, wr.cell? ⟨w.heap.size, j, none⟩ = some v := by obtain ⟨f, h, _⟩ := hb; exact ⟨_, h.cell hjk⟩
      have hz : wr.frozen? ⟨w.heap.size, j, none⟩ = false := by obtain ⟨f, h, _⟩ := hb; exact h.frozen j
      go_wp2
      go_roundw
      case rel =>
        refine ⟨j, by omega, rfl, ?_, hb.step hjk ?_, hnx.setCell (Nat.le_refl _) _⟩
        · rw [show k - j = (k - (j + 1)) + 1 by omega, Nat.pow_succ, ← Nat.div_div_eq_div_mul, Hm.out]; go_num
        · unfold digAt padAt; rw [show k - 1 - j = k - (j + 1) by omega, Hm.out]; go_num
      case measure => simp [intOf]
end Go.Proofs.YtehahodomfbpjaaGreatDoor
