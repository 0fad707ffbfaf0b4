/-
  Texts of the proof, put together in their order: Sio, Rwi, Sta.
  Conditions: those of each.
-/
import Derived.Test.YtehahodomfbpjaaGreatDoorMm4
import Derived.Lib.Join
/- Contracts of SuperOK, as the program has it. Conditions: the super can be read, and holds at most 1048576 elements of a kind; its table is no longer than its capacity. -/
namespace Go.Proofs.YtehahodomfbpjaaGreatDoor
set_option linter.unusedVariables false
set_option maxRecDepth 100000
open Go.RowKit

theorem bl_asym : ∀ a b : List UInt8, Op.bytesLess a b = true → Op.bytesLess b a = false
  | _, [], h => by simp [Op.bytesLess] at h
  | [], _ :: _, _ => by simp [Op.bytesLess]
  | x :: a, y :: b, h => by
    simp only [Op.bytesLess, Bool.or_eq_true, Bool.and_eq_true, decide_eq_true_eq, beq_iff_eq] at h
    simp only [Op.bytesLess, Bool.or_eq_false_iff, Bool.and_eq_false_iff, decide_eq_false_iff_not, beq_eq_false_iff_ne]
    rcases h with h | ⟨rfl, h⟩
    · have h' : x.toNat < y.toNat := h
      refine ⟨fun h2 => ?_, .inl fun e => ?_⟩
      · have h2' : y.toNat < x.toNat := h2
        omega
      · subst e; omega
    · refine ⟨fun h2 => ?_, .inr (bl_asym a b h)⟩
      have h2' : x.toNat < x.toNat := h2
      omega
theorem bl_irr : ∀ a : List UInt8, Op.bytesLess a a = false
  | [] => by simp [Op.bytesLess]
  | x :: a => by
    simp only [Op.bytesLess, Bool.or_eq_false_iff, Bool.and_eq_false_iff, decide_eq_false_iff_not]
    refine ⟨fun h2 => ?_, .inr (bl_irr a)⟩
    have h2' : x.toNat < x.toNat := h2
    omega
theorem bl_ne (a b : List UInt8) (h : Op.bytesLess a b = true) : (b == a) = false := by
  rw [beq_eq_false_iff_ne]
  rintro rfl
  rw [bl_irr] at h
  cases h
theorem bl_total : ∀ a b : List UInt8, Op.bytesLess a b = false → (Op.bytesLess b a || b == a) = true
  | [], [], _ => by simp
  | _ :: _, [], _ => by simp [Op.bytesLess]
  | [], _ :: _, h => by simp [Op.bytesLess] at h
  | x :: a, y :: b, h => by
    simp only [Op.bytesLess, Bool.or_eq_false_iff, Bool.and_eq_false_iff, decide_eq_false_iff_not, beq_eq_false_iff_ne] at h
    obtain ⟨h1, h2⟩ := h
    have h1' : ¬ x.toNat < y.toNat := h1
    by_cases e : x = y
    · subst e
      have h3 := bl_total a b (by rcases h2 with h2 | h2; exact absurd rfl h2; exact h2)
      simp only [Op.bytesLess, Bool.or_eq_true, Bool.and_eq_true, decide_eq_true_eq, beq_iff_eq, List.cons.injEq, true_and] at h3 ⊢
      rcases h3 with h3 | h3
      · exact .inl (.inr h3)
      · exact .inr h3
    · have hne : x.toNat ≠ y.toNat := fun h => e (UInt8.toNat_inj.1 h)
      have h4 : y < x := (show y.toNat < x.toNat by omega)
      simp [Op.bytesLess, h4]
set_option maxHeartbeats 2000000 in
theorem isTable_c (A : Option Addr) (c B : Nat) (xs : List Int) (w : World) (h : Ins w B A xs) (hn : xs.length ≤ 1048576) (hc : xs.length ≤ c) :
    Calls Tryz.prog 189 #[.slice A xs.length c] w fun e w' => e = .returned (.bool (tbB xs)) ∧ w = w' := by
  by_cases hl : xs.length ≤ 20
  case neg =>
    have hd : decide (20 < (xs.length : Int)) = true := by simp; omega
    have HR := Lib.hid (tbB_len (xs := xs) (by omega)).symm
    go_enter Tryz.func189, Tryz.ntmps189
    go_wp2
    go_ret
    exact ⟨ret_bool HR.out, rfl⟩
  have hd : decide (20 < (xs.length : Int)) = false := by simp; omega
  go_enter Tryz.func189, Tryz.ntmps189
  go_wp2
  go_loop [10] (fun i => ∃ k : Nat, k ≤ xs.length ∧ i = .int .i64 k ∧ TbTo xs k) (fun i => xs.length - (intOf i).toNat)
  case atStart => exact ⟨0, Nat.zero_le _, rfl, TbTo.zero _⟩
  case round =>
    obtain ⟨k, hk, rfl, hto⟩ := hrel
    by_cases hlt : k < xs.length
    · obtain ⟨bb, off, rfl, hb, k0⟩ := h.at_ hlt
      obtain ⟨q, Hq⟩ : ∃ q, Hid (xs.getD k 0 = q) := ⟨_, rfl⟩
      rw [Hq.out] at k0
      have hkc : (k : Int) ≤ (c : Int) := by omega
      cases hin : inB 10 63 q with
      | false =>
        have HC := Lib.hid hin
        have HR := Lib.hid (tbB_no hlt (by unfold tbOk; rw [Hq.out, hin]; rfl)).symm
        clear hin
        go_wp2_with (go_at_call 188; refine (isWithin_c _ _ _ _).mono ?_; rintro e w' ⟨rfl, rfl⟩; rw [HC.out])
        go_ret
        exact ⟨ret_bool HR.out, rfl⟩
      | true =>
        have HC := Lib.hid hin
        clear hin
        cases hh : hasB xs k q with
        | true =>
          have HX := Lib.hid hh
          have HR := Lib.hid (tbB_no hlt (by unfold tbOk; rw [Hq.out, hh]; simp)).symm
          clear hh
          go_wp2_with (first | (go_at_call 188; refine (isWithin_c _ _ _ _).mono ?_; rintro e w' ⟨rfl, rfl⟩; rw [HC.out]) | (go_at_call 175; refine (contains_c (some ⟨bb, off, none⟩) k c B xs q _ h (by omega) hn).mono ?_; rintro e w' ⟨rfl, rfl⟩; rw [HX.out]))
          go_ret
          exact ⟨ret_bool HR.out, rfl⟩
        | false =>
          have HX := Lib.hid hh
          have HT := Lib.hid (hto.succ (by unfold tbOk; rw [Hq.out, HC.out, hh]; rfl))
          clear hh
          go_wp2_with (first | (go_at_call 188; refine (isWithin_c _ _ _ _).mono ?_; rintro e w' ⟨rfl, rfl⟩; rw [HC.out]) | (go_at_call 175; refine (contains_c (some ⟨bb, off, none⟩) k c B xs q _ h (by omega) hn).mono ?_; rintro e w' ⟨rfl, rfl⟩; rw [HX.out]))
          go_round
          case rel => exact ⟨k + 1, by omega, by go_num, HT.out⟩
          case measure => simp [intOf]; omega
    · obtain rfl : k = xs.length := by omega
      have HR := Lib.hid (tbB_mk hl hto).symm
      go_wp2
      go_ret
      exact ⟨ret_bool HR.out, rfl⟩
set_option maxHeartbeats 4000000 in
theorem areMarks_c (A2 : Option Addr) (c2 B : Nat) (ms : List Mrk) (w : World) (h2 : Mks w B A2 ms) (hB : B ≤ w.heap.size) (hn : ms.length ≤ 1048576) (hm : AllM ms) :
    Calls Tryz.prog 190 #[.slice A2 ms.length c2] w fun e w' => e = .returned (.bool (msB ms)) ∧ Nx w w' := by
  by_cases hl : ms.length ≤ 4
  case neg =>
    have hd : decide (4 < (ms.length : Int)) = true := by simp; omega
    have HR := Lib.hid (msB_len (ms := ms) (by omega)).symm
    go_enter Tryz.func190, Tryz.ntmps190
    go_wp2
    go_ret
    exact ⟨ret_bool HR.out, Nx.refl _⟩
  have hd : decide (4 < (ms.length : Int)) = false := by simp; omega
  go_enter Tryz.func190, Tryz.ntmps190
  go_wp2
  go_loopw [10] (fun i wr => ∃ k : Nat, k ≤ ms.length ∧ i = .int .i64 k ∧ MkTo ms k ∧ Nx w wr) (fun i _ => ms.length - (intOf i).toNat)
  case atStart => exact ⟨0, Nat.zero_le _, rfl, MkTo.zero _, Nx.refl _⟩
  case round =>
    obtain ⟨k, hk, rfl, hto, hnx⟩ := hrel
    by_cases hlt : k < ms.length
    · obtain ⟨bb, off, rfl, hb, k0, k1⟩ := (h2.below hnx hB).at_ hlt
      have hsz := hm k
      obtain ⟨⟨q0, q1⟩, Hq⟩ : ∃ q, Hid (ms.getD k mrZ = q) := ⟨_, rfl⟩
      rw [Hq.out] at k0 k1 hsz
      go_wp2_with fail
      have bq := Box.new wr 199 #[.string q0, .int .i64 q1]
      have hnxq := hnx.alloc (.cells #[.string q0, .int .i64 q1] 199)
      have hMq := h2.below hnxq hB
      generalize wr.alloc (.cells #[.string q0, .int .i64 q1] 199) = wq at *
      clear k0 k1
      have k0 := bq.c0
      have k1 := bq.c1
      cases hnm : nmB q0 with
      | false =>
        have HN := Lib.hid hnm
        have HR := Lib.hid (msB_no hlt (by unfold okMk mkB; rw [Hq.out]; simp [hnm])).symm
        clear hnm
        refine wp_region_lex [false, false, true, false, false, false, false, false, false, false, false, false, false, false, false, false, false, false, false, false, false, false, false, false, false] (fun w' => w'.cell? ⟨wr.heap.size, 0, none⟩ = some (.string q0) ∧ w'.cell? ⟨wr.heap.size, 1, none⟩ = some (.int .i64 q1)) (by kernel_rfl) (by kernel_rfl) rfl (by kernel_rfl) (fun _ _ d _ _ h => by cases d <;> exact h) (by exact ⟨k0, k1⟩) ?_
        repeat (first | (refine HL.take (v := ?_) (by rfl) ?_ ?_; rotate_left; (· (intro w hSw; (try dsimp only at hSw); go_simp; try with_reducible rfl)); (try simp only [Act.put, List.setIfInBounds_toArray, List.set_cons_zero, List.set_cons_succ])) | (refine HL.skip (by rfl) ?_; (try simp only [Act.put, List.setIfInBounds_toArray, List.set_cons_zero, List.set_cons_succ])))
        refine HL.call (by rfl) (fun K hK => ?_)
        go_simp
        refine (isMarkName_c q0 _ hsz).mono ?_; rintro e w' ⟨rfl, rfl⟩; rw [HN.out]
        go_wp2_with fail
        refine hK.out _ _ (by exact ⟨k0, k1⟩) ?_
        clear hK K
        try simp only [Act.put, List.setIfInBounds_toArray, List.set_cons_zero, List.set_cons_succ]
        repeat (first | (refine HL.take (v := ?_) (by rfl) ?_ ?_; rotate_left; (· (intro w hSw; (try dsimp only at hSw); go_simp; try with_reducible rfl)); (try simp only [Act.put, List.setIfInBounds_toArray, List.set_cons_zero, List.set_cons_succ])) | (refine HL.skip (by rfl) ?_; (try simp only [Act.put, List.setIfInBounds_toArray, List.set_cons_zero, List.set_cons_succ])))
        refine HL.done ?_
        go_wp2
        go_ret
        exact ⟨ret_bool HR.out, hnxq.drew⟩
      | true =>
        have HN := Lib.hid hnm
        clear hnm
        cases hps : inB 0 999999 q1 with
        | false =>
          have HP := Lib.hid hps
          have HR := Lib.hid (msB_no hlt (by unfold okMk mkB; rw [Hq.out]; simp [hps])).symm
          clear hps
          refine wp_region_lex [false, false, true, false, false, false, false, true, false, false, false, false, false, false, false, false, false, false, false, false, false, false, false, false, false] (fun w' => w'.cell? ⟨wr.heap.size, 0, none⟩ = some (.string q0) ∧ w'.cell? ⟨wr.heap.size, 1, none⟩ = some (.int .i64 q1)) (by kernel_rfl) (by kernel_rfl) rfl (by kernel_rfl) (fun _ _ d _ _ h => by cases d <;> exact h) (by exact ⟨k0, k1⟩) ?_
          repeat (first | (refine HL.take (v := ?_) (by rfl) ?_ ?_; rotate_left; (· (intro w hSw; (try dsimp only at hSw); go_simp; try with_reducible rfl)); (try simp only [Act.put, List.setIfInBounds_toArray, List.set_cons_zero, List.set_cons_succ])) | (refine HL.skip (by rfl) ?_; (try simp only [Act.put, List.setIfInBounds_toArray, List.set_cons_zero, List.set_cons_succ])))
          refine HL.call (by rfl) (fun K hK => ?_)
          go_simp
          refine (isMarkName_c q0 _ hsz).mono ?_; rintro e w' ⟨rfl, rfl⟩; rw [HN.out]
          go_wp2_with fail
          refine hK.out _ _ (by exact ⟨k0, k1⟩) ?_
          clear hK K
          try simp only [Act.put, List.setIfInBounds_toArray, List.set_cons_zero, List.set_cons_succ]
          repeat (first | (refine HL.take (v := ?_) (by rfl) ?_ ?_; rotate_left; (· (intro w hSw; (try dsimp only at hSw); go_simp; try with_reducible rfl)); (try simp only [Act.put, List.setIfInBounds_toArray, List.set_cons_zero, List.set_cons_succ])) | (refine HL.skip (by rfl) ?_; (try simp only [Act.put, List.setIfInBounds_toArray, List.set_cons_zero, List.set_cons_succ])))
          refine HL.call (by rfl) (fun K hK => ?_)
          go_simp
          refine (isPosition_c q1 _).mono ?_; rintro e w' ⟨rfl, rfl⟩; rw [HP.out]
          go_wp2_with fail
          refine hK.out _ _ (by exact ⟨k0, k1⟩) ?_
          clear hK K
          try simp only [Act.put, List.setIfInBounds_toArray, List.set_cons_zero, List.set_cons_succ]
          repeat (first | (refine HL.take (v := ?_) (by rfl) ?_ ?_; rotate_left; (· (intro w hSw; (try dsimp only at hSw); go_simp; try with_reducible rfl)); (try simp only [Act.put, List.setIfInBounds_toArray, List.set_cons_zero, List.set_cons_succ])) | (refine HL.skip (by rfl) ?_; (try simp only [Act.put, List.setIfInBounds_toArray, List.set_cons_zero, List.set_cons_succ])))
          refine HL.done ?_
          go_wp2
          go_ret
          exact ⟨ret_bool HR.out, hnxq.drew⟩
        | true =>
          have HP := Lib.hid hps
          clear hps
          by_cases hk0 : k = 0
          · have hd0 : decide (0 < (k : Int)) = false := by simp; omega
            have hd1 : decide (0 < k) = false := by simp; omega
            have HO := Lib.hid (hto.succ (by unfold okMk mkB; rw [Hq.out, HN.out, HP.out, hk0]; rfl))
            clear hk0
            refine wp_region_lex [false, false, true, false, false, false, false, true, false, false, false, false, false, false, false, false, false, false, false, false, false, false, false, false, false] (fun w' => w'.cell? ⟨wr.heap.size, 0, none⟩ = some (.string q0) ∧ w'.cell? ⟨wr.heap.size, 1, none⟩ = some (.int .i64 q1)) (by kernel_rfl) (by kernel_rfl) rfl (by kernel_rfl) (fun _ _ d _ _ h => by cases d <;> exact h) (by exact ⟨k0, k1⟩) ?_
            repeat (first | (refine HL.take (v := ?_) (by rfl) ?_ ?_; rotate_left; (· (intro w hSw; (try dsimp only at hSw); go_simp; try with_reducible rfl)); (try simp only [Act.put, List.setIfInBounds_toArray, List.set_cons_zero, List.set_cons_succ])) | (refine HL.skip (by rfl) ?_; (try simp only [Act.put, List.setIfInBounds_toArray, List.set_cons_zero, List.set_cons_succ])))
            refine HL.call (by rfl) (fun K hK => ?_)
            go_simp
            refine (isMarkName_c q0 _ hsz).mono ?_; rintro e w' ⟨rfl, rfl⟩; rw [HN.out]
            go_wp2_with fail
            refine hK.out _ _ (by exact ⟨k0, k1⟩) ?_
            clear hK K
            try simp only [Act.put, List.setIfInBounds_toArray, List.set_cons_zero, List.set_cons_succ]
            repeat (first | (refine HL.take (v := ?_) (by rfl) ?_ ?_; rotate_left; (· (intro w hSw; (try dsimp only at hSw); go_simp; try with_reducible rfl)); (try simp only [Act.put, List.setIfInBounds_toArray, List.set_cons_zero, List.set_cons_succ])) | (refine HL.skip (by rfl) ?_; (try simp only [Act.put, List.setIfInBounds_toArray, List.set_cons_zero, List.set_cons_succ])))
            refine HL.call (by rfl) (fun K hK => ?_)
            go_simp
            refine (isPosition_c q1 _).mono ?_; rintro e w' ⟨rfl, rfl⟩; rw [HP.out]
            go_wp2_with fail
            refine hK.out _ _ (by exact ⟨k0, k1⟩) ?_
            clear hK K
            try simp only [Act.put, List.setIfInBounds_toArray, List.set_cons_zero, List.set_cons_succ]
            repeat (first | (refine HL.take (v := ?_) (by rfl) ?_ ?_; rotate_left; (· (intro w hSw; (try dsimp only at hSw); go_simp; try with_reducible rfl)); (try simp only [Act.put, List.setIfInBounds_toArray, List.set_cons_zero, List.set_cons_succ])) | (refine HL.skip (by rfl) ?_; (try simp only [Act.put, List.setIfInBounds_toArray, List.set_cons_zero, List.set_cons_succ])))
            refine HL.done ?_
            go_wp2
            go_roundw
            case rel => exact ⟨k + 1, by omega, by go_num, HO.out, hnxq.drew⟩
            case measure => simp [intOf]; omega
          · obtain ⟨j, rfl⟩ : ∃ j, k = j + 1 := ⟨k - 1, by omega⟩
            obtain ⟨b', off', he, _, m0, _⟩ := hMq.at_ (k := j) (by omega)
            obtain ⟨rfl, rfl⟩ : bb = b' ∧ off = off' := by simpa using he
            clear he
            obtain ⟨⟨r0, r1⟩, Hr⟩ : ∃ q, Hid (ms.getD j mrZ = q) := ⟨_, rfl⟩
            rw [Hr.out] at m0
            have hd0 : decide (0 < ((j : Int) + 1)) = true := by simp
            have hd1 : decide (0 < j + 1) = true := by simp
            have hi1 : (0 : Int) ≤ (j : Int) + 1 := by omega
            have hi2 : (j : Int) + 1 < (ms.length : Int) := by omega
            have hi4 : (j : Int) < (ms.length : Int) := by omega
            have hi5 : j < ms.length := by omega
            have hi3 : ((j : Int) + 1).toNat = j + 1 := by omega
            have hw1 : IntKind.i64.wrap ((j : Int) + 1 - 1) = (j : Int) := by rw [Int.add_sub_cancel]; exact IntWalk.i64_in _ (by omega)
            have hw2 : IntKind.i64.wrap (j : Int) = (j : Int) := IntWalk.i64_in _ (by omega)
            have hi6 : (0 : Int) ≤ (j : Int) := by omega
            cases hlt2 : Op.bytesLess r0.toList q0.toList with
            | true =>
              have HO := Lib.hid (hto.succ (by unfold okMk mkB; rw [Hq.out, HN.out, HP.out, Nat.add_sub_cancel, Hr.out, hlt2]; simp))
              have hg1 : Op.bytesLess q0.toList r0.toList = false := bl_asym _ _ hlt2
              have hg2 : (q0.toList == r0.toList) = false := bl_ne _ _ hlt2
              clear hlt2
              refine wp_region_lex [false, false, true, false, false, false, false, true, false, false, false, false, false, false, false, false, false, false, false, false, false, false, false, false, false] (fun w' => w'.cell? ⟨wr.heap.size, 0, none⟩ = some (.string q0) ∧ w'.cell? ⟨wr.heap.size, 1, none⟩ = some (.int .i64 q1) ∧ w'.cell? ⟨bb, off + j * 2, none⟩ = some (.string r0)) (by kernel_rfl) (by kernel_rfl) rfl (by kernel_rfl) (fun _ _ d _ _ h => by cases d <;> exact h) (by exact ⟨k0, k1, m0⟩) ?_
              repeat (first | (refine HL.take (v := ?_) (by rfl) ?_ ?_; rotate_left; (· (intro w hSw; (try dsimp only at hSw); go_simp; try with_reducible rfl)); (try simp only [Act.put, List.setIfInBounds_toArray, List.set_cons_zero, List.set_cons_succ])) | (refine HL.skip (by rfl) ?_; (try simp only [Act.put, List.setIfInBounds_toArray, List.set_cons_zero, List.set_cons_succ])))
              refine HL.call (by rfl) (fun K hK => ?_)
              go_simp
              refine (isMarkName_c q0 _ hsz).mono ?_; rintro e w' ⟨rfl, rfl⟩; rw [HN.out]
              go_wp2_with fail
              refine hK.out _ _ (by exact ⟨k0, k1, m0⟩) ?_
              clear hK K
              try simp only [Act.put, List.setIfInBounds_toArray, List.set_cons_zero, List.set_cons_succ]
              repeat (first | (refine HL.take (v := ?_) (by rfl) ?_ ?_; rotate_left; (· (intro w hSw; (try dsimp only at hSw); go_simp; try with_reducible rfl)); (try simp only [Act.put, List.setIfInBounds_toArray, List.set_cons_zero, List.set_cons_succ])) | (refine HL.skip (by rfl) ?_; (try simp only [Act.put, List.setIfInBounds_toArray, List.set_cons_zero, List.set_cons_succ])))
              refine HL.call (by rfl) (fun K hK => ?_)
              go_simp
              refine (isPosition_c q1 _).mono ?_; rintro e w' ⟨rfl, rfl⟩; rw [HP.out]
              go_wp2_with fail
              refine hK.out _ _ (by exact ⟨k0, k1, m0⟩) ?_
              clear hK K
              try simp only [Act.put, List.setIfInBounds_toArray, List.set_cons_zero, List.set_cons_succ]
              repeat (first | (refine HL.take (v := ?_) (by rfl) ?_ ?_; rotate_left; (· (intro w hSw; (try dsimp only at hSw); go_simp; try with_reducible rfl)); (try simp only [Act.put, List.setIfInBounds_toArray, List.set_cons_zero, List.set_cons_succ])) | (refine HL.skip (by rfl) ?_; (try simp only [Act.put, List.setIfInBounds_toArray, List.set_cons_zero, List.set_cons_succ])))
              refine HL.done ?_
              clear hw1 hw2 hi6 hi1 hi2 hi3 hi4 hi5
              go_wp2
              go_roundw
              case rel => exact ⟨j + 1 + 1, by omega, by go_num, HO.out, hnxq.drew⟩
              case measure => simp [intOf]; omega
            | false =>
              have HR := Lib.hid (msB_no hlt (by unfold okMk mkB; rw [Hq.out]; rw [Nat.add_sub_cancel, Hr.out, hlt2]; simp)).symm
              have hg : (Op.bytesLess q0.toList r0.toList || q0.toList == r0.toList) = true := bl_total _ _ hlt2
              clear hlt2
              cases hg1 : Op.bytesLess q0.toList r0.toList with
              | true =>
                clear hg
                refine wp_region_lex [false, false, true, false, false, false, false, true, false, false, false, false, false, false, false, false, false, false, false, false, false, false, false, false, false] (fun w' => w'.cell? ⟨wr.heap.size, 0, none⟩ = some (.string q0) ∧ w'.cell? ⟨wr.heap.size, 1, none⟩ = some (.int .i64 q1) ∧ w'.cell? ⟨bb, off + j * 2, none⟩ = some (.string r0)) (by kernel_rfl) (by kernel_rfl) rfl (by kernel_rfl) (fun _ _ d _ _ h => by cases d <;> exact h) (by exact ⟨k0, k1, m0⟩) ?_
                repeat (first | (refine HL.take (v := ?_) (by rfl) ?_ ?_; rotate_left; (· (intro w hSw; (try dsimp only at hSw); go_simp; try with_reducible rfl)); (try simp only [Act.put, List.setIfInBounds_toArray, List.set_cons_zero, List.set_cons_succ])) | (refine HL.skip (by rfl) ?_; (try simp only [Act.put, List.setIfInBounds_toArray, List.set_cons_zero, List.set_cons_succ])))
                refine HL.call (by rfl) (fun K hK => ?_)
                go_simp
                refine (isMarkName_c q0 _ hsz).mono ?_; rintro e w' ⟨rfl, rfl⟩; rw [HN.out]
                go_wp2_with fail
                refine hK.out _ _ (by exact ⟨k0, k1, m0⟩) ?_
                clear hK K
                try simp only [Act.put, List.setIfInBounds_toArray, List.set_cons_zero, List.set_cons_succ]
                repeat (first | (refine HL.take (v := ?_) (by rfl) ?_ ?_; rotate_left; (· (intro w hSw; (try dsimp only at hSw); go_simp; try with_reducible rfl)); (try simp only [Act.put, List.setIfInBounds_toArray, List.set_cons_zero, List.set_cons_succ])) | (refine HL.skip (by rfl) ?_; (try simp only [Act.put, List.setIfInBounds_toArray, List.set_cons_zero, List.set_cons_succ])))
                refine HL.call (by rfl) (fun K hK => ?_)
                go_simp
                refine (isPosition_c q1 _).mono ?_; rintro e w' ⟨rfl, rfl⟩; rw [HP.out]
                go_wp2_with fail
                refine hK.out _ _ (by exact ⟨k0, k1, m0⟩) ?_
                clear hK K
                try simp only [Act.put, List.setIfInBounds_toArray, List.set_cons_zero, List.set_cons_succ]
                repeat (first | (refine HL.take (v := ?_) (by rfl) ?_ ?_; rotate_left; (· (intro w hSw; (try dsimp only at hSw); go_simp; try with_reducible rfl)); (try simp only [Act.put, List.setIfInBounds_toArray, List.set_cons_zero, List.set_cons_succ])) | (refine HL.skip (by rfl) ?_; (try simp only [Act.put, List.setIfInBounds_toArray, List.set_cons_zero, List.set_cons_succ])))
                refine HL.done ?_
                clear hw1 hw2 hi6 hi1 hi2 hi3 hi4 hi5
                go_wp2
                go_ret
                exact ⟨ret_bool HR.out, hnxq.drew⟩
              | false =>
                rw [hg1, Bool.false_or] at hg
                refine wp_region_lex [false, false, true, false, false, false, false, true, false, false, false, false, false, false, false, false, false, false, false, false, false, false, false, false, false] (fun w' => w'.cell? ⟨wr.heap.size, 0, none⟩ = some (.string q0) ∧ w'.cell? ⟨wr.heap.size, 1, none⟩ = some (.int .i64 q1) ∧ w'.cell? ⟨bb, off + j * 2, none⟩ = some (.string r0)) (by kernel_rfl) (by kernel_rfl) rfl (by kernel_rfl) (fun _ _ d _ _ h => by cases d <;> exact h) (by exact ⟨k0, k1, m0⟩) ?_
                repeat (first | (refine HL.take (v := ?_) (by rfl) ?_ ?_; rotate_left; (· (intro w hSw; (try dsimp only at hSw); go_simp; try with_reducible rfl)); (try simp only [Act.put, List.setIfInBounds_toArray, List.set_cons_zero, List.set_cons_succ])) | (refine HL.skip (by rfl) ?_; (try simp only [Act.put, List.setIfInBounds_toArray, List.set_cons_zero, List.set_cons_succ])))
                refine HL.call (by rfl) (fun K hK => ?_)
                go_simp
                refine (isMarkName_c q0 _ hsz).mono ?_; rintro e w' ⟨rfl, rfl⟩; rw [HN.out]
                go_wp2_with fail
                refine hK.out _ _ (by exact ⟨k0, k1, m0⟩) ?_
                clear hK K
                try simp only [Act.put, List.setIfInBounds_toArray, List.set_cons_zero, List.set_cons_succ]
                repeat (first | (refine HL.take (v := ?_) (by rfl) ?_ ?_; rotate_left; (· (intro w hSw; (try dsimp only at hSw); go_simp; try with_reducible rfl)); (try simp only [Act.put, List.setIfInBounds_toArray, List.set_cons_zero, List.set_cons_succ])) | (refine HL.skip (by rfl) ?_; (try simp only [Act.put, List.setIfInBounds_toArray, List.set_cons_zero, List.set_cons_succ])))
                refine HL.call (by rfl) (fun K hK => ?_)
                go_simp
                refine (isPosition_c q1 _).mono ?_; rintro e w' ⟨rfl, rfl⟩; rw [HP.out]
                go_wp2_with fail
                refine hK.out _ _ (by exact ⟨k0, k1, m0⟩) ?_
                clear hK K
                try simp only [Act.put, List.setIfInBounds_toArray, List.set_cons_zero, List.set_cons_succ]
                repeat (first | (refine HL.take (v := ?_) (by rfl) ?_ ?_; rotate_left; (· (intro w hSw; (try dsimp only at hSw); go_simp; try with_reducible rfl)); (try simp only [Act.put, List.setIfInBounds_toArray, List.set_cons_zero, List.set_cons_succ])) | (refine HL.skip (by rfl) ?_; (try simp only [Act.put, List.setIfInBounds_toArray, List.set_cons_zero, List.set_cons_succ])))
                refine HL.done ?_
                clear hw1 hw2 hi6 hi1 hi2 hi3 hi4 hi5
                go_wp2
                go_ret
                exact ⟨ret_bool HR.out, hnxq.drew⟩
    · obtain rfl : k = ms.length := by omega
      have HR := Lib.hid (msB_mk hl hto).symm
      go_wp2
      go_ret
      exact ⟨ret_bool HR.out, hnx⟩
set_option maxHeartbeats 4000000 in
theorem superRight_c (g b p t : Int) (A A2 : Option Addr) (c c2 B : Nat) (xs : List Int) (ms : List Mrk) (w : World) (h : Ins w B A xs) (h2 : Mks w B A2 ms) (hB : B ≤ w.heap.size) (hn : xs.length ≤ 1048576) (hn2 : ms.length ≤ 1048576) (hc : xs.length ≤ c) (hm : AllM ms) :
    Calls Tryz.prog 110 #[.agg #[.int .i64 g, .int .i64 b, .int .i64 p, .int .i64 t, .slice A xs.length c, .slice A2 ms.length c2]] w fun e w' => e = .returned (.bool (superB g b p t xs ms)) ∧ Nx w w' := by
  cases x0 : inB 1 999999 g with
  | false =>
    have H0 := Lib.hid x0
    clear x0
    have HR := Lib.hid (superB_no (g := g) (b := b) (p := p) (t := t) (xs := xs) (ms := ms) (by simp [H0.out])).symm
    go_enter Tryz.func110, Tryz.ntmps110
    go_wp2_with (first | (go_at_call 188; refine (isWithin_c _ _ _ _).mono ?_; rintro e w' ⟨rfl, rfl⟩; first | rw [H0.out]))
    go_ret
    exact ⟨ret_bool HR.out, (Nx.refl _).alloc _⟩
  | true =>
  have H0 := Lib.hid x0
  clear x0
  cases x1 : inB 0 999999 b with
  | false =>
    have H1 := Lib.hid x1
    clear x1
    have HR := Lib.hid (superB_no (g := g) (b := b) (p := p) (t := t) (xs := xs) (ms := ms) (by simp [H1.out])).symm
    go_enter Tryz.func110, Tryz.ntmps110
    go_wp2_with (first | (go_at_call 188; refine (isWithin_c _ _ _ _).mono ?_; rintro e w' ⟨rfl, rfl⟩; first | rw [H0.out]) | (go_at_call 149; refine (isPosition_c _ _).mono ?_; rintro e w' ⟨rfl, rfl⟩; rw [H1.out]))
    go_ret
    exact ⟨ret_bool HR.out, (Nx.refl _).alloc _⟩
  | true =>
  have H1 := Lib.hid x1
  clear x1
  cases x2 : inB b 999999 p with
  | false =>
    have H2 := Lib.hid x2
    clear x2
    have HR := Lib.hid (superB_no (g := g) (b := b) (p := p) (t := t) (xs := xs) (ms := ms) (by simp [H2.out])).symm
    go_enter Tryz.func110, Tryz.ntmps110
    go_wp2_with (first | (go_at_call 188; refine (isWithin_c _ _ _ _).mono ?_; rintro e w' ⟨rfl, rfl⟩; first | rw [H0.out] | rw [H2.out]) | (go_at_call 149; refine (isPosition_c _ _).mono ?_; rintro e w' ⟨rfl, rfl⟩; rw [H1.out]))
    go_ret
    exact ⟨ret_bool HR.out, (Nx.refl _).alloc _⟩
  | true =>
  have H2 := Lib.hid x2
  clear x2
  cases x3 : inB b 999999 t with
  | false =>
    have H3 := Lib.hid x3
    clear x3
    have HR := Lib.hid (superB_no (g := g) (b := b) (p := p) (t := t) (xs := xs) (ms := ms) (by simp [H3.out])).symm
    go_enter Tryz.func110, Tryz.ntmps110
    go_wp2_with (first | (go_at_call 188; refine (isWithin_c _ _ _ _).mono ?_; rintro e w' ⟨rfl, rfl⟩; first | rw [H0.out] | rw [H2.out] | rw [H3.out]) | (go_at_call 149; refine (isPosition_c _ _).mono ?_; rintro e w' ⟨rfl, rfl⟩; rw [H1.out]))
    go_ret
    exact ⟨ret_bool HR.out, (Nx.refl _).alloc _⟩
  | true =>
  have H3 := Lib.hid x3
  clear x3
  cases x4 : tbB xs with
  | false =>
    have H4 := Lib.hid x4
    clear x4
    have HR := Lib.hid (superB_no (g := g) (b := b) (p := p) (t := t) (xs := xs) (ms := ms) (by simp [H4.out])).symm
    go_enter Tryz.func110, Tryz.ntmps110
    go_wp2_with (first | (go_at_call 188; refine (isWithin_c _ _ _ _).mono ?_; rintro e w' ⟨rfl, rfl⟩; first | rw [H0.out] | rw [H2.out] | rw [H3.out]) | (go_at_call 149; refine (isPosition_c _ _).mono ?_; rintro e w' ⟨rfl, rfl⟩; rw [H1.out]) | (go_at_call 189; refine (isTable_c A c B xs _ (h.below ((Nx.refl w).alloc _) hB) hn hc).mono ?_; rintro e w' ⟨rfl, rfl⟩; rw [H4.out]))
    go_ret
    exact ⟨ret_bool HR.out, (Nx.refl _).alloc _⟩
  | true =>
  have H4 := Lib.hid x4
  clear x4
  have HR := Lib.hid (show msB ms = superB g b p t xs ms by unfold superB; rw [H0.out, H1.out, H2.out, H3.out, H4.out]; rfl)
  go_enter Tryz.func110, Tryz.ntmps110
  go_wp2_with (first | (go_at_call 188; refine (isWithin_c _ _ _ _).mono ?_; rintro e w' ⟨rfl, rfl⟩; first | rw [H0.out] | rw [H2.out] | rw [H3.out]) | (go_at_call 149; refine (isPosition_c _ _).mono ?_; rintro e w' ⟨rfl, rfl⟩; rw [H1.out]) | (go_at_call 189; refine (isTable_c A c B xs _ (h.below ((Nx.refl w).alloc _) hB) hn hc).mono ?_; rintro e w' ⟨rfl, rfl⟩; rw [H4.out]))
  have hx0 := (Nx.refl w).alloc (.cells #[.int .i64 g, .int .i64 b, .int .i64 p, .int .i64 t, .slice A xs.length c, .slice A2 ms.length c2] 30)
  refine (areMarks_c A2 c2 B ms _ (h2.below hx0 hB) (Nat.le_trans hB hx0.size) hn2 hm).mono ?_
  rintro e w1 ⟨rfl, hnx1⟩
  go_wp2
  go_ret
  exact ⟨ret_bool HR.out, hx0.trans hnx1⟩
end Go.Proofs.YtehahodomfbpjaaGreatDoor
/- Rows of ints of the call's own that grow by one. Conditions: at most 1048576 elements. -/
namespace Go.Proofs.YtehahodomfbpjaaGreatDoor
set_option linter.unusedVariables false
set_option maxRecDepth 100000
open Go.RowKit

def iV (xs : List Int) : List Value := xs.map fun x => .int .i64 x
theorem iV_get (xs : List Int) (i : Nat) (h : i < xs.length) : (iV xs)[i]? = some (inAt xs i) := by
  unfold iV inAt
  rw [List.getElem?_map, List.getElem?_eq_getElem h, List.getD_eq_getElem?_getD, List.getElem?_eq_getElem h]; rfl
/-- A row of ints of the call's own, from block B on. -/
def RowI (w : World) (B : Nat) (v : Value) (xs : List Int) : Prop := w.ownsRow B 3 1 v xs.length (iV xs)
theorem RowI.new (w : World) {B : Nat} (hB : B ≤ w.heap.size) : RowI (w.alloc (.cells #[] 3)) B (.slice (some ⟨w.heap.size, 0, none⟩) 0 0) [] :=
  ⟨rfl, .inr ⟨_, 0, #[], rfl, hB, heap_alloc_new w _, by simp, by unfold maxLen; omega, rfl, rfl⟩⟩
theorem RowI.sl {w : World} {B : Nat} {v : Value} {xs : List Int} (h : RowI w B v xs) : ∃ A c, v = .slice A xs.length c ∧ Sl w B A 3 xs.length (inAt xs) := by
  rcases h.2 with ⟨rfl, h0⟩ | ⟨g, cap, cur, rfl, hb, hg, hnc, _, hcs, htk⟩
  · exact ⟨none, 0, by rw [h0], fun hn => by omega⟩
  · refine ⟨_, cap, rfl, Sl.own ⟨cur, hg, by omega, fun i hi => ?_⟩ hb⟩
    have h1 : (cur.toList.take (xs.length * 1))[i]? = some (inAt xs i) := by rw [htk]; exact iV_get xs i hi
    rw [List.getElem?_take_of_lt (by omega)] at h1
    simpa using h1
theorem RowI.nx {w w' : World} {B : Nat} {v : Value} {xs : List Int} (h : RowI w B v xs) (hb : Nx w w') : RowI w' B v xs := by
  refine World.ownsRow.kept (row := none) h ⟨hb.os, hb.tape, hb.output, hb.size, fun i hi _ => hb.block i hi⟩ ?_
  cases hv : v.ownBlock with
  | none => exact .inl rfl
  | some g => exact .inr (by simp)
theorem RowI.rg {w w' : World} {B lo hi : Nat} {v : Value} {xs : List Int} (h : RowI w B v xs) (hr : Rg lo hi w w') (hh : hi ≤ B) : RowI w' B v xs := by
  rcases h.2 with ⟨rfl, h0⟩ | ⟨g, cap, cur, rfl, hb, hg, r⟩
  · exact ⟨h.1, .inl ⟨rfl, h0⟩⟩
  · have hlt := (World.ownsRow.lt h g rfl).2
    exact ⟨h.1, .inr ⟨g, cap, cur, rfl, hb, (hr.block g hlt (.inr (by omega))).trans hg, r⟩⟩
theorem RowI.ne {w : World} {B g : Nat} {v : Value} {xs : List Int} {t : TypeId} {ys : Array Value} (h : RowI w B v xs) (hb : Box w g t ys) (ht : t ≠ 3) : some g ≠ v.ownBlock := by
  intro he
  rcases h.2 with ⟨rfl, _⟩ | ⟨g', cap, cur, rfl, _, hg, _⟩
  · simp [Value.ownBlock] at he
  · obtain rfl : g = g' := by simpa [Value.ownBlock] using he
    unfold Box at hb
    rw [hg] at hb
    injection hb with hb
    injection hb with _ hb
    exact ht hb.symm
/-- What an append leaves as it is: blocks below B, and known blocks of another type. -/
structure GrewT (t : TypeId) (B : Nat) (w w' : World) : Prop where
  nx : ∀ a, Nx a w → a.heap.size ≤ B → Nx a w'
  rg : ∀ lo hi a, Rg lo hi a w → a.heap.size ≤ B → Rg lo hi a w'
  box : ∀ g t' xs, t' ≠ t → Box w g t' xs → Box w' g t' xs
  size : w.heap.size ≤ w'.heap.size
set_option maxHeartbeats 1000000 in
/-- append of one int at the operation, for the walk. -/
theorem wpList_addI {w : World} {ops : Array Oper} {rest : List Oper} {o : Oper} {a : Act} {Q : Exit → Act → World → Prop}
    (hgd : o.guard = none) (s x : Operand) (ho : o.op = .call { callee := .builtin .append, args := #[s, x], argTypes := #[27, 27] })
    (B gd : Nat) (v : Value) (xs : List Int) (x0 : Int) (hs : a.eval s = v) (hx : a.eval x = .slice (some ⟨gd, 0, none⟩) 1 1) (hown : RowI w B v xs) (hbx : Box w gd 3 #[.int .i64 x0])
    (hl : xs.length ≤ 1048576) (hB : B ≤ w.heap.size)
    (hK : ∀ A' k' w', RowI w' B (.slice A' (xs.length + 1) k') (xs ++ [x0]) → GrewT 3 B w w' → wpList Tryz.prog ops Q rest (a.put o.dst (.slice A' (xs.length + 1) k')) w') :
    wpList Tryz.prog ops Q (o :: rest) a w := by
  obtain ⟨i0, hi0, hz0, hz1, hz2⟩ := info_parts info_int
  refine wpList_append_own w hgd s x 27 ho B 3 i0 _ 1 8 Tryz.underlying27 hi0 hz0 hz1 hz2 rfl (by omega) v xs.length _ hs hown ⟨gd, 0, none⟩ 1 1 [.int .i64 x0] hx rfl (fun j u hj => ?_) (fun u hu => by simp only [List.mem_cons, List.not_mem_nil, or_false] at hu; rcases hu with rfl; rfl) (by unfold maxLen; omega) (by omega) hB ?_
  · rw [addr_add', Nat.zero_add, hbx.cell j]
    rw [← hj]
    rcases j with _ | j <;> simp
  · intro v' w' hw' hg' _
    have hr : RowI w' B v' (xs ++ [x0]) := by
      unfold RowI iV
      rw [List.map_append, List.length_append]
      exact hw'
    obtain ⟨A', k', rfl, _⟩ := hr.sl
    rw [List.length_append] at hr ⊢
    have hrow : ∀ k, Value.ownBlock v = some k → B ≤ k := fun k hk => (World.ownsRow.lt hown k hk).1
    refine hK A' k' w' hr ⟨fun b hb hbB => Below.grown hb hg' hb.size (fun k hk => Nat.le_trans hbB (hrow k hk)), fun lo hi b hb hbB => ?_, fun g t xs' ht hbg => hbg.grown hg' (hown.ne hbg ht), hg'.size⟩
    refine ⟨hg'.os.trans hb.os, hg'.tape.trans hb.tape, hg'.output.trans hb.output, Nat.le_trans hb.size hg'.size, fun k hk hr => (hg'.block k (Nat.lt_of_lt_of_le hk hb.size) fun e => ?_).trans (hb.block k hk hr)⟩
    have := hrow k e.symm
    omega
theorem RowI.nil (w : World) (B : Nat) : RowI w B (.slice none 0 0) [] := ⟨rfl, .inl ⟨rfl, rfl⟩⟩
theorem RowI.slc {w : World} {B : Nat} {v : Value} {xs : List Int} (h : RowI w B v xs) : ∃ A c, v = .slice A xs.length c ∧ xs.length ≤ c ∧ Sl w B A 3 xs.length (inAt xs) := by
  rcases h.2 with ⟨rfl, h0⟩ | ⟨g, cap, cur, rfl, hb, hg, hnc, _, hcs, htk⟩
  · exact ⟨none, 0, by rw [h0], by omega, fun hn => by omega⟩
  · refine ⟨_, cap, rfl, by omega, Sl.own ⟨cur, hg, by omega, fun i hi => ?_⟩ hb⟩
    have h1 : (cur.toList.take (xs.length * 1))[i]? = some (inAt xs i) := by rw [htk]; exact iV_get xs i hi
    rw [List.getElem?_take_of_lt (by omega)] at h1
    simpa using h1
end Go.Proofs.YtehahodomfbpjaaGreatDoor
/- What the text of a super is: its numbers, its words; laws on lists of words; append of a whole list of ints onto four; rows of words that grow. Conditions: what is read can be read. -/
namespace Go.Proofs.YtehahodomfbpjaaGreatDoor
set_option linter.unusedVariables false
set_option maxRecDepth 100000
open Go.RowKit

/-- The numbers of a super. -/
def supL (g b p t : Int) (xs : List Int) : List Int := [g, b, p, t] ++ xs
def supN (g b p t : Int) (xs : List Int) : List Nat := (supL g b p t xs).map Int.toNat
theorem supL_len (g b p t : Int) (xs : List Int) : (supL g b p t xs).length = xs.length + 4 := by unfold supL; simp
theorem supN_len (g b p t : Int) (xs : List Int) : (supN g b p t xs).length = xs.length + 4 := by unfold supN; rw [List.length_map, supL_len]
theorem superB_yes {g b p t : Int} {xs : List Int} {ms : List Mrk} (h : superB g b p t xs ms = true) :
    (1 ≤ g ∧ g ≤ 999999) ∧ (0 ≤ b ∧ b ≤ 999999) ∧ (b ≤ p ∧ p ≤ 999999) ∧ (b ≤ t ∧ t ≤ 999999) ∧ tbB xs = true ∧ msB ms = true := by
  unfold superB at h
  simp only [Bool.and_eq_true] at h
  exact ⟨inB_yes h.1.1.1.1.1, inB_yes h.1.1.1.1.2, inB_yes h.1.1.1.2, inB_yes h.1.1.2, h.1.2, h.2⟩
theorem tbB_in {xs : List Int} (h : tbB xs = true) {x : Int} (hx : x ∈ xs) : 10 ≤ x ∧ x ≤ 63 := by
  obtain ⟨_, hto⟩ := tbB_yes h
  obtain ⟨i, hi, rfl⟩ := List.getElem_of_mem hx
  have h1 := hto i hi
  unfold tbOk at h1
  rw [Bool.and_eq_true] at h1
  have h2 := inB_yes h1.1
  rwa [List.getD_eq_getElem?_getD, List.getElem?_eq_getElem hi, Option.getD_some] at h2
theorem supL_in {g b p t : Int} {xs : List Int} {ms : List Mrk} (h : superB g b p t xs ms = true) : ∀ x ∈ supL g b p t xs, 0 ≤ x ∧ x ≤ 999999 := by
  obtain ⟨h0, h1, h2, h3, h4, _⟩ := superB_yes h
  intro x hx
  unfold supL at hx
  simp only [List.mem_append, List.mem_cons, List.not_mem_nil, or_false] at hx
  rcases hx with (rfl | rfl | rfl | rfl) | hx
  · omega
  · omega
  · omega
  · omega
  · have := tbB_in h4 hx; omega
theorem supN_all {g b p t : Int} {xs : List Int} {ms : List Mrk} (h : superB g b p t xs ms = true) : All6 (supN g b p t xs) := fun k hk => by
  have hk' : k < (supL g b p t xs).length := by unfold supN at hk; rwa [List.length_map] at hk
  unfold supN
  rw [List.getD_eq_getElem?_getD, List.getElem?_map, List.getElem?_eq_getElem hk', Option.map_some, Option.getD_some]
  have := supL_in h _ (List.getElem_mem hk')
  omega
theorem supN_row {g b p t : Int} {xs : List Int} {ms : List Mrk} (h : superB g b p t xs ms = true) {w : World} {B n : Nat} {A : Option Addr} (hn : n = (supN g b p t xs).length) (hr : Row w B A n (inAt (supL g b p t xs))) : Row w B A (supN g b p t xs).length (intAt (supN g b p t xs)) := by
  subst hn
  intro hm
  obtain ⟨bb, off, e, hb, hc⟩ := hr hm
  refine ⟨bb, off, e, hb, fun i hi => ?_⟩
  rw [hc i hi]
  have hk' : i < (supL g b p t xs).length := by unfold supN at hi; rwa [List.length_map] at hi
  unfold inAt intAt supN
  rw [List.getD_eq_getElem?_getD, List.getElem?_eq_getElem hk', Option.getD_some, List.getD_eq_getElem?_getD, List.getElem?_map, List.getElem?_eq_getElem hk', Option.map_some, Option.getD_some]
  have := supL_in h _ (List.getElem_mem hk')
  rw [Int.toNat_of_nonneg this.1]
theorem msB_at {ms : List Mrk} (h : msB ms = true) {k : Nat} (hk : k < ms.length) : (ms.getD k mrZ).1.size ≤ 6 ∧ 0 ≤ (ms.getD k mrZ).2 ∧ (ms.getD k mrZ).2 ≤ 999999 := by
  have h1 := (msB_yes h).2 k hk
  unfold okMk mkB nmB at h1
  simp only [Bool.and_eq_true] at h1
  have h2 := inB_yes h1.1.1.1
  have h3 := inB_yes h1.1.2
  omega

/-- The word of a mark. -/
def mkW (m : Mrk) : ByteArray := m.1 ++ ⟨#[61]⟩ ++ ⟨(digs m.2.toNat).toArray⟩
def wds (ms : List Mrk) : List ByteArray := ms.map mkW
theorem wds_len (ms : List Mrk) : (wds ms).length = ms.length := by unfold wds; simp
def wdAt (ws : List ByteArray) (i : Nat) : Value := .string (ws.getD i ByteArray.empty)
/-- Words with signs between. -/
def jn (ws : List ByteArray) : ByteArray := ⟨(Lib.join (ws.map (·.data.toList)) [44]).toArray⟩
theorem jn_nil : jn [] = ⟨#[]⟩ := rfl
theorem jn_one (x : ByteArray) : jn [x] = x := by
  unfold jn
  rw [List.map_cons, List.map_nil, Lib.join_one]
theorem jn_snoc {ws : List ByteArray} (h : 0 < ws.length) (y : ByteArray) : jn (ws ++ [y]) = jn ws ++ ⟨#[44]⟩ ++ y := by
  rcases ws with _ | ⟨x, r⟩
  · simp at h
  · have e : (jn ((x :: r) ++ [y])).data.toList = (jn (x :: r) ++ ⟨#[44]⟩ ++ y).data.toList := by
      rw [ba_app, ba_app]
      unfold jn
      simp only [List.cons_append, List.map_cons, List.map_append, List.map_nil, Lib.join_cons]
      unfold Lib.joinTail
      simp
    have e2 := ba_eq e
    rw [e2]
theorem jn_take {ws : List ByteArray} {k : Nat} (hk : k < ws.length) : ws.take (k + 1) = ws.take k ++ [ws.getD k ByteArray.empty] := by
  rw [List.take_succ_eq_append_getElem hk, List.getD_eq_getElem?_getD, List.getElem?_eq_getElem hk, Option.getD_some]
theorem wds_at {ms : List Mrk} {k : Nat} (hk : k < ms.length) : (wds ms).getD k ByteArray.empty = mkW (ms.getD k mrZ) := by
  unfold wds
  rw [List.getD_eq_getElem?_getD, List.getElem?_map, List.getD_eq_getElem?_getD, List.getElem?_eq_getElem hk]; rfl
theorem wds_take (ms : List Mrk) (k : Nat) : (wds ms).take k = wds (ms.take k) := by unfold wds; rw [List.map_take]
theorem mkW_size {m : Mrk} (h : m.1.size ≤ 6) (h1 : m.2 ≤ 999999) : (mkW m).size ≤ 13 := by
  unfold mkW
  rw [ByteArray.size_append, ByteArray.size_append]
  have h2 := (digs_len (n := m.2.toNat) (by omega)).2
  have h3 : (⟨(digs m.2.toNat).toArray⟩ : ByteArray).size = (digs m.2.toNat).length := by simp [ByteArray.size]
  have h4 : (⟨#[61]⟩ : ByteArray).size = 1 := rfl
  omega
theorem wds_size {ms : List Mrk} (h : msB ms = true) (k : Nat) : ((wds ms).getD k ByteArray.empty).size ≤ 13 := by
  by_cases hk : k < ms.length
  · rw [wds_at hk]
    have := msB_at h hk
    exact mkW_size this.1 this.2.2
  · rw [List.getD_eq_getElem?_getD, List.getElem?_eq_none (by rw [wds_len]; omega)]
    exact Nat.zero_le _
theorem jn_size : ∀ (k : Nat) (ws : List ByteArray), (∀ k, (ws.getD k ByteArray.empty).size ≤ 13) → k ≤ ws.length → (jn (ws.take k)).size ≤ 14 * k
  | 0, ws, _, _ => by simp [jn_nil, ByteArray.size]
  | k + 1, ws, h, hk => by
    have ih := jn_size k ws h (by omega)
    rw [jn_take (by omega)]
    have hx := h k
    rcases Nat.eq_zero_or_pos k with hz | hp
    · subst hz
      rw [List.take_zero, List.nil_append, jn_one]; omega
    · rw [jn_snoc (by rw [List.length_take]; omega), ByteArray.size_append, ByteArray.size_append]
      have h4 : (⟨#[44]⟩ : ByteArray).size = 1 := rfl
      omega
theorem jn_all {ws : List ByteArray} (h : ∀ k, (ws.getD k ByteArray.empty).size ≤ 13) : (jn ws).size ≤ 14 * ws.length := by
  have := jn_size ws.length ws h (Nat.le_refl _)
  rwa [List.take_length] at this

theorem RowI.new4 (w : World) {B : Nat} (a b c d : Int) (hB : B ≤ w.heap.size) : RowI (w.alloc (.cells #[.int .i64 a, .int .i64 b, .int .i64 c, .int .i64 d] 3)) B (.slice (some ⟨w.heap.size, 0, none⟩) 4 4) [a, b, c, d] :=
  ⟨rfl, .inr ⟨_, 4, #[.int .i64 a, .int .i64 b, .int .i64 c, .int .i64 d], rfl, hB, heap_alloc_new w _, Nat.le_refl _, by unfold maxLen; omega, rfl, rfl⟩⟩
theorem iV_one' (xs : List Int) : ∀ u ∈ iV xs, u.oneCell' = true := fun u hu => by
  unfold iV at hu
  obtain ⟨x, _, rfl⟩ := List.mem_map.1 hu
  rfl
theorem iV_len' (xs : List Int) : (iV xs).length = xs.length := by unfold iV; simp
theorem grewT_refl' (t : TypeId) (B : Nat) (w : World) : GrewT t B w w := ⟨fun _ h _ => h, fun _ _ _ h _ => h, fun _ _ _ _ h => h, Nat.le_refl _⟩
theorem grewT_of' {w w' : World} {B : Nat} {v : Value} {xs : List Int} (hown : RowI w B v xs) (hg' : w.grownBy w' v.ownBlock) : GrewT 3 B w w' := by
  have hrow : ∀ k, Value.ownBlock v = some k → B ≤ k := fun k hk => (World.ownsRow.lt hown k hk).1
  refine ⟨fun b hb hbB => Below.grown hb hg' hb.size (fun k hk => Nat.le_trans hbB (hrow k hk)), fun lo hi b hb hbB => ?_, fun g t xs' ht hbg => hbg.grown hg' (hown.ne hbg ht), hg'.size⟩
  refine ⟨hg'.os.trans hb.os, hg'.tape.trans hb.tape, hg'.output.trans hb.output, Nat.le_trans hb.size hg'.size, fun k hk hr => (hg'.block k (Nat.lt_of_lt_of_le hk hb.size) fun e => ?_).trans (hb.block k hk hr)⟩
  have := hrow k e.symm
  omega
set_option maxHeartbeats 1000000 in
/-- append of a whole list of ints onto four. -/
theorem wpList_app4I {w : World} {ops : Array Oper} {rest : List Oper} {o : Oper} {a : Act} {Q : Exit → Act → World → Prop}
    (hgd : o.guard = none) (s x : Operand) (ho : o.op = .call { callee := .builtin .append, args := #[s, x], argTypes := #[27, 27] })
    (B g0 : Nat) (A : Option Addr) (c : Nat) (ys xs : List Int) (hys : ys.length = 4) (hs : a.eval s = .slice (some ⟨g0, 0, none⟩) 4 4) (hx : a.eval x = .slice A xs.length c) (hown : RowI w B (.slice (some ⟨g0, 0, none⟩) 4 4) ys) {B' : Nat} (hrow : Ins w B' A xs)
    (hm : xs.length ≤ 1048576) (hB : B ≤ w.heap.size)
    (hK : ∀ A' k' w', RowI w' B (.slice A' (xs.length + 4) k') (ys ++ xs) → GrewT 3 B w w' → wpList Tryz.prog ops Q rest (a.put o.dst (.slice A' (xs.length + 4) k')) w') :
    wpList Tryz.prog ops Q (o :: rest) a w := by
  refine wpList_plain hgd fun K hK' => ?_
  obtain ⟨i0, hi0, hz0, hz1, hz2⟩ := info_parts info_int
  rcases Nat.eq_zero_or_pos xs.length with h0 | hp
  · have hgs : xs = [] := List.eq_nil_of_length_eq_zero h0
    subst hgs
    have hrun : (Builtin.append_ #[27, 27] o.type #[.slice (some ⟨g0, 0, none⟩) 4 4, .slice A 0 c]).run Tryz.prog w = .ok (.slice (some ⟨g0, 0, none⟩) 4 4) w := by
      rcases A with _ | a'
      · simp [Builtin.append_, run_underlying Tryz.underlying27, sizeOf, typeInfo, hi0, Builtin.lenOf, Builtin.firstCells, storeCells]
      · simp [Builtin.append_, run_underlying Tryz.underlying27, sizeOf, typeInfo, hi0, Builtin.lenOf, Builtin.firstCells, storeCells, loadCells, loadCellsFrom]
    have hx' : a.eval x = .slice A 0 c := hx
    unfold Oper.wp execOp
    simp only [ho, resolve, invoke, builtin, Sem.run_bind, Sem.run_pure, Result.andThen_ok, List.map_toArray, List.map_cons, List.map_nil, hs, hx', hrun]
    exact hK' _ _ (hK _ _ w (by rw [List.append_nil]; exact hown) (grewT_refl' _ _ _))
  · obtain ⟨b, off, rfl, hb, hc⟩ := hrow (by omega)
    have hown' : w.ownsRow B 3 1 (.slice (some ⟨g0, 0, none⟩) 4 4) 4 (iV ys) := by have := hown; unfold RowI at this; rwa [hys] at this
    refine wp_append_own w s x 27 ho B 3 i0 _ 1 8 Tryz.underlying27 hi0 hz0 hz1 hz2 rfl (by omega) _ 4 _ hs hown' ⟨b, off, none⟩ xs.length c (iV xs) hx (by rw [iV_len', Nat.mul_one]) (fun j u hj => ?_) (iV_one' xs) (by unfold maxLen; omega) (by omega) hB ?_
    · have hj' : j < xs.length := by
        have := (List.getElem?_eq_some_iff.1 hj).1
        rwa [iV_len'] at this
      rw [iV_get xs j hj'] at hj
      rw [addr_add', hc j hj']
      exact hj
    · intro v' w' hw' hg' _
      have hr : RowI w' B v' (ys ++ xs) := by
        unfold RowI
        have e : (ys ++ xs).length = 4 + xs.length := by rw [List.length_append, hys]
        rw [e]
        unfold iV at hw' ⊢
        rw [List.map_append]
        exact hw'
      obtain ⟨A', k', rfl, _⟩ := hr.sl
      have e : (ys ++ xs).length = xs.length + 4 := by rw [List.length_append, hys]; omega
      rw [e] at hr ⊢
      exact hK' _ _ (hK A' k' w' hr (grewT_of' hown hg'))

/-- Words as values; a row of words that grows. -/
def wV (ws : List ByteArray) : List Value := ws.map .string
theorem infoS : (Tryz.prog.info? 9).map (fun i => (i.zero, i.size, i.bytes)) = some (some (.string ByteArray.empty), 1, 16) := by kernel_rfl
def RowW (w : World) (B : Nat) (v : Value) (ws : List ByteArray) : Prop := w.ownsRow B 9 1 v ws.length (wV ws)
theorem RowW.new (w : World) {B : Nat} (hB : B ≤ w.heap.size) : RowW (w.alloc (.cells #[] 9)) B (.slice (some ⟨w.heap.size, 0, none⟩) 0 0) [] :=
  ⟨rfl, .inr ⟨_, 0, #[], rfl, hB, heap_alloc_new w _, by simp, by unfold maxLen; omega, rfl, rfl⟩⟩
theorem RowW.nx {w w' : World} {B : Nat} {v : Value} {ws : List ByteArray} (h : RowW w B v ws) (hb : Nx w w') : RowW w' B v ws := by
  refine World.ownsRow.kept (row := none) h ⟨hb.os, hb.tape, hb.output, hb.size, fun i hi _ => hb.block i hi⟩ ?_
  cases hv : v.ownBlock with
  | none => exact .inl rfl
  | some g => exact .inr (by simp)
theorem wV_get (ws : List ByteArray) (i : Nat) (h : i < ws.length) : (wV ws)[i]? = some (wdAt ws i) := by
  unfold wV wdAt
  rw [List.getElem?_map, List.getElem?_eq_getElem h, List.getD_eq_getElem?_getD, List.getElem?_eq_getElem h]; rfl
theorem RowW.sl {w : World} {B : Nat} {v : Value} {ws : List ByteArray} (h : RowW w B v ws) : ∃ A c, v = .slice A ws.length c ∧ Sl w B A 9 ws.length (wdAt ws) := by
  rcases h.2 with ⟨rfl, h0⟩ | ⟨g, cap, cur, rfl, hb, hg, hnc, _, hcs, htk⟩
  · exact ⟨none, 0, by rw [h0], fun hn => by omega⟩
  · refine ⟨_, cap, rfl, Sl.own ⟨cur, hg, by omega, fun i hi => ?_⟩ hb⟩
    have h1 : (cur.toList.take (ws.length * 1))[i]? = some (wdAt ws i) := by rw [htk]; exact wV_get ws i hi
    rw [List.getElem?_take_of_lt (by omega)] at h1
    simpa using h1

theorem Nx.of_two' {a w u : World} (h : Nx a w) (k : Nx a u) : ∀ p : Addr, p.block < a.heap.size → w.cell? p = u.cell? p := fun p hp => (h.cell hp).trans (k.cell hp).symm
end Go.Proofs.YtehahodomfbpjaaGreatDoor
