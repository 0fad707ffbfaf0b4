/-
  Contracts of SuperOK, as the program has it.
  Conditions: the super can be read, and holds at most 1048576 elements of a kind; its table is no longer than its capacity.
-/
import Derived.Test.YtihpadelfpogmaaSok
namespace Go.Proofs.Ytihpadelfpogmaa
set_option linter.unusedVariables false
set_option maxRecDepth 100000
open Go.RowKit

theorem bl_asym : ∀ a b : List UInt8, Op.bytesLess a b = true → Op.bytesLess b a = false
  | _, [], h => by simp [Op.bytesLess] at h
  | [], _ :: _, _ => by simp [Op.bytesLess]
  | x :: a, y :: b, h => by
    simp only [Op.bytesLess, Bool.or_eq_true, Bool.and_eq_true, decide_eq_true_eq, beq_iff_eq] at h
    simp only [Op.bytesLess, Bool.or_eq_false_iff, Bool.and_eq_false_iff, decide_eq_false_iff_not, beq_eq_false_iff_ne]
    rcases h with h | ⟨rfl, h⟩
    · have h' : x.toNat < y.toNat := h
      refine ⟨fun h2 => ?_, .inl fun e => ?_⟩
      · have h2' : y.toNat < x.toNat := h2
        omega
      · subst e; omega
    · refine ⟨fun h2 => ?_, .inr (bl_asym a b h)⟩
      have h2' : x.toNat < x.toNat := h2
      omega
theorem bl_irr : ∀ a : List UInt8, Op.bytesLess a a = false
  | [] => by simp [Op.bytesLess]
  | x :: a => by
    simp only [Op.bytesLess, Bool.or_eq_false_iff, Bool.and_eq_false_iff, decide_eq_false_iff_not]
    refine ⟨fun h2 => ?_, .inr (bl_irr a)⟩
    have h2' : x.toNat < x.toNat := h2
    omega
theorem bl_ne (a b : List UInt8) (h : Op.bytesLess a b = true) : (b == a) = false := by
  rw [beq_eq_false_iff_ne]
  rintro rfl
  rw [bl_irr] at h
  cases h
theorem bl_total : ∀ a b : List UInt8, Op.bytesLess a b = false → (Op.bytesLess b a || b == a) = true
  | [], [], _ => by simp
  | _ :: _, [], _ => by simp [Op.bytesLess]
  | [], _ :: _, h => by simp [Op.bytesLess] at h
  | x :: a, y :: b, h => by
    simp only [Op.bytesLess, Bool.or_eq_false_iff, Bool.and_eq_false_iff, decide_eq_false_iff_not, beq_eq_false_iff_ne] at h
    obtain ⟨h1, h2⟩ := h
    have h1' : ¬ x.toNat < y.toNat := h1
    by_cases e : x = y
    · subst e
      have h3 := bl_total a b (by rcases h2 with h2 | h2; exact absurd rfl h2; exact h2)
      simp only [Op.bytesLess, Bool.or_eq_true, Bool.and_eq_true, decide_eq_true_eq, beq_iff_eq, List.cons.injEq, true_and] at h3 ⊢
      rcases h3 with h3 | h3
      · exact .inl (.inr h3)
      · exact .inr h3
    · have hne : x.toNat ≠ y.toNat := fun h => e (UInt8.toNat_inj.1 h)
      have h4 : y < x := (show y.toNat < x.toNat by omega)
      simp [Op.bytesLess, h4]
set_option maxHeartbeats 2000000 in
theorem isTable_c (A : Option Addr) (c B : Nat) (xs : List Int) (w : World) (h : Ins w B A xs) (hn : xs.length ≤ 1048576) (hc : xs.length ≤ c) :
    Calls Try.prog 145 #[.slice A xs.length c] w fun e w' => e = .returned (.bool (tbB xs)) ∧ w = w' := by
  by_cases hl : xs.length ≤ 20
  case neg =>
    have hd : decide (20 < (xs.length : Int)) = true := by simp; omega
    have HR := Lib.hid (tbB_len (xs := xs) (by omega)).symm
    go_enter Try.func145, Try.ntmps145
    go_wp2
    go_ret
    exact ⟨ret_bool HR.out, rfl⟩
  have hd : decide (20 < (xs.length : Int)) = false := by simp; omega
  go_enter Try.func145, Try.ntmps145
  go_wp2
  go_loop [10] (fun i => ∃ k : Nat, k ≤ xs.length ∧ i = .int .i64 k ∧ TbTo xs k) (fun i => xs.length - (intOf i).toNat)
  case atStart => exact ⟨0, Nat.zero_le _, rfl, TbTo.zero _⟩
  case round =>
    obtain ⟨k, hk, rfl, hto⟩ := hrel
    by_cases hlt : k < xs.length
    · obtain ⟨bb, off, rfl, hb, k0⟩ := h.at_ hlt
      obtain ⟨q, Hq⟩ : ∃ q, Hid (xs.getD k 0 = q) := ⟨_, rfl⟩
      rw [Hq.out] at k0
      have hkc : (k : Int) ≤ (c : Int) := by omega
      cases hin : inB 10 63 q with
      | false =>
        have HC := Lib.hid hin
        have HR := Lib.hid (tbB_no hlt (by unfold tbOk; rw [Hq.out, hin]; rfl)).symm
        clear hin
        go_wp2_with (go_at_call 144; refine (isWithin_c _ _ _ _).mono ?_; rintro e w' ⟨rfl, rfl⟩; rw [HC.out])
        go_ret
        exact ⟨ret_bool HR.out, rfl⟩
      | true =>
        have HC := Lib.hid hin
        clear hin
        cases hh : hasB xs k q with
        | true =>
          have HX := Lib.hid hh
          have HR := Lib.hid (tbB_no hlt (by unfold tbOk; rw [Hq.out, hh]; simp)).symm
          clear hh
          go_wp2_with (first | (go_at_call 144; refine (isWithin_c _ _ _ _).mono ?_; rintro e w' ⟨rfl, rfl⟩; rw [HC.out]) | (go_at_call 135; refine (contains_c (some ⟨bb, off, none⟩) k c B xs q _ h (by omega) hn).mono ?_; rintro e w' ⟨rfl, rfl⟩; rw [HX.out]))
          go_ret
          exact ⟨ret_bool HR.out, rfl⟩
        | false =>
          have HX := Lib.hid hh
          have HT := Lib.hid (hto.succ (by unfold tbOk; rw [Hq.out, HC.out, hh]; rfl))
          clear hh
          go_wp2_with (first | (go_at_call 144; refine (isWithin_c _ _ _ _).mono ?_; rintro e w' ⟨rfl, rfl⟩; rw [HC.out]) | (go_at_call 135; refine (contains_c (some ⟨bb, off, none⟩) k c B xs q _ h (by omega) hn).mono ?_; rintro e w' ⟨rfl, rfl⟩; rw [HX.out]))
          go_round
          case rel => exact ⟨k + 1, by omega, by go_num, HT.out⟩
          case measure => simp [intOf]; omega
    · obtain rfl : k = xs.length := by omega
      have HR := Lib.hid (tbB_mk hl hto).symm
      go_wp2
      go_ret
      exact ⟨ret_bool HR.out, rfl⟩
set_option maxHeartbeats 4000000 in
theorem areMarks_c (A2 : Option Addr) (c2 B : Nat) (ms : List Mrk) (w : World) (h2 : Mks w B A2 ms) (hB : B ≤ w.heap.size) (hn : ms.length ≤ 1048576) (hm : AllM ms) :
    Calls Try.prog 146 #[.slice A2 ms.length c2] w fun e w' => e = .returned (.bool (msB ms)) ∧ Nx w w' := by
  by_cases hl : ms.length ≤ 4
  case neg =>
    have hd : decide (4 < (ms.length : Int)) = true := by simp; omega
    have HR := Lib.hid (msB_len (ms := ms) (by omega)).symm
    go_enter Try.func146, Try.ntmps146
    go_wp2
    go_ret
    exact ⟨ret_bool HR.out, Nx.refl _⟩
  have hd : decide (4 < (ms.length : Int)) = false := by simp; omega
  go_enter Try.func146, Try.ntmps146
  go_wp2
  go_loopw [10] (fun i wr => ∃ k : Nat, k ≤ ms.length ∧ i = .int .i64 k ∧ MkTo ms k ∧ Nx w wr) (fun i _ => ms.length - (intOf i).toNat)
  case atStart => exact ⟨0, Nat.zero_le _, rfl, MkTo.zero _, Nx.refl _⟩
  case round =>
    obtain ⟨k, hk, rfl, hto, hnx⟩ := hrel
    by_cases hlt : k < ms.length
    · obtain ⟨bb, off, rfl, hb, k0, k1⟩ := (h2.below hnx hB).at_ hlt
      have hsz := hm k
      obtain ⟨⟨q0, q1⟩, Hq⟩ : ∃ q, Hid (ms.getD k mrZ = q) := ⟨_, rfl⟩
      rw [Hq.out] at k0 k1 hsz
      go_wp2_with fail
      have bq := Box.new wr 87 #[.string q0, .int .i64 q1]
      have hnxq := hnx.alloc (.cells #[.string q0, .int .i64 q1] 87)
      have hMq := h2.below hnxq hB
      generalize wr.alloc (.cells #[.string q0, .int .i64 q1] 87) = wq at *
      clear k0 k1
      have k0 := bq.c0
      have k1 := bq.c1
      cases hnm : nmB q0 with
      | false =>
        have HN := Lib.hid hnm
        have HR := Lib.hid (msB_no hlt (by unfold okMk mkB; rw [Hq.out]; simp [hnm])).symm
        clear hnm
        refine wp_region_lex [false, false, true, false, false, false, false, false, false, false, false, false, false, false, false, false, false, false, false, false, false, false, false, false, false] (fun w' => w'.cell? ⟨wr.heap.size, 0, none⟩ = some (.string q0) ∧ w'.cell? ⟨wr.heap.size, 1, none⟩ = some (.int .i64 q1)) (by kernel_rfl) (by kernel_rfl) rfl (by kernel_rfl) (fun _ _ d _ _ h => by cases d <;> exact h) (by exact ⟨k0, k1⟩) ?_
        repeat (first | (refine HL.take (v := ?_) (by rfl) ?_ ?_; rotate_left; (· (intro w hSw; (try dsimp only at hSw); go_simp; try with_reducible rfl)); (try simp only [Act.put, List.setIfInBounds_toArray, List.set_cons_zero, List.set_cons_succ])) | (refine HL.skip (by rfl) ?_; (try simp only [Act.put, List.setIfInBounds_toArray, List.set_cons_zero, List.set_cons_succ])))
        refine HL.call (by rfl) (fun K hK => ?_)
        go_simp
        refine (isMarkName_c q0 _ hsz).mono ?_; rintro e w' ⟨rfl, rfl⟩; rw [HN.out]
        go_wp2_with fail
        refine hK.out _ _ (by exact ⟨k0, k1⟩) ?_
        clear hK K
        try simp only [Act.put, List.setIfInBounds_toArray, List.set_cons_zero, List.set_cons_succ]
        repeat (first | (refine HL.take (v := ?_) (by rfl) ?_ ?_; rotate_left; (· (intro w hSw; (try dsimp only at hSw); go_simp; try with_reducible rfl)); (try simp only [Act.put, List.setIfInBounds_toArray, List.set_cons_zero, List.set_cons_succ])) | (refine HL.skip (by rfl) ?_; (try simp only [Act.put, List.setIfInBounds_toArray, List.set_cons_zero, List.set_cons_succ])))
        refine HL.done ?_
        go_wp2
        go_ret
        exact ⟨ret_bool HR.out, hnxq.drew⟩
      | true =>
        have HN := Lib.hid hnm
        clear hnm
        cases hps : inB 0 999999 q1 with
        | false =>
          have HP := Lib.hid hps
          have HR := Lib.hid (msB_no hlt (by unfold okMk mkB; rw [Hq.out]; simp [hps])).symm
          clear hps
          refine wp_region_lex [false, false, true, false, false, false, false, true, false, false, false, false, false, false, false, false, false, false, false, false, false, false, false, false, false] (fun w' => w'.cell? ⟨wr.heap.size, 0, none⟩ = some (.string q0) ∧ w'.cell? ⟨wr.heap.size, 1, none⟩ = some (.int .i64 q1)) (by kernel_rfl) (by kernel_rfl) rfl (by kernel_rfl) (fun _ _ d _ _ h => by cases d <;> exact h) (by exact ⟨k0, k1⟩) ?_
          repeat (first | (refine HL.take (v := ?_) (by rfl) ?_ ?_; rotate_left; (· (intro w hSw; (try dsimp only at hSw); go_simp; try with_reducible rfl)); (try simp only [Act.put, List.setIfInBounds_toArray, List.set_cons_zero, List.set_cons_succ])) | (refine HL.skip (by rfl) ?_; (try simp only [Act.put, List.setIfInBounds_toArray, List.set_cons_zero, List.set_cons_succ])))
          refine HL.call (by rfl) (fun K hK => ?_)
          go_simp
          refine (isMarkName_c q0 _ hsz).mono ?_; rintro e w' ⟨rfl, rfl⟩; rw [HN.out]
          go_wp2_with fail
          refine hK.out _ _ (by exact ⟨k0, k1⟩) ?_
          clear hK K
          try simp only [Act.put, List.setIfInBounds_toArray, List.set_cons_zero, List.set_cons_succ]
          repeat (first | (refine HL.take (v := ?_) (by rfl) ?_ ?_; rotate_left; (· (intro w hSw; (try dsimp only at hSw); go_simp; try with_reducible rfl)); (try simp only [Act.put, List.setIfInBounds_toArray, List.set_cons_zero, List.set_cons_succ])) | (refine HL.skip (by rfl) ?_; (try simp only [Act.put, List.setIfInBounds_toArray, List.set_cons_zero, List.set_cons_succ])))
          refine HL.call (by rfl) (fun K hK => ?_)
          go_simp
          refine (isPosition_c q1 _).mono ?_; rintro e w' ⟨rfl, rfl⟩; rw [HP.out]
          go_wp2_with fail
          refine hK.out _ _ (by exact ⟨k0, k1⟩) ?_
          clear hK K
          try simp only [Act.put, List.setIfInBounds_toArray, List.set_cons_zero, List.set_cons_succ]
          repeat (first | (refine HL.take (v := ?_) (by rfl) ?_ ?_; rotate_left; (· (intro w hSw; (try dsimp only at hSw); go_simp; try with_reducible rfl)); (try simp only [Act.put, List.setIfInBounds_toArray, List.set_cons_zero, List.set_cons_succ])) | (refine HL.skip (by rfl) ?_; (try simp only [Act.put, List.setIfInBounds_toArray, List.set_cons_zero, List.set_cons_succ])))
          refine HL.done ?_
          go_wp2
          go_ret
          exact ⟨ret_bool HR.out, hnxq.drew⟩
        | true =>
          have HP := Lib.hid hps
          clear hps
          by_cases hk0 : k = 0
          · have hd0 : decide (0 < (k : Int)) = false := by simp; omega
            have hd1 : decide (0 < k) = false := by simp; omega
            have HO := Lib.hid (hto.succ (by unfold okMk mkB; rw [Hq.out, HN.out, HP.out, hk0]; rfl))
            clear hk0
            refine wp_region_lex [false, false, true, false, false, false, false, true, false, false, false, false, false, false, false, false, false, false, false, false, false, false, false, false, false] (fun w' => w'.cell? ⟨wr.heap.size, 0, none⟩ = some (.string q0) ∧ w'.cell? ⟨wr.heap.size, 1, none⟩ = some (.int .i64 q1)) (by kernel_rfl) (by kernel_rfl) rfl (by kernel_rfl) (fun _ _ d _ _ h => by cases d <;> exact h) (by exact ⟨k0, k1⟩) ?_
            repeat (first | (refine HL.take (v := ?_) (by rfl) ?_ ?_; rotate_left; (· (intro w hSw; (try dsimp only at hSw); go_simp; try with_reducible rfl)); (try simp only [Act.put, List.setIfInBounds_toArray, List.set_cons_zero, List.set_cons_succ])) | (refine HL.skip (by rfl) ?_; (try simp only [Act.put, List.setIfInBounds_toArray, List.set_cons_zero, List.set_cons_succ])))
            refine HL.call (by rfl) (fun K hK => ?_)
            go_simp
            refine (isMarkName_c q0 _ hsz).mono ?_; rintro e w' ⟨rfl, rfl⟩; rw [HN.out]
            go_wp2_with fail
            refine hK.out _ _ (by exact ⟨k0, k1⟩) ?_
            clear hK K
            try simp only [Act.put, List.setIfInBounds_toArray, List.set_cons_zero, List.set_cons_succ]
            repeat (first | (refine HL.take (v := ?_) (by rfl) ?_ ?_; rotate_left; (· (intro w hSw; (try dsimp only at hSw); go_simp; try with_reducible rfl)); (try simp only [Act.put, List.setIfInBounds_toArray, List.set_cons_zero, List.set_cons_succ])) | (refine HL.skip (by rfl) ?_; (try simp only [Act.put, List.setIfInBounds_toArray, List.set_cons_zero, List.set_cons_succ])))
            refine HL.call (by rfl) (fun K hK => ?_)
            go_simp
            refine (isPosition_c q1 _).mono ?_; rintro e w' ⟨rfl, rfl⟩; rw [HP.out]
            go_wp2_with fail
            refine hK.out _ _ (by exact ⟨k0, k1⟩) ?_
            clear hK K
            try simp only [Act.put, List.setIfInBounds_toArray, List.set_cons_zero, List.set_cons_succ]
            repeat (first | (refine HL.take (v := ?_) (by rfl) ?_ ?_; rotate_left; (· (intro w hSw; (try dsimp only at hSw); go_simp; try with_reducible rfl)); (try simp only [Act.put, List.setIfInBounds_toArray, List.set_cons_zero, List.set_cons_succ])) | (refine HL.skip (by rfl) ?_; (try simp only [Act.put, List.setIfInBounds_toArray, List.set_cons_zero, List.set_cons_succ])))
            refine HL.done ?_
            go_wp2
            go_roundw
            case rel => exact ⟨k + 1, by omega, by go_num, HO.out, hnxq.drew⟩
            case measure => simp [intOf]; omega
          · obtain ⟨j, rfl⟩ : ∃ j, k = j + 1 := ⟨k - 1, by omega⟩
            obtain ⟨b', off', he, _, m0, _⟩ := hMq.at_ (k := j) (by omega)
            obtain ⟨rfl, rfl⟩ : bb = b' ∧ off = off' := by simpa using he
            clear he
            obtain ⟨⟨r0, r1⟩, Hr⟩ : ∃ q, Hid (ms.getD j mrZ = q) := ⟨_, rfl⟩
            rw [Hr.out] at m0
            have hd0 : decide (0 < ((j : Int) + 1)) = true := by simp
            have hd1 : decide (0 < j + 1) = true := by simp
            have hi1 : (0 : Int) ≤ (j : Int) + 1 := by omega
            have hi2 : (j : Int) + 1 < (ms.length : Int) := by omega
            have hi4 : (j : Int) < (ms.length : Int) := by omega
            have hi5 : j < ms.length := by omega
            have hi3 : ((j : Int) + 1).toNat = j + 1 := by omega
            have hw1 : IntKind.i64.wrap ((j : Int) + 1 - 1) = (j : Int) := by rw [Int.add_sub_cancel]; exact IntWalk.i64_in _ (by omega)
            have hw2 : IntKind.i64.wrap (j : Int) = (j : Int) := IntWalk.i64_in _ (by omega)
            have hi6 : (0 : Int) ≤ (j : Int) := by omega
            cases hlt2 : Op.bytesLess r0.toList q0.toList with
            | true =>
              have HO := Lib.hid (hto.succ (by unfold okMk mkB; rw [Hq.out, HN.out, HP.out, Nat.add_sub_cancel, Hr.out, hlt2]; simp))
              have hg1 : Op.bytesLess q0.toList r0.toList = false := bl_asym _ _ hlt2
              have hg2 : (q0.toList == r0.toList) = false := bl_ne _ _ hlt2
              clear hlt2
              refine wp_region_lex [false, false, true, false, false, false, false, true, false, false, false, false, false, false, false, false, false, false, false, false, false, false, false, false, false] (fun w' => w'.cell? ⟨wr.heap.size, 0, none⟩ = some (.string q0) ∧ w'.cell? ⟨wr.heap.size, 1, none⟩ = some (.int .i64 q1) ∧ w'.cell? ⟨bb, off + j * 2, none⟩ = some (.string r0)) (by kernel_rfl) (by kernel_rfl) rfl (by kernel_rfl) (fun _ _ d _ _ h => by cases d <;> exact h) (by exact ⟨k0, k1, m0⟩) ?_
              repeat (first | (refine HL.take (v := ?_) (by rfl) ?_ ?_; rotate_left; (· (intro w hSw; (try dsimp only at hSw); go_simp; try with_reducible rfl)); (try simp only [Act.put, List.setIfInBounds_toArray, List.set_cons_zero, List.set_cons_succ])) | (refine HL.skip (by rfl) ?_; (try simp only [Act.put, List.setIfInBounds_toArray, List.set_cons_zero, List.set_cons_succ])))
              refine HL.call (by rfl) (fun K hK => ?_)
              go_simp
              refine (isMarkName_c q0 _ hsz).mono ?_; rintro e w' ⟨rfl, rfl⟩; rw [HN.out]
              go_wp2_with fail
              refine hK.out _ _ (by exact ⟨k0, k1, m0⟩) ?_
              clear hK K
              try simp only [Act.put, List.setIfInBounds_toArray, List.set_cons_zero, List.set_cons_succ]
              repeat (first | (refine HL.take (v := ?_) (by rfl) ?_ ?_; rotate_left; (· (intro w hSw; (try dsimp only at hSw); go_simp; try with_reducible rfl)); (try simp only [Act.put, List.setIfInBounds_toArray, List.set_cons_zero, List.set_cons_succ])) | (refine HL.skip (by rfl) ?_; (try simp only [Act.put, List.setIfInBounds_toArray, List.set_cons_zero, List.set_cons_succ])))
              refine HL.call (by rfl) (fun K hK => ?_)
              go_simp
              refine (isPosition_c q1 _).mono ?_; rintro e w' ⟨rfl, rfl⟩; rw [HP.out]
              go_wp2_with fail
              refine hK.out _ _ (by exact ⟨k0, k1, m0⟩) ?_
              clear hK K
              try simp only [Act.put, List.setIfInBounds_toArray, List.set_cons_zero, List.set_cons_succ]
              repeat (first | (refine HL.take (v := ?_) (by rfl) ?_ ?_; rotate_left; (· (intro w hSw; (try dsimp only at hSw); go_simp; try with_reducible rfl)); (try simp only [Act.put, List.setIfInBounds_toArray, List.set_cons_zero, List.set_cons_succ])) | (refine HL.skip (by rfl) ?_; (try simp only [Act.put, List.setIfInBounds_toArray, List.set_cons_zero, List.set_cons_succ])))
              refine HL.done ?_
              clear hw1 hw2 hi6 hi1 hi2 hi3 hi4 hi5
              go_wp2
              go_roundw
              case rel => exact ⟨j + 1 + 1, by omega, by go_num, HO.out, hnxq.drew⟩
              case measure => simp [intOf]; omega
            | false =>
              have HR := Lib.hid (msB_no hlt (by unfold okMk mkB; rw [Hq.out]; rw [Nat.add_sub_cancel, Hr.out, hlt2]; simp)).symm
              have hg : (Op.bytesLess q0.toList r0.toList || q0.toList == r0.toList) = true := bl_total _ _ hlt2
              clear hlt2
              cases hg1 : Op.bytesLess q0.toList r0.toList with
              | true =>
                clear hg
                refine wp_region_lex [false, false, true, false, false, false, false, true, false, false, false, false, false, false, false, false, false, false, false, false, false, false, false, false, false] (fun w' => w'.cell? ⟨wr.heap.size, 0, none⟩ = some (.string q0) ∧ w'.cell? ⟨wr.heap.size, 1, none⟩ = some (.int .i64 q1) ∧ w'.cell? ⟨bb, off + j * 2, none⟩ = some (.string r0)) (by kernel_rfl) (by kernel_rfl) rfl (by kernel_rfl) (fun _ _ d _ _ h => by cases d <;> exact h) (by exact ⟨k0, k1, m0⟩) ?_
                repeat (first | (refine HL.take (v := ?_) (by rfl) ?_ ?_; rotate_left; (· (intro w hSw; (try dsimp only at hSw); go_simp; try with_reducible rfl)); (try simp only [Act.put, List.setIfInBounds_toArray, List.set_cons_zero, List.set_cons_succ])) | (refine HL.skip (by rfl) ?_; (try simp only [Act.put, List.setIfInBounds_toArray, List.set_cons_zero, List.set_cons_succ])))
                refine HL.call (by rfl) (fun K hK => ?_)
                go_simp
                refine (isMarkName_c q0 _ hsz).mono ?_; rintro e w' ⟨rfl, rfl⟩; rw [HN.out]
                go_wp2_with fail
                refine hK.out _ _ (by exact ⟨k0, k1, m0⟩) ?_
                clear hK K
                try simp only [Act.put, List.setIfInBounds_toArray, List.set_cons_zero, List.set_cons_succ]
                repeat (first | (refine HL.take (v := ?_) (by rfl) ?_ ?_; rotate_left; (· (intro w hSw; (try dsimp only at hSw); go_simp; try with_reducible rfl)); (try simp only [Act.put, List.setIfInBounds_toArray, List.set_cons_zero, List.set_cons_succ])) | (refine HL.skip (by rfl) ?_; (try simp only [Act.put, List.setIfInBounds_toArray, List.set_cons_zero, List.set_cons_succ])))
                refine HL.call (by rfl) (fun K hK => ?_)
                go_simp
                refine (isPosition_c q1 _).mono ?_; rintro e w' ⟨rfl, rfl⟩; rw [HP.out]
                go_wp2_with fail
                refine hK.out _ _ (by exact ⟨k0, k1, m0⟩) ?_
                clear hK K
                try simp only [Act.put, List.setIfInBounds_toArray, List.set_cons_zero, List.set_cons_succ]
                repeat (first | (refine HL.take (v := ?_) (by rfl) ?_ ?_; rotate_left; (· (intro w hSw; (try dsimp only at hSw); go_simp; try with_reducible rfl)); (try simp only [Act.put, List.setIfInBounds_toArray, List.set_cons_zero, List.set_cons_succ])) | (refine HL.skip (by rfl) ?_; (try simp only [Act.put, List.setIfInBounds_toArray, List.set_cons_zero, List.set_cons_succ])))
                refine HL.done ?_
                clear hw1 hw2 hi6 hi1 hi2 hi3 hi4 hi5
                go_wp2
                go_ret
                exact ⟨ret_bool HR.out, hnxq.drew⟩
              | false =>
                rw [hg1, Bool.false_or] at hg
                refine wp_region_lex [false, false, true, false, false, false, false, true, false, false, false, false, false, false, false, false, false, false, false, false, false, false, false, false, false] (fun w' => w'.cell? ⟨wr.heap.size, 0, none⟩ = some (.string q0) ∧ w'.cell? ⟨wr.heap.size, 1, none⟩ = some (.int .i64 q1) ∧ w'.cell? ⟨bb, off + j * 2, none⟩ = some (.string r0)) (by kernel_rfl) (by kernel_rfl) rfl (by kernel_rfl) (fun _ _ d _ _ h => by cases d <;> exact h) (by exact ⟨k0, k1, m0⟩) ?_
                repeat (first | (refine HL.take (v := ?_) (by rfl) ?_ ?_; rotate_left; (· (intro w hSw; (try dsimp only at hSw); go_simp; try with_reducible rfl)); (try simp only [Act.put, List.setIfInBounds_toArray, List.set_cons_zero, List.set_cons_succ])) | (refine HL.skip (by rfl) ?_; (try simp only [Act.put, List.setIfInBounds_toArray, List.set_cons_zero, List.set_cons_succ])))
                refine HL.call (by rfl) (fun K hK => ?_)
                go_simp
                refine (isMarkName_c q0 _ hsz).mono ?_; rintro e w' ⟨rfl, rfl⟩; rw [HN.out]
                go_wp2_with fail
                refine hK.out _ _ (by exact ⟨k0, k1, m0⟩) ?_
                clear hK K
                try simp only [Act.put, List.setIfInBounds_toArray, List.set_cons_zero, List.set_cons_succ]
                repeat (first | (refine HL.take (v := ?_) (by rfl) ?_ ?_; rotate_left; (· (intro w hSw; (try dsimp only at hSw); go_simp; try with_reducible rfl)); (try simp only [Act.put, List.setIfInBounds_toArray, List.set_cons_zero, List.set_cons_succ])) | (refine HL.skip (by rfl) ?_; (try simp only [Act.put, List.setIfInBounds_toArray, List.set_cons_zero, List.set_cons_succ])))
                refine HL.call (by rfl) (fun K hK => ?_)
                go_simp
                refine (isPosition_c q1 _).mono ?_; rintro e w' ⟨rfl, rfl⟩; rw [HP.out]
                go_wp2_with fail
                refine hK.out _ _ (by exact ⟨k0, k1, m0⟩) ?_
                clear hK K
                try simp only [Act.put, List.setIfInBounds_toArray, List.set_cons_zero, List.set_cons_succ]
                repeat (first | (refine HL.take (v := ?_) (by rfl) ?_ ?_; rotate_left; (· (intro w hSw; (try dsimp only at hSw); go_simp; try with_reducible rfl)); (try simp only [Act.put, List.setIfInBounds_toArray, List.set_cons_zero, List.set_cons_succ])) | (refine HL.skip (by rfl) ?_; (try simp only [Act.put, List.setIfInBounds_toArray, List.set_cons_zero, List.set_cons_succ])))
                refine HL.done ?_
                clear hw1 hw2 hi6 hi1 hi2 hi3 hi4 hi5
                go_wp2
                go_ret
                exact ⟨ret_bool HR.out, hnxq.drew⟩
    · obtain rfl : k = ms.length := by omega
      have HR := Lib.hid (msB_mk hl hto).symm
      go_wp2
      go_ret
      exact ⟨ret_bool HR.out, hnx⟩
set_option maxHeartbeats 4000000 in
theorem superRight_c (g b p t : Int) (A A2 : Option Addr) (c c2 B : Nat) (xs : List Int) (ms : List Mrk) (w : World) (h : Ins w B A xs) (h2 : Mks w B A2 ms) (hB : B ≤ w.heap.size) (hn : xs.length ≤ 1048576) (hn2 : ms.length ≤ 1048576) (hc : xs.length ≤ c) (hm : AllM ms) :
    Calls Try.prog 101 #[.agg #[.int .i64 g, .int .i64 b, .int .i64 p, .int .i64 t, .slice A xs.length c, .slice A2 ms.length c2]] w fun e w' => e = .returned (.bool (superB g b p t xs ms)) ∧ Nx w w' := by
  cases x0 : inB 1 999999 g with
  | false =>
    have H0 := Lib.hid x0
    clear x0
    have HR := Lib.hid (superB_no (g := g) (b := b) (p := p) (t := t) (xs := xs) (ms := ms) (by simp [H0.out])).symm
    go_enter Try.func101, Try.ntmps101
    go_wp2_with (first | (go_at_call 144; refine (isWithin_c _ _ _ _).mono ?_; rintro e w' ⟨rfl, rfl⟩; first | rw [H0.out]))
    go_ret
    exact ⟨ret_bool HR.out, (Nx.refl _).alloc _⟩
  | true =>
  have H0 := Lib.hid x0
  clear x0
  cases x1 : inB 0 999999 b with
  | false =>
    have H1 := Lib.hid x1
    clear x1
    have HR := Lib.hid (superB_no (g := g) (b := b) (p := p) (t := t) (xs := xs) (ms := ms) (by simp [H1.out])).symm
    go_enter Try.func101, Try.ntmps101
    go_wp2_with (first | (go_at_call 144; refine (isWithin_c _ _ _ _).mono ?_; rintro e w' ⟨rfl, rfl⟩; first | rw [H0.out]) | (go_at_call 114; refine (isPosition_c _ _).mono ?_; rintro e w' ⟨rfl, rfl⟩; rw [H1.out]))
    go_ret
    exact ⟨ret_bool HR.out, (Nx.refl _).alloc _⟩
  | true =>
  have H1 := Lib.hid x1
  clear x1
  cases x2 : inB b 999999 p with
  | false =>
    have H2 := Lib.hid x2
    clear x2
    have HR := Lib.hid (superB_no (g := g) (b := b) (p := p) (t := t) (xs := xs) (ms := ms) (by simp [H2.out])).symm
    go_enter Try.func101, Try.ntmps101
    go_wp2_with (first | (go_at_call 144; refine (isWithin_c _ _ _ _).mono ?_; rintro e w' ⟨rfl, rfl⟩; first | rw [H0.out] | rw [H2.out]) | (go_at_call 114; refine (isPosition_c _ _).mono ?_; rintro e w' ⟨rfl, rfl⟩; rw [H1.out]))
    go_ret
    exact ⟨ret_bool HR.out, (Nx.refl _).alloc _⟩
  | true =>
  have H2 := Lib.hid x2
  clear x2
  cases x3 : inB b 999999 t with
  | false =>
    have H3 := Lib.hid x3
    clear x3
    have HR := Lib.hid (superB_no (g := g) (b := b) (p := p) (t := t) (xs := xs) (ms := ms) (by simp [H3.out])).symm
    go_enter Try.func101, Try.ntmps101
    go_wp2_with (first | (go_at_call 144; refine (isWithin_c _ _ _ _).mono ?_; rintro e w' ⟨rfl, rfl⟩; first | rw [H0.out] | rw [H2.out] | rw [H3.out]) | (go_at_call 114; refine (isPosition_c _ _).mono ?_; rintro e w' ⟨rfl, rfl⟩; rw [H1.out]))
    go_ret
    exact ⟨ret_bool HR.out, (Nx.refl _).alloc _⟩
  | true =>
  have H3 := Lib.hid x3
  clear x3
  cases x4 : tbB xs with
  | false =>
    have H4 := Lib.hid x4
    clear x4
    have HR := Lib.hid (superB_no (g := g) (b := b) (p := p) (t := t) (xs := xs) (ms := ms) (by simp [H4.out])).symm
    go_enter Try.func101, Try.ntmps101
    go_wp2_with (first | (go_at_call 144; refine (isWithin_c _ _ _ _).mono ?_; rintro e w' ⟨rfl, rfl⟩; first | rw [H0.out] | rw [H2.out] | rw [H3.out]) | (go_at_call 114; refine (isPosition_c _ _).mono ?_; rintro e w' ⟨rfl, rfl⟩; rw [H1.out]) | (go_at_call 145; refine (isTable_c A c B xs _ (h.below ((Nx.refl w).alloc _) hB) hn hc).mono ?_; rintro e w' ⟨rfl, rfl⟩; rw [H4.out]))
    go_ret
    exact ⟨ret_bool HR.out, (Nx.refl _).alloc _⟩
  | true =>
  have H4 := Lib.hid x4
  clear x4
  have HR := Lib.hid (show msB ms = superB g b p t xs ms by unfold superB; rw [H0.out, H1.out, H2.out, H3.out, H4.out]; rfl)
  go_enter Try.func101, Try.ntmps101
  go_wp2_with (first | (go_at_call 144; refine (isWithin_c _ _ _ _).mono ?_; rintro e w' ⟨rfl, rfl⟩; first | rw [H0.out] | rw [H2.out] | rw [H3.out]) | (go_at_call 114; refine (isPosition_c _ _).mono ?_; rintro e w' ⟨rfl, rfl⟩; rw [H1.out]) | (go_at_call 145; refine (isTable_c A c B xs _ (h.below ((Nx.refl w).alloc _) hB) hn hc).mono ?_; rintro e w' ⟨rfl, rfl⟩; rw [H4.out]))
  have hx0 := (Nx.refl w).alloc (.cells #[.int .i64 g, .int .i64 b, .int .i64 p, .int .i64 t, .slice A xs.length c, .slice A2 ms.length c2] 33)
  refine (areMarks_c A2 c2 B ms _ (h2.below hx0 hB) (Nat.le_trans hB hx0.size) hn2 hm).mono ?_
  rintro e w1 ⟨rfl, hnx1⟩
  go_wp2
  go_ret
  exact ⟨ret_bool HR.out, hx0.trans hnx1⟩
set_option maxHeartbeats 1000000 in
theorem implSuperOK_c (g b p t : Int) (A A2 : Option Addr) (c c2 B : Nat) (xs : List Int) (ms : List Mrk) (w : World) (h : Ins w B A xs) (h2 : Mks w B A2 ms) (hB : B ≤ w.heap.size) (hn : xs.length ≤ 1048576) (hn2 : ms.length ≤ 1048576) (hc : xs.length ≤ c) (hm : AllM ms) :
    Calls Try.prog 46 #[.agg #[.int .i64 g, .int .i64 b, .int .i64 p, .int .i64 t, .slice A xs.length c, .slice A2 ms.length c2]] w fun e w' => e = .returned (.bool (superB g b p t xs ms)) ∧ Nx w w' := by
  have hx0 := (Nx.refl w).alloc (.cells #[.int .i64 g, .int .i64 b, .int .i64 p, .int .i64 t, .slice A xs.length c, .slice A2 ms.length c2] 33)
  go_enter Try.func46, Try.ntmps46
  go_wp2_with fail
  refine (superRight_c g b p t A A2 c c2 B xs ms _ (h.below hx0 hB) (h2.below hx0 hB) (Nat.le_trans hB hx0.size) hn hn2 hc hm).mono ?_
  rintro e w1 ⟨rfl, hnx⟩
  go_wp2
  go_ret
  exact ⟨rfl, hx0.trans hnx⟩
end Go.Proofs.Ytihpadelfpogmaa
