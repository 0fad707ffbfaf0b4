/-
  Plain numbers: digits with none needless ahead. Contracts of the program's numberOf and plainNumberOf, and of the model's l00Digits, l00Number and l04Number.
  Conditions: numbers of at most 18 digits; texts of at most 65536 bytes; the package's errors are known.
-/
import Derived.Test.YteckhdkghfidiaaDoorRdv
namespace Go.Proofs.YteckhdkghfidiaaDoor
set_option linter.unusedVariables false
set_option maxRecDepth 100000
open Go.RowKit

theorem valTo_bd17 {s : ByteArray} {k : Nat} (hk : k ≤ 17) (h : digL (s.data.toList.take k) = true) : valTo s k < 100000000000000000 := by
  have h1 := valL_bd _ rfl h
  have h2 : (s.data.toList.take k).length ≤ 17 := Nat.le_trans (List.length_take_le _ _) hk
  have h3 : 10 ^ (s.data.toList.take k).length ≤ 10 ^ 17 := Nat.pow_le_pow_right (by omega) h2
  unfold valTo
  omega
theorem valL_bd18 {l : List UInt8} (hk : l.length ≤ 18) (h : digL l = true) : valL l < 1000000000000000000 := by
  have h1 := valL_bd _ rfl h
  have h3 : 10 ^ l.length ≤ 10 ^ 18 := Nat.pow_le_pow_right (by omega) hk
  omega
theorem digs_len18 {n : Nat} (h : n < 1000000000000000000) : 1 ≤ (digs n).length ∧ (digs n).length ≤ 18 := by
  refine ⟨?_, (digs_pad 17 n (by omega)).1⟩
  by_cases h' : n < 10
  · rw [digs_lt h']; simp
  · rw [digs_ge h']; simp
theorem valL_pos : ∀ (n : Nat) {l : List UInt8}, l.length = n → digL l = true → l ≠ [] → l.head? ≠ some 48 → 1 ≤ valL l := by
  intro n
  induction n with
  | zero => intro l hl _ hne _; exact absurd (List.length_eq_zero_iff.1 hl) hne
  | succ n ih =>
    intro l hl h hne hh
    rcases List.eq_nil_or_concat l with rfl | ⟨l', c, rfl⟩
    · exact absurd rfl hne
    · rw [List.concat_eq_append] at hl h hh ⊢
      rw [digL_snoc, Bool.and_eq_true] at h
      rw [valL_snoc]
      rcases l' with _ | ⟨x, l'⟩
      · have h2 := digI_yes (show digI (c.toNat : Int) = true from h.2)
        have hc : c.toNat ≠ 48 := fun e => hh (by simp only [List.nil_append, List.head?_cons, Option.some.injEq]; exact UInt8.toNat_inj.1 e)
        simp only [valL, List.foldl_nil]
        omega
      · have := ih (l := x :: l') (by simpa using hl) h.1 (by simp) (by simpa using hh)
        omega
theorem digs_valL : ∀ (n : Nat) {l : List UInt8}, l.length = n → digL l = true → l ≠ [] → (l.length = 1 ∨ l.head? ≠ some 48) → digs (valL l) = l := by
  intro n
  induction n with
  | zero => intro l hl _ hne _; exact absurd (List.length_eq_zero_iff.1 hl) hne
  | succ n ih =>
    intro l hl h hne hh
    rcases List.eq_nil_or_concat l with rfl | ⟨l', c, rfl⟩
    · exact absurd rfl hne
    · rw [List.concat_eq_append] at hl h hh ⊢
      rw [digL_snoc, Bool.and_eq_true] at h
      have h2 := digI_yes (show digI (c.toNat : Int) = true from h.2)
      have hc : UInt8.ofNat (48 + (c.toNat - 48)) = c := by
        rw [show 48 + (c.toNat - 48) = c.toNat by omega]; simp
      rw [valL_snoc]
      rcases l' with _ | ⟨x, l'⟩
      · simp only [valL, List.foldl_nil, Nat.mul_zero, Nat.zero_add, List.nil_append]
        rw [digs_lt (by omega), hc]
      · have hx : (x :: l').head? ≠ some 48 := by
          rcases hh with hh | hh
          · simp at hh
          · simpa using hh
        have h1 := valL_pos _ rfl h.1 (by simp) hx
        have h3 := ih (l := x :: l') (by simpa using hl) h.1 (by simp) (.inr hx)
        have e1 : (10 * valL (x :: l') + (c.toNat - 48)) / 10 = valL (x :: l') := by omega
        have e2 : (10 * valL (x :: l') + (c.toNat - 48)) % 10 = c.toNat - 48 := by omega
        rw [digs_ge (by omega), e1, e2, h3, hc]
theorem plain_digs {l : List UInt8} (h : plainB l = true) : digs (valL l) = l :=
  digs_valL _ rfl (plainB_dig h) (fun e => by have := (plainB_len h).1; rw [e] at this; simp at this) (plainB_head h)

set_option maxHeartbeats 1000000 in
theorem numberOf18_c (s : ByteArray) (w : World) (a0 a1 : Addr) (hs : s.size ≤ 18) (hE : Er w a0 a1) :
    Calls Tryd.prog 72 #[.string s] w (RetN w (numV s a0)) := by
  obtain ⟨c0, _⟩ := hE
  go_enter Tryd.func72, Tryd.ntmps72
  go_wp2
  go_loop [4, 5] (fun n i => ∃ k : Nat, k ≤ s.size ∧ i = .int .i64 k ∧ digL (s.data.toList.take k) = true ∧ n = .int .i64 ((valTo s k : Nat) : Int)) (fun _ i => s.size - (intOf i).toNat)
  case atStart => exact ⟨0, Nat.zero_le _, rfl, rfl, rfl⟩
  case round =>
    obtain ⟨k, hk, rfl, hd, rfl⟩ := hrel
    have HD := Lib.hid hd
    clear hd
    by_cases hlt : k < s.size
    · have hbd := valTo_bd17 (s := s) (k := k) (by omega) HD.out
      have HV := Lib.hid (valTo_succ s k hlt)
      have HT := Lib.hid (take_snoc s k hlt)
      obtain ⟨m, Hm⟩ : ∃ m, Hid (valTo s k = m) := ⟨_, rfl⟩
      rw [Hm.out] at hbd HV ⊢
      cases hC : digI (s[k].toNat : Int) with
      | true =>
        obtain ⟨h1, h2⟩ := digI_yes hC
        have HC := Lib.hid hC
        clear hC
        go_wp2_with (go_at_call 82; refine (isDigit_c _ _).mono ?_; rintro e w' ⟨rfl, rfl⟩; rw [HC.out])
        go_round
        case rel => exact ⟨k + 1, by omega, by go_num, by rw [HT.out, digL_snoc, HD.out]; exact HC.out, by rw [HV.out, num_step h1]⟩
        case measure => simp [intOf]; omega
      | false =>
        have HC := Lib.hid hC
        have HF := Lib.hid (digL_no (l := s.data.toList) (k := k) (by simpa using hlt) (by rw [getL s k hlt]; exact hC))
        clear hC
        go_wp2_with (go_at_call 82; refine (isDigit_c _ _).mono ?_; rintro e w' ⟨rfl, rfl⟩; rw [HC.out])
        go_quiet (fail)
        go_wp2
        go_ret2
        exact ⟨congrArg Ending.returned (numV_no HF.out), (Nx.refl _).drewN _⟩
    · obtain rfl : k = s.size := by omega
      have e : s.data.toList.take s.size = s.data.toList := List.take_of_length_le (by simp)
      rw [e] at HD
      have HV := Lib.hid (show valTo s s.size = valL s.data.toList by unfold valTo; rw [e])
      rw [HV.out]
      clear e
      go_wp2
      go_ret2
      exact ⟨congrArg Ending.returned (numV_yes HD.out), Nx.refl _⟩

/-- What reading a plain number leaves. -/
def plainV (s : ByteArray) (a0 : Addr) : Value := if plainB s.data.toList then .tuple #[.int .i64 ((valL s.data.toList : Nat) : Int), .nilIface] else .tuple #[.int .i64 0, .iface 150 (.pointer (some a0))]
theorem plainV_no {s : ByteArray} {a0 : Addr} (h : plainB s.data.toList = false) : .tuple #[.int .i64 0, .iface 150 (.pointer (some a0))] = plainV s a0 := by unfold plainV; rw [h]; rfl
theorem plainV_yes {s : ByteArray} {a0 : Addr} (h : plainB s.data.toList = true) : .tuple #[.int .i64 ((valL s.data.toList : Nat) : Int), .nilIface] = plainV s a0 := by unfold plainV; rw [h]; rfl
theorem plainV_num {s : ByteArray} {a0 : Addr} (h : plainB s.data.toList = digL s.data.toList) : numV s a0 = plainV s a0 := by unfold plainV numV; rw [h]
theorem head_at {s : ByteArray} (h : 0 < s.size) : s.data.toList.head? = some s[0] := by
  have h' : 0 < s.data.toList.length := by rw [← ba_size]; exact h
  rw [List.head?_eq_getElem?, List.getElem?_eq_getElem h', getL s 0 h]
theorem toNat48 {c : UInt8} (h : (c.toNat : Int) = 48) : c = 48 := UInt8.toNat_inj.1 (by simpa using (by omega : c.toNat = 48))
set_option maxHeartbeats 1000000 in
theorem plainNumberOf_c (s : ByteArray) (w : World) (a0 a1 : Addr) (hs : s.size ≤ 65536) (hE : Er w a0 a1) :
    Calls Tryd.prog 74 #[.string s] w (RetN w (plainV s a0)) := by
  have c0 := hE.1
  have HE := Lib.hid hE
  clear hE
  by_cases h0 : s.size = 0
  · have hd : ((s.size : Int) == 0) = true := beq_iff_eq.2 (by omega)
    have HF := Lib.hid (plainV_no (a0 := a0) (plainB_size (l := s.data.toList) (.inl (by rw [← ba_size]; exact h0))))
    go_enter Tryd.func74, Tryd.ntmps74
    go_wp2
    go_quiet (fail)
    go_wp2
    go_ret2
    exact ⟨congrArg Ending.returned HF.out, (Nx.refl _).drewN _⟩
  have hd : ((s.size : Int) == 0) = false := beq_eq_false_iff_ne.2 (by omega)
  by_cases h18 : 18 < s.size
  · have hd2 : decide (18 < (s.size : Int)) = true := by simp; omega
    have HF := Lib.hid (plainV_no (a0 := a0) (plainB_size (l := s.data.toList) (.inr (by rw [← ba_size]; exact h18))))
    go_enter Tryd.func74, Tryd.ntmps74
    go_wp2
    go_quiet (fail)
    go_wp2
    go_ret2
    exact ⟨congrArg Ending.returned HF.out, (Nx.refl _).drewN _⟩
  have hd2 : decide (18 < (s.size : Int)) = false := by simp; omega
  have hp : 0 < s.size := by omega
  by_cases h1 : 1 < s.size
  · have hd3 : decide (1 < (s.size : Int)) = true := by simp; omega
    by_cases h48 : (s[0].toNat : Int) = 48
    · have hd4 : ((s[0].toNat : Int) == 48) = true := beq_iff_eq.2 h48
      have HF := Lib.hid (plainV_no (a0 := a0) (plainB_nought (l := s.data.toList) (by rw [← ba_size]; exact h1) (by rw [head_at hp, toNat48 h48])))
      clear h48
      go_enter Tryd.func74, Tryd.ntmps74
      go_wp2
      go_quiet (fail)
      go_wp2
      go_ret2
      exact ⟨congrArg Ending.returned HF.out, (Nx.refl _).drewN _⟩
    · have hd4 : ((s[0].toNat : Int) == 48) = false := beq_eq_false_iff_ne.2 h48
      have HF := Lib.hid (plainV_num (a0 := a0) (plainB_mk (l := s.data.toList) (by rw [← ba_size]; omega) (by rw [← ba_size]; omega) (.inr (by rw [head_at hp]; intro e; injection e with e; rw [e] at h48; exact h48 rfl))))
      clear h48
      go_enter Tryd.func74, Tryd.ntmps74
      go_wp2_with fail
      refine (numberOf18_c s _ a0 a1 (by omega) HE.out).mono ?_
      rintro e w1 ⟨he, hnx⟩
      cases hpp : plainB s.data.toList with
      | true =>
        have HQ := Lib.hid (plainV_yes (a0 := a0) hpp)
        rw [HF.out, ← HQ.out] at he
        subst he
        clear hpp
        go_wp2
        go_ret2
        exact ⟨congrArg Ending.returned HQ.out, hnx⟩
      | false =>
        have HQ := Lib.hid (plainV_no (a0 := a0) hpp)
        rw [HF.out, ← HQ.out] at he
        subst he
        clear hpp
        go_wp2
        go_ret2
        exact ⟨congrArg Ending.returned HQ.out, hnx⟩
  · have hd3 : decide (1 < (s.size : Int)) = false := by simp; omega
    have HF := Lib.hid (plainV_num (a0 := a0) (plainB_mk (l := s.data.toList) (by rw [← ba_size]; omega) (by rw [← ba_size]; omega) (.inl (by rw [← ba_size]; omega))))
    go_enter Tryd.func74, Tryd.ntmps74
    go_wp2_with fail
    refine (numberOf18_c s _ a0 a1 (by omega) HE.out).mono ?_
    rintro e w1 ⟨he, hnx⟩
    cases hpp : plainB s.data.toList with
    | true =>
      have HQ := Lib.hid (plainV_yes (a0 := a0) hpp)
      rw [HF.out, ← HQ.out] at he
      subst he
      clear hpp
      go_wp2
      go_ret2
      exact ⟨congrArg Ending.returned HQ.out, hnx⟩
    | false =>
      have HQ := Lib.hid (plainV_no (a0 := a0) hpp)
      rw [HF.out, ← HQ.out] at he
      subst he
      clear hpp
      go_wp2
      go_ret2
      exact ⟨congrArg Ending.returned HQ.out, hnx⟩

set_option maxHeartbeats 1000000 in
theorem l00Digits18_c : ∀ (n : Nat) (w : World), n < 1000000000000000000 → Calls Tryd.prog 35 #[.int .i64 n] w fun e w' => e = .returned (.string ⟨(digs n).toArray⟩) ∧ Nx w w' := by
  intro n
  induction n using Nat.strongRecOn with
  | ind n ih =>
    intro w hn
    by_cases h' : n < 10
    · have hd : decide ((n : Int) < 10) = true := by simp; omega
      have hz : ((n : Int) == -9223372036854775808) = false := beq_eq_false_iff_ne.2 (by omega)
      have HD := Lib.hid (digs_lt h')
      have hcv := cv_one (48 + n) (by omega) (by omega)
      go_enter Tryd.func35, Tryd.ntmps35
      go_wp2
      go_ret
      refine ⟨ret_str ?_, (Nx.refl _).alloc _⟩
      rw [HD.out]
    · have hd : decide ((n : Int) < 10) = false := by simp; omega
      have hz : ((n : Int) == -9223372036854775808) = false := beq_eq_false_iff_ne.2 (by omega)
      have HD := Lib.hid (digs_ge h')
      obtain ⟨q, hq⟩ : ∃ q, n / 10 = q := ⟨_, rfl⟩
      obtain ⟨d, hd'⟩ : ∃ d, n % 10 = d := ⟨_, rfl⟩
      rw [hq, hd'] at HD
      have hd10 : d < 10 := by omega
      have ihq := ih q (by omega)
      have hq6 : q < 1000000000000000000 := by omega
      obtain ⟨hl1, hl2⟩ := digs_len18 hq6
      have hcv := cv_one (48 + d) (by omega) (by omega)
      have e1 : IntKind.i64.wrap ((n : Int) / 10) = (q : Int) := by
        rw [show (n : Int) / 10 = (q : Int) by omega]; exact IntWalk.i64_in _ (by omega)
      have e3 : (n : Int).tmod 10 = (d : Int) := by rw [Int.tmod_eq_emod_of_nonneg (by omega)]; omega
      have e4 : IntKind.i64.wrap (48 + (d : Int)) = 48 + d := IntWalk.i64_in _ (by omega)
      have e5 : IntKind.u8.wrap (48 + (d : Int)) = 48 + d := IntWalk.u8_in _ (by omega)
      clear hq hd' ih
      go_enter Tryd.func35, Tryd.ntmps35
      go_wp2_with fail
      go_region_with (go_at_call 35; refine (ihq _ hq6).mono ?_; rintro e w1 ⟨rfl, hnx1⟩; have hcl := hnx1.cells)
      all_goals
        clear e1 e3 e4 e5 hcv ihq hcl
        go_wp2
        go_ret
        refine ⟨ret_str ?_, ?_⟩
        · rw [HD.out, ByteArray.mk_append_mk]; simp
        · first
            | exact (Nx.drew_r hnx1).alloc _
            | exact ((Nx.refl w).alloc _).drew.trans hnx1
            | exact (((Nx.refl w).alloc _).drew.trans hnx1).drew
end Go.Proofs.YteckhdkghfidiaaDoor
