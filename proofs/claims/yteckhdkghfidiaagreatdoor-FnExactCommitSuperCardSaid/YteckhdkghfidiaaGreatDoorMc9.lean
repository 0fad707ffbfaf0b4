/-
  Texts of the proof, put together in their order: Plm, Rwm, Mko, Put, Pln.
  Conditions: those of each.
-/
import Derived.Test.YteckhdkghfidiaaGreatDoorMc8
/- Plain numbers: digits with none needless ahead. Contracts of the program's numberOf and plainNumberOf, and of the model's l00Digits, l00Number and l04Number. Conditions: numbers of at most 18 digits; texts of at most 65536 bytes; the package's errors are known. -/
namespace Go.Proofs.YteckhdkghfidiaaGreatDoor
set_option linter.unusedVariables false
set_option maxRecDepth 100000
open Go.RowKit

theorem valTo_bd17 {s : ByteArray} {k : Nat} (hk : k ≤ 17) (h : digL (s.data.toList.take k) = true) : valTo s k < 100000000000000000 := by
  have h1 := valL_bd _ rfl h
  have h2 : (s.data.toList.take k).length ≤ 17 := Nat.le_trans (List.length_take_le _ _) hk
  have h3 : 10 ^ (s.data.toList.take k).length ≤ 10 ^ 17 := Nat.pow_le_pow_right (by omega) h2
  unfold valTo
  omega
theorem valL_bd18 {l : List UInt8} (hk : l.length ≤ 18) (h : digL l = true) : valL l < 1000000000000000000 := by
  have h1 := valL_bd _ rfl h
  have h3 : 10 ^ l.length ≤ 10 ^ 18 := Nat.pow_le_pow_right (by omega) hk
  omega
theorem digs_len18 {n : Nat} (h : n < 1000000000000000000) : 1 ≤ (digs n).length ∧ (digs n).length ≤ 18 := by
  refine ⟨?_, (digs_pad 17 n (by omega)).1⟩
  by_cases h' : n < 10
  · rw [digs_lt h']; simp
  · rw [digs_ge h']; simp
theorem valL_pos : ∀ (n : Nat) {l : List UInt8}, l.length = n → digL l = true → l ≠ [] → l.head? ≠ some 48 → 1 ≤ valL l := by
  intro n
  induction n with
  | zero => intro l hl _ hne _; exact absurd (List.length_eq_zero_iff.1 hl) hne
  | succ n ih =>
    intro l hl h hne hh
    rcases List.eq_nil_or_concat l with rfl | ⟨l', c, rfl⟩
    · exact absurd rfl hne
    · rw [List.concat_eq_append] at hl h hh ⊢
      rw [digL_snoc, Bool.and_eq_true] at h
      rw [valL_snoc]
      rcases l' with _ | ⟨x, l'⟩
      · have h2 := digI_yes (show digI (c.toNat : Int) = true from h.2)
        have hc : c.toNat ≠ 48 := fun e => hh (by simp only [List.nil_append, List.head?_cons, Option.some.injEq]; exact UInt8.toNat_inj.1 e)
        simp only [valL, List.foldl_nil]
        omega
      · have := ih (l := x :: l') (by simpa using hl) h.1 (by simp) (by simpa using hh)
        omega
theorem digs_valL : ∀ (n : Nat) {l : List UInt8}, l.length = n → digL l = true → l ≠ [] → (l.length = 1 ∨ l.head? ≠ some 48) → digs (valL l) = l := by
  intro n
  induction n with
  | zero => intro l hl _ hne _; exact absurd (List.length_eq_zero_iff.1 hl) hne
  | succ n ih =>
    intro l hl h hne hh
    rcases List.eq_nil_or_concat l with rfl | ⟨l', c, rfl⟩
    · exact absurd rfl hne
    · rw [List.concat_eq_append] at hl h hh ⊢
      rw [digL_snoc, Bool.and_eq_true] at h
      have h2 := digI_yes (show digI (c.toNat : Int) = true from h.2)
      have hc : UInt8.ofNat (48 + (c.toNat - 48)) = c := by
        rw [show 48 + (c.toNat - 48) = c.toNat by omega]; simp
      rw [valL_snoc]
      rcases l' with _ | ⟨x, l'⟩
      · simp only [valL, List.foldl_nil, Nat.mul_zero, Nat.zero_add, List.nil_append]
        rw [digs_lt (by omega), hc]
      · have hx : (x :: l').head? ≠ some 48 := by
          rcases hh with hh | hh
          · simp at hh
          · simpa using hh
        have h1 := valL_pos _ rfl h.1 (by simp) hx
        have h3 := ih (l := x :: l') (by simpa using hl) h.1 (by simp) (.inr hx)
        have e1 : (10 * valL (x :: l') + (c.toNat - 48)) / 10 = valL (x :: l') := by omega
        have e2 : (10 * valL (x :: l') + (c.toNat - 48)) % 10 = c.toNat - 48 := by omega
        rw [digs_ge (by omega), e1, e2, h3, hc]
theorem plain_digs {l : List UInt8} (h : plainB l = true) : digs (valL l) = l :=
  digs_valL _ rfl (plainB_dig h) (fun e => by have := (plainB_len h).1; rw [e] at this; simp at this) (plainB_head h)

set_option maxHeartbeats 1000000 in
theorem numberOf18_c (s : ByteArray) (w : World) (a0 a1 : Addr) (hs : s.size ≤ 18) (hE : Er w a0 a1) :
    Calls Tryz.prog 126 #[.string s] w (RetN w (numV s a0)) := by
  obtain ⟨c0, _⟩ := hE
  go_enter Tryz.func126, Tryz.ntmps126
  go_wp2
  go_loop [4, 5] (fun n i => ∃ k : Nat, k ≤ s.size ∧ i = .int .i64 k ∧ digL (s.data.toList.take k) = true ∧ n = .int .i64 ((valTo s k : Nat) : Int)) (fun _ i => s.size - (intOf i).toNat)
  case atStart => exact ⟨0, Nat.zero_le _, rfl, rfl, rfl⟩
  case round =>
    obtain ⟨k, hk, rfl, hd, rfl⟩ := hrel
    have HD := Lib.hid hd
    clear hd
    by_cases hlt : k < s.size
    · have hbd := valTo_bd17 (s := s) (k := k) (by omega) HD.out
      have HV := Lib.hid (valTo_succ s k hlt)
      have HT := Lib.hid (take_snoc s k hlt)
      obtain ⟨m, Hm⟩ : ∃ m, Hid (valTo s k = m) := ⟨_, rfl⟩
      rw [Hm.out] at hbd HV ⊢
      cases hC : digI (s[k].toNat : Int) with
      | true =>
        obtain ⟨h1, h2⟩ := digI_yes hC
        have HC := Lib.hid hC
        clear hC
        go_wp2_with (go_at_call 145; refine (isDigit_c _ _).mono ?_; rintro e w' ⟨rfl, rfl⟩; rw [HC.out])
        go_round
        case rel => exact ⟨k + 1, by omega, by go_num, by rw [HT.out, digL_snoc, HD.out]; exact HC.out, by rw [HV.out, num_step h1]⟩
        case measure => simp [intOf]; omega
      | false =>
        have HC := Lib.hid hC
        have HF := Lib.hid (digL_no (l := s.data.toList) (k := k) (by simpa using hlt) (by rw [getL s k hlt]; exact hC))
        clear hC
        go_wp2_with (go_at_call 145; refine (isDigit_c _ _).mono ?_; rintro e w' ⟨rfl, rfl⟩; rw [HC.out])
        go_quiet (fail)
        go_wp2
        go_ret2
        exact ⟨congrArg Ending.returned (numV_no HF.out), (Nx.refl _).drewN _⟩
    · obtain rfl : k = s.size := by omega
      have e : s.data.toList.take s.size = s.data.toList := List.take_of_length_le (by simp)
      rw [e] at HD
      have HV := Lib.hid (show valTo s s.size = valL s.data.toList by unfold valTo; rw [e])
      rw [HV.out]
      clear e
      go_wp2
      go_ret2
      exact ⟨congrArg Ending.returned (numV_yes HD.out), Nx.refl _⟩

/-- What reading a plain number leaves. -/
def plainV (s : ByteArray) (a0 : Addr) : Value := if plainB s.data.toList then .tuple #[.int .i64 ((valL s.data.toList : Nat) : Int), .nilIface] else .tuple #[.int .i64 0, .iface 225 (.pointer (some a0))]
theorem plainV_no {s : ByteArray} {a0 : Addr} (h : plainB s.data.toList = false) : .tuple #[.int .i64 0, .iface 225 (.pointer (some a0))] = plainV s a0 := by unfold plainV; rw [h]; rfl
theorem plainV_yes {s : ByteArray} {a0 : Addr} (h : plainB s.data.toList = true) : .tuple #[.int .i64 ((valL s.data.toList : Nat) : Int), .nilIface] = plainV s a0 := by unfold plainV; rw [h]; rfl
theorem plainV_num {s : ByteArray} {a0 : Addr} (h : plainB s.data.toList = digL s.data.toList) : numV s a0 = plainV s a0 := by unfold plainV numV; rw [h]
theorem head_at {s : ByteArray} (h : 0 < s.size) : s.data.toList.head? = some s[0] := by
  have h' : 0 < s.data.toList.length := by rw [← ba_size]; exact h
  rw [List.head?_eq_getElem?, List.getElem?_eq_getElem h', getL s 0 h]
theorem toNat48 {c : UInt8} (h : (c.toNat : Int) = 48) : c = 48 := UInt8.toNat_inj.1 (by simpa using (by omega : c.toNat = 48))
set_option maxHeartbeats 1000000 in
theorem plainNumberOf_c (s : ByteArray) (w : World) (a0 a1 : Addr) (hs : s.size ≤ 65536) (hE : Er w a0 a1) :
    Calls Tryz.prog 128 #[.string s] w (RetN w (plainV s a0)) := by
  have c0 := hE.1
  have HE := Lib.hid hE
  clear hE
  by_cases h0 : s.size = 0
  · have hd : ((s.size : Int) == 0) = true := beq_iff_eq.2 (by omega)
    have HF := Lib.hid (plainV_no (a0 := a0) (plainB_size (l := s.data.toList) (.inl (by rw [← ba_size]; exact h0))))
    go_enter Tryz.func128, Tryz.ntmps128
    go_wp2
    go_quiet (fail)
    go_wp2
    go_ret2
    exact ⟨congrArg Ending.returned HF.out, (Nx.refl _).drewN _⟩
  have hd : ((s.size : Int) == 0) = false := beq_eq_false_iff_ne.2 (by omega)
  by_cases h18 : 18 < s.size
  · have hd2 : decide (18 < (s.size : Int)) = true := by simp; omega
    have HF := Lib.hid (plainV_no (a0 := a0) (plainB_size (l := s.data.toList) (.inr (by rw [← ba_size]; exact h18))))
    go_enter Tryz.func128, Tryz.ntmps128
    go_wp2
    go_quiet (fail)
    go_wp2
    go_ret2
    exact ⟨congrArg Ending.returned HF.out, (Nx.refl _).drewN _⟩
  have hd2 : decide (18 < (s.size : Int)) = false := by simp; omega
  have hp : 0 < s.size := by omega
  by_cases h1 : 1 < s.size
  · have hd3 : decide (1 < (s.size : Int)) = true := by simp; omega
    by_cases h48 : (s[0].toNat : Int) = 48
    · have hd4 : ((s[0].toNat : Int) == 48) = true := beq_iff_eq.2 h48
      have HF := Lib.hid (plainV_no (a0 := a0) (plainB_nought (l := s.data.toList) (by rw [← ba_size]; exact h1) (by rw [head_at hp, toNat48 h48])))
      clear h48
      go_enter Tryz.func128, Tryz.ntmps128
      go_wp2
      go_quiet (fail)
      go_wp2
      go_ret2
      exact ⟨congrArg Ending.returned HF.out, (Nx.refl _).drewN _⟩
    · have hd4 : ((s[0].toNat : Int) == 48) = false := beq_eq_false_iff_ne.2 h48
      have HF := Lib.hid (plainV_num (a0 := a0) (plainB_mk (l := s.data.toList) (by rw [← ba_size]; omega) (by rw [← ba_size]; omega) (.inr (by rw [head_at hp]; intro e; injection e with e; rw [e] at h48; exact h48 rfl))))
      clear h48
      go_enter Tryz.func128, Tryz.ntmps128
      go_wp2_with fail
      refine (numberOf18_c s _ a0 a1 (by omega) HE.out).mono ?_
      rintro e w1 ⟨he, hnx⟩
      cases hpp : plainB s.data.toList with
      | true =>
        have HQ := Lib.hid (plainV_yes (a0 := a0) hpp)
        rw [HF.out, ← HQ.out] at he
        subst he
        clear hpp
        go_wp2
        go_ret2
        exact ⟨congrArg Ending.returned HQ.out, hnx⟩
      | false =>
        have HQ := Lib.hid (plainV_no (a0 := a0) hpp)
        rw [HF.out, ← HQ.out] at he
        subst he
        clear hpp
        go_wp2
        go_ret2
        exact ⟨congrArg Ending.returned HQ.out, hnx⟩
  · have hd3 : decide (1 < (s.size : Int)) = false := by simp; omega
    have HF := Lib.hid (plainV_num (a0 := a0) (plainB_mk (l := s.data.toList) (by rw [← ba_size]; omega) (by rw [← ba_size]; omega) (.inl (by rw [← ba_size]; omega))))
    go_enter Tryz.func128, Tryz.ntmps128
    go_wp2_with fail
    refine (numberOf18_c s _ a0 a1 (by omega) HE.out).mono ?_
    rintro e w1 ⟨he, hnx⟩
    cases hpp : plainB s.data.toList with
    | true =>
      have HQ := Lib.hid (plainV_yes (a0 := a0) hpp)
      rw [HF.out, ← HQ.out] at he
      subst he
      clear hpp
      go_wp2
      go_ret2
      exact ⟨congrArg Ending.returned HQ.out, hnx⟩
    | false =>
      have HQ := Lib.hid (plainV_no (a0 := a0) hpp)
      rw [HF.out, ← HQ.out] at he
      subst he
      clear hpp
      go_wp2
      go_ret2
      exact ⟨congrArg Ending.returned HQ.out, hnx⟩

set_option maxHeartbeats 1000000 in
theorem l00Digits18_c : ∀ (n : Nat) (w : World), n < 1000000000000000000 → Calls Tryz.prog 83 #[.int .i64 n] w fun e w' => e = .returned (.string ⟨(digs n).toArray⟩) ∧ Nx w w' := by
  intro n
  induction n using Nat.strongRecOn with
  | ind n ih =>
    intro w hn
    by_cases h' : n < 10
    · have hd : decide ((n : Int) < 10) = true := by simp; omega
      have hz : ((n : Int) == -9223372036854775808) = false := beq_eq_false_iff_ne.2 (by omega)
      have HD := Lib.hid (digs_lt h')
      have hcv := cv_one (48 + n) (by omega) (by omega)
      go_enter Tryz.func83, Tryz.ntmps83
      go_wp2
      go_ret
      refine ⟨ret_str ?_, (Nx.refl _).alloc _⟩
      rw [HD.out]
    · have hd : decide ((n : Int) < 10) = false := by simp; omega
      have hz : ((n : Int) == -9223372036854775808) = false := beq_eq_false_iff_ne.2 (by omega)
      have HD := Lib.hid (digs_ge h')
      obtain ⟨q, hq⟩ : ∃ q, n / 10 = q := ⟨_, rfl⟩
      obtain ⟨d, hd'⟩ : ∃ d, n % 10 = d := ⟨_, rfl⟩
      rw [hq, hd'] at HD
      have hd10 : d < 10 := by omega
      have ihq := ih q (by omega)
      have hq6 : q < 1000000000000000000 := by omega
      obtain ⟨hl1, hl2⟩ := digs_len18 hq6
      have hcv := cv_one (48 + d) (by omega) (by omega)
      have e1 : IntKind.i64.wrap ((n : Int) / 10) = (q : Int) := by
        rw [show (n : Int) / 10 = (q : Int) by omega]; exact IntWalk.i64_in _ (by omega)
      have e3 : (n : Int).tmod 10 = (d : Int) := by rw [Int.tmod_eq_emod_of_nonneg (by omega)]; omega
      have e4 : IntKind.i64.wrap (48 + (d : Int)) = 48 + d := IntWalk.i64_in _ (by omega)
      have e5 : IntKind.u8.wrap (48 + (d : Int)) = 48 + d := IntWalk.u8_in _ (by omega)
      clear hq hd' ih
      go_enter Tryz.func83, Tryz.ntmps83
      go_wp2_with fail
      go_region_with (go_at_call 83; refine (ihq _ hq6).mono ?_; rintro e w1 ⟨rfl, hnx1⟩; have hcl := hnx1.cells)
      all_goals
        clear e1 e3 e4 e5 hcv ihq hcl
        go_wp2
        go_ret
        refine ⟨ret_str ?_, ?_⟩
        · rw [HD.out, ByteArray.mk_append_mk]; simp
        · first
            | exact (Nx.drew_r hnx1).alloc _
            | exact ((Nx.refl w).alloc _).drew.trans hnx1
            | exact (((Nx.refl w).alloc _).drew.trans hnx1).drew
end Go.Proofs.YteckhdkghfidiaaGreatDoor
/- Rows of marks of the call's own that grow by one; what rows of ints and rows of marks are behind a store into another block. Conditions: at most 1048576 elements. -/
namespace Go.Proofs.YteckhdkghfidiaaGreatDoor
set_option linter.unusedVariables false
set_option maxRecDepth 100000
open Go.RowKit

def mV (ms : List Mrk) : List Value := ms.flatMap fun m => [.string m.1, .int .i64 m.2]
theorem mV_snoc (ms : List Mrk) (m : Mrk) : mV (ms ++ [m]) = mV ms ++ [.string m.1, .int .i64 m.2] := by
  unfold mV; rw [List.flatMap_append]; simp
theorem mV_get : ∀ (ms : List Mrk) (i : Nat), i < ms.length * 2 → (mV ms)[i]? = some (mrAt ms i)
  | [], i, h => by simp at h
  | m :: ms, i, h => by
    show ([_, _] ++ mV ms)[i]? = _
    by_cases hi : i < 2
    · rw [List.getElem?_append_left (by simpa using hi)]
      match i, hi with
      | 0, _ => rfl
      | 1, _ => rfl
    · rw [List.getElem?_append_right (by simpa using hi)]
      show (mV ms)[i - 2]? = _
      rw [mV_get ms (i - 2) (by simp at h; omega)]
      have e1 : (i - 2) % 2 = i % 2 := by omega
      have e2 : i / 2 = (i - 2) / 2 + 1 := by omega
      unfold mrAt
      rw [e1, e2, List.getD_cons_succ]
/-- A row of marks of the call's own, from block B on. -/
def RowM (w : World) (B : Nat) (v : Value) (ms : List Mrk) : Prop := w.ownsRow B 103 2 v ms.length (mV ms)
theorem RowM.new (w : World) {B : Nat} (hB : B ≤ w.heap.size) : RowM (w.alloc (.cells #[] 103)) B (.slice (some ⟨w.heap.size, 0, none⟩) 0 0) [] :=
  ⟨rfl, .inr ⟨_, 0, #[], rfl, hB, heap_alloc_new w _, by simp, by unfold maxLen; omega, rfl, rfl⟩⟩
theorem RowM.nil (w : World) (B : Nat) : RowM w B (.slice none 0 0) [] := World.ownsRow_nil w B _ 2
theorem RowM.slc {w : World} {B : Nat} {v : Value} {ms : List Mrk} (h : RowM w B v ms) : ∃ A c, v = .slice A ms.length c ∧ ms.length ≤ c ∧ SlM w B A ms := by
  rcases h.2 with ⟨rfl, h0⟩ | ⟨g, cap, cur, rfl, hb, hg, hnc, _, hcs, htk⟩
  · exact ⟨none, 0, by rw [h0], by omega, fun hn => by omega⟩
  · refine ⟨_, cap, rfl, by omega, Sl.own ⟨cur, hg, by have := Nat.mul_le_mul_right 2 hnc; omega, fun i hi => ?_⟩ hb⟩
    have h1 : (cur.toList.take (ms.length * 2))[i]? = some (mrAt ms i) := by rw [htk]; exact mV_get ms i hi
    rw [List.getElem?_take_of_lt hi] at h1
    simpa using h1
section
variable {w w' : World} {B : Nat} {v : Value} {ms : List Mrk} {xs : List Int}
theorem RowM.nx (h : RowM w B v ms) (hb : Nx w w') : RowM w' B v ms := by
  refine World.ownsRow.kept (row := none) h ⟨hb.os, hb.tape, hb.output, hb.size, fun i hi _ => hb.block i hi⟩ ?_
  cases hv : v.ownBlock with
  | none => exact .inl rfl
  | some g => exact .inr (by simp)
theorem RowM.rg {lo hi : Nat} (h : RowM w B v ms) (hr : Rg lo hi w w') (hh : hi ≤ B) : RowM w' B v ms := by
  rcases h.2 with ⟨rfl, h0⟩ | ⟨g, cap, cur, rfl, hb, hg, r⟩
  · exact ⟨h.1, .inl ⟨rfl, h0⟩⟩
  · have hlt := (World.ownsRow.lt h g rfl).2
    exact ⟨h.1, .inr ⟨g, cap, cur, rfl, hb, (hr.block g hlt (.inr (by omega))).trans hg, r⟩⟩
theorem RowM.ne {g : Nat} {t : TypeId} {ys : Array Value} (h : RowM w B v ms) (hb : Box w g t ys) (ht : t ≠ 103) : some g ≠ v.ownBlock := by
  intro he
  rcases h.2 with ⟨rfl, _⟩ | ⟨g', cap, cur, rfl, _, hg, _⟩
  · simp [Value.ownBlock] at he
  · obtain rfl : g = g' := by simpa [Value.ownBlock] using he
    unfold Box at hb
    rw [hg] at hb
    injection hb with hb
    injection hb with _ hb
    exact ht hb.symm
theorem RowM.far {p : Addr} {t : TypeId} {ys : Array Value} (h : RowM w B v ms) (hb : Box w p.block t ys) (ht : t ≠ 103) (u : Value) : RowM (w.setCell p u) B v ms := by
  have hne := h.ne hb ht
  rcases h.2 with ⟨rfl, h0⟩ | ⟨g, cap, cur, rfl, hb', hg, r⟩
  · exact ⟨h.1, .inl ⟨rfl, h0⟩⟩
  · exact ⟨h.1, .inr ⟨g, cap, cur, rfl, hb', (Below.heap_setCell w p u g (fun e => hne (by rw [e]; rfl))).trans hg, r⟩⟩
theorem RowI.far {p : Addr} {t : TypeId} {ys : Array Value} (h : RowI w B v xs) (hb : Box w p.block t ys) (ht : t ≠ 3) (u : Value) : RowI (w.setCell p u) B v xs := by
  have hne := h.ne hb ht
  rcases h.2 with ⟨rfl, h0⟩ | ⟨g, cap, cur, rfl, hb', hg, r⟩
  · exact ⟨h.1, .inl ⟨rfl, h0⟩⟩
  · exact ⟨h.1, .inr ⟨g, cap, cur, rfl, hb', (Below.heap_setCell w p u g (fun e => hne (by rw [e]; rfl))).trans hg, r⟩⟩
theorem RowM.grew {t : TypeId} {B' : Nat} (h : RowM w B v ms) (hg : GrewT t B' w w') (ht : t ≠ 103) : RowM w' B v ms := by
  rcases h.2 with ⟨rfl, h0⟩ | ⟨g, cap, cur, rfl, hb', hgc, r⟩
  · exact ⟨h.1, .inl ⟨rfl, h0⟩⟩
  · exact ⟨h.1, .inr ⟨g, cap, cur, rfl, hb', hg.box g _ cur (fun e => ht e.symm) hgc, r⟩⟩
theorem RowI.grew {t : TypeId} {B' : Nat} (h : RowI w B v xs) (hg : GrewT t B' w w') (ht : t ≠ 3) : RowI w' B v xs := by
  rcases h.2 with ⟨rfl, h0⟩ | ⟨g, cap, cur, rfl, hb', hgc, r⟩
  · exact ⟨h.1, .inl ⟨rfl, h0⟩⟩
  · exact ⟨h.1, .inr ⟨g, cap, cur, rfl, hb', hg.box g _ cur (fun e => ht e.symm) hgc, r⟩⟩
end
set_option maxHeartbeats 1000000 in
/-- append of one mark, at one operation of a drawn region. -/
theorem wp_addM {w : World} {o : Oper} {a : Act} {K : Act → World → Prop} {Q : Exit → Act → World → Prop}
    (s x : Operand) (ho : o.op = .call { callee := .builtin .append, args := #[s, x], argTypes := #[24, 24] })
    (B gd : Nat) (v : Value) (ms : List Mrk) (m : Mrk) (hs : a.eval s = v) (hx : a.eval x = .slice (some ⟨gd, 0, none⟩) 1 1) (hown : RowM w B v ms) (hbx : Box w gd 103 #[.string m.1, .int .i64 m.2])
    (hl : ms.length ≤ 1048576) (hB : B ≤ w.heap.size)
    (hK : ∀ A' k' w', RowM w' B (.slice A' (ms.length + 1) k') (ms ++ [m]) → GrewT 103 B w w' → K (a.put o.dst (.slice A' (ms.length + 1) k')) w') :
    o.wp Tryz.prog a w K Q := by
  obtain ⟨i0, hi0, hz0, hz1, hz2⟩ := info_parts info_mk
  refine wp_append_own w s x 24 ho B 103 i0 _ 2 24 Tryz.underlying24 hi0 hz0 hz1 hz2 rfl (by omega) v ms.length _ hs hown ⟨gd, 0, none⟩ 1 1 [.string m.1, .int .i64 m.2] hx rfl (fun j u hj => ?_) (fun u hu => by simp only [List.mem_cons, List.not_mem_nil, or_false] at hu; rcases hu with rfl | rfl <;> rfl) (by unfold maxLen; omega) (by omega) hB ?_
  · rw [addr_add', Nat.zero_add, hbx.cell j]
    rw [← hj]
    rcases j with _ | _ | j <;> simp
  · intro v' w' hw' hg' _
    have hr : RowM w' B v' (ms ++ [m]) := by
      unfold RowM
      rw [mV_snoc, List.length_append]
      exact hw'
    obtain ⟨A', k', rfl, _⟩ := hr.slc
    rw [List.length_append] at hr ⊢
    have hrow : ∀ k, Value.ownBlock v = some k → B ≤ k := fun k hk => (World.ownsRow.lt hown k hk).1
    refine hK A' k' w' hr ⟨fun b hb hbB => Below.grown hb hg' hb.size (fun k hk => Nat.le_trans hbB (hrow k hk)), fun lo hi b hb hbB => ?_, fun g t xs' ht hbg => hbg.grown hg' (hown.ne hbg ht), hg'.size⟩
    refine ⟨hg'.os.trans hb.os, hg'.tape.trans hb.tape, hg'.output.trans hb.output, Nat.le_trans hb.size hg'.size, fun k hk hr => (hg'.block k (Nat.lt_of_lt_of_le hk hb.size) fun e => ?_).trans (hb.block k hk hr)⟩
    have := hrow k e.symm
    omega
end Go.Proofs.YteckhdkghfidiaaGreatDoor
/- Contract of the program's marksOf: the marks of a text. Conditions: texts of at most 65536 bytes; the package's errors are known; the library's variable MaxLen holds a number. -/
namespace Go.Proofs.YteckhdkghfidiaaGreatDoor
set_option linter.unusedVariables false
set_option maxRecDepth 100000
open Go.RowKit

/-- What reading marks leaves: an error, or the marks in new memory. -/
def RetMk (w : World) (o : Option (List Mrk)) (a0 : Addr) (e : Ending) (w' : World) : Prop :=
  Nx w w' ∧ (o = none → e = .returned (.tuple #[.slice none 0 0, .iface 225 (.pointer (some a0))])) ∧
  ∀ ms, o = some ms → ∃ A c, e = .returned (.tuple #[.slice A ms.length c, .nilIface]) ∧ SlM w' w.heap.size A ms
theorem RetMk.no {w w' : World} {o : Option (List Mrk)} {a0 : Addr} (h : o = none) (hn : Nx w w') : RetMk w o a0 (.returned (.tuple #[.slice none 0 0, .iface 225 (.pointer (some a0))])) w' :=
  ⟨hn, fun _ => rfl, fun ns h2 => by rw [h] at h2; cases h2⟩
theorem RetMk.yes {w w' : World} {o : Option (List Mrk)} {a0 : Addr} {ms : List Mrk} {A : Option Addr} {c : Nat} (h : o = some ms) (hr : SlM w' w.heap.size A ms) (hn : Nx w w') : RetMk w o a0 (.returned (.tuple #[.slice A ms.length c, .nilIface])) w' :=
  ⟨hn, (fun h2 => by rw [h] at h2; cases h2), fun ns' h2 => by rw [h] at h2; injection h2 with h2; subst h2; exact ⟨A, c, rfl, hr⟩⟩
theorem wordB_cut {x : ByteArray} {f : Bool} {a b : ByteArray} (hf : (Lib.cut x.data.toList [61]).2.2 = f) (ha : baL (Lib.cut x.data.toList [61]).1 = a) (hb : baL (Lib.cut x.data.toList [61]).2.1 = b) :
    wordB x = if f && plainB b.data.toList then some (a, ((valL b.data.toList : Nat) : Int)) else none := by
  unfold wordB wordM
  rw [← hb, baL_list, hf, ha]
theorem cut_len (l : List UInt8) (c : UInt8) : (Lib.cut l [c]).1.length ≤ l.length ∧ (Lib.cut l [c]).2.1.length ≤ l.length := by
  rcases part_at c l with h | ⟨a, b, h, e⟩
  · rw [cut_miss h]; simp
  · rw [e, cut_hit h]; simp; omega
theorem mV_len (ms : List Mrk) : (mV ms).length = ms.length * 2 := by
  unfold mV
  induction ms with
  | nil => rfl
  | cons m ms ih => simp only [List.flatMap_cons, List.length_append, ih, List.length_cons, List.length_nil]; omega
theorem newM (w : World) (a : ByteArray) (n : Int) : Hid (∀ j u, [Value.string a, .int .i64 n][j]? = some u → (w.alloc (.cells #[.string a, .int .i64 n] 103)).cell? ((Addr.mk w.heap.size 0 none).add j) = some u) := Lib.hid (fun j u hj => by
  have b := Box.new w 103 #[.string a, .int .i64 n]
  rw [addr_add', Nat.zero_add, b.cell j, ← hj]
  rcases j with _ | _ | j <;> simp)
set_option maxHeartbeats 4000000 in
theorem marksOf_c (s : ByteArray) (w : World) (a0 a1 : Addr) (hs : s.size ≤ 65536) (hE : Er w a0 a1) (hM : Mx w) : Calls Tryz.prog 90 #[.string s] w (RetMk w (marksO s.data.toList) a0) := by
  obtain ⟨i0, hi0, hz0, hz1, hz2⟩ := info_parts info_mk
  by_cases h0 : s.size = 0
  · have hd : (s.toList == []) = true := by
      rw [beq_iff_eq, ByteArray.toList_eq]; exact List.eq_nil_of_length_eq_zero (by rw [← ba_size]; exact h0)
    have HF := Lib.hid (marksO_nil h0)
    go_enter Tryz.func90, Tryz.ntmps90
    go_wp2
    go_ret2
    exact RetMk.yes (ms := []) HF.out (Sl.none_ _ _ _ _ _) (Nx.refl _)
  have hd : (s.toList == []) = false := by
    rw [beq_eq_false_iff_ne, ByteArray.toList_eq]; intro h; exact h0 (by rw [ba_size, h]; rfl)
  have HO := Lib.hid (marksO_cut h0)
  go_enter Tryz.func90, Tryz.ntmps90
  go_wp2_with fail
  refine (split_c s 44 _ hs hM).mono ?_
  rintro e w1 ⟨A, cp, rfl, hS, hnx1⟩
  have hl9 : (cutB 44 s).length ≤ 65537 := by rw [cutB_len]; have := cutL_size 44 s.data.toList; rw [← ba_size] at this; omega
  have HPt := Lib.hid (fun k => cutB_part (c := 44) (t := s) k)
  obtain ⟨ws, Hws⟩ : ∃ ws, Hid (cutB 44 s = ws) := ⟨_, rfl⟩
  rw [Hws.out] at hS HO hl9 HPt ⊢
  go_wp2
  go_loopw [4, 17] (fun o i wr => ∃ (k : Nat) (v : Value) (ms : List Mrk), k ≤ ws.length ∧ i = .int .i64 k ∧ v = o ∧ RowM wr w1.heap.size v ms ∧ Hid (marksB (ws.take k) = some ms) ∧ Nx w1 wr) (fun _ i _ => ws.length - (intOf i).toNat)
  case atStart => exact ⟨0, _, [], Nat.zero_le _, rfl, rfl, RowM.nil _ _, Lib.hid rfl, Nx.refl _⟩
  case round =>
    obtain ⟨k, v, ms, hk, rfl, rfl, hw, HM, hnx⟩ := hrel
    by_cases hlt : k < ws.length
    · obtain ⟨b, off, rfl, hb, hc0⟩ := (hS.row.below hnx (Nat.le_refl _)) (by omega)
      have hc := hc0 k hlt
      clear hc0
      unfold wdAt at hc
      have hsz := HPt.out k
      have HNo := Lib.hid (fun h => HO.out.trans (marksB_no hlt h))
      have HYes := Lib.hid (fun m (h : wordB (ws.getD k ByteArray.empty) = some m) => marksB_succ hlt HM.out h)
      have hml : ms.length = k := by rw [marksB_len HM.out, List.length_take]; omega
      have Hml := Lib.hid hml
      obtain ⟨x, Hx⟩ : ∃ x, Hid (ws.getD k ByteArray.empty = x) := ⟨_, rfl⟩
      rw [Hx.out] at hc hsz HNo HYes
      clear hml
      go_wp2_with fail
      refine (cut_c x 61 _ (by omega) ((hM.nx hnx1).nx hnx)).mono ?_
      rintro e w2 ⟨he, hnx2⟩
      have hcl := cut_len x.data.toList 61
      obtain ⟨a, Ha⟩ : ∃ a, Hid (baL (Lib.cut x.data.toList [61]).1 = a) := ⟨_, rfl⟩
      obtain ⟨bb, Hb⟩ : ∃ a, Hid (baL (Lib.cut x.data.toList [61]).2.1 = a) := ⟨_, rfl⟩
      have hbs : bb.size ≤ 65536 := by rw [← Hb.out, baL_size]; have := hcl.2; rw [← ba_size] at this; omega
      clear hcl
      have hx2 := hnx.trans hnx2
      have hE2 := hE.nx (hnx1.trans hx2)
      have hw2 := hw.nx hnx2
      rw [Ha.out, Hb.out] at he
      cases hf : (Lib.cut x.data.toList [61]).2.2 with
      | false =>
        have HF := Lib.hid (HNo.out (by rw [wordB_cut hf Ha.out Hb.out]; rfl))
        rw [hf] at he
        subst he
        clear hf HNo HYes
        obtain ⟨c0, _⟩ := hE2
        go_wp2
        go_quiet (fail)
        go_wp2
        go_ret2
        exact RetMk.no HF.out ((hnx1.trans hx2).drewN _)
      | true =>
        have HWd := Lib.hid (wordB_cut hf Ha.out Hb.out)
        rw [hf] at he
        subst he
        clear hf
        go_wp2_with fail
        refine (plainNumberOf_c bb _ a0 a1 hbs hE2).mono ?_
        rintro e w3 ⟨he3, hnx3⟩
        have hx3 := hx2.trans hnx3
        have hw3 := hw2.nx hnx3
        cases hp : plainB bb.data.toList with
        | false =>
          have HF := Lib.hid (HNo.out (by rw [HWd.out, hp]; rfl))
          rw [← plainV_no hp] at he3
          subst he3
          clear hp HNo HYes
          go_wp2
          go_ret2
          exact RetMk.no HF.out (hnx1.trans hx3)
        | true =>
          have HY := Lib.hid (HYes.out (a, ((valL bb.data.toList : Nat) : Int)) (by rw [HWd.out, hp]; rfl))
          rw [← plainV_yes hp] at he3
          subst he3
          clear hp HNo HYes
          obtain ⟨m, Hm⟩ : ∃ m : Int, Hid (((valL bb.data.toList : Nat) : Int) = m) := ⟨_, rfl⟩
          rw [Hm.out] at HY ⊢
          have hw4 := hw3.nx ((Nx.refl w3).alloc (.cells #[.string a, .int .i64 m] 103))
          have hx4 := hx3.alloc (.cells #[.string a, .int .i64 m] 103)
          have HNW := newM w3 a m
          have HOc : Hid (∀ u ∈ [Value.string a, .int .i64 m], u.oneCell' = true) := Lib.hid (fun u hu => by simp only [List.mem_cons, List.not_mem_nil, or_false] at hu; rcases hu with rfl | rfl <;> rfl)
          unfold RowM at hw4
          go_wp2_with (at_builtin; refine wpList_append_own _ rfl _ _ 24 rfl w1.heap.size 103 i0 _ 2 24 Tryz.underlying24 hi0 hz0 hz1 hz2 rfl (by omega) v ms.length _ rfl hw4 ⟨w3.heap.size, 0, none⟩ 1 1 [.string a, .int .i64 m] rfl rfl HNW.out HOc.out ?c3 ?c4 ?c5 ?_)
          case c3 => unfold maxLen; have := Hml.out; omega
          case c4 => have := Hml.out; omega
          case c5 => have := hx4.size; simp only [World.size_alloc] at this ⊢; omega
          intro v2 w5 hw5 hg5 _
          have hx5 : Nx w1 w5 := Below.grown hx4 hg5 hx4.size (fun k hk => (hw4.lt k hk).1)
          go_wp2
          go_roundw
          case rel =>
            refine ⟨k + 1, v2, ms ++ [(a, m)], by omega, by go_num, rfl, ?_, HY, hx5⟩
            unfold RowM; rw [mV_snoc, List.length_append]; exact hw5
          case measure => simp [intOf]; omega
    · obtain rfl : k = ws.length := by omega
      have HR := Lib.hid (show marksO s.data.toList = some ms by rw [HO.out, ← HM.out, List.take_length])
      obtain ⟨A2, c2, rfl, _, hS2⟩ := hw.slc
      go_wp2
      go_ret2
      exact RetMk.yes HR.out (hS2.low hnx1.size) (hnx1.trans hnx)
end Go.Proofs.YteckhdkghfidiaaGreatDoor
/- A result's block of six cells, filled at the end; lists of ints copied. Conditions: what is copied can be read, and holds at most 1048576 elements. -/
namespace Go.Proofs.YteckhdkghfidiaaGreatDoor
set_option linter.unusedVariables false
set_option maxRecDepth 100000
open Go.RowKit

def put6 (u : World) (g : Nat) (v0 v1 v2 v3 v4 v5 : Value) : World := (((((u.setCell ⟨g, 0, none⟩ v0).setCell ⟨g, 1, none⟩ v1).setCell ⟨g, 2, none⟩ v2).setCell ⟨g, 3, none⟩ v3).setCell ⟨g, 4, none⟩ v4).setCell ⟨g, 5, none⟩ v5
theorem put6_box {u : World} {g : Nat} {t : TypeId} {a b c d x y : Value} (hb : Box u g t #[a, b, c, d, x, y]) (v0 v1 v2 v3 v4 v5 : Value) : Box (put6 u g v0 v1 v2 v3 v4 v5) g t #[v0, v1, v2, v3, v4, v5] :=
  (((((hb.set 0 v0).set 1 v1).set 2 v2).set 3 v3).set 4 v4).set 5 v5
theorem put6_nx {w u : World} {g : Nat} (hx : Nx w u) (hg : w.heap.size ≤ g) (v0 v1 v2 v3 v4 v5 : Value) : Nx w (put6 u g v0 v1 v2 v3 v4 v5) :=
  (((((hx.setCell (p := ⟨g, 0, none⟩) hg v0).setCell (p := ⟨g, 1, none⟩) hg v1).setCell (p := ⟨g, 2, none⟩) hg v2).setCell (p := ⟨g, 3, none⟩) hg v3).setCell (p := ⟨g, 4, none⟩) hg v4).setCell (p := ⟨g, 5, none⟩) hg v5
theorem Sl.pt6 {u : World} {lo g : Nat} {A : Option Addr} {t : TypeId} {m : Nat} {f : Nat → Value} (h : Sl u lo A t m f) (hg : g < lo) (v0 v1 v2 v3 v4 v5 : Value) : Sl (put6 u g v0 v1 v2 v3 v4 v5) lo A t m f :=
  (((((h.far (p := ⟨g, 0, none⟩) hg v0).far (p := ⟨g, 1, none⟩) hg v1).far (p := ⟨g, 2, none⟩) hg v2).far (p := ⟨g, 3, none⟩) hg v3).far (p := ⟨g, 4, none⟩) hg v4).far (p := ⟨g, 5, none⟩) hg v5
theorem Sl.pt6t {u : World} {lo g : Nat} {A : Option Addr} {t t' : TypeId} {m : Nat} {f : Nat → Value} {a b c d x y : Value} (h : Sl u lo A t m f) (hb : Box u g t' #[a, b, c, d, x, y]) (ht : t' ≠ t) (v0 v1 v2 v3 v4 v5 : Value) : Sl (put6 u g v0 v1 v2 v3 v4 v5) lo A t m f :=
  (((((h.far_ty (p := ⟨g, 0, none⟩) hb ht v0).far_ty (p := ⟨g, 1, none⟩) (hb.set 0 v0) ht v1).far_ty (p := ⟨g, 2, none⟩) ((hb.set 0 v0).set 1 v1) ht v2).far_ty (p := ⟨g, 3, none⟩) (((hb.set 0 v0).set 1 v1).set 2 v2) ht v3).far_ty (p := ⟨g, 4, none⟩) ((((hb.set 0 v0).set 1 v1).set 2 v2).set 3 v3) ht v4).far_ty (p := ⟨g, 5, none⟩) (((((hb.set 0 v0).set 1 v1).set 2 v2).set 3 v3).set 4 v4) ht v5
theorem Box.far6 {u : World} {g g2 : Nat} {t : TypeId} {cs : Array Value} (h : Box u g2 t cs) (hg : g2 ≠ g) (v0 v1 v2 v3 v4 v5 : Value) : Box (put6 u g v0 v1 v2 v3 v4 v5) g2 t cs :=
  (((((h.far (p := ⟨g, 0, none⟩) hg v0).far (p := ⟨g, 1, none⟩) hg v1).far (p := ⟨g, 2, none⟩) hg v2).far (p := ⟨g, 3, none⟩) hg v3).far (p := ⟨g, 4, none⟩) hg v4).far (p := ⟨g, 5, none⟩) hg v5
theorem Box.drew {w : World} {g : Nat} {t : TypeId} {cs : Array Value} (h : Box w g t cs) : Box w.drew g t cs := h
theorem inAt_one (xs : List Int) (k : Nat) : (inAt xs k).oneCell' = true := rfl
/-- What a function leaves that answers a list of ints in new memory, no longer than its room. -/
def RetIx (w : World) (xs : List Int) (e : Ending) (w' : World) : Prop := ∃ (A : Option Addr) (c : Nat), e = .returned (.slice A xs.length c) ∧ xs.length ≤ c ∧ SlI w' w.heap.size A xs ∧ Nx w w'
set_option maxHeartbeats 1000000 in
theorem copyListI_c (A : Option Addr) (c B : Nat) (xs : List Int) (w : World) (h : Ins w B A xs) (hB : B ≤ w.heap.size) (hn : xs.length ≤ 1048576) :
    Calls Tryz.prog 91 #[.slice A xs.length c] w (RetIx w xs) := by
  rcases Nat.eq_zero_or_pos xs.length with hz | hp
  · have h0 : ((xs.length : Int) == 0) = true := beq_iff_eq.2 (by omega)
    have HZ := Lib.hid hz
    clear hz
    go_enter Tryz.func91, Tryz.ntmps91
    go_wp2
    go_ret
    exact ⟨none, 0, by rw [HZ.out]; rfl, by rw [HZ.out]; exact Nat.le_refl _, (fun h => absurd h (by rw [HZ.out]; omega)), Nx.refl _⟩
  have h0 : ((xs.length : Int) == 0) = false := beq_eq_false_iff_ne.2 (by omega)
  obtain ⟨i0, hi0, hz0, hz1, hz2⟩ := info_parts info_int
  have hmk := fun W => run_make_rowN (P := Tryz.prog) 23 3 i0 _ Tryz.underlying23 hi0 hz0 .i64 .i64 xs.length xs.length (Nat.le_refl _) (by rw [hz2]; omega) (by omega) W
  rw [hz1] at hmk
  have hmade := Own.made w #[Value.int .i64 0] xs.length 3
  have hnx := (Nx.refl w).alloc (.cells (madeCells #[Value.int .i64 0] xs.length) 3)
  obtain ⟨w1, hrun, ho1, hnx1, _, _⟩ := run_copy_new (P := Tryz.prog) (w.alloc (.cells (madeCells #[Value.int .i64 0] xs.length) 3)) 23 23 3 3 i0 1 Tryz.underlying23 hi0 hz1
    w.heap.size xs.length xs.length A xs.length c B xs.length 3 (inAt xs) _ hmade (by omega) (Nat.le_refl _) (by rw [Nat.mul_one]; exact h.below hnx hB) (inAt_one xs)
  have hx1 := hnx1 w hnx (Nat.le_refl _)
  have HO := Lib.hid (ho1.congr (f' := inAt xs) (fun k hk => by rw [if_pos (by omega)]))
  clear ho1 hnx1 hmade
  go_enter Tryz.func91, Tryz.ntmps91
  go_wp2
  go_ret
  exact ⟨_, _, rfl, Nat.le_refl _, Sl.own HO.out (Nat.le_refl _), hx1⟩
end Go.Proofs.YteckhdkghfidiaaGreatDoor
/- A region that draws its order, walked by a plan: operations that only read cells that stay as they are (S) are taken in whatever order the plan names; where two may come up, both orders are walked. Conditions: those of each theorem. -/
namespace Go.Proofs.YteckhdkghfidiaaGreatDoor
set_option linter.unusedVariables false
open Go.RowKit
/-- A plan: its end; take k; meet k when it alone may come up; where j and k may come up, a plan behind each. -/
inductive Pl where
  | e
  | t (k : Nat) (r : Pl)
  | c (k : Nat) (r : Pl)
  | b (j : Nat) (r1 : Pl) (k : Nat) (r2 : Pl)
  | d (i : Nat) (r0 : Pl) (j : Nat) (r1 : Pl) (k : Nat) (r2 : Pl)
/-- .. with the operations. -/
inductive Ps where
  | e
  | t (o : Oper) (r : Ps)
  | c (o : Oper) (r : Ps)
  | b (oj : Oper) (r1 : Ps) (ok : Oper) (r2 : Ps)
  | d (oi : Oper) (r0 : Ps) (oj : Oper) (r1 : Ps) (ok : Oper) (r2 : Ps)
def noOp : Oper := { dst := none, op := Op.move (Operand.const undef), type := 0, pos := "", after := #[], guard := none }
def psOf (l : List Oper) : Pl → Ps
  | .e => .e
  | .t k r => .t (l.getD k noOp) (psOf l r)
  | .c k r => .c (l.getD k noOp) (psOf l r)
  | .b j r1 k r2 => .b (l.getD j noOp) (psOf l r1) (l.getD k noOp) (psOf l r2)
  | .d i r0 j r1 k r2 => .d (l.getD i noOp) (psOf l r0) (l.getD j noOp) (psOf l r1) (l.getD k noOp) (psOf l r2)
section
variable {P : Program} {ops : Array Oper} {Q : Exit → Act → World → Prop} {S : World → Prop}
def CallStep (P : Program) (ops : Array Oper) (Q : Exit → Act → World → Prop) (S : World → Prop) (o : Oper) (R : Act → World → Prop) (a : Act) (w : World) : Prop :=
  Region.wanted o (yielded ops a.tmps) = true ∧ ∀ K : Act → World → Prop, Hid (∀ a' w', S w' → R a' w' → K a' w') → o.wp P a w K Q
def HP (P : Program) (ops : Array Oper) (Q : Exit → Act → World → Prop) (S : World → Prop) : Ps → Act → World → Prop
  | .e, a, w => Q .normal a w
  | .t o r, a, w => ∃ v, YieldsIf P ops S o v a ∧ HP P ops Q S r (a.put o.dst v) w
  | .c o r, a, w => CallStep P ops Q S o (HP P ops Q S r) a w
  | .b oj r1 ok r2, a, w => CallStep P ops Q S oj (HP P ops Q S r1) a w ∧ CallStep P ops Q S ok (HP P ops Q S r2) a w
  | .d oi r0 oj r1 ok r2, a, w => CallStep P ops Q S oi (HP P ops Q S r0) a w ∧ CallStep P ops Q S oj (HP P ops Q S r1) a w ∧ CallStep P ops Q S ok (HP P ops Q S r2) a w
def steps : Pl → Nat
  | .e => 0
  | .t _ r => steps r + 1
  | .c _ r => steps r + 1
  | .b _ r1 _ _ => steps r1 + 1
  | .d _ r0 _ _ _ _ => steps r0 + 1
/-- What is asked of the region's edges alone. -/
def planB (md : Region.Mode) (ops : Array Oper) : Pl → Array Bool → Bool
  | .e, listed => Region.ready md ops listed == []
  | .t k r, listed => decide (k < ops.size) && (Region.ready md ops listed).contains k && Region.free md ops listed k && planB md ops r (listed.setIfInBounds k true)
  | .c k r, listed => decide (k < ops.size) && (Region.ready md ops listed == [k]) && planB md ops r (listed.setIfInBounds k true)
  | .b j r1 k r2, listed => decide (j < ops.size) && decide (k < ops.size) && (Region.ready md ops listed == [j, k]) && decide (steps r2 = steps r1) && planB md ops r1 (listed.setIfInBounds j true) && planB md ops r2 (listed.setIfInBounds k true)
  | .d i r0 j r1 k r2, listed => decide (i < ops.size) && decide (j < ops.size) && decide (k < ops.size) && (Region.ready md ops listed == [i, j, k]) && decide (steps r1 = steps r0) && decide (steps r2 = steps r0) && planB md ops r0 (listed.setIfInBounds i true) && planB md ops r1 (listed.setIfInBounds j true) && planB md ops r2 (listed.setIfInBounds k true)
theorem HP.take {o : Oper} {r : Ps} {a : Act} {w : World} {v : Value} (hw : Region.wanted o (yielded ops a.tmps) = true) (h : ∀ w, S w → (execOp a.eval o).run P w = .ok (.value v) w)
    (hr : HP P ops Q S r (a.put o.dst v) w) : HP P ops Q S (.t o r) a w := ⟨v, .inl ⟨hw, h⟩, hr⟩
theorem HP.skip {o : Oper} {r : Ps} {a : Act} {w : World} (hw : Region.wanted o (yielded ops a.tmps) = false) (hr : HP P ops Q S r (a.put o.dst undef) w) : HP P ops Q S (.t o r) a w := ⟨undef, .inr ⟨hw, rfl⟩, hr⟩
theorem HP.call {o : Oper} {r : Ps} {a : Act} {w : World} (h : CallStep P ops Q S o (HP P ops Q S r) a w) : HP P ops Q S (.c o r) a w := h
theorem HP.both {oj ok : Oper} {r1 r2 : Ps} {a : Act} {w : World} (h1 : CallStep P ops Q S oj (HP P ops Q S r1) a w) (h2 : CallStep P ops Q S ok (HP P ops Q S r2) a w) : HP P ops Q S (.b oj r1 ok r2) a w := ⟨h1, h2⟩
theorem HP.three {oi oj ok : Oper} {r0 r1 r2 : Ps} {a : Act} {w : World} (h0 : CallStep P ops Q S oi (HP P ops Q S r0) a w) (h1 : CallStep P ops Q S oj (HP P ops Q S r1) a w) (h2 : CallStep P ops Q S ok (HP P ops Q S r2) a w) : HP P ops Q S (.d oi r0 oj r1 ok r2) a w := ⟨h0, h1, h2⟩
theorem HP.done {a : Act} {w : World} (h : Q .normal a w) : HP P ops Q S .e a w := h
theorem CallStep.mk {o : Oper} {R : Act → World → Prop} {a : Act} {w : World} (hw : Region.wanted o (yielded ops a.tmps) = true)
    (h : ∀ K : Act → World → Prop, Hid (∀ a' w', S w' → R a' w' → K a' w') → o.wp P a w K Q) : CallStep P ops Q S o R a w := ⟨hw, h⟩
theorem CallStep.op {k : Nat} {o : Oper} {R K : Act → World → Prop} {a : Act} {w : World} (h : CallStep P ops Q S o R a w) (h0 : ops[k]? = some o) (hK : ∀ a' w', S w' → R a' w' → K a' w') : wpOp P ops Q k K a w := by
  unfold wpOp
  simp only [h0, h.1, if_true]
  exact .inl (h.2 _ (Lib.hid hK))
theorem getD_op {l : List Oper} {k : Nat} (h : k < l.toArray.size) : l.toArray[k]? = some (l.getD k noOp) := by
  have h' : k < l.length := by simpa using h
  rw [List.getElem?_toArray, List.getD_eq_getElem?_getD, List.getElem?_eq_getElem h']; rfl
theorem HP.any {md : Region.Mode} {l : List Oper} (hs : Region.noSelect l.toArray = true) (hQ : ∀ c a d v w, Q (.panic c) (Act.put a d v) w → Q (.panic c) a w) :
    ∀ (ks : Pl) (listed : Array Bool) (a : Act) (w : World), planB md l.toArray ks listed = true → S w → HP P l.toArray Q S (psOf l ks) a w → wpAnyH P md l.toArray Q S (steps ks) listed a w
  | .e, listed, a, w, hB, _, h => wpAnyH_done (by simpa [planB] using hB) h _
  | .t k r, listed, a, w, hB, hS, h => by
    simp only [planB, Bool.and_eq_true, decide_eq_true_eq] at hB
    obtain ⟨⟨⟨hk, hr⟩, hf⟩, hB'⟩ := hB
    obtain ⟨v, hy, hK⟩ := h
    exact wpAnyH_take (getD_op hk) hs hf hr (fun c a w => hQ c a _ _ w) hy hS (HP.any hs hQ r _ _ w hB' hS hK)
  | .c k r, listed, a, w, hB, hS, h => by
    simp only [planB, Bool.and_eq_true, decide_eq_true_eq, beq_iff_eq] at hB
    obtain ⟨⟨hk, hr⟩, hB'⟩ := hB
    refine wpAnyH_all hr (by simp) fun i hi => ?_
    obtain rfl : i = k := by simpa using hi
    exact CallStep.op h (getD_op hk) fun a' w' hS' h' => ⟨hS', HP.any hs hQ r _ a' w' hB' hS' h'⟩
  | .b j r1 k r2, listed, a, w, hB, hS, h => by
    simp only [planB, Bool.and_eq_true, decide_eq_true_eq, beq_iff_eq] at hB
    obtain ⟨⟨⟨⟨⟨hj, hk⟩, hr⟩, hst⟩, hB1⟩, hB2⟩ := hB
    refine wpAnyH_all hr (by simp) fun i hi => ?_
    rcases (show i = j ∨ i = k by simpa using hi) with rfl | rfl
    · exact CallStep.op h.1 (getD_op hj) fun a' w' hS' h' => ⟨hS', HP.any hs hQ r1 _ a' w' hB1 hS' h'⟩
    · exact CallStep.op h.2 (getD_op hk) fun a' w' hS' h' => ⟨hS', by have := HP.any hs hQ r2 _ a' w' hB2 hS' h'; rw [hst] at this; exact this⟩
  | .d i r0 j r1 k r2, listed, a, w, hB, hS, h => by
    simp only [planB, Bool.and_eq_true, decide_eq_true_eq, beq_iff_eq] at hB
    obtain ⟨⟨⟨⟨⟨⟨⟨⟨hi, hj⟩, hk⟩, hr⟩, hst1⟩, hst2⟩, hB0⟩, hB1⟩, hB2⟩ := hB
    refine wpAnyH_all hr (by simp) fun x hx => ?_
    rcases (show x = i ∨ x = j ∨ x = k by simpa using hx) with rfl | rfl | rfl
    · exact CallStep.op h.1 (getD_op hi) fun a' w' hS' h' => ⟨hS', HP.any hs hQ r0 _ a' w' hB0 hS' h'⟩
    · exact CallStep.op h.2.1 (getD_op hj) fun a' w' hS' h' => ⟨hS', by have := HP.any hs hQ r1 _ a' w' hB1 hS' h'; rw [hst1] at this; exact this⟩
    · exact CallStep.op h.2.2 (getD_op hk) fun a' w' hS' h' => ⟨hS', by have := HP.any hs hQ r2 _ a' w' hB2 hS' h'; rw [hst2] at this; exact this⟩
/-- The region. -/
theorem wp_region_plan {id : Nat} {a : Act} {w : World} {l : List Oper} (ks : Pl) (S : World → Prop) (hm : P.follows .mixedOrders = true) (hs : Region.noSelect l.toArray = true) (hl : l.length = steps ks)
    (hB : planB .any l.toArray ks (Array.replicate l.toArray.size false) = true) (hQ : ∀ c a d v w, Q (.panic c) (Act.put a d v) w → Q (.panic c) a w) (hS : S w.drew)
    (h : HP P l.toArray Q S (psOf l ks) a w.drew) : (Code.region id l.toArray true).wp P Q a w := by
  refine wp_region_held_drew (S := S) hm hS fun _ => ?_
  have := HP.any (md := .any) hs hQ ks (Array.replicate l.toArray.size false) a w.drew hB hS h
  have e : l.toArray.size = steps ks := by simpa using hl
  rw [e]
  rw [e] at this
  exact this
end
end Go.Proofs.YteckhdkghfidiaaGreatDoor
