/-
  Texts of the proof, put together in their order: Ctm, Plm, Rwm.
  Conditions: those of each.
-/
import Derived.Test.YteckhdkghfidiaaGreatDoorMg9
import Derived.Deep.AppendLies
/- Contracts of the model's l00Cut and of the library's strings.Cut and strings.Split at a byte. Conditions: texts of at most 65536 bytes; for the library: its variable MaxLen holds a number. -/
namespace Go.Proofs.YteckhdkghfidiaaGreatDoor
set_option linter.unusedVariables false
set_option maxRecDepth 100000
open Go.RowKit

/-- The library's MaxLen holds a number. -/
def Mx (w : World) : Prop := ∃ m : Int, w.cell? ⟨3, 0, none⟩ = some (.int .i64 m)
theorem Mx.nx {w w' : World} (h : Mx w) (hb : Nx w w') : Mx w' := by
  obtain ⟨m, h⟩ := h
  exact ⟨m, (hb.cell (World.block_lt_of_cell? w _ h)).trans h⟩
/-- strings.Cut at a byte. -/
theorem cut_c (s : ByteArray) (c : UInt8) (w : World) (hs : s.size ≤ 65536) (hm : Mx w) :
    Calls Tryz.prog 88 #[.string s, .string ⟨#[c]⟩] w fun e w' => e = .returned (.tuple #[.string (baL (Lib.cut s.data.toList [c]).1), .string (baL (Lib.cut s.data.toList [c]).2.1), .bool (Lib.cut s.data.toList [c]).2.2]) ∧ Nx w w' := by
  obtain ⟨m, hm⟩ := hm
  refine (Any.strings_Cut Tryz.lays145 s ⟨#[c]⟩ m w (by omega) hm).mono ?_
  rintro e w' ⟨he, n, rfl⟩
  exact ⟨he, (Nx.refl w).drewN n⟩
/-- A list of words in new memory. -/
def RetWs (w : World) (ws : List ByteArray) (e : Ending) (w' : World) : Prop := ∃ (A : Option Addr) (c : Nat), e = .returned (.slice A ws.length c) ∧ Sl w' w.heap.size A 9 ws.length (wdAt ws) ∧ Nx w w'
/-- strings.Split at a byte. -/
theorem split_c (s : ByteArray) (c : UInt8) (w : World) (hs : s.size ≤ 65536) (hm : Mx w) :
    Calls Tryz.prog 127 #[.string s, .string ⟨#[c]⟩] w (RetWs w (cutB c s)) := by
  obtain ⟨m, hm⟩ := hm
  refine (Any.strings_Split Tryz.lays146 infoS s ⟨#[c]⟩ m w (by omega) hm (by simp [ByteArray.size])).mono ?_
  rintro e w' ⟨he, rfl⟩
  rw [cutB_count] at he
  refine ⟨_, _, he, ?_, (Nx.refl w).alloc _⟩
  rw [cutB_split]
  refine Sl.own ⟨_, heap_alloc_new w _, by simp, fun i hi => ?_⟩ (Nat.le_refl _)
  rw [List.getElem?_toArray]
  exact wV_get _ i hi

theorem drop_hit {c : UInt8} {l : List UInt8} {f i : Nat} (hfi : f ≤ i) (hi : i < l.length) (hc : l[i] = c) (hn : c ∉ (l.drop f).take (i - f)) : cutL c (l.drop f) = (l.drop f).take (i - f) :: cutL c (l.drop (i + 1)) := by
  have e : l.drop f = (l.drop f).take (i - f) ++ c :: l.drop (i + 1) := by
    conv => lhs; rw [← List.take_append_drop (i - f) (l.drop f)]
    rw [List.drop_drop, show f + (i - f) = i by omega, List.drop_eq_getElem_cons hi, hc]
  conv => lhs; rw [e]
  exact cutL_hit c _ _ hn
theorem take_grow {l : List UInt8} {f i : Nat} (hfi : f ≤ i) (hi : i < l.length) : (l.drop f).take (i + 1 - f) = (l.drop f).take (i - f) ++ [l[i]] := by
  rw [show i + 1 - f = (i - f) + 1 by omega, List.take_succ_eq_append_getElem (by rw [List.length_drop]; omega), List.getElem_drop]
  simp only [show f + (i - f) = i by omega]
theorem ext_baL (s : ByteArray) (f i : Nat) : s.extract f i = baL ((s.data.toList.drop f).take (i - f)) := by
  rw [ba_eq (Lib.extract_data s f i)]; rfl
theorem baL_data (l : List UInt8) : (baL l).data.toList = l := rfl
theorem wV_app (ws : List ByteArray) (x : ByteArray) : wV (ws ++ [x]) = wV ws ++ [.string x] := by unfold wV; simp
theorem Own.newS (w : World) (x : ByteArray) : Hid (∀ j u, [Value.string x][j]? = some u → (w.alloc (.cells #[.string x] 9)).cell? ((Addr.mk w.heap.size 0 none).add j) = some u) := Lib.hid (news1 w 9 (.string x))

set_option maxHeartbeats 4000000 in
theorem l00Cut_c (s : ByteArray) (c : UInt8) (w : World) (hs : s.size ≤ 65536) : Calls Tryz.prog 138 #[.string s, .int .u8 (c.toNat : Int)] w (RetWs w (cutB c s)) := by
  obtain ⟨i0, hi0, hz0, hz1, hz2⟩ := info_parts infoS
  have hw0 := RowW.new w (B := w.heap.size) (Nat.le_refl _)
  have hn0 := (Nx.refl w).alloc (.cells #[] 9)
  go_enter Tryz.func138, Tryz.ntmps138
  go_wp2
  go_loopw [5, 6, 7] (fun o f i wr => ∃ (k q : Nat) (v : Value) (ws : List ByteArray), q ≤ k ∧ k ≤ s.size ∧ i = .int .i64 k ∧ f = .int .i64 q ∧ v = o ∧ ws.length ≤ k ∧ RowW wr w.heap.size v ws ∧ Hid (cutB c s = ws ++ (cutL c (s.data.toList.drop q)).map baL ∧ c ∉ (s.data.toList.drop q).take (k - q)) ∧ Nx w wr) (fun _ _ i _ => s.size - (intOf i).toNat)
  case atStart => exact ⟨0, 0, _, [], Nat.le_refl _, Nat.zero_le _, rfl, rfl, rfl, Nat.le_refl _, hw0, Lib.hid ⟨rfl, by simp⟩, hn0⟩
  case round =>
    obtain ⟨k, q, v, ws, hqk, hk, rfl, rfl, rfl, hwl, hw, HR, hnx⟩ := hrel
    clear hw0 hn0
    by_cases hlt : k < s.size
    · have hlt' : k < s.data.toList.length := by rw [← ba_size]; exact hlt
      have Hlt := Lib.hid hlt'
      clear hlt'
      by_cases hc : s[k] = c
      · have hcd : ((s[k].toNat : Int) == (c.toNat : Int)) = true := by rw [hc]; simp
        have HH := Lib.hid (drop_hit (f := q) hqk Hlt.out (by rw [getL s k hlt]; exact hc) HR.out.2)
        have hb1 : (0 : Int) ≤ (q : Int) := by omega
        have hb2 : (q : Int) ≤ (k : Int) := by omega
        have hb3 : (k : Int) ≤ (s.size : Int) := by omega
        obtain ⟨x, hx⟩ : ∃ x, s.extract q k = x := ⟨_, rfl⟩
        have HX := Lib.hid ((ext_baL s q k).symm.trans hx)
        clear hc
        have hw1 := hw.nx ((Nx.refl wr).alloc (.cells #[.string x] 9))
        have hx1 := hnx.alloc (.cells #[.string x] 9)
        have HNW := Own.newS wr x
        have HO : Hid (∀ u ∈ [Value.string x], u.oneCell' = true) := Lib.hid (fun u hu => by simp only [List.mem_cons, List.not_mem_nil, or_false] at hu; subst hu; rfl)
        unfold RowW at hw1
        go_wp2_with (at_builtin; refine wpList_append_own _ rfl _ _ 32 rfl w.heap.size 9 i0 _ 1 16 Tryz.underlying32 hi0 hz0 hz1 hz2 rfl (by omega) v ws.length _ rfl hw1 ⟨wr.heap.size, 0, none⟩ 1 1 [.string x] rfl rfl HNW.out HO.out ?c3 ?c4 ?c5 ?_)
        case c3 => unfold maxLen; omega
        case c4 => omega
        case c5 => have := hx1.size; simp only [World.size_alloc] at this ⊢; omega
        intro v2 w2 hw2 hg2 _
        have hx2 : Nx w w2 := Below.grown hx1 hg2 hx1.size (fun k hk => (hw1.lt k hk).1)
        go_wp2
        go_roundw
        case rel =>
          refine ⟨k + 1, k + 1, v2, ws ++ [x], Nat.le_refl _, by omega, by go_num, by go_num, rfl, by simp; omega, ?_, Lib.hid ⟨?_, by simp⟩, hx2⟩
          · unfold RowW; rw [wV_app, List.length_append]; exact hw2
          · rw [HR.out.1, HH.out, List.map_cons, HX.out]; simp
        case measure => simp [intOf]; omega
      · have hcd : ((s[k].toNat : Int) == (c.toNat : Int)) = false := by
          rw [beq_eq_false_iff_ne]; intro h; exact hc (UInt8.toNat_inj.1 (by omega))
        have HC := Lib.hid hc
        clear hc
        go_wp2
        go_roundw
        case rel =>
          refine ⟨k + 1, q, v, ws, by omega, by omega, by go_num, rfl, rfl, by omega, hw, Lib.hid ⟨HR.out.1, ?_⟩, hnx⟩
          rw [take_grow hqk Hlt.out, List.mem_append, not_or]
          refine ⟨HR.out.2, fun h => HC.out ?_⟩
          rw [List.mem_singleton] at h
          exact (getL s k hlt).symm.trans h.symm
        case measure => simp [intOf]; omega
    · obtain rfl : k = s.size := by omega
      have hb2 : (q : Int) ≤ (s.size : Int) := by omega
      have hb1 : (0 : Int) ≤ (q : Int) := by omega
      obtain ⟨x, hx⟩ : ∃ x, s.extract q s.size = x := ⟨_, rfl⟩
      have HX := Lib.hid ((ext_baL s q s.size).symm.trans hx)
      have hw1 := hw.nx ((Nx.refl wr).alloc (.cells #[.string x] 9))
      have hx1 := hnx.alloc (.cells #[.string x] 9)
      have HNW := Own.newS wr x
      have HO : Hid (∀ u ∈ [Value.string x], u.oneCell' = true) := Lib.hid (fun u hu => by simp only [List.mem_cons, List.not_mem_nil, or_false] at hu; subst hu; rfl)
      unfold RowW at hw1
      go_wp2_with (at_builtin; refine wpList_append_own _ rfl _ _ 32 rfl w.heap.size 9 i0 _ 1 16 Tryz.underlying32 hi0 hz0 hz1 hz2 rfl (by omega) v ws.length _ rfl hw1 ⟨wr.heap.size, 0, none⟩ 1 1 [.string x] rfl rfl HNW.out HO.out ?c3 ?c4 ?c5 ?_)
      case c3 => unfold maxLen; omega
      case c4 => omega
      case c5 => have := hx1.size; simp only [World.size_alloc] at this ⊢; omega
      intro v2 w2 hw2 hg2 _
      have hx2 : Nx w w2 := Below.grown hx1 hg2 hx1.size (fun k hk => (hw1.lt k hk).1)
      have HE : Hid (cutB c s = ws ++ [x]) := Lib.hid (by
        have e : (s.data.toList.drop q).take (s.size - q) = s.data.toList.drop q := List.take_of_length_le (by rw [List.length_drop, ← ba_size]; omega)
        have h2 := HR.out.2
        rw [e] at h2
        have h3 := HX.out
        rw [e] at h3
        rw [HR.out.1, cutL_miss c _ h2, List.map_cons, List.map_nil, h3])
      have hR2 : RowW w2 w.heap.size v2 (cutB c s) := by
        rw [HE.out]; unfold RowW; rw [wV_app, List.length_append]; exact hw2
      obtain ⟨A, cp, rfl, hS⟩ := hR2.sl
      go_wp2
      go_ret
      exact ⟨A, cp, rfl, hS, hx2⟩
end Go.Proofs.YteckhdkghfidiaaGreatDoor
/- Plain numbers: digits with none needless ahead. Contracts of the program's numberOf and plainNumberOf, and of the model's l00Digits, l00Number and l04Number. Conditions: numbers of at most 18 digits; texts of at most 65536 bytes; the package's errors are known. -/
namespace Go.Proofs.YteckhdkghfidiaaGreatDoor
set_option linter.unusedVariables false
set_option maxRecDepth 100000
open Go.RowKit

theorem valTo_bd17 {s : ByteArray} {k : Nat} (hk : k ≤ 17) (h : digL (s.data.toList.take k) = true) : valTo s k < 100000000000000000 := by
  have h1 := valL_bd _ rfl h
  have h2 : (s.data.toList.take k).length ≤ 17 := Nat.le_trans (List.length_take_le _ _) hk
  have h3 : 10 ^ (s.data.toList.take k).length ≤ 10 ^ 17 := Nat.pow_le_pow_right (by omega) h2
  unfold valTo
  omega
theorem valL_bd18 {l : List UInt8} (hk : l.length ≤ 18) (h : digL l = true) : valL l < 1000000000000000000 := by
  have h1 := valL_bd _ rfl h
  have h3 : 10 ^ l.length ≤ 10 ^ 18 := Nat.pow_le_pow_right (by omega) hk
  omega
theorem digs_len18 {n : Nat} (h : n < 1000000000000000000) : 1 ≤ (digs n).length ∧ (digs n).length ≤ 18 := by
  refine ⟨?_, (digs_pad 17 n (by omega)).1⟩
  by_cases h' : n < 10
  · rw [digs_lt h']; simp
  · rw [digs_ge h']; simp
theorem valL_pos : ∀ (n : Nat) {l : List UInt8}, l.length = n → digL l = true → l ≠ [] → l.head? ≠ some 48 → 1 ≤ valL l := by
  intro n
  induction n with
  | zero => intro l hl _ hne _; exact absurd (List.length_eq_zero_iff.1 hl) hne
  | succ n ih =>
    intro l hl h hne hh
    rcases List.eq_nil_or_concat l with rfl | ⟨l', c, rfl⟩
    · exact absurd rfl hne
    · rw [List.concat_eq_append] at hl h hh ⊢
      rw [digL_snoc, Bool.and_eq_true] at h
      rw [valL_snoc]
      rcases l' with _ | ⟨x, l'⟩
      · have h2 := digI_yes (show digI (c.toNat : Int) = true from h.2)
        have hc : c.toNat ≠ 48 := fun e => hh (by simp only [List.nil_append, List.head?_cons, Option.some.injEq]; exact UInt8.toNat_inj.1 e)
        simp only [valL, List.foldl_nil]
        omega
      · have := ih (l := x :: l') (by simpa using hl) h.1 (by simp) (by simpa using hh)
        omega
theorem digs_valL : ∀ (n : Nat) {l : List UInt8}, l.length = n → digL l = true → l ≠ [] → (l.length = 1 ∨ l.head? ≠ some 48) → digs (valL l) = l := by
  intro n
  induction n with
  | zero => intro l hl _ hne _; exact absurd (List.length_eq_zero_iff.1 hl) hne
  | succ n ih =>
    intro l hl h hne hh
    rcases List.eq_nil_or_concat l with rfl | ⟨l', c, rfl⟩
    · exact absurd rfl hne
    · rw [List.concat_eq_append] at hl h hh ⊢
      rw [digL_snoc, Bool.and_eq_true] at h
      have h2 := digI_yes (show digI (c.toNat : Int) = true from h.2)
      have hc : UInt8.ofNat (48 + (c.toNat - 48)) = c := by
        rw [show 48 + (c.toNat - 48) = c.toNat by omega]; simp
      rw [valL_snoc]
      rcases l' with _ | ⟨x, l'⟩
      · simp only [valL, List.foldl_nil, Nat.mul_zero, Nat.zero_add, List.nil_append]
        rw [digs_lt (by omega), hc]
      · have hx : (x :: l').head? ≠ some 48 := by
          rcases hh with hh | hh
          · simp at hh
          · simpa using hh
        have h1 := valL_pos _ rfl h.1 (by simp) hx
        have h3 := ih (l := x :: l') (by simpa using hl) h.1 (by simp) (.inr hx)
        have e1 : (10 * valL (x :: l') + (c.toNat - 48)) / 10 = valL (x :: l') := by omega
        have e2 : (10 * valL (x :: l') + (c.toNat - 48)) % 10 = c.toNat - 48 := by omega
        rw [digs_ge (by omega), e1, e2, h3, hc]
theorem plain_digs {l : List UInt8} (h : plainB l = true) : digs (valL l) = l :=
  digs_valL _ rfl (plainB_dig h) (fun e => by have := (plainB_len h).1; rw [e] at this; simp at this) (plainB_head h)

set_option maxHeartbeats 1000000 in
theorem numberOf18_c (s : ByteArray) (w : World) (a0 a1 : Addr) (hs : s.size ≤ 18) (hE : Er w a0 a1) :
    Calls Tryz.prog 126 #[.string s] w (RetN w (numV s a0)) := by
  obtain ⟨c0, _⟩ := hE
  go_enter Tryz.func126, Tryz.ntmps126
  go_wp2
  go_loop [4, 5] (fun n i => ∃ k : Nat, k ≤ s.size ∧ i = .int .i64 k ∧ digL (s.data.toList.take k) = true ∧ n = .int .i64 ((valTo s k : Nat) : Int)) (fun _ i => s.size - (intOf i).toNat)
  case atStart => exact ⟨0, Nat.zero_le _, rfl, rfl, rfl⟩
  case round =>
    obtain ⟨k, hk, rfl, hd, rfl⟩ := hrel
    have HD := Lib.hid hd
    clear hd
    by_cases hlt : k < s.size
    · have hbd := valTo_bd17 (s := s) (k := k) (by omega) HD.out
      have HV := Lib.hid (valTo_succ s k hlt)
      have HT := Lib.hid (take_snoc s k hlt)
      obtain ⟨m, Hm⟩ : ∃ m, Hid (valTo s k = m) := ⟨_, rfl⟩
      rw [Hm.out] at hbd HV ⊢
      cases hC : digI (s[k].toNat : Int) with
      | true =>
        obtain ⟨h1, h2⟩ := digI_yes hC
        have HC := Lib.hid hC
        clear hC
        go_wp2_with (go_at_call 145; refine (isDigit_c _ _).mono ?_; rintro e w' ⟨rfl, rfl⟩; rw [HC.out])
        go_round
        case rel => exact ⟨k + 1, by omega, by go_num, by rw [HT.out, digL_snoc, HD.out]; exact HC.out, by rw [HV.out, num_step h1]⟩
        case measure => simp [intOf]; omega
      | false =>
        have HC := Lib.hid hC
        have HF := Lib.hid (digL_no (l := s.data.toList) (k := k) (by simpa using hlt) (by rw [getL s k hlt]; exact hC))
        clear hC
        go_wp2_with (go_at_call 145; refine (isDigit_c _ _).mono ?_; rintro e w' ⟨rfl, rfl⟩; rw [HC.out])
        go_quiet (fail)
        go_wp2
        go_ret2
        exact ⟨congrArg Ending.returned (numV_no HF.out), (Nx.refl _).drewN _⟩
    · obtain rfl : k = s.size := by omega
      have e : s.data.toList.take s.size = s.data.toList := List.take_of_length_le (by simp)
      rw [e] at HD
      have HV := Lib.hid (show valTo s s.size = valL s.data.toList by unfold valTo; rw [e])
      rw [HV.out]
      clear e
      go_wp2
      go_ret2
      exact ⟨congrArg Ending.returned (numV_yes HD.out), Nx.refl _⟩

/-- What reading a plain number leaves. -/
def plainV (s : ByteArray) (a0 : Addr) : Value := if plainB s.data.toList then .tuple #[.int .i64 ((valL s.data.toList : Nat) : Int), .nilIface] else .tuple #[.int .i64 0, .iface 225 (.pointer (some a0))]
theorem plainV_no {s : ByteArray} {a0 : Addr} (h : plainB s.data.toList = false) : .tuple #[.int .i64 0, .iface 225 (.pointer (some a0))] = plainV s a0 := by unfold plainV; rw [h]; rfl
theorem plainV_yes {s : ByteArray} {a0 : Addr} (h : plainB s.data.toList = true) : .tuple #[.int .i64 ((valL s.data.toList : Nat) : Int), .nilIface] = plainV s a0 := by unfold plainV; rw [h]; rfl
theorem plainV_num {s : ByteArray} {a0 : Addr} (h : plainB s.data.toList = digL s.data.toList) : numV s a0 = plainV s a0 := by unfold plainV numV; rw [h]
theorem head_at {s : ByteArray} (h : 0 < s.size) : s.data.toList.head? = some s[0] := by
  have h' : 0 < s.data.toList.length := by rw [← ba_size]; exact h
  rw [List.head?_eq_getElem?, List.getElem?_eq_getElem h', getL s 0 h]
theorem toNat48 {c : UInt8} (h : (c.toNat : Int) = 48) : c = 48 := UInt8.toNat_inj.1 (by simpa using (by omega : c.toNat = 48))
set_option maxHeartbeats 1000000 in
theorem plainNumberOf_c (s : ByteArray) (w : World) (a0 a1 : Addr) (hs : s.size ≤ 65536) (hE : Er w a0 a1) :
    Calls Tryz.prog 128 #[.string s] w (RetN w (plainV s a0)) := by
  have c0 := hE.1
  have HE := Lib.hid hE
  clear hE
  by_cases h0 : s.size = 0
  · have hd : ((s.size : Int) == 0) = true := beq_iff_eq.2 (by omega)
    have HF := Lib.hid (plainV_no (a0 := a0) (plainB_size (l := s.data.toList) (.inl (by rw [← ba_size]; exact h0))))
    go_enter Tryz.func128, Tryz.ntmps128
    go_wp2
    go_quiet (fail)
    go_wp2
    go_ret2
    exact ⟨congrArg Ending.returned HF.out, (Nx.refl _).drewN _⟩
  have hd : ((s.size : Int) == 0) = false := beq_eq_false_iff_ne.2 (by omega)
  by_cases h18 : 18 < s.size
  · have hd2 : decide (18 < (s.size : Int)) = true := by simp; omega
    have HF := Lib.hid (plainV_no (a0 := a0) (plainB_size (l := s.data.toList) (.inr (by rw [← ba_size]; exact h18))))
    go_enter Tryz.func128, Tryz.ntmps128
    go_wp2
    go_quiet (fail)
    go_wp2
    go_ret2
    exact ⟨congrArg Ending.returned HF.out, (Nx.refl _).drewN _⟩
  have hd2 : decide (18 < (s.size : Int)) = false := by simp; omega
  have hp : 0 < s.size := by omega
  by_cases h1 : 1 < s.size
  · have hd3 : decide (1 < (s.size : Int)) = true := by simp; omega
    by_cases h48 : (s[0].toNat : Int) = 48
    · have hd4 : ((s[0].toNat : Int) == 48) = true := beq_iff_eq.2 h48
      have HF := Lib.hid (plainV_no (a0 := a0) (plainB_nought (l := s.data.toList) (by rw [← ba_size]; exact h1) (by rw [head_at hp, toNat48 h48])))
      clear h48
      go_enter Tryz.func128, Tryz.ntmps128
      go_wp2
      go_quiet (fail)
      go_wp2
      go_ret2
      exact ⟨congrArg Ending.returned HF.out, (Nx.refl _).drewN _⟩
    · have hd4 : ((s[0].toNat : Int) == 48) = false := beq_eq_false_iff_ne.2 h48
      have HF := Lib.hid (plainV_num (a0 := a0) (plainB_mk (l := s.data.toList) (by rw [← ba_size]; omega) (by rw [← ba_size]; omega) (.inr (by rw [head_at hp]; intro e; injection e with e; rw [e] at h48; exact h48 rfl))))
      clear h48
      go_enter Tryz.func128, Tryz.ntmps128
      go_wp2_with fail
      refine (numberOf18_c s _ a0 a1 (by omega) HE.out).mono ?_
      rintro e w1 ⟨he, hnx⟩
      cases hpp : plainB s.data.toList with
      | true =>
        have HQ := Lib.hid (plainV_yes (a0 := a0) hpp)
        rw [HF.out, ← HQ.out] at he
        subst he
        clear hpp
        go_wp2
        go_ret2
        exact ⟨congrArg Ending.returned HQ.out, hnx⟩
      | false =>
        have HQ := Lib.hid (plainV_no (a0 := a0) hpp)
        rw [HF.out, ← HQ.out] at he
        subst he
        clear hpp
        go_wp2
        go_ret2
        exact ⟨congrArg Ending.returned HQ.out, hnx⟩
  · have hd3 : decide (1 < (s.size : Int)) = false := by simp; omega
    have HF := Lib.hid (plainV_num (a0 := a0) (plainB_mk (l := s.data.toList) (by rw [← ba_size]; omega) (by rw [← ba_size]; omega) (.inl (by rw [← ba_size]; omega))))
    go_enter Tryz.func128, Tryz.ntmps128
    go_wp2_with fail
    refine (numberOf18_c s _ a0 a1 (by omega) HE.out).mono ?_
    rintro e w1 ⟨he, hnx⟩
    cases hpp : plainB s.data.toList with
    | true =>
      have HQ := Lib.hid (plainV_yes (a0 := a0) hpp)
      rw [HF.out, ← HQ.out] at he
      subst he
      clear hpp
      go_wp2
      go_ret2
      exact ⟨congrArg Ending.returned HQ.out, hnx⟩
    | false =>
      have HQ := Lib.hid (plainV_no (a0 := a0) hpp)
      rw [HF.out, ← HQ.out] at he
      subst he
      clear hpp
      go_wp2
      go_ret2
      exact ⟨congrArg Ending.returned HQ.out, hnx⟩

set_option maxHeartbeats 1000000 in
theorem l00Digits18_c : ∀ (n : Nat) (w : World), n < 1000000000000000000 → Calls Tryz.prog 83 #[.int .i64 n] w fun e w' => e = .returned (.string ⟨(digs n).toArray⟩) ∧ Nx w w' := by
  intro n
  induction n using Nat.strongRecOn with
  | ind n ih =>
    intro w hn
    by_cases h' : n < 10
    · have hd : decide ((n : Int) < 10) = true := by simp; omega
      have hz : ((n : Int) == -9223372036854775808) = false := beq_eq_false_iff_ne.2 (by omega)
      have HD := Lib.hid (digs_lt h')
      have hcv := cv_one (48 + n) (by omega) (by omega)
      go_enter Tryz.func83, Tryz.ntmps83
      go_wp2
      go_ret
      refine ⟨ret_str ?_, (Nx.refl _).alloc _⟩
      rw [HD.out]
    · have hd : decide ((n : Int) < 10) = false := by simp; omega
      have hz : ((n : Int) == -9223372036854775808) = false := beq_eq_false_iff_ne.2 (by omega)
      have HD := Lib.hid (digs_ge h')
      obtain ⟨q, hq⟩ : ∃ q, n / 10 = q := ⟨_, rfl⟩
      obtain ⟨d, hd'⟩ : ∃ d, n % 10 = d := ⟨_, rfl⟩
      rw [hq, hd'] at HD
      have hd10 : d < 10 := by omega
      have ihq := ih q (by omega)
      have hq6 : q < 1000000000000000000 := by omega
      obtain ⟨hl1, hl2⟩ := digs_len18 hq6
      have hcv := cv_one (48 + d) (by omega) (by omega)
      have e1 : IntKind.i64.wrap ((n : Int) / 10) = (q : Int) := by
        rw [show (n : Int) / 10 = (q : Int) by omega]; exact IntWalk.i64_in _ (by omega)
      have e3 : (n : Int).tmod 10 = (d : Int) := by rw [Int.tmod_eq_emod_of_nonneg (by omega)]; omega
      have e4 : IntKind.i64.wrap (48 + (d : Int)) = 48 + d := IntWalk.i64_in _ (by omega)
      have e5 : IntKind.u8.wrap (48 + (d : Int)) = 48 + d := IntWalk.u8_in _ (by omega)
      clear hq hd' ih
      go_enter Tryz.func83, Tryz.ntmps83
      go_wp2_with fail
      go_region_with (go_at_call 83; refine (ihq _ hq6).mono ?_; rintro e w1 ⟨rfl, hnx1⟩; have hcl := hnx1.cells)
      all_goals
        clear e1 e3 e4 e5 hcv ihq hcl
        go_wp2
        go_ret
        refine ⟨ret_str ?_, ?_⟩
        · rw [HD.out, ByteArray.mk_append_mk]; simp
        · first
            | exact (Nx.drew_r hnx1).alloc _
            | exact ((Nx.refl w).alloc _).drew.trans hnx1
            | exact (((Nx.refl w).alloc _).drew.trans hnx1).drew
end Go.Proofs.YteckhdkghfidiaaGreatDoor
/- Rows of marks of the call's own that grow by one; what rows of ints and rows of marks are behind a store into another block. Conditions: at most 1048576 elements. -/
namespace Go.Proofs.YteckhdkghfidiaaGreatDoor
set_option linter.unusedVariables false
set_option maxRecDepth 100000
open Go.RowKit

def mV (ms : List Mrk) : List Value := ms.flatMap fun m => [.string m.1, .int .i64 m.2]
theorem mV_snoc (ms : List Mrk) (m : Mrk) : mV (ms ++ [m]) = mV ms ++ [.string m.1, .int .i64 m.2] := by
  unfold mV; rw [List.flatMap_append]; simp
theorem mV_get : ∀ (ms : List Mrk) (i : Nat), i < ms.length * 2 → (mV ms)[i]? = some (mrAt ms i)
  | [], i, h => by simp at h
  | m :: ms, i, h => by
    show ([_, _] ++ mV ms)[i]? = _
    by_cases hi : i < 2
    · rw [List.getElem?_append_left (by simpa using hi)]
      match i, hi with
      | 0, _ => rfl
      | 1, _ => rfl
    · rw [List.getElem?_append_right (by simpa using hi)]
      show (mV ms)[i - 2]? = _
      rw [mV_get ms (i - 2) (by simp at h; omega)]
      have e1 : (i - 2) % 2 = i % 2 := by omega
      have e2 : i / 2 = (i - 2) / 2 + 1 := by omega
      unfold mrAt
      rw [e1, e2, List.getD_cons_succ]
/-- A row of marks of the call's own, from block B on. -/
def RowM (w : World) (B : Nat) (v : Value) (ms : List Mrk) : Prop := w.ownsRow B 103 2 v ms.length (mV ms)
theorem RowM.new (w : World) {B : Nat} (hB : B ≤ w.heap.size) : RowM (w.alloc (.cells #[] 103)) B (.slice (some ⟨w.heap.size, 0, none⟩) 0 0) [] :=
  ⟨rfl, .inr ⟨_, 0, #[], rfl, hB, heap_alloc_new w _, by simp, by unfold maxLen; omega, rfl, rfl⟩⟩
theorem RowM.nil (w : World) (B : Nat) : RowM w B (.slice none 0 0) [] := World.ownsRow_nil w B _ 2
theorem RowM.slc {w : World} {B : Nat} {v : Value} {ms : List Mrk} (h : RowM w B v ms) : ∃ A c, v = .slice A ms.length c ∧ ms.length ≤ c ∧ SlM w B A ms := by
  rcases h.2 with ⟨rfl, h0⟩ | ⟨g, cap, cur, rfl, hb, hg, hnc, _, hcs, htk⟩
  · exact ⟨none, 0, by rw [h0], by omega, fun hn => by omega⟩
  · refine ⟨_, cap, rfl, by omega, Sl.own ⟨cur, hg, by have := Nat.mul_le_mul_right 2 hnc; omega, fun i hi => ?_⟩ hb⟩
    have h1 : (cur.toList.take (ms.length * 2))[i]? = some (mrAt ms i) := by rw [htk]; exact mV_get ms i hi
    rw [List.getElem?_take_of_lt hi] at h1
    simpa using h1
section
variable {w w' : World} {B : Nat} {v : Value} {ms : List Mrk} {xs : List Int}
theorem RowM.nx (h : RowM w B v ms) (hb : Nx w w') : RowM w' B v ms := by
  refine World.ownsRow.kept (row := none) h ⟨hb.os, hb.tape, hb.output, hb.size, fun i hi _ => hb.block i hi⟩ ?_
  cases hv : v.ownBlock with
  | none => exact .inl rfl
  | some g => exact .inr (by simp)
theorem RowM.rg {lo hi : Nat} (h : RowM w B v ms) (hr : Rg lo hi w w') (hh : hi ≤ B) : RowM w' B v ms := by
  rcases h.2 with ⟨rfl, h0⟩ | ⟨g, cap, cur, rfl, hb, hg, r⟩
  · exact ⟨h.1, .inl ⟨rfl, h0⟩⟩
  · have hlt := (World.ownsRow.lt h g rfl).2
    exact ⟨h.1, .inr ⟨g, cap, cur, rfl, hb, (hr.block g hlt (.inr (by omega))).trans hg, r⟩⟩
theorem RowM.ne {g : Nat} {t : TypeId} {ys : Array Value} (h : RowM w B v ms) (hb : Box w g t ys) (ht : t ≠ 103) : some g ≠ v.ownBlock := by
  intro he
  rcases h.2 with ⟨rfl, _⟩ | ⟨g', cap, cur, rfl, _, hg, _⟩
  · simp [Value.ownBlock] at he
  · obtain rfl : g = g' := by simpa [Value.ownBlock] using he
    unfold Box at hb
    rw [hg] at hb
    injection hb with hb
    injection hb with _ hb
    exact ht hb.symm
theorem RowM.far {p : Addr} {t : TypeId} {ys : Array Value} (h : RowM w B v ms) (hb : Box w p.block t ys) (ht : t ≠ 103) (u : Value) : RowM (w.setCell p u) B v ms := by
  have hne := h.ne hb ht
  rcases h.2 with ⟨rfl, h0⟩ | ⟨g, cap, cur, rfl, hb', hg, r⟩
  · exact ⟨h.1, .inl ⟨rfl, h0⟩⟩
  · exact ⟨h.1, .inr ⟨g, cap, cur, rfl, hb', (Below.heap_setCell w p u g (fun e => hne (by rw [e]; rfl))).trans hg, r⟩⟩
theorem RowI.far {p : Addr} {t : TypeId} {ys : Array Value} (h : RowI w B v xs) (hb : Box w p.block t ys) (ht : t ≠ 3) (u : Value) : RowI (w.setCell p u) B v xs := by
  have hne := h.ne hb ht
  rcases h.2 with ⟨rfl, h0⟩ | ⟨g, cap, cur, rfl, hb', hg, r⟩
  · exact ⟨h.1, .inl ⟨rfl, h0⟩⟩
  · exact ⟨h.1, .inr ⟨g, cap, cur, rfl, hb', (Below.heap_setCell w p u g (fun e => hne (by rw [e]; rfl))).trans hg, r⟩⟩
theorem RowM.grew {t : TypeId} {B' : Nat} (h : RowM w B v ms) (hg : GrewT t B' w w') (ht : t ≠ 103) : RowM w' B v ms := by
  rcases h.2 with ⟨rfl, h0⟩ | ⟨g, cap, cur, rfl, hb', hgc, r⟩
  · exact ⟨h.1, .inl ⟨rfl, h0⟩⟩
  · exact ⟨h.1, .inr ⟨g, cap, cur, rfl, hb', hg.box g _ cur (fun e => ht e.symm) hgc, r⟩⟩
theorem RowI.grew {t : TypeId} {B' : Nat} (h : RowI w B v xs) (hg : GrewT t B' w w') (ht : t ≠ 3) : RowI w' B v xs := by
  rcases h.2 with ⟨rfl, h0⟩ | ⟨g, cap, cur, rfl, hb', hgc, r⟩
  · exact ⟨h.1, .inl ⟨rfl, h0⟩⟩
  · exact ⟨h.1, .inr ⟨g, cap, cur, rfl, hb', hg.box g _ cur (fun e => ht e.symm) hgc, r⟩⟩
end
set_option maxHeartbeats 1000000 in
/-- append of one mark, at one operation of a drawn region. -/
theorem wp_addM {w : World} {o : Oper} {a : Act} {K : Act → World → Prop} {Q : Exit → Act → World → Prop}
    (s x : Operand) (ho : o.op = .call { callee := .builtin .append, args := #[s, x], argTypes := #[24, 24] })
    (B gd : Nat) (v : Value) (ms : List Mrk) (m : Mrk) (hs : a.eval s = v) (hx : a.eval x = .slice (some ⟨gd, 0, none⟩) 1 1) (hown : RowM w B v ms) (hbx : Box w gd 103 #[.string m.1, .int .i64 m.2])
    (hl : ms.length ≤ 1048576) (hB : B ≤ w.heap.size)
    (hK : ∀ A' k' w', RowM w' B (.slice A' (ms.length + 1) k') (ms ++ [m]) → GrewT 103 B w w' → K (a.put o.dst (.slice A' (ms.length + 1) k')) w') :
    o.wp Tryz.prog a w K Q := by
  obtain ⟨i0, hi0, hz0, hz1, hz2⟩ := info_parts info_mk
  refine wp_append_own w s x 24 ho B 103 i0 _ 2 24 Tryz.underlying24 hi0 hz0 hz1 hz2 rfl (by omega) v ms.length _ hs hown ⟨gd, 0, none⟩ 1 1 [.string m.1, .int .i64 m.2] hx rfl (fun j u hj => ?_) (fun u hu => by simp only [List.mem_cons, List.not_mem_nil, or_false] at hu; rcases hu with rfl | rfl <;> rfl) (by unfold maxLen; omega) (by omega) hB ?_
  · rw [addr_add', Nat.zero_add, hbx.cell j]
    rw [← hj]
    rcases j with _ | _ | j <;> simp
  · intro v' w' hw' hg' _
    have hr : RowM w' B v' (ms ++ [m]) := by
      unfold RowM
      rw [mV_snoc, List.length_append]
      exact hw'
    obtain ⟨A', k', rfl, _⟩ := hr.slc
    rw [List.length_append] at hr ⊢
    have hrow : ∀ k, Value.ownBlock v = some k → B ≤ k := fun k hk => (World.ownsRow.lt hown k hk).1
    refine hK A' k' w' hr ⟨fun b hb hbB => Below.grown hb hg' hb.size (fun k hk => Nat.le_trans hbB (hrow k hk)), fun lo hi b hb hbB => ?_, fun g t xs' ht hbg => hbg.grown hg' (hown.ne hbg ht), hg'.size⟩
    refine ⟨hg'.os.trans hb.os, hg'.tape.trans hb.tape, hg'.output.trans hb.output, Nat.le_trans hb.size hg'.size, fun k hk hr => (hg'.block k (Nat.lt_of_lt_of_le hk hb.size) fun e => ?_).trans (hb.block k hk hr)⟩
    have := hrow k e.symm
    omega
end Go.Proofs.YteckhdkghfidiaaGreatDoor
