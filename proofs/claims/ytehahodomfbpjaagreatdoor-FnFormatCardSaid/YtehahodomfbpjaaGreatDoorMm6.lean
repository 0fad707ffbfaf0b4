/-
  Texts of the proof, put together in their order: Plm, Rub, Dok, Cp, Sw, Fl, Fmv, Mpc, Cgs, Mrg, Sgs, Fws, Sof, Mgi, Sgt, Mgs, Mgp, Sos, Soi, Sge, Mkg, Lfrm.
  Conditions: those of each.
-/
import Derived.Test.YtehahodomfbpjaaGreatDoorMm5
import Derived.Outline
import Derived.Deep.RegionHeld3
import Derived.Deep.AppendLies
import Derived.StillTailTactics
import Derived.Maps.Own
import Derived.IntWalk
import Derived.Deep.Strs
import Derived.Deep.Slices
import Derived.ChangeSame
import Derived.Deep.Fields
/- Plain numbers: digits with none needless ahead. Contracts of the program's numberOf and plainNumberOf, and of the model's l00Digits, l00Number and l04Number. Conditions: numbers of at most 18 digits; texts of at most 65536 bytes; the package's errors are known. -/
namespace Go.Proofs.YtehahodomfbpjaaGreatDoor
set_option linter.unusedVariables false
set_option maxRecDepth 100000
open Go.RowKit

theorem valTo_bd17 {s : ByteArray} {k : Nat} (hk : k ≤ 17) (h : digL (s.data.toList.take k) = true) : valTo s k < 100000000000000000 := by
  have h1 := valL_bd _ rfl h
  have h2 : (s.data.toList.take k).length ≤ 17 := Nat.le_trans (List.length_take_le _ _) hk
  have h3 : 10 ^ (s.data.toList.take k).length ≤ 10 ^ 17 := Nat.pow_le_pow_right (by omega) h2
  unfold valTo
  omega
set_option maxHeartbeats 1000000 in
theorem numberOf18_c (s : ByteArray) (w : World) (a0 a1 : Addr) (hs : s.size ≤ 18) (hE : Er w a0 a1) :
    Calls Tryz.prog 236 #[.string s] w (RetN w (numV s a0)) := by
  obtain ⟨c0, _⟩ := hE
  go_enter Tryz.func236, Tryz.ntmps236
  go_wp2
  go_loop [4, 5] (fun n i => ∃ k : Nat, k ≤ s.size ∧ i = .int .i64 k ∧ digL (s.data.toList.take k) = true ∧ n = .int .i64 ((valTo s k : Nat) : Int)) (fun _ i => s.size - (intOf i).toNat)
  case atStart => exact ⟨0, Nat.zero_le _, rfl, rfl, rfl⟩
  case round =>
    obtain ⟨k, hk, rfl, hd, rfl⟩ := hrel
    have HD := Lib.hid hd
    clear hd
    by_cases hlt : k < s.size
    · have hbd := valTo_bd17 (s := s) (k := k) (by omega) HD.out
      have HV := Lib.hid (valTo_succ s k hlt)
      have HT := Lib.hid (take_snoc s k hlt)
      obtain ⟨m, Hm⟩ : ∃ m, Hid (valTo s k = m) := ⟨_, rfl⟩
      rw [Hm.out] at hbd HV ⊢
      cases hC : digI (s[k].toNat : Int) with
      | true =>
        obtain ⟨h1, h2⟩ := digI_yes hC
        have HC := Lib.hid hC
        clear hC
        go_wp2_with (go_at_call 255; refine (isDigit_c _ _).mono ?_; rintro e w' ⟨rfl, rfl⟩; rw [HC.out])
        go_round
        case rel => exact ⟨k + 1, by omega, by go_num, by rw [HT.out, digL_snoc, HD.out]; exact HC.out, by rw [HV.out, num_step h1]⟩
        case measure => simp [intOf]; omega
      | false =>
        have HC := Lib.hid hC
        have HF := Lib.hid (digL_no (l := s.data.toList) (k := k) (by simpa using hlt) (by rw [getL s k hlt]; exact hC))
        clear hC
        go_wp2_with (go_at_call 255; refine (isDigit_c _ _).mono ?_; rintro e w' ⟨rfl, rfl⟩; rw [HC.out])
        go_quiet (fail)
        go_wp2
        go_ret2
        exact ⟨congrArg Ending.returned (numV_no HF.out), (Nx.refl _).drewN _⟩
    · obtain rfl : k = s.size := by omega
      have e : s.data.toList.take s.size = s.data.toList := List.take_of_length_le (by simp)
      rw [e] at HD
      have HV := Lib.hid (show valTo s s.size = valL s.data.toList by unfold valTo; rw [e])
      rw [HV.out]
      clear e
      go_wp2
      go_ret2
      exact ⟨congrArg Ending.returned (numV_yes HD.out), Nx.refl _⟩

/-- What reading a plain number leaves. -/
def plainV (s : ByteArray) (a0 : Addr) : Value := if plainB s.data.toList then .tuple #[.int .i64 ((valL s.data.toList : Nat) : Int), .nilIface] else .tuple #[.int .i64 0, .iface 304 (.pointer (some a0))]
theorem plainV_no {s : ByteArray} {a0 : Addr} (h : plainB s.data.toList = false) : .tuple #[.int .i64 0, .iface 304 (.pointer (some a0))] = plainV s a0 := by unfold plainV; rw [h]; rfl
theorem plainV_yes {s : ByteArray} {a0 : Addr} (h : plainB s.data.toList = true) : .tuple #[.int .i64 ((valL s.data.toList : Nat) : Int), .nilIface] = plainV s a0 := by unfold plainV; rw [h]; rfl
theorem plainV_num {s : ByteArray} {a0 : Addr} (h : plainB s.data.toList = digL s.data.toList) : numV s a0 = plainV s a0 := by unfold plainV numV; rw [h]
theorem head_at {s : ByteArray} (h : 0 < s.size) : s.data.toList.head? = some s[0] := by
  have h' : 0 < s.data.toList.length := by rw [← ba_size]; exact h
  rw [List.head?_eq_getElem?, List.getElem?_eq_getElem h', getL s 0 h]
theorem toNat48 {c : UInt8} (h : (c.toNat : Int) = 48) : c = 48 := UInt8.toNat_inj.1 (by simpa using (by omega : c.toNat = 48))
set_option maxHeartbeats 1000000 in
theorem plainNumberOf_c (s : ByteArray) (w : World) (a0 a1 : Addr) (hs : s.size ≤ 65536) (hE : Er w a0 a1) :
    Calls Tryz.prog 238 #[.string s] w (RetN w (plainV s a0)) := by
  have c0 := hE.1
  have HE := Lib.hid hE
  clear hE
  by_cases h0 : s.size = 0
  · have hd : ((s.size : Int) == 0) = true := beq_iff_eq.2 (by omega)
    have HF := Lib.hid (plainV_no (a0 := a0) (plainB_size (l := s.data.toList) (.inl (by rw [← ba_size]; exact h0))))
    go_enter Tryz.func238, Tryz.ntmps238
    go_wp2
    go_quiet (fail)
    go_wp2
    go_ret2
    exact ⟨congrArg Ending.returned HF.out, (Nx.refl _).drewN _⟩
  have hd : ((s.size : Int) == 0) = false := beq_eq_false_iff_ne.2 (by omega)
  by_cases h18 : 18 < s.size
  · have hd2 : decide (18 < (s.size : Int)) = true := by simp; omega
    have HF := Lib.hid (plainV_no (a0 := a0) (plainB_size (l := s.data.toList) (.inr (by rw [← ba_size]; exact h18))))
    go_enter Tryz.func238, Tryz.ntmps238
    go_wp2
    go_quiet (fail)
    go_wp2
    go_ret2
    exact ⟨congrArg Ending.returned HF.out, (Nx.refl _).drewN _⟩
  have hd2 : decide (18 < (s.size : Int)) = false := by simp; omega
  have hp : 0 < s.size := by omega
  by_cases h1 : 1 < s.size
  · have hd3 : decide (1 < (s.size : Int)) = true := by simp; omega
    by_cases h48 : (s[0].toNat : Int) = 48
    · have hd4 : ((s[0].toNat : Int) == 48) = true := beq_iff_eq.2 h48
      have HF := Lib.hid (plainV_no (a0 := a0) (plainB_nought (l := s.data.toList) (by rw [← ba_size]; exact h1) (by rw [head_at hp, toNat48 h48])))
      clear h48
      go_enter Tryz.func238, Tryz.ntmps238
      go_wp2
      go_quiet (fail)
      go_wp2
      go_ret2
      exact ⟨congrArg Ending.returned HF.out, (Nx.refl _).drewN _⟩
    · have hd4 : ((s[0].toNat : Int) == 48) = false := beq_eq_false_iff_ne.2 h48
      have HF := Lib.hid (plainV_num (a0 := a0) (plainB_mk (l := s.data.toList) (by rw [← ba_size]; omega) (by rw [← ba_size]; omega) (.inr (by rw [head_at hp]; intro e; injection e with e; rw [e] at h48; exact h48 rfl))))
      clear h48
      go_enter Tryz.func238, Tryz.ntmps238
      go_wp2_with fail
      refine (numberOf18_c s _ a0 a1 (by omega) HE.out).mono ?_
      rintro e w1 ⟨he, hnx⟩
      cases hpp : plainB s.data.toList with
      | true =>
        have HQ := Lib.hid (plainV_yes (a0 := a0) hpp)
        rw [HF.out, ← HQ.out] at he
        subst he
        clear hpp
        go_wp2
        go_ret2
        exact ⟨congrArg Ending.returned HQ.out, hnx⟩
      | false =>
        have HQ := Lib.hid (plainV_no (a0 := a0) hpp)
        rw [HF.out, ← HQ.out] at he
        subst he
        clear hpp
        go_wp2
        go_ret2
        exact ⟨congrArg Ending.returned HQ.out, hnx⟩
  · have hd3 : decide (1 < (s.size : Int)) = false := by simp; omega
    have HF := Lib.hid (plainV_num (a0 := a0) (plainB_mk (l := s.data.toList) (by rw [← ba_size]; omega) (by rw [← ba_size]; omega) (.inl (by rw [← ba_size]; omega))))
    go_enter Tryz.func238, Tryz.ntmps238
    go_wp2_with fail
    refine (numberOf18_c s _ a0 a1 (by omega) HE.out).mono ?_
    rintro e w1 ⟨he, hnx⟩
    cases hpp : plainB s.data.toList with
    | true =>
      have HQ := Lib.hid (plainV_yes (a0 := a0) hpp)
      rw [HF.out, ← HQ.out] at he
      subst he
      clear hpp
      go_wp2
      go_ret2
      exact ⟨congrArg Ending.returned HQ.out, hnx⟩
    | false =>
      have HQ := Lib.hid (plainV_no (a0 := a0) hpp)
      rw [HF.out, ← HQ.out] at he
      subst he
      clear hpp
      go_wp2
      go_ret2
      exact ⟨congrArg Ending.returned HQ.out, hnx⟩

end Go.Proofs.YtehahodomfbpjaaGreatDoor
/- The text of a right super is read back as that super. Conditions: none. -/
namespace Go.Proofs.YtehahodomfbpjaaGreatDoor
set_option linter.unusedVariables false
set_option maxRecDepth 100000
open Go.RowKit

theorem digL_digs : ∀ n : Nat, digL (digs n) = true := fun n => by
  induction n using Nat.strongRecOn with
  | ind n ih =>
    have h1 : ∀ k, k < 10 → digL [UInt8.ofNat (48 + k)] = true := fun k hk => by
      have : k = 0 ∨ k = 1 ∨ k = 2 ∨ k = 3 ∨ k = 4 ∨ k = 5 ∨ k = 6 ∨ k = 7 ∨ k = 8 ∨ k = 9 := by omega
      rcases this with rfl | rfl | rfl | rfl | rfl | rfl | rfl | rfl | rfl | rfl <;> decide
    by_cases h : n < 10
    · rw [digs_lt h]; exact h1 n h
    · rw [digs_ge h, digL_app, ih (n / 10) (by omega), h1 _ (Nat.mod_lt _ (by decide))]; rfl
theorem valL_digs : ∀ n : Nat, valL (digs n) = n := fun n => by
  induction n using Nat.strongRecOn with
  | ind n ih =>
    have h1 : ∀ k, k < 10 → (UInt8.ofNat (48 + k)).toNat = 48 + k := fun k hk => by simp only [UInt8.toNat_ofNat']; omega
    by_cases h : n < 10
    · rw [digs_lt h]
      have := valL_snoc [] (UInt8.ofNat (48 + n))
      rw [List.nil_append] at this
      rw [this, h1 n h]
      show 10 * valL [] + _ = n
      have e : valL [] = 0 := rfl
      rw [e]; omega
    · rw [digs_ge h, valL_snoc, ih (n / 10) (by omega), h1 _ (Nat.mod_lt _ (by decide))]; omega
theorem digs_head : ∀ n : Nat, 10 ≤ n → (digs n).head? ≠ some 48 := fun n => by
  induction n using Nat.strongRecOn with
  | ind n ih =>
    intro hn
    rw [digs_ge (by omega)]
    by_cases h : n / 10 < 10
    · rw [digs_lt h]
      intro e
      simp only [List.cons_append, List.nil_append, List.head?_cons, Option.some.injEq] at e
      have e2 := congrArg UInt8.toNat e
      simp only [UInt8.toNat_ofNat'] at e2
      have e3 : (48 : UInt8).toNat = 48 := rfl
      rw [e3] at e2
      omega
    · have := ih (n / 10) (by omega) (by omega)
      intro e
      rw [List.head?_append] at e
      cases hh : (digs (n / 10)).head? with
      | none => rw [List.head?_eq_none_iff] at hh; rw [digs_ge (by omega)] at hh; simp at hh
      | some c => rw [hh] at e this; exact this e
theorem plainB_digs {n : Nat} (h : n ≤ 999999) : plainB (digs n) = true := by
  have hl := digs_len h
  rw [plainB_mk (by omega) (by omega) ?_]
  · exact digL_digs n
  · by_cases h10 : n < 10
    · rw [digs_lt h10]; exact .inl rfl
    · exact .inr (digs_head n (by omega))
theorem nmB_let {s : ByteArray} (h : nmB s = true) {c : UInt8} (hc : c.toNat < 97) : c ∉ s.data.toList := fun hm => by
  obtain ⟨k, hk, e⟩ := List.getElem_of_mem hm
  unfold nmB at h
  rw [Bool.and_eq_true] at h
  have h2 := List.all_eq_true.1 h.2 k (by rw [List.mem_range, ba_size]; exact hk)
  unfold letB at h2
  rw [List.getD_eq_getElem?_getD, List.getElem?_eq_getElem hk, e, Bool.and_eq_true] at h2
  have := of_decide_eq_true h2.1
  simp only [Option.getD_some] at this
  omega
theorem mkW_list (m : Mrk) : (mkW m).data.toList = m.1.data.toList ++ 61 :: digs m.2.toNat := by
  unfold mkW
  rw [ba_app, ba_app]
  show m.1.data.toList ++ [61] ++ digs m.2.toNat = _
  simp
theorem okMk_mkB {ms : List Mrk} (h : msB ms = true) {m : Mrk} (hm : m ∈ ms) : nmB m.1 = true ∧ 0 ≤ m.2 ∧ m.2 ≤ 999999 := by
  obtain ⟨k, hk, e⟩ := List.getElem_of_mem hm
  have h1 := (msB_yes h).2 k hk
  unfold okMk mkB at h1
  rw [List.getD_eq_getElem?_getD, List.getElem?_eq_getElem hk, Option.getD_some, e] at h1
  simp only [Bool.and_eq_true] at h1
  exact ⟨h1.1.1, inB_yes h1.1.2⟩
theorem wordM_mkW {m : Mrk} (h1 : nmB m.1 = true) (h2 : 0 ≤ m.2 ∧ m.2 ≤ 999999) : wordM (mkW m).data.toList = some m := by
  rw [mkW_list, wordM_hit (nmB_let h1 (by decide)), if_pos (plainB_digs (by omega)), valL_digs, baL_self, Int.toNat_of_nonneg h2.1]
theorem mkW_no {m : Mrk} (h1 : nmB m.1 = true) : 44 ∉ (mkW m).data.toList := by
  rw [mkW_list]
  intro h
  rcases List.mem_append.1 h with h | h
  · exact nmB_let h1 (by decide) h
  · rcases List.mem_cons.1 h with h | h
    · exact absurd h (by decide)
    · exact absurd (digL_mem (digL_digs _) h) (by decide)
theorem marksL_wds : ∀ {ms : List Mrk}, (∀ m ∈ ms, nmB m.1 = true ∧ 0 ≤ m.2 ∧ m.2 ≤ 999999) → marksL (ms.map fun m => (mkW m).data.toList) = some ms
  | [], _ => rfl
  | m :: ms, h => by
    have h1 := h m (by simp)
    rw [List.map_cons, marksL, wordM_mkW h1.1 h1.2, Option.bind_some, marksL_wds (fun q hq => h q (List.mem_cons_of_mem _ hq))]; rfl
theorem cutL_join : ∀ (xs : List (List UInt8)) (x : List UInt8), (∀ y ∈ x :: xs, (44 : UInt8) ∉ y) → cutL 44 (Lib.join (x :: xs) [44]) = x :: xs
  | [], x, h => by rw [Lib.join_one, cutL_miss 44 x (h x (by simp))]
  | y :: xs, x, h => by
    have e : Lib.join (x :: y :: xs) [44] = x ++ 44 :: Lib.join (y :: xs) [44] := by
      rw [Lib.join_cons, Lib.join_cons]
      simp [Lib.joinTail]
    rw [e, cutL_hit 44 x _ (h x (by simp)), cutL_join xs y (fun z hz => h z (List.mem_cons_of_mem _ hz))]
theorem marksO_jn {ms : List Mrk} (h : msB ms = true) : marksO (jn (wds ms)).data.toList = some ms := by
  have hh := fun m (hm : m ∈ ms) => okMk_mkB h hm
  cases ms with
  | nil => rfl
  | cons m ms =>
    have e : (jn (wds (m :: ms))).data.toList = Lib.join ((mkW m).data.toList :: ms.map fun m => (mkW m).data.toList) [44] := by
      show Lib.join ((wds (m :: ms)).map (·.data.toList)) [44] = _
      unfold wds
      rw [List.map_map]; rfl
    have hn : ∀ y ∈ (mkW m).data.toList :: ms.map (fun m => (mkW m).data.toList), (44 : UInt8) ∉ y := fun y hy => by
      have hy' : y ∈ (m :: ms).map fun m => (mkW m).data.toList := hy
      obtain ⟨q, hq, rfl⟩ := List.mem_map.1 hy'
      exact mkW_no (hh q hq).1
    unfold marksO
    rw [e, if_neg, cutL_join _ _ hn]
    · exact marksL_wds (ms := m :: ms) hh
    · rw [Lib.join_cons, List.length_append, mkW_list]; simp
theorem toNats {xs : List Int} (h : ∀ x ∈ xs, 0 ≤ x) : intsN (xs.map Int.toNat) = xs := by
  unfold intsN
  rw [List.map_map]
  conv => rhs; rw [← List.map_id xs]
  exact List.map_congr_left fun x hx => Int.toNat_of_nonneg (h x hx)
/-- The text of a super. -/
def supT (g b p t : Int) (xs : List Int) (ms : List Mrk) : ByteArray := sealS (numsS (supN g b p t xs) ++ ⟨#[124]⟩ ++ jn (wds ms))
theorem rdU_back {g b p t : Int} {xs : List Int} {ms : List Mrk} (h : superB g b p t xs ms = true) : rdU (supT g b p t xs ms) = some (g, b, p, t, xs, ms) := by
  obtain ⟨h0, h1, h2, h3, h4, h5⟩ := superB_yes h
  have e : (bodyOf (supT g b p t xs ms)).data.toList = padAll (supN g b p t xs) ++ 124 :: (jn (wds ms)).data.toList := by
    unfold supT
    rw [bodyOf_seal, ba_app, ba_app]
    show padAll _ ++ [124] ++ _ = _
    simp
  have hno : (124 : UInt8) ∉ padAll (supN g b p t xs) := fun hm => absurd (digL_mem (digL_padAll _) hm) (by decide)
  have hx : ∀ x ∈ xs, 0 ≤ x := fun x hx => by have := tbB_in h4 hx; omega
  rw [rdU_hit (t := supT g b p t xs ms) (opensB_seal _) hno e, partU_yes (numsO_padAll _ (supN_all h)) (by rw [supN_len]; omega) (marksO_jn h5)]
  have e0 : (supN g b p t xs).getD 0 0 = g.toNat := rfl
  have e1 : (supN g b p t xs).getD 1 0 = b.toNat := rfl
  have e2 : (supN g b p t xs).getD 2 0 = p.toNat := rfl
  have e3 : (supN g b p t xs).getD 3 0 = t.toNat := rfl
  have e4 : intsN ((supN g b p t xs).drop 4) = xs := toNats hx
  have f0 : ((g.toNat : Nat) : Int) = g := Int.toNat_of_nonneg (by omega)
  have f1 : ((b.toNat : Nat) : Int) = b := Int.toNat_of_nonneg (by omega)
  have f2 : ((p.toNat : Nat) : Int) = p := Int.toNat_of_nonneg (by omega)
  have f3 : ((t.toNat : Nat) : Int) = t := Int.toNat_of_nonneg (by omega)
  unfold supOf
  rw [e0, e1, e2, e3, e4, f0, f1, f2, f3, if_pos h]
end Go.Proofs.YtehahodomfbpjaaGreatDoor
/- Contracts of DiskOK, as the model and as the program have it: both answer the same bool of what the disk holds. Conditions: the disk can be read, and holds at most 1048576 elements of a kind. -/
namespace Go.Proofs.YtehahodomfbpjaaGreatDoor
set_option linter.unusedVariables false
set_option maxRecDepth 100000
open Go.RowKit

def secB (a : Int) : Bool := decide (0 ≤ a) && decide (a ≤ 63)
def sOk (s : ByteArray) : Bool := decide (s.size ≤ 300)
def wOk (x : Int × ByteArray) : Bool := secB x.1 && sOk x.2
def diskB (ss : List ByteArray) (ws : List (Int × ByteArray)) : Bool := (ss.length == 64) && decide (ws.length ≤ 80) && ss.all sOk && ws.all wOk

/-- The first k elements of a list pass. -/
def AllTo {α : Type} (p : α → Bool) (l : List α) (k : Nat) : Prop := (l.take k).all p = true
theorem AllTo.zero {α : Type} (p : α → Bool) (l : List α) : AllTo p l 0 := by simp [AllTo]
theorem AllTo.succ {α : Type} {p : α → Bool} {l : List α} {k : Nat} {d x : α} (h : AllTo p l k) (hk : k < l.length) (hx : l.getD k d = x) (hp : p x = true) : AllTo p l (k + 1) := by
  unfold AllTo at h ⊢
  rw [List.take_succ_eq_append_getElem hk, List.all_append, h]
  have : l[k] = x := by rw [← hx, List.getD_eq_getElem?_getD, List.getElem?_eq_getElem hk]; rfl
  simp [this, hp]
theorem AllTo.all {α : Type} {p : α → Bool} {l : List α} {k : Nat} (h : AllTo p l k) (hk : l.length = k) : l.all p = true := by
  unfold AllTo at h
  rwa [List.take_of_length_le (by omega)] at h
theorem all_no {α : Type} {p : α → Bool} {l : List α} {k : Nat} {d x : α} (hk : k < l.length) (hx : l.getD k d = x) (hp : p x = false) : l.all p = false := by
  rw [List.all_eq_false]
  refine ⟨l[k], List.getElem_mem hk, ?_⟩
  have : l[k] = x := by rw [← hx, List.getD_eq_getElem?_getD, List.getElem?_eq_getElem hk]; rfl
  rw [this, hp]; simp
theorem diskB_len {ss : List ByteArray} {ws : List (Int × ByteArray)} (h : ss.length ≠ 64 ∨ 80 < ws.length) : false = diskB ss ws := by
  unfold diskB
  rcases h with h | h
  · rw [beq_eq_false_iff_ne.2 h]; rfl
  · rw [decide_eq_false (p := ws.length ≤ 80) (by omega)]; simp
theorem diskB_s {ss : List ByteArray} {ws : List (Int × ByteArray)} (h : ss.all sOk = false) : false = diskB ss ws := by
  unfold diskB; rw [h]; simp
theorem diskB_w {ss : List ByteArray} {ws : List (Int × ByteArray)} (h : ws.all wOk = false) : false = diskB ss ws := by
  unfold diskB; rw [h]; simp
theorem diskB_yes {ss : List ByteArray} {ws : List (Int × ByteArray)} (h1 : ss.length = 64) (h2 : ws.length ≤ 80) (h3 : ss.all sOk = true) (h4 : ws.all wOk = true) : true = diskB ss ws := by
  unfold diskB; rw [h3, h4, h1]; simp [h2]
theorem diskB_len64 {ss : List ByteArray} {ws : List (Int × ByteArray)} (h : diskB ss ws = true) : ss.length = 64 ∧ ws.length ≤ 80 ∧ ss.all sOk = true ∧ ws.all wOk = true := by
  unfold diskB at h
  simp only [Bool.and_eq_true, beq_iff_eq, decide_eq_true_eq] at h
  exact ⟨h.1.1.1, h.1.1.2, h.1.2, h.2⟩

set_option maxHeartbeats 1000000 in
theorem isSector_c (a : Int) (w : World) : Calls Tryz.prog 215 #[.int .i64 a] w fun e w' => e = .returned (.bool (secB a)) ∧ w = w' := by
  go_enter Tryz.func215, Tryz.ntmps215
  go_wp2
  all_goals (go_ret; refine ⟨ret_bool ?_, rfl⟩; unfold secB; rw [Bool.eq_iff_iff]; simp; try omega)

set_option maxHeartbeats 1000000 in
theorem writeRight_c (a : Int) (s : ByteArray) (w : World) : Calls Tryz.prog 131 #[.agg #[.int .i64 a, .string s]] w fun e w' => e = .returned (.bool (wOk (a, s))) ∧ Nx w w' := by
  cases hsec : secB a with
  | false =>
    have HF := Lib.hid (show false = wOk (a, s) by simp [wOk, hsec])
    have HS := Lib.hid hsec
    clear hsec
    go_enter Tryz.func131, Tryz.ntmps131
    go_wp2_with (go_at_call 215; refine (isSector_c a _).mono ?_; rintro e w' ⟨rfl, rfl⟩; rw [HS.out])
    go_ret
    exact ⟨ret_bool HF.out, (Nx.refl _).alloc _⟩
  | true =>
    have HF := Lib.hid (show decide (s.size ≤ 300) = wOk (a, s) by simp [wOk, hsec, sOk])
    have HS := Lib.hid hsec
    clear hsec
    go_enter Tryz.func131, Tryz.ntmps131
    go_wp2_with (go_at_call 215; refine (isSector_c a _).mono ?_; rintro e w' ⟨rfl, rfl⟩; rw [HS.out])
    go_ret
    refine ⟨ret_bool ?_, (Nx.refl _).alloc _⟩
    rw [← HF.out, Bool.eq_iff_iff]; simp; try omega

set_option maxHeartbeats 1000000 in
theorem isRight_c (A A2 : Option Addr) (n c n2 c2 B : Nat) (ss : List ByteArray) (ws : List (Int × ByteArray)) (w : World) (h : Strs w B A n ss) (h2 : Wrs w B A2 n2 ws) (hB : B ≤ w.heap.size) (hn : n ≤ 1048576) (hn2 : n2 ≤ 1048576) :
    Calls Tryz.prog 58 #[.agg #[.slice A n c, .slice A2 n2 c2]] w fun e w' => e = .returned (.bool (diskB ss ws)) ∧ Nx w w' := by
  by_cases hl : n = 64
  case neg =>
    have h0 : ((n : Int) != 64) = true := by rw [bne_iff_ne]; omega
    have HF := Lib.hid (diskB_len (ss := ss) (ws := ws) (.inl (by rw [h.1]; exact hl)))
    go_enter Tryz.func58, Tryz.ntmps58
    go_wp2
    go_ret
    exact ⟨ret_bool HF.out, (Nx.refl _).alloc _⟩
  subst hl
  by_cases hl2 : n2 ≤ 80
  case neg =>
    have h0 : decide (80 < (n2 : Int)) = true := by simp; omega
    have HF := Lib.hid (diskB_len (ss := ss) (ws := ws) (.inr (by rw [h2.1]; omega)))
    go_enter Tryz.func58, Tryz.ntmps58
    go_wp2
    go_ret
    exact ⟨ret_bool HF.out, (Nx.refl _).alloc _⟩
  have h0 : decide (80 < (n2 : Int)) = false := by simp; omega
  go_enter Tryz.func58, Tryz.ntmps58
  go_wp2
  go_loop [20] (fun i => ∃ k : Nat, k ≤ 64 ∧ i = .int .i64 k ∧ AllTo sOk ss k) (fun i => 64 - (intOf i).toNat)
  case atStart => exact ⟨0, Nat.zero_le _, rfl, AllTo.zero _ _⟩
  case round =>
    obtain ⟨k, hk, rfl, hto⟩ := hrel
    by_cases hlt : k < 64
    · obtain ⟨b, off, rfl, hb, hc⟩ := (h.below ((Nx.refl w).alloc (.cells #[.slice A 64 c, .slice A2 n2 c2] 38)) hB).at_ hlt
      obtain ⟨s, Hs⟩ : ∃ s, Hid (ss.getD k ByteArray.empty = s) := ⟨_, rfl⟩
      rw [Hs.out] at hc
      have hkl : k < ss.length := by rw [h.1]; exact hlt
      by_cases hs : s.size ≤ 300
      · have h3 : decide (300 < (s.size : Int)) = false := by simp; omega
        go_wp2
        go_round
        case rel => exact ⟨k + 1, by omega, by go_num, hto.succ hkl Hs.out (by simp [sOk, hs])⟩
        case measure => simp [intOf]; omega
      · have h3 : decide (300 < (s.size : Int)) = true := by simp; omega
        have HF := Lib.hid (diskB_s (ws := ws) (all_no hkl Hs.out (p := sOk) (by simp [sOk]; omega)))
        go_wp2
        go_ret
        exact ⟨ret_bool HF.out, (Nx.refl _).alloc _⟩
    · obtain rfl : k = 64 := by omega
      have hall := Lib.hid (hto.all h.1)
      clear hto
      go_wp2
      go_loopw [31] (fun i wr => ∃ k : Nat, k ≤ n2 ∧ i = .int .i64 k ∧ AllTo wOk ws k ∧ Nx w wr) (fun i _ => n2 - (intOf i).toNat)
      case atStart => exact ⟨0, Nat.zero_le _, rfl, AllTo.zero _ _, (Nx.refl _).alloc _⟩
      case round =>
        obtain ⟨k, hk, rfl, hto, hnx⟩ := hrel
        by_cases hlt : k < n2
        · obtain ⟨b, off, rfl, hb, hc, hd⟩ := (h2.below hnx hB).at_ hlt
          obtain ⟨⟨a, s⟩, Hs⟩ : ∃ s, Hid (ws.getD k (0, ByteArray.empty) = s) := ⟨_, rfl⟩
          rw [Hs.out] at hc hd
          have hkl : k < ws.length := by rw [h2.1]; exact hlt
          cases hok : wOk (a, s) with
          | false =>
            have HF := Lib.hid (diskB_w (ss := ss) (all_no hkl Hs.out (p := wOk) hok))
            have HO := Lib.hid hok
            clear hok
            go_wp2_with fail
            refine (writeRight_c a s _).mono ?_
            rintro e w1 ⟨rfl, hnx1⟩
            rw [HO.out]
            go_wp2
            go_ret
            exact ⟨ret_bool HF.out, (hnx.alloc _).trans hnx1⟩
          | true =>
            have HO := Lib.hid hok
            clear hok
            go_wp2_with fail
            refine (writeRight_c a s _).mono ?_
            rintro e w1 ⟨rfl, hnx1⟩
            rw [HO.out]
            go_wp2
            go_roundw
            case rel => exact ⟨k + 1, by omega, by go_num, hto.succ hkl Hs.out HO.out, (hnx.alloc _).trans hnx1⟩
            case measure => simp [intOf]; omega
        · obtain rfl : k = n2 := by omega
          have hall2 := Lib.hid (hto.all h2.1)
          go_wp2
          go_ret
          exact ⟨ret_bool (diskB_yes h.1 (by rw [h2.1]; exact hl2) hall.out hall2.out), hnx⟩

end Go.Proofs.YtehahodomfbpjaaGreatDoor
/- Contracts of the program's functions that copy lists and disks. Conditions: what is copied can be read, and holds at most 1048576 elements of a kind. -/
namespace Go.Proofs.YtehahodomfbpjaaGreatDoor
set_option linter.unusedVariables false
set_option maxRecDepth 100000
open Go.RowKit

end Go.Proofs.YtehahodomfbpjaaGreatDoor
/- Contracts of the model's functions that own and write disks. Conditions: what is copied can be read, and holds at most 1048575 elements of a kind. -/
namespace Go.Proofs.YtehahodomfbpjaaGreatDoor
set_option linter.unusedVariables false
set_option maxRecDepth 100000
open Go.RowKit

end Go.Proofs.YtehahodomfbpjaaGreatDoor
/- Contracts of the functions that settle the writes of a disk, as the model and as the program have them. Conditions: the disk is right, and can be read. -/
namespace Go.Proofs.YtehahodomfbpjaaGreatDoor
set_option linter.unusedVariables false
set_option maxRecDepth 100000
open Go.RowKit

theorem strAt_set (ss : List ByteArray) (a : Nat) (s : ByteArray) (ha : a < ss.length) (i : Nat) : strAt (ss.set a s) i = if i = a then .string s else strAt ss i := by
  unfold strAt
  rw [List.getD_eq_getElem?_getD, List.getElem?_set]
  by_cases h : a = i
  · subst h; rw [if_pos rfl, if_pos rfl, if_pos ha]; rfl
  · rw [if_neg h, if_neg (fun e => h e.symm), ← List.getD_eq_getElem?_getD]
/-- The row of sure texts, as it is being settled. -/
def SetRow (w : World) (g : Nat) (ss : List ByteArray) : Prop := Own w g 9 64 (strAt ss)
theorem SetRow.set {w : World} {g a : Nat} {ss : List ByteArray} {s : ByteArray} (h : SetRow w g ss) (ha : a < 64) (hl : ss.length = 64) : SetRow (w.setCell ⟨g, a, none⟩ (.string s)) g (ss.set a s) := by
  unfold SetRow at h ⊢
  refine (h.set ha (.string s)).congr fun i _ => ?_
  rw [strAt_set ss a s (by omega) i]

end Go.Proofs.YtehahodomfbpjaaGreatDoor
/- Values of a vault that is new: the disk that has it. Nothing here speaks of memory. Conditions: none. -/
namespace Go.Proofs.YtehahodomfbpjaaGreatDoor
set_option linter.unusedVariables false
set_option maxRecDepth 100000
open Go.RowKit

/-- The sure texts of a new vault: its super, the first k numbers of its image. -/
def fmT (c : List Int) : Nat → List ByteArray
  | 0 => noS.set 0 (supT 1 0 0 0 [] [])
  | k + 1 => (fmT c k).set (2 + k) (sealS (numsS [(c.getD k 0).toNat]))
theorem fmT_len (c : List Int) : ∀ k, (fmT c k).length = 64
  | 0 => by show (noS.set 0 _).length = 64; rw [List.length_set, noS_len]
  | k + 1 => by show ((fmT c k).set _ _).length = 64; rw [List.length_set, fmT_len c k]
/-- What FormatVault answers. -/
def fmP (c : List Int) : (List ByteArray × List (Int × ByteArray)) × Int := if askC c true = 0 then ((fmT c 8, []), 0) else (([], []), askC c true)
theorem askC_zero {c : List Int} (h : askC c true = 0) : contB c = true := by
  unfold askC at h
  split at h
  · exact absurd h (by decide)
  · split at h
    · rename_i hc; rw [Bool.and_eq_true] at hc; exact hc.1
    · exact absurd h (by decide)
theorem fmP_yes {c : List Int} (h : contB c = true) : fmP c = ((fmT c 8, []), 0) := by
  have h8 := (contB_yes h).1
  unfold fmP
  rw [if_pos]
  unfold askC
  rw [if_neg (by omega), h]; rfl
theorem fmP_no {c : List Int} (h : ¬ askC c true = 0) : fmP c = (([], []), askC c true) := by unfold fmP; rw [if_neg h]
theorem fmP_long {c : List Int} (h : 4096 < c.length) : fmP c = (([], []), 2) := by
  have e := (askC_long h true).1
  rw [fmP_no (by rw [e]; decide), e]
theorem fmP_bad {c : List Int} (h : ¬ 4096 < c.length) (h2 : contB c = false) : fmP c = (([], []), 1) := by
  have e : askC c true = 1 := by unfold askC; rw [if_neg h, h2]; rfl
  rw [fmP_no (by rw [e]; decide), e]
theorem super_new : superB 1 0 0 0 [] [] = true := by decide
theorem one_six {v : Int} (h0 : 0 ≤ v) (h1 : v ≤ 999999) : All6 [v.toNat] := fun k hk => by
  obtain rfl : k = 0 := by simpa using hk
  show v.toNat ≤ 999999
  omega
theorem numsS_one (n : Nat) : numsS [n] = ⟨(pad 6 n).toArray⟩ := by
  unfold numsS
  show (⟨(pad 6 n ++ []).toArray⟩ : ByteArray) = _
  rw [List.append_nil]
end Go.Proofs.YtehahodomfbpjaaGreatDoor
/- Words on maps from ints to changes that the call itself has made: made, looked up, stored into. Conditions: none. -/
namespace Go.Proofs.YtehahodomfbpjaaGreatDoor
set_option linter.unusedVariables false
set_option maxRecDepth 100000
open Go.RowKit Go.ChangeMaps Go.MapKept Go.WideShapes

def vC (c : Chg) : Value := .agg #[.int .i64 c.1, .int .i64 c.2.1, .int .i64 c.2.2]
/-- The entries of a map, each key once, are what M says. -/
structure Ent (es : List MapEntry) (M : Int → Option Chg) : Prop where
  has : ∀ e ∈ es, ∃ k c, e.key = .int .i64 k ∧ (Lit.int .i64 k).wf = true ∧ e.val = vC c ∧ M k = some c
  all : ∀ k c, M k = some c → ∃ e ∈ es, e.key = .int .i64 k
  one : ∀ (i j : Nat) (x y : MapEntry), es[i]? = some x → es[j]? = some y → x.key = y.key → i = j
/-- Block b is a map from ints to changes. -/
def MapC (w : World) (b : Nat) (M : Int → Option Chg) : Prop := ∃ es clock, w.heap[b]? = some (.map es clock) ∧ Ent es.toList M
section
variable {w w' : World} {b : Nat} {M : Int → Option Chg}
theorem MapC.lt (h : MapC w b M) : b < w.heap.size := by
  obtain ⟨es, clock, hb, _⟩ := h
  exact (Array.getElem?_eq_some_iff.1 hb).1
theorem MapC.nx (h : MapC w b M) (hb : Nx w w') : MapC w' b M := by
  have hlt := h.lt
  obtain ⟨es, clock, h1, h2⟩ := h
  exact ⟨es, clock, (hb.block b hlt).trans h1, h2⟩
theorem MapC.rg {lo hi : Nat} (h : MapC w b M) (hb : Rg lo hi w w') (hg : b < lo ∨ hi ≤ b) : MapC w' b M := by
  have hlt := h.lt
  obtain ⟨es, clock, h1, h2⟩ := h
  exact ⟨es, clock, (hb.block b hlt hg).trans h1, h2⟩
theorem MapC.alloc (h : MapC w b M) (o : Obj) : MapC (w.alloc o) b M := h.nx ((Nx.refl w).alloc o)
theorem MapC.far (h : MapC w b M) {p : Addr} (hp : b ≠ p.block) (v : Value) : MapC (w.setCell p v) b M := by
  obtain ⟨es, clock, h1, h2⟩ := h
  exact ⟨es, clock, (Below.heap_setCell w p v b hp).trans h1, h2⟩
theorem MapC.made (w : World) : MapC (w.alloc (.map #[] 0)) w.heap.size (fun _ => none) :=
  ⟨#[], 0, (MapKept.heap_alloc w _).1, ⟨by simp, by simp, by simp⟩⟩
end
theorem keyI : Maps.Keyed Tryz.prog 3 := Maps.int_keyed Tryz.underlying3
theorem keyI_mk {k : Int} (hw : (Lit.int .i64 k).wf = true) : keyOf Tryz.prog 3 (.int .i64 k) = some (.int .i64 k) := Maps.keyOf_int_mk Tryz.underlying3 hw
theorem Ent.keys {es : List MapEntry} {M : Int → Option Chg} (h : Ent es M) : ∀ e ∈ es, ∃ l, keyOf Tryz.prog 3 e.key = some l := fun e he => by
  obtain ⟨k, c, hk, hw, _⟩ := h.has e he
  exact ⟨_, by rw [hk]; exact keyI_mk hw⟩
theorem MapC.look {w : World} {b : Nat} {M : Int → Option Chg} (h : MapC w b M) {k : Int} (hw : (Lit.int .i64 k).wf = true) :
    (Instr.lookup 231 (.map (some b)) (.int .i64 k) true).run Tryz.prog w = .ok (.tuple #[vC ((M k).getD chZ), .bool (M k).isSome]) w := by
  obtain ⟨es, clock, hb, he⟩ := h
  rcases keyI.find w (keyI_mk hw) es.toList he.keys with ⟨h1, h2⟩ | ⟨j, e0, h1, h2, h3⟩
  · have hM : M k = none := by
      cases hM : M k with
      | none => rfl
      | some c =>
        obtain ⟨e, hm, hk⟩ := he.all k c hM
        exact absurd hk (h2 e hm)
    simp [Instr.lookup, run_underlying Tryz.underlying231, MapKept.run_getObj_map hb, keyI.check w _ (keyI_mk hw), h1, Result.andThen, hM]
    rfl
  · obtain ⟨k', c, hk, _, hv, hM⟩ := he.has e0 (List.mem_of_getElem? h2)
    rw [h3] at hk
    injection hk with _ hk
    subst hk
    simp [Instr.lookup, run_underlying Tryz.underlying231, MapKept.run_getObj_map hb, keyI.check w _ (keyI_mk hw), h1, Result.andThen, hM, hv]
theorem MapC.put {w : World} {b : Nat} {M : Int → Option Chg} (h : MapC w b M) {k : Int} (hw : (Lit.int .i64 k).wf = true) (c : Chg) :
    ∃ w', (Instr.mapUpdate 231 (.map (some b)) (.int .i64 k) (vC c)).run Tryz.prog w = .ok () w' ∧ MapC w' b (fun x => if x = k then some c else M x) ∧ Rg b (b + 1) w w' := by
  obtain ⟨es, clock, hb, he⟩ := h
  have hrg : ∀ es' clock', Rg b (b + 1) w (setBlock w b (.map es' clock')) := fun es' clock' => ⟨rfl, rfl, rfl, by simp [setBlock], fun i _ hi => heap_setBlock_other hb _ (by omega)⟩
  rcases keyI.find w (keyI_mk hw) es.toList he.keys with ⟨h1, h2⟩ | ⟨j, e0, h1, h2, h3⟩
  · refine ⟨setBlock w b (.map (es.push ⟨.int .i64 k, vC c, clock⟩) (clock + 1)), ?_, ⟨_, _, heap_setBlock_same hb _, ?_⟩, hrg _ _⟩
    · simp [Instr.mapUpdate, run_underlying Tryz.underlying231, MapKept.run_getObj_map hb, keyI.check w false (keyI_mk hw), h1, MapKept.run_setObj_map _ hb, Result.andThen, setBlock]
    · rw [Array.toList_push]
      refine ⟨fun e hm => ?_, fun x d hx => ?_, fun i j x y hx hy hxy => ?_⟩
      · rcases List.mem_append.1 hm with hm | hm
        · obtain ⟨k', c', hk, hw', hv, hM⟩ := he.has e hm
          refine ⟨k', c', hk, hw', hv, ?_⟩
          have : k' ≠ k := fun e1 => h2 e hm (by rw [hk, e1])
          simp [this, hM]
        · simp only [List.mem_singleton] at hm
          subst hm
          exact ⟨k, c, rfl, hw, rfl, by simp⟩
      · by_cases hxk : x = k
        · exact ⟨⟨.int .i64 k, vC c, clock⟩, by simp, by rw [hxk]⟩
        · simp only [if_neg hxk] at hx
          obtain ⟨e, hm, hk⟩ := he.all x d hx
          exact ⟨e, by simp [hm], hk⟩
      · have hlen : ∀ (i : Nat) (x : MapEntry), (es.toList ++ [⟨.int .i64 k, vC c, clock⟩])[i]? = some x → (i < es.toList.length ∧ es.toList[i]? = some x) ∨ (i = es.toList.length ∧ x.key = .int .i64 k) := by
          intro i x hx
          rcases Nat.lt_or_ge i es.toList.length with hl | hl
          · rw [List.getElem?_append_left hl] at hx
            exact .inl ⟨hl, hx⟩
          · rw [List.getElem?_append_right hl] at hx
            have hi : i - es.toList.length = 0 := by
              have := (List.getElem?_eq_some_iff.1 hx).1
              simpa using this
            rw [hi] at hx
            simp only [List.getElem?_cons_zero, Option.some.injEq] at hx
            exact .inr ⟨by omega, by rw [← hx]⟩
        rcases hlen i x hx with ⟨hi, hx⟩ | ⟨hi, hx⟩ <;> rcases hlen j y hy with ⟨hj, hy⟩ | ⟨hj, hy⟩
        · exact he.one i j x y hx hy hxy
        · exact absurd (hxy.trans hy) (h2 x (List.mem_of_getElem? hx))
        · exact absurd (hxy.symm.trans hx) (h2 y (List.mem_of_getElem? hy))
        · omega
  · have hj : es[j]? = some e0 := by simpa using h2
    have hlist : (es.modify j (fun e' => { e' with key := .int .i64 k, val := vC c })).toList = es.toList.set j { e0 with key := .int .i64 k, val := vC c } := by rw [Array.toList_modify, modify_eq_set _ _ _ _ h2]
    have hjl : j < es.toList.length := (List.getElem?_eq_some_iff.1 h2).1
    have hget : ∀ (i : Nat) (x : MapEntry), (es.toList.set j { e0 with key := .int .i64 k, val := vC c })[i]? = some x → (i = j ∧ x = { e0 with key := .int .i64 k, val := vC c }) ∨ (i ≠ j ∧ es.toList[i]? = some x ∧ x.key ≠ .int .i64 k) := by
      intro i x hx
      rw [List.getElem?_set] at hx
      by_cases hij : j = i
      · rw [if_pos hij, if_pos hjl] at hx
        exact .inl ⟨hij.symm, (Option.some.inj hx).symm⟩
      · rw [if_neg hij] at hx
        exact .inr ⟨fun e => hij e.symm, hx, fun e => hij (he.one j i e0 x h2 hx (by rw [h3, e]))⟩
    refine ⟨setBlock w b (.map (es.modify j (fun e' => { e' with key := .int .i64 k, val := vC c })) clock), ?_, ⟨_, _, heap_setBlock_same hb _, ?_⟩, hrg _ _⟩
    · simp [Instr.mapUpdate, run_underlying Tryz.underlying231, MapKept.run_getObj_map hb, keyI.check w false (keyI_mk hw), h1, hj, h3, keyI.stays w (keyI_mk hw), MapKept.run_setObj_map _ hb, Result.andThen, setBlock]
    · rw [hlist]
      refine ⟨fun e hm => ?_, fun x d hx => ?_, fun i i' x y hx hy hxy => ?_⟩
      · obtain ⟨i, hi⟩ := List.mem_iff_getElem?.1 hm
        rcases hget i e hi with ⟨_, rfl⟩ | ⟨_, hi, hne⟩
        · exact ⟨k, c, rfl, hw, rfl, by simp⟩
        · obtain ⟨k', c', hk, hw', hv, hM⟩ := he.has e (List.mem_of_getElem? hi)
          refine ⟨k', c', hk, hw', hv, ?_⟩
          have : k' ≠ k := fun e1 => hne (by rw [hk, e1])
          simp [this, hM]
      · by_cases hxk : x = k
        · exact ⟨{ e0 with key := .int .i64 k, val := vC c }, List.mem_iff_getElem?.2 ⟨j, by rw [List.getElem?_set, if_pos rfl, if_pos hjl]⟩, by rw [hxk]⟩
        · simp only [if_neg hxk] at hx
          obtain ⟨e, hm, hk⟩ := he.all x d hx
          obtain ⟨i, hi⟩ := List.mem_iff_getElem?.1 hm
          refine ⟨e, List.mem_iff_getElem?.2 ⟨i, ?_⟩, hk⟩
          have hij : j ≠ i := by
            rintro rfl
            rw [h2] at hi
            cases hi
            rw [h3] at hk
            injection hk with _ hk
            exact hxk hk.symm
          rw [List.getElem?_set, if_neg hij]
          exact hi
      · rcases hget i x hx with ⟨hi, hx⟩ | ⟨hi, hx, hnx⟩ <;> rcases hget i' y hy with ⟨hi', hy⟩ | ⟨hi', hy, hny⟩
        · omega
        · exact absurd (by rw [← hxy, hx]) hny
        · exact absurd (by rw [hxy, hy]) hnx
        · exact he.one i i' x y hx hy hxy
/-- A store into such a map at the operation, for the walk. -/
theorem wpList_put {w : World} {ops : Array Oper} {rest : List Oper} {o : Oper} {a : Act} {Q : Exit → Act → World → Prop}
    (hg : o.guard = none) (m x v : Operand) (hop : o.op = Op.mapUpdate 231 m x v) (b : Nat) (M : Int → Option Chg) (k : Int) (c : Chg)
    (hm : a.eval m = .map (some b)) (hown : MapC w b M) (hx : a.eval x = .int .i64 k) (hv : a.eval v = vC c) (hw : (Lit.int .i64 k).wf = true)
    (hK : ∀ w', MapC w' b (fun x => if x = k then some c else M x) → Rg b (b + 1) w w' → wpList Tryz.prog ops Q rest (a.put o.dst undef) w') :
    wpList Tryz.prog ops Q (o :: rest) a w := by
  refine wpList_plain hg fun K' hK' => ?_
  obtain ⟨w', hrun, r1, r2⟩ := hown.put hw c
  unfold Oper.wp
  simp [execOp, hop, hm, hx, hv, hrun, Result.andThen]
  exact hK' _ _ (hK w' r1 r2)
end Go.Proofs.YtehahodomfbpjaaGreatDoor
/- Rows of changes of the call's own that grow by one; what two lists of changes put together are. Conditions: those of each theorem. -/
namespace Go.Proofs.YtehahodomfbpjaaGreatDoor
set_option linter.unusedVariables false
set_option maxRecDepth 100000
open Go.RowKit

def cV (cs : List Chg) : List Value := cs.flatMap fun c => [.int .i64 c.1, .int .i64 c.2.1, .int .i64 c.2.2]
theorem cV_get : ∀ (cs : List Chg) (i : Nat), i < cs.length * 3 → (cV cs)[i]? = some (chAt cs i)
  | [], i, h => by simp at h
  | c :: cs, i, h => by
    show ([_, _, _] ++ cV cs)[i]? = _
    by_cases hi : i < 3
    · rw [List.getElem?_append_left (by simpa using hi)]
      match i, hi with
      | 0, _ => rfl
      | 1, _ => rfl
      | 2, _ => rfl
    · rw [List.getElem?_append_right (by simpa using hi)]
      show (cV cs)[i - 3]? = _
      rw [cV_get cs (i - 3) (by simp at h; omega)]
      have e1 : (i - 3) % 3 = i % 3 := by omega
      have e2 : i / 3 = (i - 3) / 3 + 1 := by omega
      unfold chAt
      rw [e1, e2, List.getD_cons_succ]
/-- A row of changes of the call's own, from block B on. -/
def RowC (w : World) (B : Nat) (v : Value) (cs : List Chg) : Prop := w.ownsRow B 202 3 v cs.length (cV cs)
theorem RowC.nil (w : World) (B : Nat) : RowC w B (.slice none 0 0) [] := World.ownsRow_nil w B _ 3
theorem RowC.new (w : World) {B : Nat} (hB : B ≤ w.heap.size) : RowC (w.alloc (.cells #[] 202)) B (.slice (some ⟨w.heap.size, 0, none⟩) 0 0) [] :=
  ⟨rfl, .inr ⟨_, 0, #[], rfl, hB, heap_alloc_new w _, by simp, by unfold maxLen; omega, rfl, rfl⟩⟩
theorem RowC.sl {w : World} {B : Nat} {v : Value} {cs : List Chg} (h : RowC w B v cs) : ∃ A c, v = .slice A cs.length c ∧ Sl w B A 202 (cs.length * 3) (chAt cs) := by
  rcases h.2 with ⟨rfl, h0⟩ | ⟨g, cap, cur, rfl, hb, hg, hnc, _, hcs, htk⟩
  · exact ⟨none, 0, by rw [h0], fun hn => by omega⟩
  · refine ⟨_, cap, rfl, Sl.own ⟨cur, hg, by have := Nat.mul_le_mul_right 3 hnc; omega, fun i hi => ?_⟩ hb⟩
    have h1 : (cur.toList.take (cs.length * 3))[i]? = some (chAt cs i) := by rw [htk]; exact cV_get cs i hi
    rw [List.getElem?_take_of_lt hi] at h1
    simpa using h1
theorem RowC.nx {w w' : World} {B : Nat} {v : Value} {cs : List Chg} (h : RowC w B v cs) (hb : Nx w w') : RowC w' B v cs := by
  refine h.kept (row := none) ⟨hb.os, hb.tape, hb.output, hb.size, fun i hi _ => hb.block i hi⟩ ?_
  cases hv : v.ownBlock with
  | none => exact .inl rfl
  | some g => exact .inr (by simp)
theorem RowC.ne {w : World} {B g : Nat} {v : Value} {cs : List Chg} {t : TypeId} {xs : Array Value} (h : RowC w B v cs) (hb : Box w g t xs) (ht : t ≠ 202) : some g ≠ v.ownBlock := by
  intro he
  rcases h.2 with ⟨rfl, _⟩ | ⟨g', cap, cur, rfl, _, hg, _⟩
  · simp [Value.ownBlock] at he
  · obtain rfl : g = g' := by simpa [Value.ownBlock] using he
    unfold Box at hb
    rw [hg] at hb
    injection hb with hb
    injection hb with _ hb
    exact ht hb.symm
theorem RowC.far {w : World} {B g i : Nat} {v u : Value} {cs : List Chg} {t : TypeId} {xs : Array Value} (h : RowC w B v cs) (hb : Box w g t xs) (ht : t ≠ 202) : RowC (w.setCell ⟨g, i, none⟩ u) B v cs :=
  World.ownsRow.kept (row := some g) h ⟨rfl, rfl, rfl, by simp [World.setCell], fun k hk hn => Below.heap_setCell _ _ _ _ (fun e => hn (by rw [e]))⟩ (.inr (fun e => h.ne hb ht e.symm))
theorem RowC.rg {w w' : World} {B lo hi : Nat} {v : Value} {cs : List Chg} (h : RowC w B v cs) (hr : Rg lo hi w w') (hh : hi ≤ B) : RowC w' B v cs := by
  rcases h.2 with ⟨rfl, h0⟩ | ⟨g, cap, cur, rfl, hb, hg, r⟩
  · exact ⟨h.1, .inl ⟨rfl, h0⟩⟩
  · have hlt := (World.ownsRow.lt h g rfl).2
    exact ⟨h.1, .inr ⟨g, cap, cur, rfl, hb, (hr.block g hlt (.inr (by omega))).trans hg, r⟩⟩
end Go.Proofs.YtehahodomfbpjaaGreatDoor
/- What segments put together are; contracts of the program's noteIn, risingChanges and mergedChanges. Conditions: the changes can be read; their blocks are blocks. -/
namespace Go.Proofs.YtehahodomfbpjaaGreatDoor
set_option linter.unusedVariables false
set_option maxRecDepth 100000
open Go.RowKit

/-- A map with changes noted in it. -/
def noteM (M : Int → Option Chg) (cs : List Chg) : Int → Option Chg := fun k => cs.foldl (fun o c => if c.1 = k then some c else o) (M k)
def noM : Int → Option Chg := fun _ => none
theorem noteM_succ (M : Int → Option Chg) (cs : List Chg) {k : Nat} (hk : k < cs.length) : noteM M (cs.take (k + 1)) = fun x => if x = (cs.getD k chZ).1 then some (cs.getD k chZ) else noteM M (cs.take k) x := by
  funext x
  unfold noteM
  rw [List.take_succ_eq_append_getElem hk, List.foldl_append, List.getD_eq_getElem?_getD, List.getElem?_eq_getElem hk]
  show (if cs[k].1 = x then _ else _) = if x = cs[k].1 then _ else _
  by_cases h : cs[k].1 = x
  · rw [if_pos h, if_pos h.symm]; rfl
  · rw [if_neg h, if_neg (fun e => h e.symm)]
theorem wf_small {q : Int} (h0 : 0 ≤ q) (h1 : q ≤ 7) : (Lit.int .i64 q).wf = true := by
  obtain ⟨n, rfl⟩ : ∃ n : Nat, q = n := ⟨q.toNat, by omega⟩
  have : n = 0 ∨ n = 1 ∨ n = 2 ∨ n = 3 ∨ n = 4 ∨ n = 5 ∨ n = 6 ∨ n = 7 := by omega
  rcases this with rfl | rfl | rfl | rfl | rfl | rfl | rfl | rfl <;> decide
/-- The changes of a row lie ahead of a block. -/
theorem Chs.rg {w w' : World} {B lo hi : Nat} {A : Option Addr} {cs : List Chg} (h : Chs w B A cs) (hr : Rg lo hi w w') (hB : B ≤ lo) (hl : lo ≤ w.heap.size) : Chs w' B A cs := h.below (hr.below hl) hB
theorem Rg.alloc {lo hi : Nat} {a w : World} (h : Rg lo hi a w) (o : Obj) : Rg lo hi a (w.alloc o) := h.trans (Rg.of_nx ((Nx.refl w).alloc o))

set_option maxRecDepth 100000 in
set_option maxHeartbeats 2000000 in
theorem noteIn_c (f t m : Int) (A : Option Addr) (c B b : Nat) (cs : List Chg) (M : Int → Option Chg) (w : World) (h : Chs w B A cs) (hm : MapC w b M) (hB : B ≤ b) (hok : chsB cs = true) :
    Calls Tryz.prog 230 #[.agg #[.int .i64 f, .int .i64 t, .int .i64 m, .slice A cs.length c], .map (some b)] w fun e w' => e = .returned (.tuple #[]) ∧ MapC w' b (noteM M cs) ∧ Rg b (b + 1) w w' := by
  have hl8 := chsB_len hok
  have hto := chsB_to hok
  have hbw := hm.lt
  clear hok
  go_enter Tryz.func230, Tryz.ntmps230
  go_wp2_with fail
  have hm0 := hm.alloc (.cells #[.int .i64 f, .int .i64 t, .int .i64 m, .slice A cs.length c] 130)
  have hr0 : Rg b (b + 1) w (w.alloc (.cells #[.int .i64 f, .int .i64 t, .int .i64 m, .slice A cs.length c] 130)) := Rg.of_nx ((Nx.refl w).alloc _)
  generalize w.alloc (.cells #[.int .i64 f, .int .i64 t, .int .i64 m, .slice A cs.length c] 130) = W at *
  go_loopw [9] (fun i wr => ∃ k : Nat, k ≤ cs.length ∧ i = .int .i64 k ∧ MapC wr b (noteM M (cs.take k)) ∧ Rg b (b + 1) w wr) (fun i _ => cs.length - (intOf i).toNat)
  case atStart => exact ⟨0, Nat.zero_le _, rfl, hm0, hr0⟩
  case round =>
    obtain ⟨k, hk, rfl, hmr, hrg⟩ := hrel
    clear hm0 hr0
    by_cases hlt : k < cs.length
    · obtain ⟨b', off, rfl, hb, k0, k1, k2⟩ := (h.rg hrg hB (Nat.le_of_lt hbw)).at_ hlt
      obtain ⟨hr0, hr1⟩ := hto.rise k hlt
      have HS := Lib.hid (noteM_succ M cs hlt)
      obtain ⟨⟨q0, q1, q2⟩, Hq⟩ : ∃ q, Hid (cs.getD k chZ = q) := ⟨_, rfl⟩
      rw [Hq.out] at k0 k1 k2 hr0 hr1
      have hwf := wf_small (q := q0) (by simp only at hr0; omega) hr1
      have hma := hmr.alloc (.cells #[.int .i64 q0, .int .i64 q1, .int .i64 q2] 202)
      go_wp2_with (at_mapUpdate; refine wpList_put rfl _ _ _ rfl b _ q0 (q0, q1, q2) rfl hma rfl rfl hwf ?_)
      intro w1 hm1 hr2
      go_wp2
      go_roundw
      case rel => exact ⟨k + 1, by omega, by go_num, by rw [HS.out, Hq.out]; exact hm1, (hrg.alloc _).trans hr2⟩
      case measure => simp [intOf]; omega
    · obtain rfl : k = cs.length := by omega
      rw [List.take_length] at hmr
      go_wp2
      exact bodyPost_end (v := .tuple #[]) (by simp [results, Tryz.results230, go_sem]) rfl ⟨rfl, hmr, hrg⟩

def gV (A : Option Addr) (f t m : Int) (n c : Nat) : Array Value := #[.int .i64 f, .int .i64 t, .int .i64 m, .slice A n c]
end Go.Proofs.YtehahodomfbpjaaGreatDoor
/- Contract of SegOK, as the model has it. Conditions: the segment can be read, and has at most 1048576 changes. -/
namespace Go.Proofs.YtehahodomfbpjaaGreatDoor
set_option linter.unusedVariables false
set_option maxRecDepth 100000
open Go.RowKit

end Go.Proofs.YtehahodomfbpjaaGreatDoor
/- Contracts of the model's l03Ask, l03Forward, l03Backward, Forward and Backward. Conditions: the list and the segment can be read, and hold at most 1048576 elements each. -/
namespace Go.Proofs.YtehahodomfbpjaaGreatDoor
set_option linter.unusedVariables false
set_option maxRecDepth 100000
open Go.RowKit

end Go.Proofs.YtehahodomfbpjaaGreatDoor
/- Contracts of SegOf, as the program and as the model have it. Conditions: the list can be read, and holds at most 1048576 elements. -/
namespace Go.Proofs.YtehahodomfbpjaaGreatDoor
set_option linter.unusedVariables false
set_option maxRecDepth 100000
open Go.RowKit

/-- A segment: from, to, time, changes. -/
abbrev Sg4 := Int × Int × Int × List Chg
/-- A segment and a code that are answered. -/
def RetSC (w : World) (q : Sg4) (cd : Int) (e : Ending) (w' : World) : Prop :=
  ∃ (A : Option Addr) (c : Nat), e = .returned (.tuple #[.agg #[.int .i64 q.1, .int .i64 q.2.1, .int .i64 q.2.2.1, .slice A q.2.2.2.length c], .int .i64 cd]) ∧ Sl w' w.heap.size A 202 (q.2.2.2.length * 3) (chAt q.2.2.2) ∧ Nx w w'
end Go.Proofs.YtehahodomfbpjaaGreatDoor
/- Contract of MergeSegs, as the program has it. Conditions: the segments can be read, and have at most 1048576 changes. -/
namespace Go.Proofs.YtehahodomfbpjaaGreatDoor
set_option linter.unusedVariables false
set_option maxRecDepth 100000
open Go.RowKit

theorem segB_chs {f t m : Int} {cs : List Chg} (h : segB f t m cs = true) : chsB cs = true := by
  unfold segB at h
  simp only [Bool.and_eq_true] at h
  exact h.2

end Go.Proofs.YtehahodomfbpjaaGreatDoor
/- Contracts of the laws' functions that count the size of segments, and that make the program's segments out of the laws' own; a segment that comes in, opened. Conditions: what is counted or copied can be read; copied: it has at most 1048576 changes. -/
namespace Go.Proofs.YtehahodomfbpjaaGreatDoor
set_option linter.unusedVariables false
set_option maxRecDepth 100000
open Go.Joins Go.ChangeShapes Go.WideShapes Go.RowKit Go.Deep

section
variable {H : Type} {enc : TypeId × Value → H} {w : World} {base : Nat} {spare : Nat → Bool} {held : Bool}
end
end Go.Proofs.YtehahodomfbpjaaGreatDoor
/- Contract of the model's l03Merge. Conditions: the changes can be read; their blocks are blocks. -/
namespace Go.Proofs.YtehahodomfbpjaaGreatDoor
set_option linter.unusedVariables false
set_option maxRecDepth 100000
open Go.RowKit

/-- How the model holds what may not be there. -/
def enc : Option Chg → Chg
  | none => (-1, 0, 0)
  | some c => c
end Go.Proofs.YtehahodomfbpjaaGreatDoor
/- Contract of MergeSegs, as the model has it. Conditions: the segments can be read, and have at most 1048576 changes. -/
namespace Go.Proofs.YtehahodomfbpjaaGreatDoor
set_option linter.unusedVariables false
set_option maxRecDepth 100000
open Go.RowKit


end Go.Proofs.YtehahodomfbpjaaGreatDoor
/- Contracts of the model's l03Of and SegOf. Conditions: the list can be read, and holds at most 1048576 elements. -/
namespace Go.Proofs.YtehahodomfbpjaaGreatDoor
set_option linter.unusedVariables false
set_option maxRecDepth 100000
open Go.RowKit


end Go.Proofs.YtehahodomfbpjaaGreatDoor
/- Contracts of SegOf, as the program has it. Conditions: the list can be read, and holds at most 1048576 elements. -/
namespace Go.Proofs.YtehahodomfbpjaaGreatDoor
set_option linter.unusedVariables false
set_option maxRecDepth 100000
open Go.RowKit


end Go.Proofs.YtehahodomfbpjaaGreatDoor
/- Contracts of the laws' functions that compare segments: of alike ones they answer true. Conditions: the segments can be read, and have at most 1048576 changes. -/
namespace Go.Proofs.YtehahodomfbpjaaGreatDoor
set_option linter.unusedVariables false
set_option maxRecDepth 100000
open Go.RowKit

end Go.Proofs.YtehahodomfbpjaaGreatDoor
/- Contracts of the laws' functions that mark the memory of segments and look for the marks. Conditions: the changes lie in a block of the call's own; at most 1048576. -/
namespace Go.Proofs.YtehahodomfbpjaaGreatDoor
set_option linter.unusedVariables false
set_option maxRecDepth 100000
open Go.RowKit

def markAt (k i : Nat) : Value := .int .i64 ((k + i : Nat) : Int)
end Go.Proofs.YtehahodomfbpjaaGreatDoor
/- Contracts of the laws' function that makes the program's frames out of the laws' own, and the walk of the law FnExactFrameOK. Conditions: none. -/
namespace Go.Proofs.YtehahodomfbpjaaGreatDoor
set_option linter.unusedVariables false
set_option maxRecDepth 100000
open Go.RowKit
end Go.Proofs.YtehahodomfbpjaaGreatDoor
