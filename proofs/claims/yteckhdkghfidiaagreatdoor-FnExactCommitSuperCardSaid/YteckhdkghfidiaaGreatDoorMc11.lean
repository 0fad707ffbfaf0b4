/-
  Texts of the proof, put together in their order: Pln2, Adi.
  Conditions: those of each.
-/
import Derived.Test.YteckhdkghfidiaaGreatDoorMc10
import Derived.Deep.AppendLies
/- Contracts of the model's l00Number and l04Number. Conditions: texts of at most 65536 bytes. -/
namespace Go.Proofs.YteckhdkghfidiaaGreatDoor
set_option linter.unusedVariables false
set_option maxRecDepth 100000
open Go.RowKit

/-- What the model's l00Number leaves. -/
def RetL (w : World) (s : ByteArray) (e : Ending) (w' : World) : Prop :=
  ∃ (n : Int) (b : Bool), e = .returned (.tuple #[.int .i64 n, .bool b]) ∧ ((plainB s.data.toList = true ∧ b = true ∧ n = ((valL s.data.toList : Nat) : Int)) ∨ (plainB s.data.toList = false ∧ (b = false ∨ n < 0))) ∧ w = w'
theorem plainB_sign {s : ByteArray} (hp : 0 < s.size) (h : (s[0].toNat : Int) = 45) : plainB s.data.toList = false := by
  refine plainB_no (digL_no (k := 0) (by rw [← ba_size]; exact hp) ?_)
  rw [getL s 0 hp]
  unfold digC digI
  rw [h]; decide
theorem sz_tail (s : ByteArray) : (s.extract 1 s.size).size = s.size - 1 := by simp [ByteArray.size_extract]
theorem numS_step {n : Nat} {c : UInt8} (h1 : 48 ≤ (c.toNat : Int)) : (n : Int) * 10 + (c.toNat : Int) - 48 = ((10 * n + (c.toNat - 48) : Nat) : Int) := by omega

set_option maxHeartbeats 2000000 in
theorem l00Number_c (s : ByteArray) (w : World) (hs : s.size ≤ 65536) : Calls Tryz.prog 150 #[.string s] w (RetL w s) := by
  by_cases h0 : s.size = 0
  · have hd0 : decide (0 < (s.size : Int)) = false := decide_eq_false (by omega)
    have hd : ((s.size : Int) == 0) = true := beq_iff_eq.2 (by omega)
    have HF := Lib.hid (plainB_size (l := s.data.toList) (.inl (by rw [← ba_size]; exact h0)))
    go_enter Tryz.func150, Tryz.ntmps150
    go_wp2
    go_ret2
    exact ⟨_, _, rfl, .inr ⟨HF.out, .inl rfl⟩, rfl⟩
  have hd0 : decide (0 < (s.size : Int)) = true := by simp; omega
  have hp : 0 < s.size := by omega
  by_cases h45 : (s[0].toNat : Int) = 45
  · have hd1 : ((s[0].toNat : Int) == 45) = true := beq_iff_eq.2 h45
    have HF := Lib.hid (plainB_sign hp h45)
    have HFS := HF
    have Hz := Lib.hid (sz_tail s)
    clear h45
    have hsl : (1 : Int) ≤ (s.size : Int) := by omega
    obtain ⟨u, hu1⟩ : ∃ u, s.extract 1 s.size = u := ⟨_, rfl⟩
    rw [hu1] at Hz
    have hu : u.size ≤ 65536 := by have := Hz.out; omega
    by_cases g0 : u.size = 0
    · have hg : ((u.size : Int) == 0) = true := beq_iff_eq.2 (by omega)
      go_enter Tryz.func150, Tryz.ntmps150
      go_wp2
      go_ret2
      exact ⟨_, _, rfl, .inr ⟨HF.out, .inl rfl⟩, rfl⟩
    have hg : ((u.size : Int) == 0) = false := beq_eq_false_iff_ne.2 (by omega)
    by_cases g18 : 18 < u.size
    · have hg2 : decide (18 < (u.size : Int)) = true := by simp; omega
      go_enter Tryz.func150, Tryz.ntmps150
      go_wp2
      go_ret2
      exact ⟨_, _, rfl, .inr ⟨HF.out, .inl rfl⟩, rfl⟩
    have hg2 : decide (18 < (u.size : Int)) = false := by simp; omega
    have gp : 0 < u.size := by omega
    by_cases g48 : (u[0].toNat : Int) = 48
    · have hg3 : ((u[0].toNat : Int) == 48) = true := beq_iff_eq.2 g48
      clear g48
      by_cases g1 : 1 < u.size
      · have hg4 : decide (1 < (u.size : Int)) = true := by simp; omega
        go_enter Tryz.func150, Tryz.ntmps150
        go_wp2
        go_ret2
        exact ⟨_, _, rfl, .inr ⟨HF.out, .inl rfl⟩, rfl⟩
      · have hg4 : decide (1 < (u.size : Int)) = false := by simp; omega
        go_enter Tryz.func150, Tryz.ntmps150
        go_wp2
        go_ret2
        exact ⟨_, _, rfl, .inr ⟨HF.out, .inl rfl⟩, rfl⟩
    · have hg3 : ((u[0].toNat : Int) == 48) = false := beq_eq_false_iff_ne.2 g48
      have HP := Lib.hid (fun (hD : digL u.data.toList = true) => valL_pos _ rfl hD (fun e => by rw [ba_size, e] at gp; simp at gp) (by rw [head_at gp]; intro e; injection e with e; rw [e] at g48; exact g48 rfl))
      clear g48
      go_enter Tryz.func150, Tryz.ntmps150
      go_wp2
      go_loop [5, 6] (fun n i => ∃ k : Nat, k ≤ u.size ∧ i = .int .i64 k ∧ digL (u.data.toList.take k) = true ∧ n = .int .i64 ((valTo u k : Nat) : Int)) (fun _ i => u.size - (intOf i).toNat)
      case atStart => exact ⟨0, Nat.zero_le _, rfl, rfl, rfl⟩
      case round =>
        obtain ⟨k, hk, rfl, hd', rfl⟩ := hrel
        have HD := Lib.hid hd'
        clear hd'
        by_cases hlt : k < u.size
        · have hbd := valTo_bd17 (s := u) (k := k) (by omega) HD.out
          have HV := Lib.hid (valTo_succ u k hlt)
          have HT := Lib.hid (take_snoc u k hlt)
          obtain ⟨m, Hm⟩ : ∃ m, Hid (valTo u k = m) := ⟨_, rfl⟩
          rw [Hm.out] at hbd HV ⊢
          cases hC : digI (u[k].toNat : Int) with
          | true =>
            obtain ⟨h1', h2'⟩ := digI_yes hC
            have HC := Lib.hid hC
            clear hC
            have hq1 : decide ((u[k].toNat : Int) < 48) = false := by simp; omega
            have hq2 : decide (57 < (u[k].toNat : Int)) = false := by simp; omega
            go_wp2
            go_round
            case rel => exact ⟨k + 1, by omega, by go_num, by rw [HT.out, digL_snoc, HD.out]; exact HC.out, by rw [HV.out, ← numS_step h1']⟩
            case measure => simp [intOf]; omega
          | false =>
            have HF := Lib.hid (digL_no (l := u.data.toList) (k := k) (by simpa using hlt) (by rw [getL u k hlt]; exact hC))
            have hC2 : ¬ (48 ≤ (u[k].toNat : Int) ∧ (u[k].toNat : Int) ≤ 57) := by
              intro h; unfold digI at hC; simp only [Bool.and_eq_false_iff, decide_eq_false_iff_not] at hC; omega
            clear hC
            by_cases hq : (u[k].toNat : Int) < 48
            · have hq1 : decide ((u[k].toNat : Int) < 48) = true := by simp; omega
              go_wp2
              go_ret2
              exact ⟨_, _, rfl, .inr ⟨HFS.out, .inl rfl⟩, rfl⟩
            · have hq1 : decide ((u[k].toNat : Int) < 48) = false := by simp; omega
              have hq2 : decide (57 < (u[k].toNat : Int)) = true := by simp; omega
              go_wp2
              go_ret2
              exact ⟨_, _, rfl, .inr ⟨HFS.out, .inl rfl⟩, rfl⟩
        · obtain rfl : k = u.size := by omega
          have e : u.data.toList.take u.size = u.data.toList := List.take_of_length_le (by simp)
          rw [e] at HD
          have HV := Lib.hid (show valTo u u.size = valL u.data.toList by unfold valTo; rw [e])
          rw [HV.out]
          clear e
          have hbd := valL_bd18 (l := u.data.toList) (by rw [← ba_size]; omega) HD.out
          obtain ⟨m, Hm⟩ : ∃ m, Hid (valL u.data.toList = m) := ⟨_, rfl⟩
          rw [Hm.out] at hbd ⊢
          have HPm : Hid (1 ≤ m) := Lib.hid (by have := HP.out HD.out; rw [Hm.out] at this; exact this)
          go_wp2
          go_ret2
          exact ⟨_, _, rfl, .inr ⟨HFS.out, .inr (by have := HPm.out; omega)⟩, rfl⟩
  · have hd1 : ((s[0].toNat : Int) == 45) = false := beq_eq_false_iff_ne.2 h45
    clear h45
    by_cases g18 : 18 < s.size
    · have hg2 : decide (18 < (s.size : Int)) = true := by simp; omega
      have hg : ((s.size : Int) == 0) = false := beq_eq_false_iff_ne.2 (by omega)
      have HF := Lib.hid (plainB_size (l := s.data.toList) (.inr (by rw [← ba_size]; exact g18)))
      go_enter Tryz.func150, Tryz.ntmps150
      go_wp2
      go_ret2
      exact ⟨_, _, rfl, .inr ⟨HF.out, .inl rfl⟩, rfl⟩
    have hg2 : decide (18 < (s.size : Int)) = false := by simp; omega
    have hg : ((s.size : Int) == 0) = false := beq_eq_false_iff_ne.2 (by omega)
    by_cases g48 : (s[0].toNat : Int) = 48
    · have hg3 : ((s[0].toNat : Int) == 48) = true := beq_iff_eq.2 g48
      by_cases g1 : 1 < s.size
      · have hg4 : decide (1 < (s.size : Int)) = true := by simp; omega
        have HF := Lib.hid (plainB_nought (l := s.data.toList) (by rw [← ba_size]; exact g1) (by rw [head_at hp, toNat48 g48]))
        clear g48
        go_enter Tryz.func150, Tryz.ntmps150
        go_wp2
        go_ret2
        exact ⟨_, _, rfl, .inr ⟨HF.out, .inl rfl⟩, rfl⟩
      · have hg4 : decide (1 < (s.size : Int)) = false := by simp; omega
        have HPl := Lib.hid (plainB_mk (l := s.data.toList) (by rw [← ba_size]; omega) (by rw [← ba_size]; omega) (.inl (by rw [← ba_size]; omega)))
        clear g48
        go_enter Tryz.func150, Tryz.ntmps150
        go_wp2
        go_loop [5, 6] (fun n i => ∃ k : Nat, k ≤ s.size ∧ i = .int .i64 k ∧ digL (s.data.toList.take k) = true ∧ n = .int .i64 ((valTo s k : Nat) : Int)) (fun _ i => s.size - (intOf i).toNat)
        case atStart => exact ⟨0, Nat.zero_le _, rfl, rfl, rfl⟩
        case round =>
          obtain ⟨k, hk, rfl, hd', rfl⟩ := hrel
          have HD := Lib.hid hd'
          clear hd'
          by_cases hlt : k < s.size
          · have hbd := valTo_bd17 (s := s) (k := k) (by omega) HD.out
            have HV := Lib.hid (valTo_succ s k hlt)
            have HT := Lib.hid (take_snoc s k hlt)
            obtain ⟨m, Hm⟩ : ∃ m, Hid (valTo s k = m) := ⟨_, rfl⟩
            rw [Hm.out] at hbd HV ⊢
            cases hC : digI (s[k].toNat : Int) with
            | true =>
              obtain ⟨h1', h2'⟩ := digI_yes hC
              have HC := Lib.hid hC
              clear hC
              have hq1 : decide ((s[k].toNat : Int) < 48) = false := by simp; omega
              have hq2 : decide (57 < (s[k].toNat : Int)) = false := by simp; omega
              go_wp2
              go_round
              case rel => exact ⟨k + 1, by omega, by go_num, by rw [HT.out, digL_snoc, HD.out]; exact HC.out, by rw [HV.out, ← numS_step h1']⟩
              case measure => simp [intOf]; omega
            | false =>
              have HF := Lib.hid (digL_no (l := s.data.toList) (k := k) (by simpa using hlt) (by rw [getL s k hlt]; exact hC))
              have hC2 : ¬ (48 ≤ (s[k].toNat : Int) ∧ (s[k].toNat : Int) ≤ 57) := by
                intro h; unfold digI at hC; simp only [Bool.and_eq_false_iff, decide_eq_false_iff_not] at hC; omega
              clear hC
              by_cases hq : (s[k].toNat : Int) < 48
              · have hq1 : decide ((s[k].toNat : Int) < 48) = true := by simp; omega
                go_wp2
                go_ret2
                exact ⟨_, _, rfl, .inr ⟨HPl.out.trans HF.out, .inl rfl⟩, rfl⟩
              · have hq1 : decide ((s[k].toNat : Int) < 48) = false := by simp; omega
                have hq2 : decide (57 < (s[k].toNat : Int)) = true := by simp; omega
                go_wp2
                go_ret2
                exact ⟨_, _, rfl, .inr ⟨HPl.out.trans HF.out, .inl rfl⟩, rfl⟩
          · obtain rfl : k = s.size := by omega
            have e : s.data.toList.take s.size = s.data.toList := List.take_of_length_le (by simp)
            rw [e] at HD
            have HV := Lib.hid (show valTo s s.size = valL s.data.toList by unfold valTo; rw [e])
            rw [HV.out]
            clear e
            have hbd := valL_bd18 (l := s.data.toList) (by rw [← ba_size]; omega) HD.out
            obtain ⟨m, Hm⟩ : ∃ m, Hid (valL s.data.toList = m) := ⟨_, rfl⟩
            rw [Hm.out] at hbd ⊢
            skip
            go_wp2
            go_ret2
            exact ⟨_, _, rfl, .inl ⟨HPl.out.trans HD.out, rfl, by rw [Hm.out]⟩, rfl⟩
    · have hg3 : ((s[0].toNat : Int) == 48) = false := beq_eq_false_iff_ne.2 g48
      have HPl := Lib.hid (plainB_mk (l := s.data.toList) (by rw [← ba_size]; omega) (by rw [← ba_size]; omega) (.inr (by rw [head_at hp]; intro e; injection e with e; exact g48 (by rw [e]; rfl))))
      clear g48
      go_enter Tryz.func150, Tryz.ntmps150
      go_wp2
      go_loop [5, 6] (fun n i => ∃ k : Nat, k ≤ s.size ∧ i = .int .i64 k ∧ digL (s.data.toList.take k) = true ∧ n = .int .i64 ((valTo s k : Nat) : Int)) (fun _ i => s.size - (intOf i).toNat)
      case atStart => exact ⟨0, Nat.zero_le _, rfl, rfl, rfl⟩
      case round =>
        obtain ⟨k, hk, rfl, hd', rfl⟩ := hrel
        have HD := Lib.hid hd'
        clear hd'
        by_cases hlt : k < s.size
        · have hbd := valTo_bd17 (s := s) (k := k) (by omega) HD.out
          have HV := Lib.hid (valTo_succ s k hlt)
          have HT := Lib.hid (take_snoc s k hlt)
          obtain ⟨m, Hm⟩ : ∃ m, Hid (valTo s k = m) := ⟨_, rfl⟩
          rw [Hm.out] at hbd HV ⊢
          cases hC : digI (s[k].toNat : Int) with
          | true =>
            obtain ⟨h1', h2'⟩ := digI_yes hC
            have HC := Lib.hid hC
            clear hC
            have hq1 : decide ((s[k].toNat : Int) < 48) = false := by simp; omega
            have hq2 : decide (57 < (s[k].toNat : Int)) = false := by simp; omega
            go_wp2
            go_round
            case rel => exact ⟨k + 1, by omega, by go_num, by rw [HT.out, digL_snoc, HD.out]; exact HC.out, by rw [HV.out, ← numS_step h1']⟩
            case measure => simp [intOf]; omega
          | false =>
            have HF := Lib.hid (digL_no (l := s.data.toList) (k := k) (by simpa using hlt) (by rw [getL s k hlt]; exact hC))
            have hC2 : ¬ (48 ≤ (s[k].toNat : Int) ∧ (s[k].toNat : Int) ≤ 57) := by
              intro h; unfold digI at hC; simp only [Bool.and_eq_false_iff, decide_eq_false_iff_not] at hC; omega
            clear hC
            by_cases hq : (s[k].toNat : Int) < 48
            · have hq1 : decide ((s[k].toNat : Int) < 48) = true := by simp; omega
              go_wp2
              go_ret2
              exact ⟨_, _, rfl, .inr ⟨HPl.out.trans HF.out, .inl rfl⟩, rfl⟩
            · have hq1 : decide ((s[k].toNat : Int) < 48) = false := by simp; omega
              have hq2 : decide (57 < (s[k].toNat : Int)) = true := by simp; omega
              go_wp2
              go_ret2
              exact ⟨_, _, rfl, .inr ⟨HPl.out.trans HF.out, .inl rfl⟩, rfl⟩
        · obtain rfl : k = s.size := by omega
          have e : s.data.toList.take s.size = s.data.toList := List.take_of_length_le (by simp)
          rw [e] at HD
          have HV := Lib.hid (show valTo s s.size = valL s.data.toList by unfold valTo; rw [e])
          rw [HV.out]
          clear e
          have hbd := valL_bd18 (l := s.data.toList) (by rw [← ba_size]; omega) HD.out
          obtain ⟨m, Hm⟩ : ∃ m, Hid (valL s.data.toList = m) := ⟨_, rfl⟩
          rw [Hm.out] at hbd ⊢
          skip
          go_wp2
          go_ret2
          exact ⟨_, _, rfl, .inl ⟨HPl.out.trans HD.out, rfl, by rw [Hm.out]⟩, rfl⟩

/-- .. and l04Number. -/
def RetL4 (w : World) (s : ByteArray) (e : Ending) (w' : World) : Prop :=
  ∃ n : Int, e = .returned (.tuple #[.int .i64 n, .bool (plainB s.data.toList)]) ∧ (plainB s.data.toList = true → n = ((valL s.data.toList : Nat) : Int)) ∧ Nx w w'
set_option maxHeartbeats 2000000 in
theorem l04Number_c (s : ByteArray) (w : World) (hs : s.size ≤ 65536) : Calls Tryz.prog 140 #[.string s] w (RetL4 w s) := by
  go_enter Tryz.func140, Tryz.ntmps140
  go_wp2_with fail
  refine (l00Number_c s _ hs).mono ?_
  rintro e w1 ⟨n, b, rfl, hcase, rfl⟩
  rcases hcase with ⟨hP, rfl, rfl⟩ | ⟨hP, rfl | hneg⟩
  · have HPp := Lib.hid hP
    have hbd := valL_bd18 (plainB_len hP).2 (plainB_dig hP)
    have HG := Lib.hid (plain_digs hP)
    clear hP
    have HS := Lib.hid (show (⟨(digs (valL s.data.toList)).toArray⟩ : ByteArray) = s by rw [HG.out])
    obtain ⟨m, Hm⟩ : ∃ m, Hid (valL s.data.toList = m) := ⟨_, rfl⟩
    rw [Hm.out] at hbd HS ⊢
    have hge : decide ((0 : Int) ≤ (m : Int)) = true := by simp
    go_wp2_with fail
    refine (l00Digits18_c m _ hbd).mono ?_
    rintro e w2 ⟨rfl, hnx⟩
    rw [HS.out]
    have hbq : (s.toList == s.toList) = true := by simp
    go_wp2
    go_ret2
    exact ⟨m, by rw [HPp.out]; rfl, (fun _ => by rw [Hm.out]), hnx⟩
  · have HPp := Lib.hid hP
    clear hP
    go_wp2
    go_ret2
    exact ⟨n, by rw [HPp.out]; rfl, (fun h => by rw [HPp.out] at h; cases h), Nx.refl _⟩
  · have HPp := Lib.hid hP
    clear hP
    have hge : decide ((0 : Int) ≤ n) = false := by simp; omega
    cases b with
    | false =>
      go_wp2
      go_ret2
      exact ⟨n, by rw [HPp.out]; rfl, (fun h => by rw [HPp.out] at h; cases h), Nx.refl _⟩
    | true =>
      go_wp2
      go_ret2
      exact ⟨n, by rw [HPp.out]; rfl, (fun h => by rw [HPp.out] at h; cases h), Nx.refl _⟩
end Go.Proofs.YteckhdkghfidiaaGreatDoor
/- Append of a whole list of ints onto an empty row at one operation of a drawn region; what rows are behind the stores into a block of six cells. Conditions: at most 1048576 elements. -/
namespace Go.Proofs.YteckhdkghfidiaaGreatDoor
set_option linter.unusedVariables false
set_option maxRecDepth 100000
open Go.RowKit

set_option maxHeartbeats 1000000 in
/-- append of a whole list of ints onto an empty row, at one operation of a drawn region. -/
theorem wp_addAllJ {w : World} {o : Oper} {a : Act} {K : Act → World → Prop} {Q : Exit → Act → World → Prop}
    (s x : Operand) (ho : o.op = .call { callee := .builtin .append, args := #[s, x], argTypes := #[23, 23] })
    (B g0 : Nat) (A : Option Addr) (c : Nat) (xs : List Int) (hs : a.eval s = .slice (some ⟨g0, 0, none⟩) 0 0) (hx : a.eval x = .slice A xs.length c) (hown : RowI w B (.slice (some ⟨g0, 0, none⟩) 0 0) []) {B' : Nat} (hrow : Ins w B' A xs)
    (hm : xs.length ≤ 1048576) (hB : B ≤ w.heap.size)
    (hK : ∀ A' k' w', RowI w' B (.slice A' xs.length k') xs → GrewT 3 B w w' → (∀ k, k < w.heap.size → k ≠ g0 → w'.heap[k]? = w.heap[k]?) → K (a.put o.dst (.slice A' xs.length k')) w') :
    o.wp Tryz.prog a w K Q := by
  obtain ⟨i0, hi0, hz0, hz1, hz2⟩ := info_parts info_int
  rcases Nat.eq_zero_or_pos xs.length with h0 | hp
  · have hgs : xs = [] := List.eq_nil_of_length_eq_zero h0
    subst hgs
    have hrun : (Builtin.append_ #[23, 23] o.type #[.slice (some ⟨g0, 0, none⟩) 0 0, .slice A 0 c]).run Tryz.prog w = .ok (.slice (some ⟨g0, 0, none⟩) 0 0) w := by
      rcases A with _ | a'
      · simp [Builtin.append_, run_underlying Tryz.underlying23, sizeOf, typeInfo, hi0, Builtin.lenOf, Builtin.firstCells, storeCells]
      · simp [Builtin.append_, run_underlying Tryz.underlying23, sizeOf, typeInfo, hi0, Builtin.lenOf, Builtin.firstCells, storeCells, loadCells, loadCellsFrom]
    have hx' : a.eval x = .slice A 0 c := hx
    unfold Oper.wp execOp
    simp only [ho, resolve, invoke, builtin, Sem.run_bind, Sem.run_pure, Result.andThen_ok, List.map_toArray, List.map_cons, List.map_nil, hs, hx', hrun]
    exact hK _ _ w hown (grewT_refl' _ _ _) (fun _ _ _ => rfl)
  · obtain ⟨b, off, rfl, hb, hc⟩ := hrow (by omega)
    refine wp_append_own w s x 23 ho B 3 i0 _ 1 8 Tryz.underlying23 hi0 hz0 hz1 hz2 rfl (by omega) _ 0 _ hs hown ⟨b, off, none⟩ xs.length c (iV xs) hx (by rw [iV_len', Nat.mul_one]) (fun j u hj => ?_) (iV_one' xs) (by unfold maxLen; omega) (by omega) hB ?_
    · have hj' : j < xs.length := by
        have := (List.getElem?_eq_some_iff.1 hj).1
        rwa [iV_len'] at this
      rw [iV_get xs j hj'] at hj
      rw [addr_add', hc j hj']
      exact hj
    · intro v' w' hw' hg' _
      have hr : RowI w' B v' xs := by
        unfold RowI
        have : w'.ownsRow B 3 1 v' (0 + xs.length) (iV [] ++ iV xs) := hw'
        rw [Nat.zero_add] at this
        exact this
      obtain ⟨A', k', rfl, _⟩ := hr.sl
      exact hK A' k' w' hr (grewT_of' hown hg') (fun k hk hne => hg'.block k hk (fun e => hne (by simpa [Value.ownBlock] using e)))

theorem RowM.pt6t {u : World} {B g : Nat} {v : Value} {ms : List Mrk} {t' : TypeId} {a b c d x y : Value} (h : RowM u B v ms) (hb : Box u g t' #[a, b, c, d, x, y]) (ht : t' ≠ 103) (v0 v1 v2 v3 v4 v5 : Value) : RowM (put6 u g v0 v1 v2 v3 v4 v5) B v ms :=
  (((((h.far (p := ⟨g, 0, none⟩) hb ht v0).far (p := ⟨g, 1, none⟩) (hb.set 0 v0) ht v1).far (p := ⟨g, 2, none⟩) ((hb.set 0 v0).set 1 v1) ht v2).far (p := ⟨g, 3, none⟩) (((hb.set 0 v0).set 1 v1).set 2 v2) ht v3).far (p := ⟨g, 4, none⟩) ((((hb.set 0 v0).set 1 v1).set 2 v2).set 3 v3) ht v4).far (p := ⟨g, 5, none⟩) (((((hb.set 0 v0).set 1 v1).set 2 v2).set 3 v3).set 4 v4) ht v5
theorem Sl.grew {w w' : World} {lo B m : Nat} {A : Option Addr} {t t' : TypeId} {f : Nat → Value} (h : Sl w lo A t m f) (hg : GrewT t' B w w') (ht : t ≠ t') : Sl w' lo A t m f := fun hm => by
  obtain ⟨g, e, hl, cs, hc, r⟩ := h hm
  exact ⟨g, e, hl, cs, hg.box g t cs ht hc, r⟩
theorem merge6 {G : Nat → Nat → Nat → Option Addr → Nat → World → Prop} {F : Nat → Nat → Nat → Option Addr → Nat → World → Prop} {R : Prop} (main : (∀ gi gs gm A c W, F gi gs gm A c W → G gi gs gm A c W) → R) (key : ∀ gi gs gm A c W, F gi gs gm A c W → G gi gs gm A c W) : R := main key
end Go.Proofs.YteckhdkghfidiaaGreatDoor
