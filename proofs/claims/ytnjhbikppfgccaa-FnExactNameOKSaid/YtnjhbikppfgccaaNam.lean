/-
  Contracts of NameOK, as the program and as the model have it, and of the law over both: each answers the same bool for every text.
  Conditions: the text is of at most maxLen bytes (what the model lets a text have).
-/
import Derived.Test.YtnjhbikppfgccaaRows
import Derived.WalkKit
import Derived.ProofKit
import Derived.OpenShut
import Derived.ShutString
import Derived.WalkSpells
import Derived.Lib.Hide
namespace Go.Proofs.Ytnjhbikppfgccaa.nam
open Go.ChangeShapes Go.WideShapes Go.ChangeAt Go.RowKit
open Go.ChangeMaps (open_string shut_string)
def letB (c : Int) : Bool := (decide (97 ≤ c) && decide (c ≤ 122)) || (decide (65 ≤ c) && decide (c ≤ 90)) || (c == 95)
def digB (c : Int) : Bool := decide (48 ≤ c) && decide (c ≤ 57)
theorem ret_bool {a b : Bool} (h : a = b) : Ending.returned (.bool a) = .returned (.bool b) := by rw [h]
def chr (s : ByteArray) (k : Nat) : Int := ((s.data.toList.getD k 0).toNat : Int)
theorem chr_eq (s : ByteArray) (k : Nat) (h : k < s.size) : chr s k = (s[k].toNat : Int) := by
  unfold chr
  rw [List.getD_eq_getElem?_getD, List.getElem?_eq_getElem (by simpa using h)]
  rfl
def okAt (s : ByteArray) (k : Nat) : Bool := letB (chr s k) || (!(k == 0) && digB (chr s k))
def nameB (s : ByteArray) : Bool := decide (1 ≤ s.size) && decide (s.size ≤ 40) && (List.range s.size).all (okAt s)
def okTo (s : ByteArray) (k : Nat) : Prop := ∀ j, j < k → okAt s j = true
theorem okTo_zero (s : ByteArray) : okTo s 0 := fun j h => absurd h (by omega)
theorem okTo_one (s : ByteArray) (h : 0 < s.size) (ha : letB (s[0].toNat : Int) = true) : okTo s 1 := fun j hj => by
  obtain rfl : j = 0 := by omega
  unfold okAt; rw [chr_eq s 0 h, ha]; rfl
theorem okTo_succ (s : ByteArray) (k : Nat) (hk : k < s.size) (h : okTo s k) (ha : letB (s[k].toNat : Int) = true ∨ (k ≠ 0 ∧ digB (s[k].toNat : Int) = true)) : okTo s (k + 1) := fun j hj => by
  rcases Nat.lt_or_ge j k with hlt | hge
  · exact h j hlt
  · obtain rfl : j = k := by omega
    unfold okAt; rw [chr_eq s j hk]
    rcases ha with ha | ⟨hn, ha⟩
    · rw [ha]; rfl
    · rw [ha]; simp [hn]
theorem nameB_yes (s : ByteArray) (h1 : 1 ≤ s.size) (h2 : s.size ≤ 40) (h : okTo s s.size) : true = nameB s := by
  unfold nameB
  symm
  rw [Bool.and_eq_true, Bool.and_eq_true]
  exact ⟨⟨by simp [h1], by simp [h2]⟩, List.all_eq_true.2 fun j hj => h j (by simpa using hj)⟩
theorem nameB_size (s : ByteArray) (h : s.size < 1 ∨ 40 < s.size) : false = nameB s := by
  unfold nameB
  rcases h with h | h
  · rw [decide_eq_false (by omega)]; simp
  · rw [decide_eq_false (p := s.size ≤ 40) (by omega)]; simp
theorem nameB_no (s : ByteArray) (k : Nat) (hk : k < s.size) (ha : letB (s[k].toNat : Int) = false) (hd : k = 0 ∨ digB (s[k].toNat : Int) = false) : false = nameB s := by
  have : (List.range s.size).all (okAt s) = false := by
    rw [List.all_eq_false]
    refine ⟨k, by simpa using hk, ?_⟩
    unfold okAt; rw [chr_eq s k hk, ha]
    rcases hd with hd | hd
    · subst hd; simp
    · rw [hd]; simp
  unfold nameB
  rw [this]; simp
set_option maxHeartbeats 400000 in
theorem starts (c : Int) (w : World) : Calls Try.prog 57 #[.int .u8 c] w fun e w' => e = .returned (.bool (letB c)) ∧ w = w' := by
  go_enter Try.func57, Try.ntmps57
  go_wp2
  all_goals (go_ret; refine ⟨ret_bool ?_, rfl⟩; unfold letB; rw [Bool.eq_iff_iff]; simp; try omega)
set_option maxHeartbeats 400000 in
theorem digit (c : Int) (w : World) : Calls Try.prog 58 #[.int .u8 c] w fun e w' => e = .returned (.bool (digB c)) ∧ w = w' := by
  go_enter Try.func58, Try.ntmps58
  go_wp2
  all_goals (go_ret; refine ⟨ret_bool ?_, rfl⟩; unfold digB; rw [Bool.eq_iff_iff]; simp; try omega)
set_option maxHeartbeats 400000 in
theorem letter (c : Int) (w : World) : Calls Try.prog 79 #[.int .u8 c] w fun e w' => e = .returned (.bool (letB c)) ∧ w = w' := by
  go_enter Try.func79, Try.ntmps79
  go_wp2
  all_goals (go_ret; refine ⟨ret_bool ?_, rfl⟩; unfold letB; rw [Bool.eq_iff_iff]; simp; try omega)
set_option maxHeartbeats 400000 in
theorem sdigit (c : Int) (w : World) : Calls Try.prog 80 #[.int .u8 c] w fun e w' => e = .returned (.bool (digB c)) ∧ w = w' := by
  go_enter Try.func80, Try.ntmps80
  go_wp2
  all_goals (go_ret; refine ⟨ret_bool ?_, rfl⟩; unfold digB; rw [Bool.eq_iff_iff]; simp; try omega)

set_option maxHeartbeats 400000 in
theorem implNameOK (s : ByteArray) (w : World) (hs : s.size ≤ maxLen) : Calls Try.prog 27 #[.string s] w fun e w' => e = .returned (.bool (nameB s)) ∧ w = w' := by
  unfold maxLen at hs
  by_cases h1 : 1 ≤ s.size
  case neg =>
    have h0 : ((s.size : Int) == 0) = true := beq_iff_eq.2 (by omega)
    have HF := Lib.hid (nameB_size s (.inl (by omega)))
    go_enter Try.func27, Try.ntmps27
    go_wp2
    go_ret
    exact ⟨ret_bool HF.out, rfl⟩
  have h0 : ((s.size : Int) == 0) = false := beq_eq_false_iff_ne.2 (by omega)
  by_cases h2 : s.size ≤ 40
  case neg =>
    have h3 : decide (40 < (s.size : Int)) = true := by simp; omega
    have HF := Lib.hid (nameB_size s (.inr (by omega)))
    go_enter Try.func27, Try.ntmps27
    go_wp2
    go_ret
    exact ⟨ret_bool HF.out, rfl⟩
  have h3 : decide (40 < (s.size : Int)) = false := by simp; omega
  go_enter Try.func27, Try.ntmps27
  go_wp2_with fail
  go_loop [3] (fun i => ∃ k : Nat, k ≤ s.size ∧ i = .int .i64 k ∧ okTo s k) (fun i => s.size - (intOf i).toNat)
  case atStart => exact ⟨0, Nat.zero_le _, rfl, okTo_zero s⟩
  case round =>
    obtain ⟨k, hk, rfl, hto⟩ := hrel
    by_cases hlt : k < s.size
    · cases hA : letB (s[k].toNat : Int) with
      | true =>
        go_wp2_with (go_at_call 57; refine (starts _ _).mono ?_; rintro e w' ⟨rfl, rfl⟩)
        go_round
        case rel => exact ⟨k + 1, by omega, by go_num, okTo_succ s k hlt hto (.inl hA)⟩
        case measure => simp [intOf]; omega
      | false =>
        by_cases hz : k = 0
        · subst hz
          go_wp2_with (go_at_call 57; refine (starts _ _).mono ?_; rintro e w' ⟨rfl, rfl⟩)
          go_ret
          exact ⟨ret_bool (nameB_no s 0 hlt hA (.inl rfl)), rfl⟩
        · have hz' : ((k : Int) == 0) = false := beq_eq_false_iff_ne.2 (by omega)
          cases hD : digB (s[k].toNat : Int) with
          | true =>
            go_wp2_with (first | (go_at_call 57; refine (starts _ _).mono ?_; rintro e w' ⟨rfl, rfl⟩) | (go_at_call 58; refine (digit _ _).mono ?_; rintro e w' ⟨rfl, rfl⟩))
            go_round
            case rel => exact ⟨k + 1, by omega, by go_num, okTo_succ s k hlt hto (.inr ⟨hz, hD⟩)⟩
            case measure => simp [intOf]; omega
          | false =>
            go_wp2_with (first | (go_at_call 57; refine (starts _ _).mono ?_; rintro e w' ⟨rfl, rfl⟩) | (go_at_call 58; refine (digit _ _).mono ?_; rintro e w' ⟨rfl, rfl⟩))
            go_ret
            exact ⟨ret_bool (nameB_no s k hlt hA (.inr hD)), rfl⟩
    · obtain rfl : k = s.size := by omega
      go_wp2
      go_ret
      exact ⟨ret_bool (nameB_yes s h1 h2 hto), rfl⟩

set_option maxHeartbeats 400000 in
theorem specWord (s : ByteArray) (w : World) (hs : s.size ≤ maxLen) : Calls Try.prog 56 #[.string s] w fun e w' => e = .returned (.bool (nameB s)) ∧ w = w' := by
  unfold maxLen at hs
  by_cases h1 : 1 ≤ s.size
  case neg =>
    have h0 : decide ((s.size : Int) < 1) = true := by simp; omega
    have HF := Lib.hid (nameB_size s (.inl (by omega)))
    go_enter Try.func56, Try.ntmps56
    go_wp2
    go_ret
    exact ⟨ret_bool HF.out, rfl⟩
  have h0 : decide ((s.size : Int) < 1) = false := by simp; omega
  by_cases h2 : s.size ≤ 40
  case neg =>
    have h3 : decide (40 < (s.size : Int)) = true := by simp; omega
    have HF := Lib.hid (nameB_size s (.inr (by omega)))
    go_enter Try.func56, Try.ntmps56
    go_wp2
    go_ret
    exact ⟨ret_bool HF.out, rfl⟩
  have h3 : decide (40 < (s.size : Int)) = false := by simp; omega
  have h4 : 0 < s.size := by omega
  cases hA0 : letB (s[0].toNat : Int) with
  | false =>
    have HF := Lib.hid (nameB_no s 0 h4 hA0 (.inl rfl))
    go_enter Try.func56, Try.ntmps56
    go_wp2_with (go_at_call 79; refine (letter _ _).mono ?_; rintro e w' ⟨rfl, rfl⟩)
    go_ret
    exact ⟨ret_bool HF.out, rfl⟩
  | true =>
  have h5 := okTo_one s h4 hA0
  go_enter Try.func56, Try.ntmps56
  go_wp2_with (go_at_call 79; refine (letter _ _).mono ?_; rintro e w' ⟨rfl, rfl⟩)
  go_loop [3] (fun i => ∃ k : Nat, 1 ≤ k ∧ k ≤ s.size ∧ i = .int .i64 k ∧ okTo s k) (fun i => s.size - (intOf i).toNat)
  case atStart => exact ⟨1, Nat.le_refl _, h1, rfl, h5⟩
  case round =>
    obtain ⟨k, hk1, hk, rfl, hto⟩ := hrel
    by_cases hlt : k < s.size
    · cases hA : letB (s[k].toNat : Int) with
      | true =>
        go_wp2_with (go_at_call 79; refine (letter _ _).mono ?_; rintro e w' ⟨rfl, rfl⟩)
        go_round
        case rel => exact ⟨k + 1, by omega, by omega, by go_num, okTo_succ s k hlt hto (.inl hA)⟩
        case measure => simp [intOf]; omega
      | false =>
        cases hD : digB (s[k].toNat : Int) with
        | true =>
          go_wp2_with (first | (go_at_call 79; refine (letter _ _).mono ?_; rintro e w' ⟨rfl, rfl⟩) | (go_at_call 80; refine (sdigit _ _).mono ?_; rintro e w' ⟨rfl, rfl⟩))
          go_round
          case rel => exact ⟨k + 1, by omega, by omega, by go_num, okTo_succ s k hlt hto (.inr ⟨by omega, hD⟩)⟩
          case measure => simp [intOf]; omega
        | false =>
          go_wp2_with (first | (go_at_call 79; refine (letter _ _).mono ?_; rintro e w' ⟨rfl, rfl⟩) | (go_at_call 80; refine (sdigit _ _).mono ?_; rintro e w' ⟨rfl, rfl⟩))
          go_ret
          exact ⟨ret_bool (nameB_no s k hlt hA (.inr hD)), rfl⟩
    · obtain rfl : k = s.size := by omega
      go_wp2
      go_ret
      exact ⟨ret_bool (nameB_yes s h1 h2 hto), rfl⟩
set_option maxHeartbeats 400000 in
theorem specNameOK (s : ByteArray) (w : World) (hs : s.size ≤ maxLen) : Calls Try.prog 26 #[.string s] w fun e w' => e = .returned (.bool (nameB s)) ∧ w = w' := by
  go_enter Try.func26, Try.ntmps26
  go_wp2_with (go_at_call 56; refine (specWord _ _ hs).mono ?_; rintro e w' ⟨rfl, rfl⟩)
  go_ret
  exact ⟨rfl, rfl⟩
set_option maxHeartbeats 400000 in
theorem law (s : ByteArray) (w : World) (hs : s.size ≤ maxLen) : Calls Try.prog 5 #[.string s] w fun e w' => e = .returned (.bool true) ∧ w = w' := by
  by_cases hb : s.size ≤ 1048576
  · have hb' : decide (1048576 < (s.size : Int)) = false := by simp; omega
    go_enter Try.func5, Try.ntmps5
    go_wp2_with (first | (go_at_call 26; refine (specNameOK _ _ hs).mono ?_; rintro e w' ⟨rfl, rfl⟩) | (go_at_call 27; refine (implNameOK _ _ hs).mono ?_; rintro e w' ⟨rfl, rfl⟩))
    go_ret
    exact ⟨rfl, rfl⟩
  · have hb' : decide (1048576 < (s.size : Int)) = true := by simp; omega
    go_enter Try.func5, Try.ntmps5
    go_wp2
    go_ret
    exact ⟨rfl, rfl⟩
end Go.Proofs.Ytnjhbikppfgccaa.nam
