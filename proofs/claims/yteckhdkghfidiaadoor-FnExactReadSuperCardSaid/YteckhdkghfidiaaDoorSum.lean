/-
  Contracts of SumOf, as the model and as the program have it: both answer the same number of every text.
  Conditions: the text is of at most maxLen bytes (what the model lets a text have).
-/
import Derived.Test.YteckhdkghfidiaaDoorCore
namespace Go.Proofs.YteckhdkghfidiaaDoor
set_option linter.unusedVariables false
open Go.RowKit

def sumL (l : List UInt8) : Int := l.foldl (fun n c => (n * 31 + (c.toNat : Int)) % 997) 7
theorem sumL_snoc (l : List UInt8) (c : UInt8) : sumL (l ++ [c]) = (sumL l * 31 + (c.toNat : Int)) % 997 := by
  unfold sumL; rw [List.foldl_append]; rfl
theorem sumL_bd (l : List UInt8) : 0 ≤ sumL l ∧ sumL l ≤ 996 := by
  rcases List.eq_nil_or_concat l with rfl | ⟨l', c, rfl⟩
  · exact ⟨by decide, by decide⟩
  · rw [List.concat_eq_append, sumL_snoc]; omega
/-- A text's sum. -/
def sumS (s : ByteArray) : Int := sumL s.data.toList
def sumOfS (s : ByteArray) : Int := if s.size ≤ 65536 then sumS s else 0
theorem sumOfS_yes {s : ByteArray} (h : s.size ≤ 65536) : sumS s = sumOfS s := by unfold sumOfS; rw [if_pos h]
theorem sumOfS_no {s : ByteArray} (h : ¬ s.size ≤ 65536) : 0 = sumOfS s := by unfold sumOfS; rw [if_neg h]
theorem take_snoc (s : ByteArray) (k : Nat) (h : k < s.size) : s.data.toList.take (k + 1) = s.data.toList.take k ++ [s[k]] := by
  rw [List.take_succ_eq_append_getElem (by simpa using h)]; rfl
def sumTo (s : ByteArray) (k : Nat) : Int := sumL (s.data.toList.take k)
theorem sumTo_bd (s : ByteArray) (k : Nat) : 0 ≤ sumTo s k ∧ sumTo s k ≤ 996 := sumL_bd _
theorem sumTo_zero (s : ByteArray) : sumTo s 0 = 7 := rfl
theorem sumTo_succ (s : ByteArray) (k : Nat) (h : k < s.size) : sumTo s (k + 1) = (sumTo s k * 31 + (s[k].toNat : Int)) % 997 := by
  unfold sumTo; rw [take_snoc s k h, sumL_snoc]
theorem sumTo_all (s : ByteArray) : sumTo s s.size = sumS s := by
  unfold sumTo sumS; rw [List.take_of_length_le (by simp)]

set_option maxHeartbeats 400000 in
theorem l02Sum_c (s : ByteArray) (w : World) (hs : s.size ≤ maxLen) : Calls Tryd.prog 60 #[.string s] w fun e w' => e = .returned (.int .i64 (sumS s)) ∧ w = w' := by
  unfold maxLen at hs
  go_enter Tryd.func60, Tryd.ntmps60
  go_wp2
  go_loop [3, 4] (fun n i => ∃ k : Nat, k ≤ s.size ∧ i = .int .i64 k ∧ n = .int .i64 (sumTo s k)) (fun _ i => s.size - (intOf i).toNat)
  case atStart => exact ⟨0, Nat.zero_le _, rfl, rfl⟩
  case round =>
    obtain ⟨k, hk, rfl, rfl⟩ := hrel
    obtain ⟨h1, h2⟩ := sumTo_bd s k
    by_cases hlt : k < s.size
    · have HS := Lib.hid (sumTo_succ s k hlt)
      have hc1 : (s[k].toNat : Int) ≤ 255 := by have := s[k].toNat_lt; omega
      go_wp2
      go_round
      case rel => exact ⟨k + 1, by omega, by go_num, by rw [HS.out]⟩
      case measure => simp [intOf]; omega
    · obtain rfl : k = s.size := by omega
      go_wp2
      go_ret
      exact ⟨ret_int (sumTo_all s), rfl⟩

set_option maxHeartbeats 400000 in
theorem implSumOf_c (s : ByteArray) (w : World) (hs : s.size ≤ maxLen) : Calls Tryd.prog 64 #[.string s] w fun e w' => e = .returned (.int .i64 (sumOfS s)) ∧ w = w' := by
  unfold maxLen at hs
  by_cases hb : s.size ≤ 65536
  case neg =>
    have hb' : decide (65536 < (s.size : Int)) = true := by simp; omega
    have HF := Lib.hid (sumOfS_no hb)
    go_enter Tryd.func64, Tryd.ntmps64
    go_wp2
    go_ret
    exact ⟨ret_int HF.out, rfl⟩
  have hb' : decide (65536 < (s.size : Int)) = false := by simp; omega
  have HF := Lib.hid (sumOfS_yes hb)
  go_enter Tryd.func64, Tryd.ntmps64
  go_wp2
  go_loop [3, 4] (fun n i => ∃ k : Nat, k ≤ s.size ∧ i = .int .i64 k ∧ n = .int .i64 (sumTo s k)) (fun _ i => s.size - (intOf i).toNat)
  case atStart => exact ⟨0, Nat.zero_le _, rfl, rfl⟩
  case round =>
    obtain ⟨k, hk, rfl, rfl⟩ := hrel
    obtain ⟨h1, h2⟩ := sumTo_bd s k
    by_cases hlt : k < s.size
    · have HS := Lib.hid (sumTo_succ s k hlt)
      have hc1 : (s[k].toNat : Int) ≤ 255 := by have := s[k].toNat_lt; omega
      go_wp2
      go_round
      case rel => exact ⟨k + 1, by omega, by go_num, by rw [HS.out, Int.mul_comm]⟩
      case measure => simp [intOf]; omega
    · obtain rfl : k = s.size := by omega
      go_wp2
      go_ret
      exact ⟨ret_int ((sumTo_all s).trans HF.out), rfl⟩
end Go.Proofs.YteckhdkghfidiaaDoor
