/-
  A frame's text with another digit: its length, its digits, its sum's text.
  Conditions: those of each theorem.
-/
import Derived.Test.YtiocbppldpogpaaDoorBnt
namespace Go.Proofs.YtiocbppldpogpaaDoor
set_option linter.unusedVariables false
open Go.RowKit

def bend (s : ByteArray) (k : Nat) (b : UInt8) : ByteArray := s.extract 0 k ++ ⟨#[b]⟩ ++ s.extract (k + 1) s.size
theorem bend_list (s : ByteArray) (k : Nat) (b : UInt8) : (bend s k b).data.toList = s.data.toList.take k ++ [b] ++ s.data.toList.drop (k + 1) := by
  unfold bend
  rw [ba_app, ba_app, Lib.extract_data, Lib.extract_data]
  have e : List.take (s.size - (k + 1)) (List.drop (k + 1) s.data.toList) = List.drop (k + 1) s.data.toList := by
    rw [List.take_of_length_le]
    rw [List.length_drop, ← ba_size]
    omega
  rw [e]; rfl
theorem bend_facts {q0 q1 q2 q3 : Nat} (h : frameB q0 q1 q2 q3 = true) {k : Nat} (hk : k < 24) {b : UInt8} (hb : digC b = true) :
    (bend (frameS q0 q1 q2 q3) k b).size = 27 ∧ digL ((bend (frameS q0 q1 q2 q3) k b).data.toList.take 24) = true ∧ (bend (frameS q0 q1 q2 q3) k b).data.toList.drop 24 = sumD (numsS [q0, q1, q2, q3]) := by
  have hn : (numsS [q0, q1, q2, q3]).data.toList.length = 24 := by rw [← ba_size, numsS_size]; rfl
  have hd : digL (numsS [q0, q1, q2, q3]).data.toList = true := digL_padAll [q0, q1, q2, q3]
  have hl := bend_list (frameS q0 q1 q2 q3) k b
  rw [frameS_yes h] at hl ⊢
  rw [sealS_list] at hl
  generalize (numsS [q0, q1, q2, q3]).data.toList = n at hl hn hd
  have e : (bend (sealS (numsS [q0, q1, q2, q3])) k b).data.toList = (n.take k ++ [b] ++ n.drop (k + 1)) ++ sumD (numsS [q0, q1, q2, q3]) := by
    rw [hl, List.take_append_of_le_length (by omega), List.drop_append_of_le_length (by omega)]
    simp
  have e2 : (n.take k ++ [b] ++ n.drop (k + 1)).length = 24 := by
    simp only [List.length_append, List.length_take, List.length_drop, List.length_cons, List.length_nil]; omega
  refine ⟨?_, ?_, ?_⟩
  · rw [ba_size, e, List.length_append, e2, sumD_len]
  · rw [e, List.take_append_of_le_length (by omega), List.take_of_length_le (by omega), digL_app, digL_app]
    have h1 : digL (n.take k) = true := by unfold digL at hd ⊢; exact List.all_eq_true.2 fun x hx => List.all_eq_true.1 hd x (List.mem_of_mem_take hx)
    have h2 : digL (n.drop (k + 1)) = true := by unfold digL at hd ⊢; exact List.all_eq_true.2 fun x hx => List.all_eq_true.1 hd x (List.mem_of_mem_drop hx)
    rw [h1, h2]
    show (true && (digC b && true)) && true = true
    rw [hb]; rfl
  · rw [e, List.drop_append_of_le_length (by omega), List.drop_of_length_le (by omega)]; rfl
theorem body24 {q0 q1 q2 q3 : Nat} (h : frameB q0 q1 q2 q3 = true) : (frameS q0 q1 q2 q3).extract 0 24 = numsS [q0, q1, q2, q3] := by
  have hn : (numsS [q0, q1, q2, q3]).data.toList.length = 24 := by rw [← ba_size, numsS_size]; rfl
  apply ba_ext
  rw [Lib.extract_data, frameS_yes h, sealS_list, List.drop_zero, List.take_append_of_le_length (by omega), List.take_of_length_le (by omega)]
theorem body_27 {t : ByteArray} (h : t.size = 27) : bodyOf t = t.extract 0 24 := by unfold bodyOf; rw [h]
theorem digit_at {q0 q1 q2 q3 : Nat} (h : frameB q0 q1 q2 q3 = true) {k : Nat} (hk : k < 24) (hs : k < (frameS q0 q1 q2 q3).size) : ∃ d, d ≤ 9 ∧ (frameS q0 q1 q2 q3)[k].toNat = 48 + d := by
  have hn : (numsS [q0, q1, q2, q3]).data.toList.length = 24 := by rw [← ba_size, numsS_size]; rfl
  have hd : digL (numsS [q0, q1, q2, q3]).data.toList = true := digL_padAll [q0, q1, q2, q3]
  have hk' : k < (numsS [q0, q1, q2, q3]).data.toList.length := by omega
  have hl : (frameS q0 q1 q2 q3).data.toList = (numsS [q0, q1, q2, q3]).data.toList ++ sumD (numsS [q0, q1, q2, q3]) := by rw [frameS_yes h, sealS_list]
  have e1 : (frameS q0 q1 q2 q3)[k] = (frameS q0 q1 q2 q3).data.toList[k]'(by rw [← ba_size]; exact hs) := rfl
  have e2 : (frameS q0 q1 q2 q3).data.toList[k]? = some ((numsS [q0, q1, q2, q3]).data.toList[k]'hk') := by rw [hl, List.getElem?_append_left hk', List.getElem?_eq_getElem hk']
  rw [List.getElem?_eq_getElem (by rw [← ba_size]; exact hs)] at e2
  have e := e1.trans (Option.some.inj e2)
  have h1 : digC ((numsS [q0, q1, q2, q3]).data.toList[k]'hk') = true := digL_yes hd hk'
  rw [← e] at h1
  unfold digC digI at h1
  simp only [Bool.and_eq_true, decide_eq_true_eq] at h1
  exact ⟨(frameS q0 q1 q2 q3)[k].toNat - 48, by omega, by omega⟩
theorem digC_of {r : Nat} (h : r ≤ 9) : digC (UInt8.ofNat (48 + r)) = true := by
  unfold digC digI
  rw [UInt8.toNat_ofNat']
  simp
  omega
end Go.Proofs.YtiocbppldpogpaaDoor
