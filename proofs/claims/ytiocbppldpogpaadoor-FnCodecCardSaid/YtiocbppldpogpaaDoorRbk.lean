/-
  A text with its sum is read back: the numbers of the text of numbers are those numbers.
  Conditions: none.
-/
import Derived.Test.YtiocbppldpogpaaDoorOpn
namespace Go.Proofs.YtiocbppldpogpaaDoor
set_option linter.unusedVariables false
open Go.RowKit

theorem dig_ch (n : Nat) : (UInt8.ofNat (48 + n % 10)).toNat = 48 + n % 10 := by
  have : n % 10 < 10 := Nat.mod_lt _ (by decide)
  simp only [UInt8.toNat_ofNat']
  omega
theorem digL_pad : ∀ k n, digL (pad k n) = true
  | 0, n => rfl
  | k + 1, n => by
    show digL (pad k (n / 10) ++ [UInt8.ofNat (48 + n % 10)]) = true
    have : n % 10 < 10 := Nat.mod_lt _ (by decide)
    rw [digL_snoc, digL_pad k (n / 10)]
    unfold digC digI
    rw [dig_ch]
    simp
    omega
theorem valL_pad : ∀ k n, valL (pad k n) = n % 10 ^ k
  | 0, n => by show 0 = n % 1; omega
  | k + 1, n => by
    show valL (pad k (n / 10) ++ [UInt8.ofNat (48 + n % 10)]) = _
    rw [valL_snoc, valL_pad k (n / 10), dig_ch, show 10 ^ (k + 1) = 10 * 10 ^ k by rw [Nat.pow_succ]; omega, Nat.mod_mul]
    omega
theorem pad_inj {k a b : Nat} (ha : a < 10 ^ k) (hb : b < 10 ^ k) (h : pad k a = pad k b) : a = b := by
  have := congrArg valL h
  rw [valL_pad, valL_pad, Nat.mod_eq_of_lt ha, Nat.mod_eq_of_lt hb] at this
  exact this
theorem digL_app (a b : List UInt8) : digL (a ++ b) = (digL a && digL b) := by unfold digL; rw [List.all_append]
theorem digL_padAll : ∀ ns, digL (padAll ns) = true
  | [] => rfl
  | n :: ns => by
    show digL (pad 6 n ++ padAll ns) = true
    rw [digL_app, digL_pad, digL_padAll ns]; rfl
theorem chunk_padAll : ∀ (ns : List Nat) (j : Nat), j < ns.length → chunk (padAll ns) j = pad 6 (ns.getD j 0)
  | [], j, h => by simp at h
  | n :: ns, 0, h => by
    show ((pad 6 n ++ padAll ns).drop (6 * 0)).take 6 = pad 6 n
    simp only [Nat.mul_zero, List.drop_zero]
    exact List.take_left' (pad_len 6 n)
  | n :: ns, j + 1, h => by
    show ((pad 6 n ++ padAll ns).drop (6 * (j + 1))).take 6 = pad 6 (ns.getD j 0)
    rw [← chunk_padAll ns j (by simpa using h)]
    unfold chunk
    refine congrArg (List.take 6) ?_
    rw [show 6 * (j + 1) = (pad 6 n).length + 6 * j by rw [pad_len]; omega, List.drop_append, List.drop_eq_nil_of_le (by omega), Nat.add_sub_cancel_left, List.nil_append]
theorem numsO_padAll (ns : List Nat) (h : All6 ns) : numsO (padAll ns) = some ns := by
  have hl := padAll_len ns
  rw [numsO_yes (by rw [hl]; omega) (digL_padAll ns), hl, Nat.mul_div_cancel _ (by decide)]
  congr 1
  unfold numsOf
  apply List.ext_getElem (by simp)
  intro j h1 h2
  have h3 := h j h2
  rw [List.getElem_map, List.getElem_range, chunk_padAll ns j h2, valL_pad, Nat.mod_eq_of_lt (by omega)]
  rw [List.getD_eq_getElem?_getD, List.getElem?_eq_getElem h2]; rfl
theorem sumD_len (s : ByteArray) : (sumD s).length = 3 := pad_len _ _
theorem sealS_list (s : ByteArray) : (sealS s).data.toList = s.data.toList ++ sumD s := by unfold sealS; rw [ba_app]
theorem sealS_size (s : ByteArray) : (sealS s).size = s.size + 3 := by rw [ba_size, sealS_list, List.length_append, sumD_len, ← ba_size]
theorem bodyOf_list (t : ByteArray) : (bodyOf t).data.toList = t.data.toList.take (t.size - 3) := by
  unfold bodyOf
  rw [ByteArray.data_extract]
  simp
theorem ba_ext {a b : ByteArray} (h : a.data.toList = b.data.toList) : a = b := by rw [ba_eq h]
theorem bodyOf_seal (s : ByteArray) : bodyOf (sealS s) = s := by
  apply ba_ext
  rw [bodyOf_list, sealS_size, sealS_list, show s.size + 3 - 3 = s.size by omega]
  exact List.take_left' (ba_size s).symm
theorem opensB_seal (s : ByteArray) : opensB (sealS s) = true := by
  rw [opensB_of (by rw [sealS_size]; omega)]
  unfold sealB
  rw [bodyOf_seal]
  exact beq_self_eq_true _
/-- The text of numbers is read back. -/
theorem rdN_seal (ns : List Nat) (h : All6 ns) : rdN (sealS (numsS ns)) = some ns := by
  rw [rdN_yes (opensB_seal _), bodyOf_seal]
  exact numsO_padAll ns h
end Go.Proofs.YtiocbppldpogpaaDoor
