/-
  Plain facts for FnCodec: what a text of 24 digits and another's sum is read as.
  Conditions: none.
-/
import Derived.Test.YtiocbppldpogpaaDoorFro
namespace Go.Proofs.YtiocbppldpogpaaDoor
set_option linter.unusedVariables false
open Go.RowKit

theorem chunk_va {t : ByteArray} {q : Nat} (hq : q < 4) : valL (chunk (t.data.toList.take 24) q) = vaT t 24 q := by
  unfold chunk vaT
  rw [show min (24 - 6 * q) 6 = 6 by omega, List.drop_take, List.take_take, show min 6 (24 - 6 * q) = 6 by omega]
theorem rdN_va {t : ByteArray} (ht : t.size = 27) (hd : digL (t.data.toList.take 24) = true) (ho : opensB t = true) : rdN t = some [vaT t 24 0, vaT t 24 1, vaT t 24 2, vaT t 24 3] := by
  have hl : (t.data.toList.take 24).length = 24 := by rw [List.length_take, ← ba_size]; omega
  rw [rdN_yes ho, bodyOf_list, ht, numsO_yes (by rw [hl]) hd, hl]
  show some [valL (chunk (t.data.toList.take 24) 0), valL (chunk (t.data.toList.take 24) 1), valL (chunk (t.data.toList.take 24) 2), valL (chunk (t.data.toList.take 24) 3)] = _
  rw [chunk_va (by omega), chunk_va (by omega), chunk_va (by omega), chunk_va (by omega)]
theorem opens_bent {t b : ByteArray} (ht : t.size = 27) (hs : t.data.toList.drop 24 = sumD b) : opensB t = decide (sumS (bodyOf t) = sumS b) := by
  rw [← opens_other]
  congr 1
  apply ba_ext
  rw [ba_app, bodyOf_list, ht]
  show t.data.toList = t.data.toList.take 24 ++ sumD b
  rw [← hs, List.take_append_drop]
/-- A bent text is read if and only if its sum is the old one and its numbers are a frame's. -/
theorem frC_bent {t b : ByteArray} (ht : t.size = 27) (hd : digL (t.data.toList.take 24) = true) (hs : t.data.toList.drop 24 = sumD b) :
    frC t = if sumS (bodyOf t) = sumS b ∧ frameB (vaT t 24 0) (vaT t 24 1) (vaT t 24 2) (vaT t 24 3) = true then 0 else 3 := by
  have ho := opens_bent ht hs
  unfold frC
  rw [if_pos (by omega)]
  by_cases h1 : sumS (bodyOf t) = sumS b
  case neg =>
    rw [decide_eq_false h1] at ho
    rw [rdF_none (rdN_no ho)]; exact (if_neg (fun h => h1 h.1)).symm
  case pos =>
    rw [decide_eq_true h1] at ho
    rw [rdF_four (rdN_va ht hd ho)]
    by_cases h2 : frameB (vaT t 24 0) (vaT t 24 1) (vaT t 24 2) (vaT t 24 3) = true
    · rw [if_pos h2]; exact (if_pos ⟨h1, h2⟩).symm
    · rw [if_neg h2]; exact (if_neg (fun h => h2 h.2)).symm
end Go.Proofs.YtiocbppldpogpaaDoor
