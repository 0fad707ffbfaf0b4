/-
  Plain facts for FnCodec: the text of a right frame is read back.
  Conditions: none.
-/
import Derived.Test.YtiocbppldpogpaaDoorSgw
namespace Go.Proofs.YtiocbppldpogpaaDoor
set_option linter.unusedVariables false
open Go.RowKit

theorem frameS_yes {q0 q1 q2 q3 : Nat} (h : frameB q0 q1 q2 q3 = true) : frameS q0 q1 q2 q3 = sealS (numsS [q0, q1, q2, q3]) := by
  unfold frameS; rw [if_pos h]; rfl
theorem all6_four {q0 q1 q2 q3 : Nat} (h : frameB q0 q1 q2 q3 = true) : All6 [q0, q1, q2, q3] := by
  obtain ⟨h1, h2, h3, h4⟩ := frameB_yes h
  intro k hk
  match k, hk with
  | 0, _ => show q0 ≤ _; omega
  | 1, _ => show q1 ≤ _; omega
  | 2, _ => show q2 ≤ _; omega
  | 3, _ => show q3 ≤ _; omega
  | k + 4, hk => simp at hk; omega
/-- A right frame's text is read back. -/
theorem rdF_back {q0 q1 q2 q3 : Nat} (h : frameB q0 q1 q2 q3 = true) : rdF (frameS q0 q1 q2 q3) = some (q0, q1, q2, q3) := by
  rw [frameS_yes h, rdF_four (rdN_seal _ (all6_four h)), if_pos h]
theorem frameS_size {q0 q1 q2 q3 : Nat} (h : frameB q0 q1 q2 q3 = true) : (frameS q0 q1 q2 q3).size = 27 := by
  rw [frameS_yes h, sealS_size, numsS_size]; rfl
theorem frA_back {q0 q1 q2 q3 : Nat} (h : frameB q0 q1 q2 q3 = true) : frA (frameS q0 q1 q2 q3) = (q0, q1, q2, q3) ∧ frC (frameS q0 q1 q2 q3) = 0 := by
  have hs := frameS_size h
  unfold frA frC
  rw [if_pos (by omega), if_pos (by omega), rdF_back h]
  exact ⟨rfl, rfl⟩
/-- A text whose numbers cannot be told is of the wrong form. -/
theorem rdN_odd {t : ByteArray} (h : (t.size - 3) % 6 ≠ 0) : rdN t = none := by
  cases ho : opensB t with
  | false => exact rdN_no ho
  | true =>
    rw [rdN_yes ho]
    refine numsO_no (.inl ?_)
    rw [bodyOf_list, List.length_take, ← ba_size, Nat.min_eq_left (by omega)]
    exact h
theorem frC_odd {t : ByteArray} (h : (t.size - 3) % 6 ≠ 0) (hl : t.size ≤ 65536) : frC t = 3 := by
  unfold frC
  rw [if_pos hl, rdF_none (rdN_odd h)]; rfl
/-- A body with the sum of another opens if and only if the sums are the same. -/
theorem opens_other (a b : ByteArray) : opensB (a ++ ⟨(sumD b).toArray⟩) = decide (sumS a = sumS b) := by
  have hl : (a ++ ⟨(sumD b).toArray⟩ : ByteArray).data.toList = a.data.toList ++ sumD b := by rw [ba_app]
  have hsz : (a ++ ⟨(sumD b).toArray⟩ : ByteArray).size = a.size + 3 := by rw [ba_size, hl, List.length_append, sumD_len, ← ba_size]
  have hbo : bodyOf (a ++ ⟨(sumD b).toArray⟩) = a := by
    apply ba_ext
    rw [bodyOf_list, hsz, hl, show a.size + 3 - 3 = a.size by omega]
    exact List.take_left' (ba_size a).symm
  rw [opensB_of (by omega)]
  unfold sealB
  rw [hbo, Bool.eq_iff_iff, beq_iff_eq, decide_eq_true_eq]
  have h1 := sumL_bd a.data.toList
  have h2 := sumL_bd b.data.toList
  constructor
  · intro h
    have h3 : sealS a = a ++ ⟨(sumD b).toArray⟩ := ba_ext (by rw [← ByteArray.toList_eq, ← ByteArray.toList_eq]; exact h)
    have h4 := congrArg (fun x : ByteArray => x.data.toList) h3
    simp only [sealS_list, hl] at h4
    have h5 := List.append_cancel_left h4
    unfold sumD at h5
    have h6 := pad_inj (k := 3) (by unfold sumS; omega) (by unfold sumS; omega) h5
    unfold sumS at h6 ⊢
    omega
  · intro h
    have h3 : sumD a = sumD b := by unfold sumD; rw [h]
    unfold sealS
    rw [h3]
theorem flat_get : ∀ (cs : List Chg) (j r : Nat), j < cs.length → r < 3 → (cs.flatMap chN).getD (3 * j + r) 0 = (chN (cs.getD j chZ)).getD r 0
  | [], j, r, h, _ => by simp at h
  | c :: cs, 0, r, h, hr => by
    show (chN c ++ cs.flatMap chN).getD (3 * 0 + r) 0 = (chN c).getD r 0
    rw [List.getD_eq_getElem?_getD, List.getD_eq_getElem?_getD, List.getElem?_append_left (by show _ < 3; omega), show 3 * 0 + r = r by omega]
  | c :: cs, j + 1, r, h, hr => by
    show (chN c ++ cs.flatMap chN).getD (3 * (j + 1) + r) 0 = (chN (cs.getD j chZ)).getD r 0
    rw [← flat_get cs j r (by simpa using h) hr, List.getD_eq_getElem?_getD, List.getD_eq_getElem?_getD, List.getElem?_append_right (by show 3 ≤ _; omega)]
    have : (chN c).length = 3 := rfl
    rw [this, show 3 * (j + 1) + r - 3 = 3 * j + r by omega]
theorem segN_get (f t m : Int) (cs : List Chg) (j r : Nat) (hj : j < cs.length) (hr : r < 3) : (segN f t m cs).getD (3 + 3 * j + r) 0 = (chN (cs.getD j chZ)).getD r 0 := by
  rw [← flat_get cs j r hj hr]
  unfold segN
  rw [List.getD_eq_getElem?_getD, List.getD_eq_getElem?_getD, List.getElem?_append_right (by show 3 ≤ _; omega)]
  have : [f.toNat, t.toNat, m.toNat].length = 3 := rfl
  rw [this, show 3 + 3 * j + r - 3 = 3 * j + r by omega]
theorem sgOf_segN {f t m : Nat} {cs : List Chg} (h : segB f t m cs = true) : sgOf (segN f t m cs) = (f, t, m, cs) := by
  obtain ⟨_, _, _, _, hc⟩ := segB_yes h
  have hl := segN_len f t m cs
  unfold sgOf
  rw [hl, show (3 + 3 * cs.length) / 3 - 1 = cs.length by omega]
  refine Prod.ext (by rfl) (Prod.ext (by rfl) (Prod.ext (by rfl) ?_))
  show chOf (segN f t m cs) cs.length = cs
  unfold chOf
  apply List.ext_getElem (by simp)
  intro j h1 h2
  rw [List.getElem_map, List.getElem_range]
  have g0 := segN_get f t m cs j 0 h2 (by omega)
  have g1 := segN_get f t m cs j 1 h2 (by omega)
  have g2 := segN_get f t m cs j 2 h2 (by omega)
  have hk := chsB_to hc j h2
  have hd : cs.getD j chZ = cs[j] := by rw [List.getD_eq_getElem?_getD, List.getElem?_eq_getElem h2]; rfl
  unfold chN3
  rw [show 3 + 3 * j = 3 + 3 * j + 0 by omega, g0, show 3 + 3 * j + 0 + 1 = 3 + 3 * j + 1 by omega, show 3 + 3 * j + 0 + 2 = 3 + 3 * j + 2 by omega, g1, g2]
  unfold okCh chB inB at hk
  rw [hd] at hk ⊢
  generalize cs[j] = x at *
  obtain ⟨x0, x1, x2⟩ := x
  simp at hk
  show (((x0.toNat : Nat) : Int), ((x1.toNat : Nat) : Int), ((x2.toNat : Nat) : Int)) = (x0, x1, x2)
  rw [Int.toNat_of_nonneg (by omega), Int.toNat_of_nonneg (by omega), Int.toNat_of_nonneg (by omega)]
/-- A right segment's text is read back. -/
theorem rdG_back {f t m : Nat} {cs : List Chg} (h : segB f t m cs = true) : rdG (segS f t m cs) = some (f, t, m, cs) := by
  have hs := sgOf_segN h
  have hl := segN_len f t m cs
  have hq : segS f t m cs = sealS (numsS (segN f t m cs)) := by unfold segS; rw [if_pos h]
  rw [hq, rdG_yes (rdN_seal _ (segN_all h)) (okLen_yes (by omega) (by omega)) (by unfold g4B; rw [hs]; exact h), hs]
theorem sgA_back {f t m : Nat} {cs : List Chg} (h : segB f t m cs = true) (hl : cs.length ≤ 8) : sgA (segS f t m cs) = (f, t, m, cs) ∧ sgC (segS f t m cs) = 0 := by
  refine sgA_some ?_ (rdG_back h)
  have hq : segS f t m cs = sealS (numsS (segN f t m cs)) := by unfold segS; rw [if_pos h]
  rw [hq, sealS_size, numsS_size, segN_len]; omega
end Go.Proofs.YtiocbppldpogpaaDoor
