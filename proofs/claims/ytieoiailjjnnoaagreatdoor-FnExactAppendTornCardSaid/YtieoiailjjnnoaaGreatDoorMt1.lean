/-
  Texts of the proof, in their order.
  Conditions: those of each.
-/
import Derived.Test.YtieoiailjjnnoaaGreatDoorMt0
import Derived.IntWalk
import Derived.Lib.SmallJoins
import Derived.ChangeSame
import Derived.Deep.Fields
import Derived.Deep.Slices
import Derived.Deep.Strs
import Derived.StillTailTactics
import Derived.Deep.QuietTactic
import Derived.BigQuiet
import Derived.Deep.RegionHeld
import Derived.Outline
namespace Go.Proofs.YtieoiailjjnnoaaGreatDoor
set_option linter.unusedVariables false
set_option maxRecDepth 100000
set_option maxHeartbeats 16000000
open Go.RowKit
theorem segRight_c (f t m : Int) (A : Option Addr) (c B : Nat) (cs : List Chg) (w : World) (h : Chs w B A cs) (hB : B ≤ w.heap.size) (hn : cs.length ≤ 1048576) :
 Calls Tryz.prog 201 #[.agg #[ii f, ii t, ii m, .slice A cs.length c]] w fun e w' => e = .returned (.bool (segB f t m cs)) ∧ Nx w w' := by
 cases x1 : inB 0 999999 f with
 | false =>
   have H1 := qh x1
   clear x1
   have HR := qh (segB_no (f := f) (t := t) (m := m) (cs := cs) (.inr (.inr (.inl H1.out)))).symm
   go_enter Tryz.func201, Tryz.ntmps201
   go_wp2_with (first
    | (go_at_call 100; refine (isPosition_c _ _).mono ?_; rintro e w' ⟨rfl, rfl⟩; first | rw [H1.out])
    | (go_at_call 154; refine (isTime_c _ _).mono ?_; rintro e w' ⟨rfl, rfl⟩; fail))
   go_ret
   exact ⟨ret_bool HR.out, (Nx.refl _).alloc _⟩
 | true =>
 have H1 := qh x1
 obtain ⟨hf0, hf1⟩ := inB_yes x1
 clear x1
 cases x2 : inB 0 999999 t with
 | false =>
   have H2 := qh x2
   clear x2
   have HR := qh (segB_no (f := f) (t := t) (m := m) (cs := cs) (.inr (.inr (.inr (.inl H2.out))))).symm
   go_enter Tryz.func201, Tryz.ntmps201
   go_wp2_with (first
    | (go_at_call 100; refine (isPosition_c _ _).mono ?_; rintro e w' ⟨rfl, rfl⟩; first | rw [H1.out] | rw [H2.out])
    | (go_at_call 154; refine (isTime_c _ _).mono ?_; rintro e w' ⟨rfl, rfl⟩; fail))
   go_ret
   exact ⟨ret_bool HR.out, (Nx.refl _).alloc _⟩
 | true =>
 have H2 := qh x2
 obtain ⟨ht0, ht1⟩ := inB_yes x2
 clear x2
 by_cases x3 : f < t
 case neg =>
  have h3 : decide (t ≤ f) = true := by simp; omega
  have HR := qh (segB_no (f := f) (t := t) (m := m) (cs := cs) (.inr (.inr (.inr (.inr (.inl (by simp; omega))))))).symm
  go_enter Tryz.func201, Tryz.ntmps201
  go_wp2_with (first
   | (go_at_call 100; refine (isPosition_c _ _).mono ?_; rintro e w' ⟨rfl, rfl⟩; first | rw [H1.out] | rw [H2.out])
   | (go_at_call 154; refine (isTime_c _ _).mono ?_; rintro e w' ⟨rfl, rfl⟩; fail))
  go_ret
  exact ⟨ret_bool HR.out, (Nx.refl _).alloc _⟩
 have h3 : decide (t ≤ f) = false := by simp; omega
 cases x4 : inB 0 999999 m with
 | false =>
   have H4 := qh x4
   clear x4
   have HR := qh (segB_no (f := f) (t := t) (m := m) (cs := cs) (.inr (.inr (.inr (.inr (.inr (.inl H4.out))))))).symm
   go_enter Tryz.func201, Tryz.ntmps201
   go_wp2_with (first
    | (go_at_call 100; refine (isPosition_c _ _).mono ?_; rintro e w' ⟨rfl, rfl⟩; first | rw [H1.out] | rw [H2.out])
    | (go_at_call 154; refine (isTime_c _ _).mono ?_; rintro e w' ⟨rfl, rfl⟩; rw [H4.out]))
   go_ret
   exact ⟨ret_bool HR.out, (Nx.refl _).alloc _⟩
 | true =>
 have H4 := qh x4
 clear x4
 go_enter Tryz.func201, Tryz.ntmps201
 go_wp2_with (first
  | (go_at_call 100; refine (isPosition_c _ _).mono ?_; rintro e w' ⟨rfl, rfl⟩; first | rw [H1.out] | rw [H2.out])
  | (go_at_call 154; refine (isTime_c _ _).mono ?_; rintro e w' ⟨rfl, rfl⟩; rw [H4.out]))
 have b0 := Box.new w 122 #[ii f, ii t, ii m, .slice A cs.length c]
 have hx0 := (Nx.refl w).alloc (.cells #[ii f, ii t, ii m, .slice A cs.length c] 122)
 generalize w.alloc (.cells #[ii f, ii t, ii m, .slice A cs.length c] 122) = W at *
 clear h3
 go_loopw [31] (fun i wr => ∃ k : Nat, k ≤ cs.length ∧ i = ii k ∧ OkTo cs k ∧ Nx W wr) (fun i _ => cs.length - (intOf i).toNat)
 case atStart => exact ⟨0, Nat.zero_le _, rfl, OkTo.zero _, Nx.refl _⟩
 case round =>
  obtain ⟨k, hk, rfl, hto, hnx⟩ := hrel
  obtain ⟨_, _, _, c3⟩ := (b0.nx hnx).d4
  by_cases hlt : k < cs.length
  · obtain ⟨b, off, rfl, hb, k0, k1, k2⟩ := (h.below (hx0.trans hnx) hB).at_ hlt
    obtain ⟨⟨q0, q1, q2⟩, Hq⟩ : ∃ q, Hid (cs.getD k chZ = q) := ⟨_, rfl⟩
    rw [Hq.out] at k0 k1 k2
    cases hch : chB (q0, q1, q2) with
    | false =>
      have HC := qh hch
      have HR := qh (segB_no (f := f) (t := t) (m := m) (cs := cs) (.inr (.inr (.inr (.inr (.inr (.inr (chsB_no hlt (by unfold okCh; rw [Hq.out, hch]; rfl))))))))).symm
      clear hch
      go_wp2_with fail
      have bq := Box.new wr 192 #[ii q0, ii q1, ii q2]
      have hnxq := hnx.alloc (.cells #[ii q0, ii q1, ii q2] 192)
      have b1 := (b0.nx hnx).alloc (.cells #[ii q0, ii q1, ii q2] 192)
      generalize wr.alloc (.cells #[ii q0, ii q1, ii q2] 192) = wq at *
      clear c3 k0 k1 k2
      obtain ⟨_, _, _, c3⟩ := b1.d4
      obtain ⟨k0, k1, k2⟩ := bq.d3
      have hbv : w.heap.size < wq.heap.size := b1.lt
      refine wp_lexA [ff, true, ff, ff, ff, ff, ff, ff, ff, ff, ff, ff, ff, ff, ff, ff, ff, ff, ff] (fun w' => w'.cell? ⟨w.heap.size, 3, none⟩ = some (.slice (some ⟨b, off, none⟩) cs.length c) ∧ w'.cell? ⟨wr.heap.size, 0, none⟩ = some (ii q0) ∧ w'.cell? ⟨wr.heap.size, 1, none⟩ = some (ii q1) ∧ w'.cell? ⟨wr.heap.size, 2, none⟩ = some (ii q2)) (by exact ⟨c3, k0, k1, k2⟩) ?_
      repeat ((first | refine HL.tk ?_ | refine HL.sk ?_); try simp only [Act.put, qqA, qqB, qqC])
      refine hLc fun K hK => ?_
      go_simp
      refine (changeRight_c q0 q1 q2 _).mono ?_; rintro e w1 ⟨rfl, hnx1⟩; rw [HC.out]; have d3 := (hnx1.cell (p := ⟨w.heap.size, 3, none⟩) hbv).trans c3; have l0 := (hnx1.cell (p := ⟨wr.heap.size, 0, none⟩) bq.lt).trans k0; have l1 := (hnx1.cell (p := ⟨wr.heap.size, 1, none⟩) bq.lt).trans k1; have l2 := (hnx1.cell (p := ⟨wr.heap.size, 2, none⟩) bq.lt).trans k2
      go_wp2_with fail
      refine hK.out _ _ (by exact ⟨d3, l0, l1, l2⟩) ?_
      clear hK K
      try simp only [Act.put, qqA, qqB, qqC]
      repeat ((first | refine HL.tk ?_ | refine HL.sk ?_); try simp only [Act.put, qqA, qqB, qqC])
      refine HL.done ?_
      go_wp2
      go_ret
      exact ⟨ret_bool HR.out, hx0.trans (hnxq.drew.trans hnx1)⟩
    | true =>
      have HC := qh hch
      clear hch
      by_cases hk0 : k = 0
      · have hd0 : decide (0 < (k : Int)) = false := by simp; omega
        have hd1 : decide (0 < k) = false := by simp; omega
        have HO := qh (show okCh cs k = true by unfold okCh; rw [Hq.out, HC.out, hk0]; rfl)
        clear hk0
        go_wp2_with fail
        have bq := Box.new wr 192 #[ii q0, ii q1, ii q2]
        have hnxq := hnx.alloc (.cells #[ii q0, ii q1, ii q2] 192)
        have b1 := (b0.nx hnx).alloc (.cells #[ii q0, ii q1, ii q2] 192)
        generalize wr.alloc (.cells #[ii q0, ii q1, ii q2] 192) = wq at *
        clear c3 k0 k1 k2
        obtain ⟨_, _, _, c3⟩ := b1.d4
        obtain ⟨k0, k1, k2⟩ := bq.d3
        have hbv : w.heap.size < wq.heap.size := b1.lt
        refine wp_lexA [ff, true, ff, ff, ff, ff, ff, ff, ff, ff, ff, ff, ff, ff, ff, ff, ff, ff, ff] (fun w' => w'.cell? ⟨w.heap.size, 3, none⟩ = some (.slice (some ⟨b, off, none⟩) cs.length c) ∧ w'.cell? ⟨wr.heap.size, 0, none⟩ = some (ii q0) ∧ w'.cell? ⟨wr.heap.size, 1, none⟩ = some (ii q1) ∧ w'.cell? ⟨wr.heap.size, 2, none⟩ = some (ii q2)) (by exact ⟨c3, k0, k1, k2⟩) ?_
        repeat ((first | refine HL.tk ?_ | refine HL.sk ?_); try simp only [Act.put, qqA, qqB, qqC])
        refine hLc fun K hK => ?_
        go_simp
        refine (changeRight_c q0 q1 q2 _).mono ?_; rintro e w1 ⟨rfl, hnx1⟩; rw [HC.out]; have d3 := (hnx1.cell (p := ⟨w.heap.size, 3, none⟩) hbv).trans c3; have l0 := (hnx1.cell (p := ⟨wr.heap.size, 0, none⟩) bq.lt).trans k0; have l1 := (hnx1.cell (p := ⟨wr.heap.size, 1, none⟩) bq.lt).trans k1; have l2 := (hnx1.cell (p := ⟨wr.heap.size, 2, none⟩) bq.lt).trans k2
        go_wp2_with fail
        refine hK.out _ _ (by exact ⟨d3, l0, l1, l2⟩) ?_
        clear hK K
        try simp only [Act.put, qqA, qqB, qqC]
        repeat ((first | refine HL.tk ?_ | refine HL.sk ?_); try simp only [Act.put, qqA, qqB, qqC])
        refine HL.done ?_
        go_wp2
        go_roundw
        case rel => exact ⟨k + 1, by omega, by go_num, hto.succ HO.out, hnxq.drew.trans hnx1⟩
        case measure => simp [intOf]; omega
      · obtain ⟨j, rfl⟩ : ∃ j, k = j + 1 := ⟨k - 1, by omega⟩
        obtain ⟨b', off', he, _, m0, _, _⟩ := (h.below (hx0.trans hnx) hB).at_ (k := j) (by omega)
        obtain ⟨rfl, rfl⟩ : b = b' ∧ off = off' := by simpa using he
        clear he
        obtain ⟨⟨r0, r1, r2⟩, Hr⟩ : ∃ q, Hid (cs.getD j chZ = q) := ⟨_, rfl⟩
        rw [Hr.out] at m0
        have hb2 : b < wr.heap.size := by have := hx0.size; have := hnx.size; omega
        have hd0 : decide (0 < ((j : Int) + 1)) = true := by simp
        have hd1 : decide (0 < j + 1) = true := by simp
        have hi1 : (0 : Int) ≤ (j : Int) + 1 := by omega
        have hi2 : (j : Int) + 1 < (cs.length : Int) := by omega
        have hi4 : (j : Int) < (cs.length : Int) := by omega
        have hi5 : j < cs.length := by omega
        have hi6 : (0 : Int) ≤ (j : Int) := by omega
        by_cases hlt2 : r0 < q0
        · have hd : decide (q0 ≤ r0) = false := by simp; omega
          have HO := qh (show okCh cs (j + 1) = true by unfold okCh; rw [Hq.out, HC.out, Nat.add_sub_cancel, Hr.out]; simp [hlt2])
          go_wp2_with fail
          have bq := Box.new wr 192 #[ii q0, ii q1, ii q2]
          have hnxq := hnx.alloc (.cells #[ii q0, ii q1, ii q2] 192)
          have b1 := (b0.nx hnx).alloc (.cells #[ii q0, ii q1, ii q2] 192)
          replace m0 := (((Nx.refl wr).alloc (.cells #[ii q0, ii q1, ii q2] 192)).cell (p := ⟨b, off + j * 3, none⟩) hb2).trans m0
          generalize wr.alloc (.cells #[ii q0, ii q1, ii q2] 192) = wq at *
          clear c3 k0 k1 k2
          obtain ⟨_, _, _, c3⟩ := b1.d4
          obtain ⟨k0, k1, k2⟩ := bq.d3
          have hbv : w.heap.size < wq.heap.size := b1.lt
          have hbw : b < wq.heap.size := by have := bq.lt; omega
          have hi3 : ((j : Int) + 1).toNat = j + 1 := by omega
          have hw1 : IntKind.i64.wrap ((j : Int) + 1 - 1) = (j : Int) := by rw [Int.add_sub_cancel]; exact IntWalk.i64_in _ (by omega)
          have hw2 : IntKind.i64.wrap (j : Int) = (j : Int) := IntWalk.i64_in _ (by omega)
          refine wp_lexA [ff, true, ff, ff, ff, ff, ff, ff, ff, ff, ff, ff, ff, ff, ff, ff, ff, ff, ff] (fun w' => w'.cell? ⟨w.heap.size, 3, none⟩ = some (.slice (some ⟨b, off, none⟩) cs.length c) ∧ w'.cell? ⟨wr.heap.size, 0, none⟩ = some (ii q0) ∧ w'.cell? ⟨wr.heap.size, 1, none⟩ = some (ii q1) ∧ w'.cell? ⟨wr.heap.size, 2, none⟩ = some (ii q2) ∧ w'.cell? ⟨b, off + j * 3, none⟩ = some (ii r0)) (by exact ⟨c3, k0, k1, k2, m0⟩) ?_
          repeat ((first | refine HL.tk ?_ | refine HL.sk ?_); try simp only [Act.put, qqA, qqB, qqC])
          refine hLc fun K hK => ?_
          go_simp
          refine (changeRight_c q0 q1 q2 _).mono ?_; rintro e w1 ⟨rfl, hnx1⟩; rw [HC.out]; have d3 := (hnx1.cell (p := ⟨w.heap.size, 3, none⟩) hbv).trans c3; have l0 := (hnx1.cell (p := ⟨wr.heap.size, 0, none⟩) bq.lt).trans k0; have l1 := (hnx1.cell (p := ⟨wr.heap.size, 1, none⟩) bq.lt).trans k1; have l2 := (hnx1.cell (p := ⟨wr.heap.size, 2, none⟩) bq.lt).trans k2; have n0 := (hnx1.cell (p := ⟨b, off + j * 3, none⟩) hbw).trans m0
          go_wp2_with fail
          refine hK.out _ _ (by exact ⟨d3, l0, l1, l2, n0⟩) ?_
          clear hK K
          try simp only [Act.put, qqA, qqB, qqC]
          repeat ((first | refine HL.tk ?_ | refine HL.sk ?_); try simp only [Act.put, qqA, qqB, qqC])
          refine HL.done ?_
          clear hw1 hw2 hi6 hi1 hi2 hi3 hi4 hi5
          go_wp2
          go_roundw
          case rel => exact ⟨j + 1 + 1, by omega, by go_num, hto.succ HO.out, hnxq.drew.trans hnx1⟩
          case measure => simp [intOf]; omega
        · have hd : decide (q0 ≤ r0) = true := by simp; omega
          have HR := qh (segB_no (f := f) (t := t) (m := m) (cs := cs) (.inr (.inr (.inr (.inr (.inr (.inr (chsB_no hlt (by unfold okCh; rw [Hq.out, Nat.add_sub_cancel, Hr.out]; simp [hlt2]))))))))).symm
          go_wp2_with fail
          have bq := Box.new wr 192 #[ii q0, ii q1, ii q2]
          have hnxq := hnx.alloc (.cells #[ii q0, ii q1, ii q2] 192)
          have b1 := (b0.nx hnx).alloc (.cells #[ii q0, ii q1, ii q2] 192)
          replace m0 := (((Nx.refl wr).alloc (.cells #[ii q0, ii q1, ii q2] 192)).cell (p := ⟨b, off + j * 3, none⟩) hb2).trans m0
          generalize wr.alloc (.cells #[ii q0, ii q1, ii q2] 192) = wq at *
          clear c3 k0 k1 k2
          obtain ⟨_, _, _, c3⟩ := b1.d4
          obtain ⟨k0, k1, k2⟩ := bq.d3
          have hbv : w.heap.size < wq.heap.size := b1.lt
          have hbw : b < wq.heap.size := by have := bq.lt; omega
          have hi3 : ((j : Int) + 1).toNat = j + 1 := by omega
          have hw1 : IntKind.i64.wrap ((j : Int) + 1 - 1) = (j : Int) := by rw [Int.add_sub_cancel]; exact IntWalk.i64_in _ (by omega)
          have hw2 : IntKind.i64.wrap (j : Int) = (j : Int) := IntWalk.i64_in _ (by omega)
          refine wp_lexA [ff, true, ff, ff, ff, ff, ff, ff, ff, ff, ff, ff, ff, ff, ff, ff, ff, ff, ff] (fun w' => w'.cell? ⟨w.heap.size, 3, none⟩ = some (.slice (some ⟨b, off, none⟩) cs.length c) ∧ w'.cell? ⟨wr.heap.size, 0, none⟩ = some (ii q0) ∧ w'.cell? ⟨wr.heap.size, 1, none⟩ = some (ii q1) ∧ w'.cell? ⟨wr.heap.size, 2, none⟩ = some (ii q2) ∧ w'.cell? ⟨b, off + j * 3, none⟩ = some (ii r0)) (by exact ⟨c3, k0, k1, k2, m0⟩) ?_
          repeat ((first | refine HL.tk ?_ | refine HL.sk ?_); try simp only [Act.put, qqA, qqB, qqC])
          refine hLc fun K hK => ?_
          go_simp
          refine (changeRight_c q0 q1 q2 _).mono ?_; rintro e w1 ⟨rfl, hnx1⟩; rw [HC.out]; have d3 := (hnx1.cell (p := ⟨w.heap.size, 3, none⟩) hbv).trans c3; have l0 := (hnx1.cell (p := ⟨wr.heap.size, 0, none⟩) bq.lt).trans k0; have l1 := (hnx1.cell (p := ⟨wr.heap.size, 1, none⟩) bq.lt).trans k1; have l2 := (hnx1.cell (p := ⟨wr.heap.size, 2, none⟩) bq.lt).trans k2; have n0 := (hnx1.cell (p := ⟨b, off + j * 3, none⟩) hbw).trans m0
          go_wp2_with fail
          refine hK.out _ _ (by exact ⟨d3, l0, l1, l2, n0⟩) ?_
          clear hK K
          try simp only [Act.put, qqA, qqB, qqC]
          repeat ((first | refine HL.tk ?_ | refine HL.sk ?_); try simp only [Act.put, qqA, qqB, qqC])
          refine HL.done ?_
          clear hw1 hw2 hi6 hi1 hi2 hi3 hi4 hi5
          go_wp2
          go_ret
          exact ⟨ret_bool HR.out, hx0.trans (hnxq.drew.trans hnx1)⟩
  · obtain rfl : k = cs.length := by omega
    have HR := qh (segB_mk hf0 x3 ht1 H4.out hto.all).symm
    go_wp2
    go_ret
    exact ⟨ret_bool HR.out, hx0.trans hnx⟩
inductive Pl where
 | e
 | t (k : Nat) (r : Pl)
 | c (k : Nat) (r : Pl)
 | b (j : Nat) (r1 : Pl) (k : Nat) (r2 : Pl)
 | d (i : Nat) (r0 : Pl) (j : Nat) (r1 : Pl) (k : Nat) (r2 : Pl)
inductive Ps where
 | e
 | t (o : Oper) (r : Ps)
 | c (o : Oper) (r : Ps)
 | b (oj : Oper) (r1 : Ps) (ok : Oper) (r2 : Ps)
 | d (oi : Oper) (r0 : Ps) (oj : Oper) (r1 : Ps) (ok : Oper) (r2 : Ps)
def noOp : Oper := { dst := none, op := Op.move (Operand.const undef), type := 0, pos := "", after := #[], guard := none }
def psOf (l : List Oper) : Pl → Ps
 | .e => .e
 | .t k r => .t (l.getD k noOp) (psOf l r)
 | .c k r => .c (l.getD k noOp) (psOf l r)
 | .b j r1 k r2 => .b (l.getD j noOp) (psOf l r1) (l.getD k noOp) (psOf l r2)
 | .d i r0 j r1 k r2 => .d (l.getD i noOp) (psOf l r0) (l.getD j noOp) (psOf l r1) (l.getD k noOp) (psOf l r2)
theorem callAt {P : Program} (f : FuncId) {a : Array Value} {w : World} {R : Ending → World → Prop} (h : Calls P f a w R) : Calls P f a w R := h
section
variable {P : Program} {ops : Array Oper} {Q : Exit → Act → World → Prop} {S : World → Prop}
def CallStep (P : Program) (ops : Array Oper) (Q : Exit → Act → World → Prop) (S : World → Prop) (o : Oper) (R : Act → World → Prop) (a : Act) (w : World) : Prop :=
 Region.wanted o (yielded ops a.tmps) = true ∧ ∀ K : Act → World → Prop, Hid (∀ a' w', S w' → R a' w' → K a' w') → o.wp P a w K Q
def HP (P : Program) (ops : Array Oper) (Q : Exit → Act → World → Prop) (S : World → Prop) : Ps → Act → World → Prop
 | .e, a, w => Q .normal a w
 | .t o r, a, w => ∃ v, YieldsIf P ops S o v a ∧ HP P ops Q S r (a.put o.dst v) w
 | .c o r, a, w => CallStep P ops Q S o (HP P ops Q S r) a w
 | .b oj r1 ok r2, a, w => CallStep P ops Q S oj (HP P ops Q S r1) a w ∧ CallStep P ops Q S ok (HP P ops Q S r2) a w
 | .d oi r0 oj r1 ok r2, a, w => CallStep P ops Q S oi (HP P ops Q S r0) a w ∧ CallStep P ops Q S oj (HP P ops Q S r1) a w ∧ CallStep P ops Q S ok (HP P ops Q S r2) a w
def steps : Pl → Nat
 | .e => 0
 | .t _ r => steps r + 1
 | .c _ r => steps r + 1
 | .b _ r1 _ _ => steps r1 + 1
 | .d _ r0 _ _ _ _ => steps r0 + 1
def planB (md : Region.Mode) (ops : Array Oper) : Pl → Array Bool → Bool
 | .e, listed => Region.ready md ops listed == []
 | .t k r, listed => decide (k < ops.size) && (Region.ready md ops listed).contains k && Region.free md ops listed k && planB md ops r (listed.setIfInBounds k true)
 | .c k r, listed => decide (k < ops.size) && (Region.ready md ops listed == [k]) && planB md ops r (listed.setIfInBounds k true)
 | .b j r1 k r2, listed => decide (j < ops.size) && decide (k < ops.size) && (Region.ready md ops listed == [j, k]) && decide (steps r2 = steps r1) && planB md ops r1 (listed.setIfInBounds j true) && planB md ops r2 (listed.setIfInBounds k true)
 | .d i r0 j r1 k r2, listed => decide (i < ops.size) && decide (j < ops.size) && decide (k < ops.size) && (Region.ready md ops listed == [i, j, k]) && decide (steps r1 = steps r0) && decide (steps r2 = steps r0) && planB md ops r0 (listed.setIfInBounds i true) && planB md ops r1 (listed.setIfInBounds j true) && planB md ops r2 (listed.setIfInBounds k true)
theorem HP.take {o : Oper} {r : Ps} {a : Act} {w : World} {v : Value} (hw : Region.wanted o (yielded ops a.tmps) = true) (h : ∀ w, S w → (execOp a.eval o).run P w = .ok (.value v) w)
 (hr : HP P ops Q S r (a.put o.dst v) w) : HP P ops Q S (.t o r) a w := ⟨v, .inl ⟨hw, h⟩, hr⟩
theorem HP.skip {o : Oper} {r : Ps} {a : Act} {w : World} (hw : Region.wanted o (yielded ops a.tmps) = false) (hr : HP P ops Q S r (a.put o.dst undef) w) : HP P ops Q S (.t o r) a w := ⟨undef, .inr ⟨hw, rfl⟩, hr⟩
theorem HP.tk {o : Oper} {r : Ps} {a : Act} {w : World} {v : Value} (hr : HP P ops Q S r (a.put o.dst v) w) (hw : Region.wanted o (yielded ops a.tmps) = true := by rfl)
 (h : ∀ w, S w → (execOp a.eval o).run P w = .ok (.value v) w := by (intro w hSw; (try dsimp only at hSw); go_simp; try with_reducible rfl)) : HP P ops Q S (.t o r) a w := HP.take hw h hr
theorem HP.sk {o : Oper} {r : Ps} {a : Act} {w : World} (hr : HP P ops Q S r (a.put o.dst undef) w) (hw : Region.wanted o (yielded ops a.tmps) = false := by rfl) : HP P ops Q S (.t o r) a w := HP.skip hw hr
theorem HP.call {o : Oper} {r : Ps} {a : Act} {w : World} (h : CallStep P ops Q S o (HP P ops Q S r) a w) : HP P ops Q S (.c o r) a w := h
theorem HP.both {oj ok : Oper} {r1 r2 : Ps} {a : Act} {w : World} (h1 : CallStep P ops Q S oj (HP P ops Q S r1) a w) (h2 : CallStep P ops Q S ok (HP P ops Q S r2) a w) : HP P ops Q S (.b oj r1 ok r2) a w := ⟨h1, h2⟩
theorem HP.three {oi oj ok : Oper} {r0 r1 r2 : Ps} {a : Act} {w : World} (h0 : CallStep P ops Q S oi (HP P ops Q S r0) a w) (h1 : CallStep P ops Q S oj (HP P ops Q S r1) a w) (h2 : CallStep P ops Q S ok (HP P ops Q S r2) a w) : HP P ops Q S (.d oi r0 oj r1 ok r2) a w := ⟨h0, h1, h2⟩
theorem HP.done {a : Act} {w : World} (h : Q .normal a w) : HP P ops Q S .e a w := h
theorem CallStep.mk {o : Oper} {R : Act → World → Prop} {a : Act} {w : World} (hw : Region.wanted o (yielded ops a.tmps) = true)
 (h : ∀ K : Act → World → Prop, Hid (∀ a' w', S w' → R a' w' → K a' w') → o.wp P a w K Q) : CallStep P ops Q S o R a w := ⟨hw, h⟩
theorem cSt {o : Oper} {R : Act → World → Prop} {a : Act} {w : World} (h : ∀ K : Act → World → Prop, Hid (∀ a' w', S w' → R a' w' → K a' w') → o.wp P a w K Q) (hw : Region.wanted o (yielded ops a.tmps) = true := by rfl) : CallStep P ops Q S o R a w := ⟨hw, h⟩
theorem hPc {o : Oper} {r : Ps} {a : Act} {w : World} (h : ∀ K : Act → World → Prop, Hid (∀ a' w', S w' → HP P ops Q S r a' w' → K a' w') → o.wp P a w K Q) (hw : Region.wanted o (yielded ops a.tmps) = true := by rfl) : HP P ops Q S (.c o r) a w := ⟨hw, h⟩
theorem CallStep.op {k : Nat} {o : Oper} {R K : Act → World → Prop} {a : Act} {w : World} (h : CallStep P ops Q S o R a w) (h0 : ops[k]? = some o) (hK : ∀ a' w', S w' → R a' w' → K a' w') : wpOp P ops Q k K a w := by
 unfold wpOp
 simp only [h0, h.1, if_true]
 exact .inl (h.2 _ (qh hK))
theorem getD_op {l : List Oper} {k : Nat} (h : k < l.toArray.size) : l.toArray[k]? = some (l.getD k noOp) := by
 have h' : k < l.length := by simpa using h
 rw [List.getElem?_toArray, gdE, List.getElem?_eq_getElem h']; rfl
theorem HP.any {md : Region.Mode} {l : List Oper} (hs : Region.noSelect l.toArray = true) (hQ : ∀ c a d v w, Q (.panic c) (Act.put a d v) w → Q (.panic c) a w) :
 ∀ (ks : Pl) (listed : Array Bool) (a : Act) (w : World), planB md l.toArray ks listed = true → S w → HP P l.toArray Q S (psOf l ks) a w → wpAnyH P md l.toArray Q S (steps ks) listed a w
 | .e, listed, a, w, hB, _, h => wpAnyH_done (by simpa [planB] using hB) h _
 | .t k r, listed, a, w, hB, hS, h => by
   simp only [planB, Bool.and_eq_true, decide_eq_true_eq] at hB
   obtain ⟨⟨⟨hk, hr⟩, hf⟩, hB'⟩ := hB
   obtain ⟨v, hy, hK⟩ := h
   exact wpAnyH_take (getD_op hk) hs hf hr (fun c a w => hQ c a _ _ w) hy hS (HP.any hs hQ r _ _ w hB' hS hK)
 | .c k r, listed, a, w, hB, hS, h => by
   simp only [planB, Bool.and_eq_true, decide_eq_true_eq, beq_iff_eq] at hB
   obtain ⟨⟨hk, hr⟩, hB'⟩ := hB
   refine wpAnyH_all hr (by simp) fun i hi => ?_
   obtain rfl : i = k := by simpa using hi
   exact CallStep.op h (getD_op hk) fun a' w' hS' h' => ⟨hS', HP.any hs hQ r _ a' w' hB' hS' h'⟩
 | .b j r1 k r2, listed, a, w, hB, hS, h => by
   simp only [planB, Bool.and_eq_true, decide_eq_true_eq, beq_iff_eq] at hB
   obtain ⟨⟨⟨⟨⟨hj, hk⟩, hr⟩, hst⟩, hB1⟩, hB2⟩ := hB
   refine wpAnyH_all hr (by simp) fun i hi => ?_
   rcases (show i = j ∨ i = k by simpa using hi) with rfl | rfl
   · exact CallStep.op h.1 (getD_op hj) fun a' w' hS' h' => ⟨hS', HP.any hs hQ r1 _ a' w' hB1 hS' h'⟩
   · exact CallStep.op h.2 (getD_op hk) fun a' w' hS' h' => ⟨hS', by have := HP.any hs hQ r2 _ a' w' hB2 hS' h'; rw [hst] at this; exact this⟩
 | .d i r0 j r1 k r2, listed, a, w, hB, hS, h => by
   simp only [planB, Bool.and_eq_true, decide_eq_true_eq, beq_iff_eq] at hB
   obtain ⟨⟨⟨⟨⟨⟨⟨⟨hi, hj⟩, hk⟩, hr⟩, hst1⟩, hst2⟩, hB0⟩, hB1⟩, hB2⟩ := hB
   refine wpAnyH_all hr (by simp) fun x hx => ?_
   rcases (show x = i ∨ x = j ∨ x = k by simpa using hx) with rfl | rfl | rfl
   · exact CallStep.op h.1 (getD_op hi) fun a' w' hS' h' => ⟨hS', HP.any hs hQ r0 _ a' w' hB0 hS' h'⟩
   · exact CallStep.op h.2.1 (getD_op hj) fun a' w' hS' h' => ⟨hS', by have := HP.any hs hQ r1 _ a' w' hB1 hS' h'; rw [hst1] at this; exact this⟩
   · exact CallStep.op h.2.2 (getD_op hk) fun a' w' hS' h' => ⟨hS', by have := HP.any hs hQ r2 _ a' w' hB2 hS' h'; rw [hst2] at this; exact this⟩
theorem wp_region_plan {id : Nat} {a : Act} {w : World} {l : List Oper} (ks : Pl) (S : World → Prop) (hm : P.follows .mixedOrders = true) (hs : Region.noSelect l.toArray = true) (hl : l.length = steps ks)
 (hB : planB .any l.toArray ks (Array.replicate l.toArray.size false) = true) (hQ : ∀ c a d v w, Q (.panic c) (Act.put a d v) w → Q (.panic c) a w) (hS : S w.drew)
 (h : HP P l.toArray Q S (psOf l ks) a w.drew) : (Code.region id l.toArray true).wp P Q a w := by
 refine wp_region_held_drew (S := S) hm hS fun _ => ?_
 have := HP.any (md := .any) hs hQ ks (Array.replicate l.toArray.size false) a w.drew hB hS h
 have e : l.toArray.size = steps ks := by simpa using hl
 rw [e]
 rw [e] at this
 exact this
theorem wp_planA {id : Nat} {a : Act} {w : World} {l : List Oper} (ks : Pl) (S : World → Prop) (hS : S w.drew) (h : HP P l.toArray Q S (psOf l ks) a w.drew) (hm : P.follows .mixedOrders = true := by kernel_rfl) (hs : Region.noSelect l.toArray = true := by kernel_rfl) (hl : l.length = steps ks := by rfl)
 (hB : planB .any l.toArray ks (Array.replicate l.toArray.size false) = true := by kernel_rfl) (hQ : ∀ c a d v w, Q (.panic c) (Act.put a d v) w → Q (.panic c) a w := by exact (fun _ _ d _ _ h => by cases d <;> exact h)) : (Code.region id l.toArray true).wp P Q a w := wp_region_plan ks S hm hs hl hB hQ hS h
end

theorem specSegOK_c (f t m : Int) (A : Option Addr) (c B : Nat) (cs : List Chg) (w : World) (h : Chs w B A cs) (hB : B ≤ w.heap.size) (hn : cs.length ≤ 1048576) :
 Calls Tryz.prog 221 #[.agg #[ii f, ii t, ii m, .slice A cs.length c]] w fun e w' => e = .returned (.bool (segB f t m cs)) ∧ Nx w w' := by
 cases x1 : inB 0 999998 f with
 | false =>
   have H1 := qh x1
   have HR := qh (segB_no (t := t) (m := m) (cs := cs) (.inl x1)).symm
   clear x1
   go_enter Tryz.func221, Tryz.ntmps221
   go_wp2_with (go_at_call 106; refine (l01In_c _ _ _ _).mono ?_; rintro e w' ⟨rfl, rfl⟩; first | rw [H1.out])
   go_ret
   exact ⟨ret_bool HR.out, (Nx.refl _).alloc _⟩
 | true =>
 have H1 := qh x1
 obtain ⟨hf0, hf1⟩ := inB_yes x1
 clear x1
 cases x2 : inB (f + 1) 999999 t with
 | false =>
   have H2 := qh x2
   have HR := qh (segB_no (f := f) (t := t) (m := m) (cs := cs) (.inr (.inl x2))).symm
   clear x2
   go_enter Tryz.func221, Tryz.ntmps221
   go_wp2_with (go_at_call 106; refine (l01In_c _ _ _ _).mono ?_; rintro e w' ⟨rfl, rfl⟩; first | rw [H1.out] | rw [H2.out])
   go_ret
   exact ⟨ret_bool HR.out, (Nx.refl _).alloc _⟩
 | true =>
 have H2 := qh x2
 obtain ⟨ht0, ht1⟩ := inB_yes x2
 clear x2
 cases x3 : inB 0 999999 m with
 | false =>
   have H3 := qh x3
   have HR := qh (segB_no (f := f) (t := t) (m := m) (cs := cs) (.inr (.inr (.inr (.inr (.inr (.inl x3))))))).symm
   clear x3
   go_enter Tryz.func221, Tryz.ntmps221
   go_wp2_with (go_at_call 106; refine (l01In_c _ _ _ _).mono ?_; rintro e w' ⟨rfl, rfl⟩; first | rw [H1.out] | rw [H2.out] | rw [H3.out])
   go_ret
   exact ⟨ret_bool HR.out, (Nx.refl _).alloc _⟩
 | true =>
 have H3 := qh x3
 clear x3
 by_cases hl : cs.length ≤ 8
 case neg =>
  have hl' : decide (8 < (cs.length : Int)) = true := by simp; omega
  have HR := qh (segB_no (f := f) (t := t) (m := m) (cs := cs) (.inr (.inr (.inr (.inr (.inr (.inr (by cases hx : chsB cs with
   | false => rfl
   | true => exact absurd (chsB_len hx) hl)))))))).symm
  go_enter Tryz.func221, Tryz.ntmps221
  go_wp2_with (go_at_call 106; refine (l01In_c _ _ _ _).mono ?_; rintro e w' ⟨rfl, rfl⟩; first | rw [H1.out] | rw [H2.out] | rw [H3.out])
  go_ret
  exact ⟨ret_bool HR.out, (Nx.refl _).alloc _⟩
 have hl' : decide (8 < (cs.length : Int)) = false := by simp; omega
 go_enter Tryz.func221, Tryz.ntmps221
 go_wp2_with (go_at_call 106; refine (l01In_c _ _ _ _).mono ?_; rintro e w' ⟨rfl, rfl⟩; first | rw [H1.out] | rw [H2.out] | rw [H3.out])
 have b0 := Box.new w 122 #[ii f, ii t, ii m, .slice A cs.length c]
 have hx0 := (Nx.refl w).alloc (.cells #[ii f, ii t, ii m, .slice A cs.length c] 122)
 generalize w.alloc (.cells #[ii f, ii t, ii m, .slice A cs.length c] 122) = W at *
 clear hl'
 go_loopw [3] (fun i wr => ∃ k : Nat, k ≤ cs.length ∧ i = ii k ∧ OkTo cs k ∧ Nx W wr) (fun i _ => cs.length - (intOf i).toNat)
 case atStart => exact ⟨0, Nat.zero_le _, rfl, OkTo.zero _, Nx.refl _⟩
 case round =>
  obtain ⟨k, hk, rfl, hto, hnx⟩ := hrel
  obtain ⟨_, _, _, c3⟩ := (b0.nx hnx).d4
  by_cases hlt : k < cs.length
  · obtain ⟨b, off, rfl, hb, k0, k1, k2⟩ := (h.below (hx0.trans hnx) hB).at_ hlt
    obtain ⟨⟨q0, q1, q2⟩, Hq⟩ : ∃ q, Hid (cs.getD k chZ = q) := ⟨_, rfl⟩
    rw [Hq.out] at k0 k1 k2
    have hbw : b < wr.heap.size := by have := hx0.size; have := hnx.size; omega
    have hbv : w.heap.size < wr.heap.size := (b0.nx hnx).lt
    cases hch : chB (q0, q1, q2) with
    | false =>
      have HC := qh hch
      have HR := qh (segB_no (f := f) (t := t) (m := m) (cs := cs) (.inr (.inr (.inr (.inr (.inr (.inr (chsB_no hlt (by unfold okCh; rw [Hq.out, hch]; rfl))))))))).symm
      clear hch
      go_wp2_with fail
      refine wp_lexA [ff, ff, ff, ff, ff, true, ff, ff, ff, ff, ff, ff, ff, ff, ff, ff, ff, ff, ff, ff, ff, ff, ff, ff, ff, ff, ff] (fun w' => w'.cell? ⟨w.heap.size, 3, none⟩ = some (.slice (some ⟨b, off, none⟩) cs.length c) ∧ w'.cell? ⟨b, off + k * 3, none⟩ = some (ii q0) ∧ w'.cell? ⟨b, off + k * 3 + 1, none⟩ = some (ii q1) ∧ w'.cell? ⟨b, off + k * 3 + 2, none⟩ = some (ii q2)) (by exact ⟨c3, k0, k1, k2⟩) ?_
      repeat ((first | refine HL.tk ?_ | refine HL.sk ?_); try simp only [Act.put, qqA, qqB, qqC])
      refine hLc fun K hK => ?_
      go_simp
      refine (l02Change_c q0 q1 q2 _).mono ?_; rintro e w1 ⟨rfl, hnx1⟩; rw [HC.out]; have d3 := (hnx1.cell (p := ⟨w.heap.size, 3, none⟩) hbv).trans c3; have l0 := (hnx1.cell (p := ⟨b, off + k * 3, none⟩) hbw).trans k0; have l1 := (hnx1.cell (p := ⟨b, off + k * 3 + 1, none⟩) hbw).trans k1; have l2 := (hnx1.cell (p := ⟨b, off + k * 3 + 2, none⟩) hbw).trans k2
      go_wp2_with fail
      refine hK.out _ _ (by exact ⟨d3, l0, l1, l2⟩) ?_
      clear hK K
      try simp only [Act.put, qqA, qqB, qqC]
      repeat ((first | refine HL.tk ?_ | refine HL.sk ?_); try simp only [Act.put, qqA, qqB, qqC])
      refine HL.done ?_
      go_wp2
      go_ret
      exact ⟨ret_bool HR.out, hx0.trans (hnx.drew.trans hnx1)⟩
    | true =>
      have HC := qh hch
      clear hch
      by_cases hk0 : k = 0
      · have hd0 : decide (0 < (k : Int)) = false := by simp; omega
        have HO := qh (show okCh cs k = true by unfold okCh; rw [Hq.out, HC.out, hk0]; rfl)
        have hd1 : decide (0 < k) = false := by simp; omega
        clear hk0
        go_wp2_with fail
        refine wp_lexA [ff, ff, ff, ff, ff, true, ff, ff, ff, ff, ff, ff, ff, ff, ff, ff, ff, ff, ff, ff, ff, ff, ff, ff, ff, ff, ff] (fun w' => w'.cell? ⟨w.heap.size, 3, none⟩ = some (.slice (some ⟨b, off, none⟩) cs.length c) ∧ w'.cell? ⟨b, off + k * 3, none⟩ = some (ii q0) ∧ w'.cell? ⟨b, off + k * 3 + 1, none⟩ = some (ii q1) ∧ w'.cell? ⟨b, off + k * 3 + 2, none⟩ = some (ii q2)) (by exact ⟨c3, k0, k1, k2⟩) ?_
        repeat ((first | refine HL.tk ?_ | refine HL.sk ?_); try simp only [Act.put, qqA, qqB, qqC])
        refine hLc fun K hK => ?_
        go_simp
        refine (l02Change_c q0 q1 q2 _).mono ?_; rintro e w1 ⟨rfl, hnx1⟩; rw [HC.out]; have d3 := (hnx1.cell (p := ⟨w.heap.size, 3, none⟩) hbv).trans c3; have l0 := (hnx1.cell (p := ⟨b, off + k * 3, none⟩) hbw).trans k0; have l1 := (hnx1.cell (p := ⟨b, off + k * 3 + 1, none⟩) hbw).trans k1; have l2 := (hnx1.cell (p := ⟨b, off + k * 3 + 2, none⟩) hbw).trans k2
        go_wp2_with fail
        refine hK.out _ _ (by exact ⟨d3, l0, l1, l2⟩) ?_
        clear hK K
        try simp only [Act.put, qqA, qqB, qqC]
        repeat ((first | refine HL.tk ?_ | refine HL.sk ?_); try simp only [Act.put, qqA, qqB, qqC])
        refine HL.done ?_
        go_wp2
        go_roundw
        case rel => exact ⟨k + 1, by omega, by go_num, hto.succ HO.out, hnx.drew.trans hnx1⟩
        case measure => simp [intOf]; omega
      · obtain ⟨j, rfl⟩ : ∃ j, k = j + 1 := ⟨k - 1, by omega⟩
        obtain ⟨b', off', he, _, m0, _, _⟩ := (h.below (hx0.trans hnx) hB).at_ (k := j) (by omega)
        obtain ⟨rfl, rfl⟩ : b = b' ∧ off = off' := by simpa using he
        clear he
        obtain ⟨⟨r0, r1, r2⟩, Hr⟩ : ∃ q, Hid (cs.getD j chZ = q) := ⟨_, rfl⟩
        rw [Hr.out] at m0
        have hd0 : decide (0 < ((j : Int) + 1)) = true := by simp
        have hd1 : decide (0 < j + 1) = true := by simp
        have hi1 : (0 : Int) ≤ (j : Int) + 1 := by omega
        have hi2 : (j : Int) + 1 < (cs.length : Int) := by omega
        have hi4 : (j : Int) < (cs.length : Int) := by omega
        have hi5 : j < cs.length := by omega
        have hi3 : ((j : Int) + 1).toNat = j + 1 := by omega
        have hw1 : IntKind.i64.wrap ((j : Int) + 1 - 1) = (j : Int) := by rw [Int.add_sub_cancel]; exact IntWalk.i64_in _ (by omega)
        have hw2 : IntKind.i64.wrap (j : Int) = (j : Int) := IntWalk.i64_in _ (by omega)
        have hi6 : (0 : Int) ≤ (j : Int) := by omega
        by_cases hlt2 : r0 < q0
        · have hd : decide (q0 ≤ r0) = false := by simp; omega
          have HO := qh (show okCh cs (j + 1) = true by unfold okCh; rw [Hq.out, HC.out, Nat.add_sub_cancel, Hr.out]; simp [hlt2])
          go_wp2_with fail
          refine wp_lexA [ff, ff, ff, ff, ff, true, ff, ff, ff, ff, ff, ff, ff, ff, ff, ff, ff, ff, ff, ff, ff, ff, ff, ff, ff, ff, ff] (fun w' => w'.cell? ⟨w.heap.size, 3, none⟩ = some (.slice (some ⟨b, off, none⟩) cs.length c) ∧ w'.cell? ⟨b, off + (j + 1) * 3, none⟩ = some (ii q0) ∧ w'.cell? ⟨b, off + (j + 1) * 3 + 1, none⟩ = some (ii q1) ∧ w'.cell? ⟨b, off + (j + 1) * 3 + 2, none⟩ = some (ii q2) ∧ w'.cell? ⟨b, off + j * 3, none⟩ = some (ii r0)) (by exact ⟨c3, k0, k1, k2, m0⟩) ?_
          repeat ((first | refine HL.tk ?_ | refine HL.sk ?_); try simp only [Act.put, qqA, qqB, qqC])
          refine hLc fun K hK => ?_
          go_simp
          refine (l02Change_c q0 q1 q2 _).mono ?_; rintro e w1 ⟨rfl, hnx1⟩; rw [HC.out]; have d3 := (hnx1.cell (p := ⟨w.heap.size, 3, none⟩) hbv).trans c3; have l0 := (hnx1.cell (p := ⟨b, off + (j + 1) * 3, none⟩) hbw).trans k0; have l1 := (hnx1.cell (p := ⟨b, off + (j + 1) * 3 + 1, none⟩) hbw).trans k1; have l2 := (hnx1.cell (p := ⟨b, off + (j + 1) * 3 + 2, none⟩) hbw).trans k2; have n0 := (hnx1.cell (p := ⟨b, off + j * 3, none⟩) hbw).trans m0
          go_wp2_with fail
          refine hK.out _ _ (by exact ⟨d3, l0, l1, l2, n0⟩) ?_
          clear hK K
          try simp only [Act.put, qqA, qqB, qqC]
          repeat ((first | refine HL.tk ?_ | refine HL.sk ?_); try simp only [Act.put, qqA, qqB, qqC])
          refine HL.done ?_
          clear hw1 hw2 hi6 hi1 hi2 hi3 hi4 hi5
          go_wp2
          go_roundw
          case rel => exact ⟨j + 1 + 1, by omega, by go_num, hto.succ HO.out, hnx.drew.trans hnx1⟩
          case measure => simp [intOf]; omega
        · have hd : decide (q0 ≤ r0) = true := by simp; omega
          have HR := qh (segB_no (f := f) (t := t) (m := m) (cs := cs) (.inr (.inr (.inr (.inr (.inr (.inr (chsB_no hlt (by unfold okCh; rw [Hq.out, Nat.add_sub_cancel, Hr.out]; simp [hlt2]))))))))).symm
          go_wp2_with fail
          refine wp_lexA [ff, ff, ff, ff, ff, true, ff, ff, ff, ff, ff, ff, ff, ff, ff, ff, ff, ff, ff, ff, ff, ff, ff, ff, ff, ff, ff] (fun w' => w'.cell? ⟨w.heap.size, 3, none⟩ = some (.slice (some ⟨b, off, none⟩) cs.length c) ∧ w'.cell? ⟨b, off + (j + 1) * 3, none⟩ = some (ii q0) ∧ w'.cell? ⟨b, off + (j + 1) * 3 + 1, none⟩ = some (ii q1) ∧ w'.cell? ⟨b, off + (j + 1) * 3 + 2, none⟩ = some (ii q2) ∧ w'.cell? ⟨b, off + j * 3, none⟩ = some (ii r0)) (by exact ⟨c3, k0, k1, k2, m0⟩) ?_
          repeat ((first | refine HL.tk ?_ | refine HL.sk ?_); try simp only [Act.put, qqA, qqB, qqC])
          refine hLc fun K hK => ?_
          go_simp
          refine (l02Change_c q0 q1 q2 _).mono ?_; rintro e w1 ⟨rfl, hnx1⟩; rw [HC.out]; have d3 := (hnx1.cell (p := ⟨w.heap.size, 3, none⟩) hbv).trans c3; have l0 := (hnx1.cell (p := ⟨b, off + (j + 1) * 3, none⟩) hbw).trans k0; have l1 := (hnx1.cell (p := ⟨b, off + (j + 1) * 3 + 1, none⟩) hbw).trans k1; have l2 := (hnx1.cell (p := ⟨b, off + (j + 1) * 3 + 2, none⟩) hbw).trans k2; have n0 := (hnx1.cell (p := ⟨b, off + j * 3, none⟩) hbw).trans m0
          go_wp2_with fail
          refine hK.out _ _ (by exact ⟨d3, l0, l1, l2, n0⟩) ?_
          clear hK K
          try simp only [Act.put, qqA, qqB, qqC]
          repeat ((first | refine HL.tk ?_ | refine HL.sk ?_); try simp only [Act.put, qqA, qqB, qqC])
          refine HL.done ?_
          clear hw1 hw2 hi6 hi1 hi2 hi3 hi4 hi5
          go_wp2
          go_ret
          exact ⟨ret_bool HR.out, hx0.trans (hnx.drew.trans hnx1)⟩
  · obtain rfl : k = cs.length := by omega
    have HR := qh (segB_mk hf0 (by omega) ht1 H3.out hto.all).symm
    go_wp2
    go_ret
    exact ⟨ret_bool HR.out, hx0.trans hnx⟩
theorem cell_far (w : World) (p q : Addr) (v : Value) (h : q.block ≠ p.block) : (w.setCell p v).cell? q = w.cell? q := by
 unfold World.cell?
 rw [Below.heap_setCell w p v q.block h]
theorem nr_own {w u : World} {A : Option Addr} {xs : List Int} (h : NewRow w u 3 1 A xs.length (inAt xs)) (hp : 0 < xs.length) : ∃ g, A = some ⟨g, 0, none⟩ ∧ w.heap.size ≤ g ∧ Own u g 3 xs.length (inAt xs) := by
 obtain ⟨g, e, hg, ho⟩ := h.2 hp
 rw [Nat.mul_one] at ho
 exact ⟨g, e, hg, ho⟩
theorem l03Forward_c (A2 : Option Addr) (c2 B : Nat) (xs : List Int) (f t m : Int) (A : Option Addr) (c : Nat) (cs : List Chg) (w : World) (h : Ins w B A2 xs) (hg : Chs w B A cs) (hB : B ≤ w.heap.size) (hok : chsB cs = true) (h8 : xs.length = 8) :
 Calls Tryz.prog 209 #[.slice A2 xs.length c2, .agg #[ii f, ii t, ii m, .slice A cs.length c]] w (RetI w (app pN xs cs)) := by
 obtain ⟨i0, hi0, hz0, hz1, hz2⟩ := info_parts info_int
 have hl8 := chsB_len hok
 have hto := chsB_to hok
 have H8 := qh h8
 clear hok h8
 have b1 := (Box.new w 122 #[ii f, ii t, ii m, .slice A cs.length c]).alloc (.cells #[] 3)
 have hx1 := ((Nx.refl w).alloc (.cells #[ii f, ii t, ii m, .slice A cs.length c] 122)).alloc (.cells #[] 3)
 have Hsz := qh (show ((w.alloc (.cells #[ii f, ii t, ii m, .slice A cs.length c] 122)).alloc (.cells #[] 3)).heap.size = w.heap.size + 1 + 1 by simp only [World.size_alloc])
 go_enter Tryz.func209, Tryz.ntmps209
 go_wp2_with (at_builtin; refine wpList_append_new rfl (.tmp 6) (.tmp 7) 23 rfl 3 i0 _ 1 8 Tryz.underlying23 hi0 hz0 hz1 hz2 (by decide) (by decide) (w.heap.size + 1) A2 xs.length c2 B (inAt xs) rfl rfl (by rw [Nat.mul_one]; exact h.below hx1 hB) (by have := H8.out; omega) ?_)
 intro A9 c9 w1 hnew
 obtain ⟨g, rfl, hgl, hown⟩ := nr_own hnew (by have := H8.out; omega)
 have hx2 := hnew.1
 have b2 := b1.nx hx2
 have hX2 := hx1.trans hx2
 have hgw : w.heap.size < g := by have := Hsz.out; omega
 clear hnew b1 hx1 hx2 hgl
 go_wp2_with fail
 go_loopw [5] (fun i wr => ∃ k : Nat, k ≤ cs.length ∧ i = ii k ∧ Own wr g 3 xs.length (inAt (app pN xs (cs.take k))) ∧ Box wr w.heap.size 122 #[ii f, ii t, ii m, .slice A cs.length c] ∧ Nx w wr) (fun i _ => cs.length - (intOf i).toNat)
 case atStart => exact ⟨0, Nat.zero_le _, rfl, hown, b2, hX2⟩
 case round =>
  obtain ⟨k, hk, rfl, hown, bg, hnx⟩ := hrel
  clear b2 hX2
  obtain ⟨_, _, _, d3⟩ := bg.d4
  by_cases hlt : k < cs.length
  · obtain ⟨b, off, rfl, hb, k0, k1, k2⟩ := (hg.below hnx hB).at_ hlt
    obtain ⟨hr0, hr1⟩ := hto.rise k hlt
    obtain ⟨⟨q0, q1, q2⟩, Hq⟩ : ∃ q, Hid (cs.getD k chZ = q) := ⟨_, rfl⟩
    rw [Hq.out] at k0 k1 k2 hr0 hr1
    obtain ⟨n0, rfl⟩ : ∃ n : Nat, q0 = n := ⟨q0.toNat, by simp only at hr0; omega⟩
    have hn0 : n0 < xs.length := by have := H8.out; simp only at hr1; omega
    have hn1 : (n0 : Int) < (xs.length : Int) := by omega
    have hk1 : (k : Int) < (cs.length : Int) := by omega
    have hbg : b ≠ g := by omega
    clear hr0 hr1
    obtain ⟨v, hv⟩ : ∃ v, wr.cell? ⟨g, n0, none⟩ = some v := ⟨_, hown.cell hn0⟩
    have hz := hown.frozen n0
    go_wp2_with fail
    refine wp_lexA [ff, ff, ff, ff, ff, ff, ff, ff, ff, ff, ff, ff, ff, ff, true] (fun w' => w'.cell? ⟨w.heap.size, 3, none⟩ = some (.slice (some ⟨b, off, none⟩) cs.length c) ∧ w'.cell? ⟨b, off + k * 3, none⟩ = some (ii (n0 : Int)) ∧ w'.cell? ⟨b, off + k * 3 + 1, none⟩ = some (ii q1)) (by exact ⟨d3, k0, k1⟩) ?_
    repeat ((first | refine HL.tk ?_ | refine HL.sk ?_); try simp only [Act.put, qqA, qqB, qqC])
    refine hLc fun K hK => ?_
    go_simp
    refine hK.out _ _ (by exact ⟨(bg.far (p := ⟨g, n0, none⟩) (by simp; omega) (ii q1)).cell 3, ((cell_far wr ⟨g, n0, none⟩ _ _ (by simp; omega)).trans k0), ((cell_far wr ⟨g, n0, none⟩ _ _ (by simp; omega)).trans k1)⟩) ?_
    clear hK K
    try simp only [Act.put, qqA, qqB, qqC]
    refine HL.done ?_
    go_wp2
    go_roundw
    case rel =>
     refine ⟨k + 1, by omega, by go_num, (hown.set (k := n0) hn0 (ii q1)).congr fun i hi => ?_, bg.far (p := ⟨g, n0, none⟩) (by simp; omega) _, (hnx.setCell (p := ⟨g, n0, none⟩) (by simp; omega) _).drew⟩
     rw [app_succ pN xs cs hlt, Hq.out]
     rw [inAt_set _ (by rw [app_len]; simpa using hn0)]
     simp [pN]
    case measure => simp [intOf]; omega
  · obtain rfl : k = cs.length := by omega
    rw [List.take_length] at hown
    go_wp2
    go_ret
    exact ⟨_, c9, by rw [app_len]; rfl, by unfold SlI; rw [app_len]; exact Sl.own hown (by omega), hnx⟩
theorem l03Backward_c (A2 : Option Addr) (c2 B : Nat) (xs : List Int) (f t m : Int) (A : Option Addr) (c : Nat) (cs : List Chg) (w : World) (h : Ins w B A2 xs) (hg : Chs w B A cs) (hB : B ≤ w.heap.size) (hok : chsB cs = true) (h8 : xs.length = 8) :
 Calls Tryz.prog 210 #[.slice A2 xs.length c2, .agg #[ii f, ii t, ii m, .slice A cs.length c]] w (RetI w (app pO xs cs)) := by
 obtain ⟨i0, hi0, hz0, hz1, hz2⟩ := info_parts info_int
 have hl8 := chsB_len hok
 have hto := chsB_to hok
 have H8 := qh h8
 clear hok h8
 have b1 := (Box.new w 122 #[ii f, ii t, ii m, .slice A cs.length c]).alloc (.cells #[] 3)
 have hx1 := ((Nx.refl w).alloc (.cells #[ii f, ii t, ii m, .slice A cs.length c] 122)).alloc (.cells #[] 3)
 have Hsz := qh (show ((w.alloc (.cells #[ii f, ii t, ii m, .slice A cs.length c] 122)).alloc (.cells #[] 3)).heap.size = w.heap.size + 1 + 1 by simp only [World.size_alloc])
 go_enter Tryz.func210, Tryz.ntmps210
 go_wp2_with (at_builtin; refine wpList_append_new rfl (.tmp 6) (.tmp 7) 23 rfl 3 i0 _ 1 8 Tryz.underlying23 hi0 hz0 hz1 hz2 (by decide) (by decide) (w.heap.size + 1) A2 xs.length c2 B (inAt xs) rfl rfl (by rw [Nat.mul_one]; exact h.below hx1 hB) (by have := H8.out; omega) ?_)
 intro A9 c9 w1 hnew
 obtain ⟨g, rfl, hgl, hown⟩ := nr_own hnew (by have := H8.out; omega)
 have hx2 := hnew.1
 have b2 := b1.nx hx2
 have hX2 := hx1.trans hx2
 have hgw : w.heap.size < g := by have := Hsz.out; omega
 clear hnew b1 hx1 hx2 hgl
 go_wp2_with fail
 go_loopw [5] (fun i wr => ∃ k : Nat, k ≤ cs.length ∧ i = ii k ∧ Own wr g 3 xs.length (inAt (app pO xs (cs.take k))) ∧ Box wr w.heap.size 122 #[ii f, ii t, ii m, .slice A cs.length c] ∧ Nx w wr) (fun i _ => cs.length - (intOf i).toNat)
 case atStart => exact ⟨0, Nat.zero_le _, rfl, hown, b2, hX2⟩
 case round =>
  obtain ⟨k, hk, rfl, hown, bg, hnx⟩ := hrel
  clear b2 hX2
  obtain ⟨_, _, _, d3⟩ := bg.d4
  by_cases hlt : k < cs.length
  · obtain ⟨b, off, rfl, hb, k0, k1, k2⟩ := (hg.below hnx hB).at_ hlt
    obtain ⟨hr0, hr1⟩ := hto.rise k hlt
    obtain ⟨⟨q0, q1, q2⟩, Hq⟩ : ∃ q, Hid (cs.getD k chZ = q) := ⟨_, rfl⟩
    rw [Hq.out] at k0 k1 k2 hr0 hr1
    obtain ⟨n0, rfl⟩ : ∃ n : Nat, q0 = n := ⟨q0.toNat, by simp only at hr0; omega⟩
    have hn0 : n0 < xs.length := by have := H8.out; simp only at hr1; omega
    have hn1 : (n0 : Int) < (xs.length : Int) := by omega
    have hk1 : (k : Int) < (cs.length : Int) := by omega
    have hbg : b ≠ g := by omega
    clear hr0 hr1
    obtain ⟨v, hv⟩ : ∃ v, wr.cell? ⟨g, n0, none⟩ = some v := ⟨_, hown.cell hn0⟩
    have hz := hown.frozen n0
    go_wp2_with fail
    refine wp_lexA [ff, ff, ff, ff, ff, ff, ff, ff, ff, ff, ff, ff, ff, ff, true] (fun w' => w'.cell? ⟨w.heap.size, 3, none⟩ = some (.slice (some ⟨b, off, none⟩) cs.length c) ∧ w'.cell? ⟨b, off + k * 3, none⟩ = some (ii (n0 : Int)) ∧ w'.cell? ⟨b, off + k * 3 + 2, none⟩ = some (ii q2)) (by exact ⟨d3, k0, k2⟩) ?_
    repeat ((first | refine HL.tk ?_ | refine HL.sk ?_); try simp only [Act.put, qqA, qqB, qqC])
    refine hLc fun K hK => ?_
    go_simp
    refine hK.out _ _ (by exact ⟨(bg.far (p := ⟨g, n0, none⟩) (by simp; omega) (ii q2)).cell 3, ((cell_far wr ⟨g, n0, none⟩ _ _ (by simp; omega)).trans k0), ((cell_far wr ⟨g, n0, none⟩ _ _ (by simp; omega)).trans k2)⟩) ?_
    clear hK K
    try simp only [Act.put, qqA, qqB, qqC]
    refine HL.done ?_
    go_wp2
    go_roundw
    case rel =>
     refine ⟨k + 1, by omega, by go_num, (hown.set (k := n0) hn0 (ii q2)).congr fun i hi => ?_, bg.far (p := ⟨g, n0, none⟩) (by simp; omega) _, (hnx.setCell (p := ⟨g, n0, none⟩) (by simp; omega) _).drew⟩
     rw [app_succ pO xs cs hlt, Hq.out]
     rw [inAt_set _ (by rw [app_len]; simpa using hn0)]
     simp [pO]
    case measure => simp [intOf]; omega
  · obtain rfl : k = cs.length := by omega
    rw [List.take_length] at hown
    go_wp2
    go_ret
    exact ⟨_, c9, by rw [app_len]; rfl, by unfold SlI; rw [app_len]; exact Sl.own hown (by omega), hnx⟩
abbrev Sg4 := Int × Int × Int × List Chg
theorem chAt_one (b v o : Int) : ∀ i, i < 3 → (#[Value.int .i64 b, ii v, ii o] : Array Value)[i]! = chAt [(b, v, o)] i := fun i hi => by
 match i, hi with
 | 0, _ => rfl
 | 1, _ => rfl
 | 2, _ => rfl
theorem one_own {w : World} {g : Nat} {t : TypeId} {b v o : Int} (h : Box w g t #[ii b, ii v, ii o]) : Own w g t 3 (chAt [(b, v, o)]) := h.own.congr (chAt_one b v o)
theorem segB_chs {f t m : Int} {cs : List Chg} (h : segB f t m cs = true) : chsB cs = true := by
 unfold segB at h
 simp only [Bool.and_eq_true] at h
 exact h.2
end Go.Proofs.YtieoiailjjnnoaaGreatDoor
namespace Go.Proofs.YtieoiailjjnnoaaGreatDoor
set_option linter.unusedVariables false
set_option maxRecDepth 100000
set_option maxHeartbeats 16000000
open Go.Joins Go.ChangeShapes Go.WideShapes Go.RowKit Go.Deep
theorem ci_ : Tryz.prog.cellsOf 3 = 1 := by kernel_rfl
section
variable {H : Type} {enc : TypeId × Value → H} {w : World} {base : Nat} {spare : Nat → Bool} {held : Bool}
theorem one_int {fuel : Nat} {v : Value} {x : DataW H × List MemPlace} (h : DataW.trod enc Tryz.prog w base spare held fuel 3 [v] = some x) : ∃ q, v = .int .i64 q ∧ (Lit.int .i64 q).wf = true := by
 obtain ⟨q, e, _, hw⟩ := DataW.trod_int (k := .i64) Tryz.underlying3 h
 exact ⟨q, by simpa using e, hw⟩
theorem open_frame {r : Reach} {b0 : Nat} {v : Value} {d : DataW H} {p : List MemPlace} (hv : Value.okWide Tryz.prog w r b0 69 v) (h : DataW.Trod enc Tryz.prog w base spare held 69 v d p) :
 ∃ a b c t : Int, v = .agg #[ii a, ii b, ii c, ii t] := by
 obtain ⟨v0, v1, v2, v3, y0, y1, y2, y3, m, rfl, _, _, t0, t1, t2, t3⟩ := open_agg4 Tryz.underlying69 (by kernel_rfl) (by kernel_rfl) hv h
 obtain ⟨q0, rfl, _⟩ := one_int t0
 obtain ⟨q1, rfl, _⟩ := one_int t1
 obtain ⟨q2, rfl, _⟩ := one_int t2
 obtain ⟨q3, rfl, _⟩ := one_int t3
 exact ⟨q0, q1, q2, q3, rfl⟩
end
def RetG (w : World) (f t m : Int) (cs : List Chg) (e : Ending) (w' : World) : Prop := ∃ (A : Option Addr) (c : Nat), e = .returned (.agg #[ii f, ii t, ii m, .slice A cs.length c]) ∧ Sl w' w.heap.size A 192 (cs.length * 3) (chAt cs) ∧ Nx w w'
section
variable {H : Type} {enc : TypeId × Value → H} {w : World} {base : Nat} {spare : Nat → Bool} {held : Bool}
end
end Go.Proofs.YtieoiailjjnnoaaGreatDoor
namespace Go.Proofs.YtieoiailjjnnoaaGreatDoor
set_option linter.unusedVariables false
set_option maxRecDepth 100000
set_option maxHeartbeats 16000000
open Go.RowKit
def enc : Option Chg → Chg
 | none => (-1, 0, 0)
 | some c => c

theorem l03Of_c (A2 : Option Addr) (c2 B n0 : Nat) (xs : List Int) (p v t : Int) (w : World) (h : Ins w B A2 xs) (hB : B ≤ w.heap.size) (hn0 : n0 < xs.length) (hn8 : xs.length ≤ 1048576) (hp1 : 1 ≤ p) (hp2 : p ≤ 9000000) :
 Calls Tryz.prog 160 #[.slice A2 xs.length c2, .agg #[ii p, ii (n0 : Int), ii v, ii t]] w (RetG w (p - 1) p t [((n0 : Int), v, xs.getD n0 0)]) := by
 have bF0 := (Box.new w 55 #[ii p, ii (n0 : Int), ii v, ii t]).alloc (.cells #[ii 0, ii 0, ii 0, nsl] 122)
 have bR0 := Box.new (w.alloc (.cells #[ii p, ii (n0 : Int), ii v, ii t] 55)) 122 #[ii 0, ii 0, ii 0, nsl]
 have hx0 := ((Nx.refl w).alloc (.cells #[ii p, ii (n0 : Int), ii v, ii t] 55)).alloc (.cells #[ii 0, ii 0, ii 0, nsl] 122)
 simp only [World.size_alloc] at bR0
 have hn1 : (n0 : Int) < (xs.length : Int) := by omega
 have hwp : IntKind.i64.wrap (p - 1) = p - 1 := IntWalk.i64_in _ (by omega)
 obtain ⟨o, Ho⟩ : ∃ o, Hid (xs.getD n0 0 = o) := ⟨_, rfl⟩
 go_enter Tryz.func160, Tryz.ntmps160
 go_wp2_with fail
 generalize (w.alloc (.cells #[ii p, ii (n0 : Int), ii v, ii t] 55)).alloc (.cells #[ii 0, ii 0, ii 0, nsl] 122) = W at *
 have bF : Box W.drew w.heap.size 55 #[ii p, ii (n0 : Int), ii v, ii t] := bF0
 have bR : Box W.drew (w.heap.size + 1) 122 #[ii 0, ii 0, ii 0, nsl] := bR0
 obtain ⟨g, off, rfl, hgB, hcell0⟩ := (h.below hx0 hB).at_ hn0
 rw [Ho.out] at hcell0
 have hcell : W.drew.cell? ⟨g, off + n0, none⟩ = some (ii o) := hcell0
 have hgw : g < W.drew.heap.size := by have := hx0.size; show g < W.heap.size; omega
 have hX2 := hx0.drew
 clear bF0 hcell0
 obtain ⟨rc0, rc1, rc2, rc3⟩ := bR0.d4
 have rf0 := bR0.frozen 0
 have rf1 := bR0.frozen 1
 have rf2 := bR0.frozen 2
 have rf3 := bR0.frozen 3
 have rlt := bR0.lt
 refine wp_lexA [ff, ff, ff, ff, ff, ff, ff, ff, ff, ff, ff, ff, ff, ff, ff, ff, ff, true, ff, true] (fun w' => (w'.cell? ⟨w.heap.size, 0, none⟩ = some (ii p) ∧ w'.cell? ⟨w.heap.size, 1, none⟩ = some (ii (n0 : Int)) ∧ w'.cell? ⟨w.heap.size, 2, none⟩ = some (ii v) ∧ w'.cell? ⟨w.heap.size, 3, none⟩ = some (ii t)) ∧ w'.cell? ⟨g, off + n0, none⟩ = some (ii o)) (by exact ⟨bF.d4, hcell⟩) ?_
 repeat ((first | refine HL.tk ?_ | refine HL.sk ?_); try simp only [Act.put, qqA, qqB, qqC])
 refine hLc fun K hK => ?_
 go_simp
 refine hK.out _ _ (by exact ⟨(bF.alloc (.cells #[ii (n0 : Int), ii v, ii o] 192)).d4, (((((Nx.refl W.drew).alloc (.cells #[ii (n0 : Int), ii v, ii o] 192)))).cell (p := ⟨g, off + n0, none⟩) hgw).trans hcell⟩) ?_
 clear hK K
 try simp only [Act.put, qqA, qqB, qqC]
 repeat ((first | refine HL.tk ?_ | refine HL.sk ?_); try simp only [Act.put, qqA, qqB, qqC])
 refine hLc fun K hK => ?_
 go_simp
 refine hK.out _ _ (by exact ⟨(((((bF.far (p := ⟨(w.heap.size + 1), 0, none⟩) (by simp) (ii (p - 1))).far (p := ⟨(w.heap.size + 1), 1, none⟩) (by simp) (ii p)).far (p := ⟨(w.heap.size + 1), 2, none⟩) (by simp) (ii t)).far (p := ⟨(w.heap.size + 1), 3, none⟩) (by simp) (.slice (some ⟨W.heap.size, 0, none⟩) 1 1)).alloc (.cells #[ii (n0 : Int), ii v, ii o] 192)).d4, (((Nx.refl ((((W.drew.setCell ⟨(w.heap.size + 1), 0, none⟩ (ii (p - 1))).setCell ⟨(w.heap.size + 1), 1, none⟩ (ii p)).setCell ⟨(w.heap.size + 1), 2, none⟩ (ii t)).setCell ⟨(w.heap.size + 1), 3, none⟩ (.slice (some ⟨W.heap.size, 0, none⟩) 1 1))).alloc (.cells #[ii (n0 : Int), ii v, ii o] 192)).cell (p := ⟨g, off + n0, none⟩) (by simp [World.setCell]; exact hgw)).trans ((cell_far (((W.drew.setCell ⟨(w.heap.size + 1), 0, none⟩ (ii (p - 1))).setCell ⟨(w.heap.size + 1), 1, none⟩ (ii p)).setCell ⟨(w.heap.size + 1), 2, none⟩ (ii t)) ⟨(w.heap.size + 1), 3, none⟩ ⟨g, off + n0, none⟩ (.slice (some ⟨W.heap.size, 0, none⟩) 1 1) (by simp; omega)).trans ((cell_far ((W.drew.setCell ⟨(w.heap.size + 1), 0, none⟩ (ii (p - 1))).setCell ⟨(w.heap.size + 1), 1, none⟩ (ii p)) ⟨(w.heap.size + 1), 2, none⟩ ⟨g, off + n0, none⟩ (ii t) (by simp; omega)).trans ((cell_far (W.drew.setCell ⟨(w.heap.size + 1), 0, none⟩ (ii (p - 1))) ⟨(w.heap.size + 1), 1, none⟩ ⟨g, off + n0, none⟩ (ii p) (by simp; omega)).trans ((cell_far W.drew ⟨(w.heap.size + 1), 0, none⟩ ⟨g, off + n0, none⟩ (ii (p - 1)) (by simp; omega)).trans hcell))))⟩) ?_
 clear hK K
 try simp only [Act.put, qqA, qqB, qqC]
 refine HL.done ?_
 go_wp2_with fail
 have rq := (put4_box bR0 (ii (p - 1)) (ii p) (ii t) (.slice (some ⟨W.heap.size, 0, none⟩) 1 1)).alloc (.cells #[ii (n0 : Int), ii v, ii o] 192)
 have hnf := (put4_nx (g := (w.heap.size + 1)) hx0 (by omega) (ii (p - 1)) (ii p) (ii t) (.slice (some ⟨W.heap.size, 0, none⟩) 1 1)).alloc (.cells #[ii (n0 : Int), ii v, ii o] 192)
 unfold put4 at rq hnf
 have hsz3 : ((((W.setCell ⟨(w.heap.size + 1), 0, none⟩ (ii (p - 1))).setCell ⟨(w.heap.size + 1), 1, none⟩ (ii p)).setCell ⟨(w.heap.size + 1), 2, none⟩ (ii t)).setCell ⟨(w.heap.size + 1), 3, none⟩ (.slice (some ⟨W.heap.size, 0, none⟩) 1 1)).heap.size = W.heap.size := by simp [World.setCell]
 have bC3 := Box.new ((((W.setCell ⟨(w.heap.size + 1), 0, none⟩ (ii (p - 1))).setCell ⟨(w.heap.size + 1), 1, none⟩ (ii p)).setCell ⟨(w.heap.size + 1), 2, none⟩ (ii t)).setCell ⟨(w.heap.size + 1), 3, none⟩ (.slice (some ⟨W.heap.size, 0, none⟩) 1 1)) 192 #[ii (n0 : Int), ii v, ii o]
 rw [hsz3] at bC3
 have hlw := hx0.size
 have hSf : Sl _ w.heap.size (some ⟨W.heap.size, 0, none⟩) 192 (1 * 3) (chAt [((n0 : Int), v, xs.getD n0 0)]) := Sl.own (by rw [Ho.out]; exact one_own bC3) (by omega)
 clear hsz3
 generalize (((((W.setCell ⟨(w.heap.size + 1), 0, none⟩ (ii (p - 1))).setCell ⟨(w.heap.size + 1), 1, none⟩ (ii p)).setCell ⟨(w.heap.size + 1), 2, none⟩ (ii t)).setCell ⟨(w.heap.size + 1), 3, none⟩ (.slice (some ⟨W.heap.size, 0, none⟩) 1 1)).alloc (.cells #[ii (n0 : Int), ii v, ii o] 192)) = Wf at *
 obtain ⟨rg0, rg1, rg2, rg3⟩ := rq.d4
 exact bodyPost_ret (v := .agg #[ii (p - 1), ii p, ii t, .slice (some ⟨W.heap.size, 0, none⟩) 1 1]) (by simp [results, Tryz.results160, go_sem, rg0, rg1, rg2, rg3]) rfl ⟨_, 1, rfl, hSf, hnf.drew⟩
theorem valuesSegOf_c (xs : List Int) (p v t : Int) (n0 : Nat) (w : World) (h8 : xs.length = 8) (hn0 : n0 < 8) (hp1 : 1 ≤ p) (hp2 : p ≤ 9000000) :
 Calls Tryz.prog 206 #[vA xs, .agg #[ii p, ii (n0 : Int), ii v, ii t]] w (RetG w (p - 1) p t [((n0 : Int), v, xs.getD n0 0)]) := by
 unfold vA
 have hwp : IntKind.i64.wrap (p - 1) = p - 1 := IntWalk.i64_in _ (by omega)
 have bA0 : Box (((w.alloc (.cells #[inAt xs 0, inAt xs 1, inAt xs 2, inAt xs 3, inAt xs 4, inAt xs 5, inAt xs 6, inAt xs 7] 105)).alloc (.cells #[ii p, ii (n0 : Int), ii v, ii t] 55)).alloc (.cells #[ii 0, ii 0, ii 0, nsl] 122)) w.heap.size 105 #[inAt xs 0, inAt xs 1, inAt xs 2, inAt xs 3, inAt xs 4, inAt xs 5, inAt xs 6, inAt xs 7] := ((Box.new w _ _).alloc _).alloc _
 have bF0 : Box (((w.alloc (.cells #[inAt xs 0, inAt xs 1, inAt xs 2, inAt xs 3, inAt xs 4, inAt xs 5, inAt xs 6, inAt xs 7] 105)).alloc (.cells #[ii p, ii (n0 : Int), ii v, ii t] 55)).alloc (.cells #[ii 0, ii 0, ii 0, nsl] 122)) (w.heap.size + 1) 55 #[ii p, ii (n0 : Int), ii v, ii t] := by have := (Box.new (w.alloc (.cells #[inAt xs 0, inAt xs 1, inAt xs 2, inAt xs 3, inAt xs 4, inAt xs 5, inAt xs 6, inAt xs 7] 105)) 55 #[ii p, ii (n0 : Int), ii v, ii t]).alloc (.cells #[ii 0, ii 0, ii 0, nsl] 122); rwa [World.size_alloc] at this
 have bR0 : Box (((w.alloc (.cells #[inAt xs 0, inAt xs 1, inAt xs 2, inAt xs 3, inAt xs 4, inAt xs 5, inAt xs 6, inAt xs 7] 105)).alloc (.cells #[ii p, ii (n0 : Int), ii v, ii t] 55)).alloc (.cells #[ii 0, ii 0, ii 0, nsl] 122)) (w.heap.size + 1 + 1) 122 #[ii 0, ii 0, ii 0, nsl] := by have := Box.new ((w.alloc (.cells #[inAt xs 0, inAt xs 1, inAt xs 2, inAt xs 3, inAt xs 4, inAt xs 5, inAt xs 6, inAt xs 7] 105)).alloc (.cells #[ii p, ii (n0 : Int), ii v, ii t] 55)) 122 #[ii 0, ii 0, ii 0, nsl]; rwa [World.size_alloc, World.size_alloc] at this
 have hx0 := (((Nx.refl w).alloc (.cells #[inAt xs 0, inAt xs 1, inAt xs 2, inAt xs 3, inAt xs 4, inAt xs 5, inAt xs 6, inAt xs 7] 105)).alloc (.cells #[ii p, ii (n0 : Int), ii v, ii t] 55)).alloc (.cells #[ii 0, ii 0, ii 0, nsl] 122)
 go_enter Tryz.func206, Tryz.ntmps206
 go_wp2_with fail
 generalize (((w.alloc (.cells #[inAt xs 0, inAt xs 1, inAt xs 2, inAt xs 3, inAt xs 4, inAt xs 5, inAt xs 6, inAt xs 7] 105)).alloc (.cells #[ii p, ii (n0 : Int), ii v, ii t] 55)).alloc (.cells #[ii 0, ii 0, ii 0, nsl] 122)) = W at *
 obtain ⟨gF, HgF⟩ : ∃ g, Hid (w.heap.size + 1 = g) := ⟨_, rfl⟩
 obtain ⟨gR, HgR⟩ : ∃ g, Hid (w.heap.size + 1 + 1 = g) := ⟨_, rfl⟩
 have hgR : w.heap.size ≤ gR := by have := HgR.out; omega
 rw [HgR.out, HgF.out]
 rw [HgF.out] at bF0
 rw [HgR.out] at bR0
 have bF := bF0.nx (Nx.refl _).drew
 obtain ⟨o, Ho⟩ : ∃ o, Hid (xs.getD n0 0 = o) := ⟨_, rfl⟩
 have hcell : W.drew.cell? ⟨w.heap.size, n0, none⟩ = some (ii o) := by have := (box_inAt bA0).cell hn0; unfold inAt at this; rw [Ho.out] at this; exact this
 have hgw : w.heap.size < W.drew.heap.size := bA0.lt
 have hi0 : (0 : Int) ≤ (n0 : Int) := by omega
 have hi1 : (n0 : Int) < 8 := by omega
 refine wp_lexA [ff, ff, ff, ff, ff, ff, ff, ff, ff, true, true] (fun w' => (w'.cell? ⟨gF, 0, none⟩ = some (ii p) ∧ w'.cell? ⟨gF, 1, none⟩ = some (ii (n0 : Int)) ∧ w'.cell? ⟨gF, 2, none⟩ = some (ii v) ∧ w'.cell? ⟨gF, 3, none⟩ = some (ii t)) ∧ w'.cell? ⟨w.heap.size, n0, none⟩ = some (ii o)) (by exact ⟨bF.d4, hcell⟩) ?_
 repeat ((first | refine HL.tk ?_ | refine HL.sk ?_); try simp only [Act.put, qqA, qqB, qqC])
 refine hLc fun K hK => ?_
 go_simp
 refine hK.out _ _ (by exact ⟨(bF.alloc (.cells #[ii 0, ii 0, ii 0] 192)).d4, (((Nx.refl W.drew).alloc (.cells #[ii 0, ii 0, ii 0] 192)).cell (p := ⟨w.heap.size, n0, none⟩) hgw).trans hcell⟩) ?_
 clear hK K
 try simp only [Act.put, qqA, qqB, qqC]
 refine hLc fun K hK => ?_
 go_simp
 refine hK.out _ _ (by exact ⟨(bF.alloc (.cells #[ii (n0 : Int), ii v, ii o] 192)).d4, (((Nx.refl W.drew).alloc (.cells #[ii (n0 : Int), ii v, ii o] 192)).cell (p := ⟨w.heap.size, n0, none⟩) hgw).trans hcell⟩) ?_
 clear hK K
 try simp only [Act.put, qqA, qqB, qqC]
 refine HL.done ?_
 have bF2 := bF.alloc (.cells #[ii (n0 : Int), ii v, ii o] 192)
 have bR2 := (bR0.nx (Nx.refl W).drew).alloc (.cells #[ii (n0 : Int), ii v, ii o] 192)
 have bC2 : Box (W.drew.alloc (.cells #[ii (n0 : Int), ii v, ii o] 192)) W.heap.size 192 #[ii (n0 : Int), ii v, ii o] := Box.new W.drew 192 #[ii (n0 : Int), ii v, ii o]
 have hX2 := hx0.drew.alloc (.cells #[ii (n0 : Int), ii v, ii o] 192)
 have hgz : W.heap.size < (W.drew.alloc (.cells #[ii (n0 : Int), ii v, ii o] 192)).heap.size := bC2.lt
 change Exit.then _ _ _ _ (W.drew.alloc (.cells #[ii (n0 : Int), ii v, ii o] 192))
 generalize W.drew.alloc (.cells #[ii (n0 : Int), ii v, ii o] 192) = W3 at *
 obtain ⟨k0, k1, k2, k3⟩ := bF2.d4
 obtain ⟨m0, m1, m2⟩ := bC2.d3
 obtain ⟨rc0, rc1, rc2, rc3⟩ := bR2.d4
 have rf0 := bR2.frozen 0
 have rf1 := bR2.frozen 1
 have rf2 := bR2.frozen 2
 have rf3 := bR2.frozen 3
 have rlt := bR2.lt
 go_wp2
 have rq := (put4_box bR2 (ii (p - 1)) (ii p) (ii t) (.slice (some ⟨W3.heap.size, 0, none⟩) 1 1)).alloc (.cells #[ii (n0 : Int), ii v, ii o] 192)
 have hnf := (put4_nx (g := gR) hX2 (by omega) (ii (p - 1)) (ii p) (ii t) (.slice (some ⟨W3.heap.size, 0, none⟩) 1 1)).alloc (.cells #[ii (n0 : Int), ii v, ii o] 192)
 unfold put4 at rq hnf
 have hsz3 : ((((W3.setCell ⟨gR, 0, none⟩ (ii (p - 1))).setCell ⟨gR, 1, none⟩ (ii p)).setCell ⟨gR, 2, none⟩ (ii t)).setCell ⟨gR, 3, none⟩ (.slice (some ⟨W3.heap.size, 0, none⟩) 1 1)).heap.size = W3.heap.size := by simp [World.setCell]
 have bC3 := Box.new ((((W3.setCell ⟨gR, 0, none⟩ (ii (p - 1))).setCell ⟨gR, 1, none⟩ (ii p)).setCell ⟨gR, 2, none⟩ (ii t)).setCell ⟨gR, 3, none⟩ (.slice (some ⟨W3.heap.size, 0, none⟩) 1 1)) 192 #[ii (n0 : Int), ii v, ii o]
 rw [hsz3] at bC3
 have hlw := hX2.size
 have hSf : Sl _ w.heap.size (some ⟨W3.heap.size, 0, none⟩) 192 (1 * 3) (chAt [((n0 : Int), v, xs.getD n0 0)]) := Sl.own (by rw [Ho.out]; exact one_own bC3) (by omega)
 clear hsz3
 generalize (((((W3.setCell ⟨gR, 0, none⟩ (ii (p - 1))).setCell ⟨gR, 1, none⟩ (ii p)).setCell ⟨gR, 2, none⟩ (ii t)).setCell ⟨gR, 3, none⟩ (.slice (some ⟨W3.heap.size, 0, none⟩) 1 1)).alloc (.cells #[ii (n0 : Int), ii v, ii o] 192)) = Wf at *
 obtain ⟨rg0, rg1, rg2, rg3⟩ := rq.d4
 exact bodyPost_ret (v := .agg #[ii (p - 1), ii p, ii t, .slice (some ⟨W3.heap.size, 0, none⟩) 1 1]) (by simp [results, Tryz.results206, go_sem, rg0, rg1, rg2, rg3]) rfl ⟨_, 1, rfl, hSf, hnf⟩
end Go.Proofs.YtieoiailjjnnoaaGreatDoor
namespace Go.Proofs.YtieoiailjjnnoaaGreatDoor
set_option linter.unusedVariables false
set_option maxRecDepth 100000
set_option maxHeartbeats 16000000
open Go.Joins Go.ChangeShapes Go.WideShapes Go.RowKit Go.Deep

end Go.Proofs.YtieoiailjjnnoaaGreatDoor
namespace Go.Proofs.YtieoiailjjnnoaaGreatDoor
set_option linter.unusedVariables false
set_option maxRecDepth 100000
set_option maxHeartbeats 16000000
open Go.RowKit

def markAt (k i : Nat) : Value := ii ((k + i : Nat) : Int)
theorem toFrame_c (p b v t : Int) (w : World) :
 Calls Tryz.prog 35 #[.agg #[ii p, ii b, ii v, ii t]] w fun e w' => e = .returned (.agg #[ii p, ii b, ii v, ii t]) ∧ Nx w w' := by
 go_enter Tryz.func35, Tryz.ntmps35
 go_wp2
 exact bodyPost_ret (v := .agg #[ii p, ii b, ii v, ii t]) (by simp [results, Tryz.results35, go_sem]) rfl ⟨rfl, ((((Nx.refl _).alloc _).alloc _).alloc _)⟩

end Go.Proofs.YtieoiailjjnnoaaGreatDoor
namespace Go.Proofs.YtieoiailjjnnoaaGreatDoor
set_option linter.unusedVariables false
set_option maxRecDepth 100000
set_option maxHeartbeats 16000000
open Go.ChangeShapes Go.WideShapes Go.RowKit Go.Deep
def u8At (ys : List Nat) (i : Nat) : Value := .int .u8 ((ys.getD i 0 : Nat) : Int)
def U8s (w : World) (B : Nat) (A : Option Addr) (n : Nat) (ys : List Nat) : Prop := ys.length = n ∧ (∀ i, ys.getD i 0 < 256) ∧ Row w B A n (u8At ys)
section
variable {w w' : World} {B B' n : Nat} {A : Option Addr} {ys : List Nat}
theorem U8s.below (h : U8s w B A n ys) (hb : Below B' w w') (hB : B ≤ B') : U8s w' B A n ys := ⟨h.1, h.2.1, h.2.2.below hb hB⟩
theorem U8s.more (h : U8s w B A n ys) (hB : B ≤ B') : U8s w B' A n ys := ⟨h.1, h.2.1, h.2.2.more hB⟩
theorem U8s.rg {lo hi : Nat} (h : U8s w B A n ys) (hb : Rg lo hi w w') (hB : B ≤ lo) (hl : lo ≤ w.heap.size) : U8s w' B A n ys := h.below (hb.below hl) hB
theorem U8s.at_ {k : Nat} (h : U8s w B A n ys) (hk : k < n) : ∃ b off, A = some ⟨b, off, none⟩ ∧ b < B ∧ w.cell? ⟨b, off + k, none⟩ = some (.int .u8 ((ys.getD k 0 : Nat) : Int)) := by
 obtain ⟨b, off, e, hb, hc⟩ := h.2.2 (by omega)
 exact ⟨b, off, e, hb, hc k hk⟩
end
section
variable {w : World} {g : Nat} {t : TypeId} {v0 v1 v2 : Value}
theorem Box.d0 (h : Box w g t #[v0, v1, v2]) : w.cell? ⟨g, 0, none⟩ = some v0 := h.cell 0
theorem Box.d1 (h : Box w g t #[v0, v1, v2]) : w.cell? ⟨g, 1, none⟩ = some v1 := h.cell 1
theorem Box.d2 (h : Box w g t #[v0, v1, v2]) : w.cell? ⟨g, 2, none⟩ = some v2 := h.cell 2
end
def Src (w : World) (g : Nat) (A : Option Addr) (n c a sd : Nat) : Prop := Box w g 132 #[.slice A n c, ii a, ii sd]

end Go.Proofs.YtieoiailjjnnoaaGreatDoor
namespace Go.Proofs.YtieoiailjjnnoaaGreatDoor
set_option linter.unusedVariables false
set_option maxRecDepth 100000
set_option maxHeartbeats 16000000
open Go.RowKit
def SrcR (w : World) (g : Nat) (A : Option Addr) (n c k : Nat) : Prop := ∃ a sd, a ≤ k ∧ sd < 2147483648 ∧ Src w g A n c a sd
theorem SrcR.nx {w w' : World} {g n c k : Nat} {A : Option Addr} (h : SrcR w g A n c k) (hb : Nx w w') : SrcR w' g A n c k := by
 obtain ⟨a, sd, h1, h2, h3⟩ := h
 unfold Src at h3
 exact ⟨a, sd, h1, h2, h3.nx hb⟩
theorem SrcR.lt {w : World} {g n c k : Nat} {A : Option Addr} (h : SrcR w g A n c k) : g < w.heap.size := by
 obtain ⟨a, sd, h1, h2, h3⟩ := h
 unfold Src at h3
 exact h3.lt
theorem SrcR.more {w : World} {g n c k k' : Nat} {A : Option Addr} (h : SrcR w g A n c k) (hk : k ≤ k') : SrcR w g A n c k' := by
 obtain ⟨a, sd, h1, h2, h3⟩ := h
 exact ⟨a, sd, by omega, h2, h3⟩
def iV (xs : List Int) : List Value := xs.map fun x => ii x
theorem iV_get (xs : List Int) (i : Nat) (h : i < xs.length) : (iV xs)[i]? = some (inAt xs i) := by
 unfold iV inAt
 rw [List.getElem?_map, List.getElem?_eq_getElem h, gdE, List.getElem?_eq_getElem h]; rfl
def RowI (w : World) (B : Nat) (v : Value) (xs : List Int) : Prop := w.ownsRow B 3 1 v xs.length (iV xs)
theorem RowI.new (w : World) {B : Nat} (hB : B ≤ w.heap.size) : RowI (w.alloc (.cells #[] 3)) B (.slice (some ⟨w.heap.size, 0, none⟩) 0 0) [] :=
 ⟨rfl, .inr ⟨_, 0, #[], rfl, hB, heap_alloc_new w _, by simp, by unfold maxLen; omega, rfl, rfl⟩⟩
theorem RowI.sl {w : World} {B : Nat} {v : Value} {xs : List Int} (h : RowI w B v xs) : ∃ A c, v = .slice A xs.length c ∧ Sl w B A 3 xs.length (inAt xs) := by
 rcases h.2 with ⟨rfl, h0⟩ | ⟨g, cap, cur, rfl, hb, hg, hnc, _, hcs, htk⟩
 · exact ⟨none, 0, by rw [h0], fun hn => by omega⟩
 · refine ⟨_, cap, rfl, Sl.own ⟨cur, hg, by omega, fun i hi => ?_⟩ hb⟩
   have h1 : (cur.toList.take (xs.length * 1))[i]? = some (inAt xs i) := by rw [htk]; exact iV_get xs i hi
   rw [List.getElem?_take_of_lt (by omega)] at h1
   simpa using h1
theorem RowI.nx {w w' : World} {B : Nat} {v : Value} {xs : List Int} (h : RowI w B v xs) (hb : Nx w w') : RowI w' B v xs := by
 refine World.ownsRow.kept (row := none) h ⟨hb.os, hb.tape, hb.output, hb.size, fun i hi _ => hb.block i hi⟩ ?_
 cases hv : v.ownBlock with
 | none => exact .inl rfl
 | some g => exact .inr (by simp)
theorem RowI.rg {w w' : World} {B lo hi : Nat} {v : Value} {xs : List Int} (h : RowI w B v xs) (hr : Rg lo hi w w') (hh : hi ≤ B) : RowI w' B v xs := by
 rcases h.2 with ⟨rfl, h0⟩ | ⟨g, cap, cur, rfl, hb, hg, r⟩
 · exact ⟨h.1, .inl ⟨rfl, h0⟩⟩
 · have hlt := (World.ownsRow.lt h g rfl).2
   exact ⟨h.1, .inr ⟨g, cap, cur, rfl, hb, (hr.block g hlt (.inr (by omega))).trans hg, r⟩⟩
theorem RowI.ne {w : World} {B g : Nat} {v : Value} {xs : List Int} {t : TypeId} {ys : Array Value} (h : RowI w B v xs) (hb : Box w g t ys) (ht : t ≠ 3) : some g ≠ v.ownBlock := by
 intro he
 rcases h.2 with ⟨rfl, _⟩ | ⟨g', cap, cur, rfl, _, hg, _⟩
 · simp [Value.ownBlock] at he
 · obtain rfl : g = g' := by simpa [Value.ownBlock] using he
   unfold Box at hb
   rw [hg] at hb
   injection hb with hb
   injection hb with _ hb
   exact ht hb.symm
structure GrewT (t : TypeId) (B : Nat) (w w' : World) : Prop where
 nx : ∀ a, Nx a w → a.heap.size ≤ B → Nx a w'
 rg : ∀ lo hi a, Rg lo hi a w → a.heap.size ≤ B → Rg lo hi a w'
 box : ∀ g t' xs, t' ≠ t → Box w g t' xs → Box w' g t' xs
 size : w.heap.size ≤ w'.heap.size
theorem wpList_addI {w : World} {ops : Array Oper} {rest : List Oper} {o : Oper} {a : Act} {Q : Exit → Act → World → Prop}
 (hgd : o.guard = none) (s x : Operand) (ho : o.op = .call { callee := .builtin .append, args := #[s, x], argTypes := #[23, 23] })
 (B gd : Nat) (v : Value) (xs : List Int) (x0 : Int) (hs : a.eval s = v) (hx : a.eval x = .slice (some ⟨gd, 0, none⟩) 1 1) (hown : RowI w B v xs) (hbx : Box w gd 3 #[ii x0])
 (hl : xs.length ≤ 1048576) (hB : B ≤ w.heap.size)
 (hK : ∀ A' k' w', RowI w' B (.slice A' (xs.length + 1) k') (xs ++ [x0]) → GrewT 3 B w w' → wpList Tryz.prog ops Q rest (a.put o.dst (.slice A' (xs.length + 1) k')) w') :
 wpList Tryz.prog ops Q (o :: rest) a w := by
 obtain ⟨i0, hi0, hz0, hz1, hz2⟩ := info_parts info_int
 refine wpList_append_own w hgd s x 23 ho B 3 i0 _ 1 8 Tryz.underlying23 hi0 hz0 hz1 hz2 rfl (by omega) v xs.length _ hs hown ⟨gd, 0, none⟩ 1 1 [ii x0] hx rfl (fun j u hj => ?_) (fun u hu => by simp only [List.mem_cons, List.not_mem_nil, or_false] at hu; rcases hu with rfl; rfl) (by unfold maxLen; omega) (by omega) hB ?_
 · rw [addr_add', Nat.zero_add, hbx.cell j]
   rw [← hj]
   rcases j with _ | j <;> simp
 · intro v' w' hw' hg' _
   have hr : RowI w' B v' (xs ++ [x0]) := by
    unfold RowI iV
    rw [List.map_append, List.length_append]
    exact hw'
   obtain ⟨A', k', rfl, _⟩ := hr.sl
   rw [List.length_append] at hr ⊢
   have hrow : ∀ k, Value.ownBlock v = some k → B ≤ k := fun k hk => (World.ownsRow.lt hown k hk).1
   refine hK A' k' w' hr ⟨fun b hb hbB => Below.grown hb hg' hb.size (fun k hk => ntr hbB (hrow k hk)), fun lo hi b hb hbB => ?_, fun g t xs' ht hbg => hbg.grown hg' (hown.ne hbg ht), hg'.size⟩
   refine ⟨hg'.os.trans hb.os, hg'.tape.trans hb.tape, hg'.output.trans hb.output, ntr hb.size hg'.size, fun k hk hr => (hg'.block k (Nat.lt_of_lt_of_le hk hb.size) fun e => ?_).trans (hb.block k hk hr)⟩
   have := hrow k e.symm
   omega
theorem RowI.nil (w : World) (B : Nat) : RowI w B (nsl) [] := ⟨rfl, .inl ⟨rfl, rfl⟩⟩
theorem RowI.slc {w : World} {B : Nat} {v : Value} {xs : List Int} (h : RowI w B v xs) : ∃ A c, v = .slice A xs.length c ∧ xs.length ≤ c ∧ Sl w B A 3 xs.length (inAt xs) := by
 rcases h.2 with ⟨rfl, h0⟩ | ⟨g, cap, cur, rfl, hb, hg, hnc, _, hcs, htk⟩
 · exact ⟨none, 0, by rw [h0], by omega, fun hn => by omega⟩
 · refine ⟨_, cap, rfl, by omega, Sl.own ⟨cur, hg, by omega, fun i hi => ?_⟩ hb⟩
   have h1 : (cur.toList.take (xs.length * 1))[i]? = some (inAt xs i) := by rw [htk]; exact iV_get xs i hi
   rw [List.getElem?_take_of_lt (by omega)] at h1
   simpa using h1

def Sm (xs : List Int) : Prop := ∀ x ∈ xs, 0 ≤ x ∧ x < 90
theorem Sm.add {xs : List Int} (h : Sm xs) {v : Nat} (hv : v < 90) : Sm (xs ++ [(v : Int)]) := fun x hx => by
 rcases List.mem_append.1 hx with hx | hx
 · exact h x hx
 · simp only [List.mem_singleton] at hx
   subst hx
   omega
theorem Sm.cont {xs : List Int} (h : Sm xs) (hl : xs.length = 8) : contB xs = true := by
 unfold contB
 rw [decide_eq_true hl, List.all_eq_true.2 fun x hx => by have := h x hx; unfold inB; simp; omega]; rfl
theorem SrcR.rgO {w w' : World} {B : Nat} {g n c k : Nat} {A : Option Addr} (h : SrcR w g A n c k) (hb : GrewT 3 B w w') : SrcR w' g A n c k := by
 obtain ⟨a, sd, h1, h2, h3⟩ := h
 unfold Src at h3
 exact ⟨a, sd, h1, h2, hb.box _ _ _ (by decide) h3⟩

def two (b b2 : Nat) (v o v2 o2 : Int) : List Chg := if b = b2 then [((b : Int), v2, o)] else if b < b2 then [((b : Int), v, o), ((b2 : Int), v2, o2)] else [((b2 : Int), v2, o2), ((b : Int), v, o)]
theorem ch_one {b v o : Int} (h : chB (b, v, o) = true) : chsB [(b, v, o)] = true := OkTo.all fun j hj => by
 obtain rfl : j = 0 := by simp at hj; omega
 unfold okCh
 show (chB (b, v, o) && _) = true
 rw [h]; rfl
theorem chB_mk {b v o : Int} (h0 : 0 ≤ b) (h1 : b ≤ 7) (h2 : 0 ≤ v) (h3 : v ≤ 999999) (h4 : 0 ≤ o) (h5 : o ≤ 999999) : chB (b, v, o) = true := by
 unfold chB
 rw [inB_mk h0 h1, inB_mk h2 h3, inB_mk h4 h5]; rfl
theorem app_one (p : Chg → Int) (xs : List Int) (b : Nat) (v o : Int) : app p xs [((b : Int), v, o)] = xs.set b (p ((b : Int), v, o)) := by
 show xs.set ((b : Int)).toNat _ = _
 rw [Int.toNat_natCast]
theorem getD_set_self {xs : List Int} {b : Nat} (h : b < xs.length) (v : Int) : (xs.set b v).getD b 0 = v := by
 rw [gdE, List.getElem?_set]; simp [h]
theorem getD_set_ne {xs : List Int} {b b2 : Nat} (h : b ≠ b2) (v : Int) : (xs.set b v).getD b2 0 = xs.getD b2 0 := by
 rw [gdE, gdE, List.getElem?_set_ne h]
theorem set_getD {xs : List Int} {b : Nat} (h : b < xs.length) : xs.set b (xs.getD b 0) = xs := by
 rw [gdE, List.getElem?_eq_getElem h]
 exact List.set_getElem_self h
end Go.Proofs.YtieoiailjjnnoaaGreatDoor
namespace Go.Proofs.YtieoiailjjnnoaaGreatDoor
set_option linter.unusedVariables false
set_option maxRecDepth 100000
set_option maxHeartbeats 16000000
open Go.Joins Go.ChangeShapes Go.WideShapes Go.RowKit Go.Deep
structure SgR where
 f : Int
 t : Int
 m : Int
 A : Option Addr
 c : Nat
 cs : List Chg
def sgZ : SgR := ⟨0, 0, 0, none, 0, []⟩
def SgR.v (g : SgR) : Sg4 := (g.f, g.t, g.m, g.cs)
def sgAt (gs : List SgR) (i : Nat) : Value :=
 if i % 4 = 0 then ii (gs.getD (i / 4) sgZ).f else if i % 4 = 1 then ii (gs.getD (i / 4) sgZ).t else if i % 4 = 2 then ii (gs.getD (i / 4) sgZ).m else .slice (gs.getD (i / 4) sgZ).A (gs.getD (i / 4) sgZ).cs.length (gs.getD (i / 4) sgZ).c
theorem sgAt0 (gs : List SgR) (k : Nat) : sgAt gs (k * 4) = ii (gs.getD k sgZ).f := by
 unfold sgAt; rw [if_pos (by omega), show k * 4 / 4 = k by omega]
theorem sgAt1 (gs : List SgR) (k : Nat) : sgAt gs (k * 4 + 1) = ii (gs.getD k sgZ).t := by
 unfold sgAt; rw [if_neg (by omega), if_pos (by omega), show (k * 4 + 1) / 4 = k by omega]
theorem sgAt2 (gs : List SgR) (k : Nat) : sgAt gs (k * 4 + 2) = ii (gs.getD k sgZ).m := by
 unfold sgAt; rw [if_neg (by omega), if_neg (by omega), if_pos (by omega), show (k * 4 + 2) / 4 = k by omega]
theorem sgAt3 (gs : List SgR) (k : Nat) : sgAt gs (k * 4 + 3) = .slice (gs.getD k sgZ).A (gs.getD k sgZ).cs.length (gs.getD k sgZ).c := by
 unfold sgAt; rw [if_neg (by omega), if_neg (by omega), if_neg (by omega), show (k * 4 + 3) / 4 = k by omega]
theorem sgAt_app (gs hs : List SgR) (i : Nat) (h : i < gs.length * 4) : sgAt (gs ++ hs) i = sgAt gs i := by
 have e : (gs ++ hs).getD (i / 4) sgZ = gs.getD (i / 4) sgZ := by
  rw [gdE, gdE, List.getElem?_append_left (by omega)]
 unfold sgAt; rw [e]
theorem getD_app (gs : List SgR) (g : SgR) : (gs ++ [g]).getD gs.length sgZ = g := by
 rw [gdE, List.getElem?_append_right nle]; simp
theorem getD_app_lt (gs : List SgR) (g : SgR) {k : Nat} (h : k < gs.length) : (gs ++ [g]).getD k sgZ = gs.getD k sgZ := by
 rw [gdE, gdE, List.getElem?_append_left h]
theorem v_at {gs hs : List SgR} (h : gs.map SgR.v = hs.map SgR.v) (k : Nat) : (gs.getD k sgZ).v = (hs.getD k sgZ).v := by
 have e : (gs.map SgR.v)[k]? = (hs.map SgR.v)[k]? := by rw [h]
 rw [List.getElem?_map, List.getElem?_map] at e
 rw [gdE, gdE]
 cases h1 : gs[k]? <;> cases h2 : hs[k]? <;> rw [h1, h2] at e <;> simp at e
 · exact e
theorem v_len {gs hs : List SgR} (h : gs.map SgR.v = hs.map SgR.v) : gs.length = hs.length := by
 have := congrArg List.length h
 simpa using this
structure Sgs (w : World) (B : Nat) (A : Option Addr) (gs : List SgR) : Prop where
 row : Row w B A (gs.length * 4) (sgAt gs)
 chs : ∀ k, k < gs.length → Chs w B (gs.getD k sgZ).A (gs.getD k sgZ).cs
theorem Sgs.below {w w' : World} {B B' : Nat} {A : Option Addr} {gs : List SgR} (h : Sgs w B A gs) (hb : Below B' w w') (hB : B ≤ B') : Sgs w' B A gs := ⟨h.row.below hb hB, fun k hk => (h.chs k hk).below hb hB⟩
theorem Row.at4 {w : World} {B k : Nat} {A : Option Addr} {gs : List SgR} (h : Row w B A (gs.length * 4) (sgAt gs)) (hk : k < gs.length) :
 ∃ b off, A = some ⟨b, off, none⟩ ∧ b < B ∧ w.cell? ⟨b, off + k * 4, none⟩ = some (ii (gs.getD k sgZ).f) ∧ w.cell? ⟨b, off + k * 4 + 1, none⟩ = some (ii (gs.getD k sgZ).t) ∧ w.cell? ⟨b, off + k * 4 + 2, none⟩ = some (ii (gs.getD k sgZ).m)
   ∧ w.cell? ⟨b, off + k * 4 + 3, none⟩ = some (.slice (gs.getD k sgZ).A (gs.getD k sgZ).cs.length (gs.getD k sgZ).c) := by
 obtain ⟨b, off, e, hb, hc⟩ := h (by omega)
 have h0 := hc (k * 4) (by omega)
 have h1 := hc (k * 4 + 1) (by omega)
 have h2 := hc (k * 4 + 2) (by omega)
 have h3 := hc (k * 4 + 3) (by omega)
 rw [sgAt0] at h0
 rw [sgAt1] at h1
 rw [sgAt2] at h2
 rw [sgAt3] at h3
 exact ⟨b, off, e, hb, h0, h1, h2, h3⟩
structure SgO (w : World) (lo : Nat) (A : Option Addr) (gs : List SgR) : Prop where
 row : Sl w lo A 122 (gs.length * 4) (sgAt gs)
 chs : ∀ k, k < gs.length → Sl w lo (gs.getD k sgZ).A 192 ((gs.getD k sgZ).cs.length * 3) (chAt (gs.getD k sgZ).cs)
theorem SgO.nx {w w' : World} {lo : Nat} {A : Option Addr} {gs : List SgR} (h : SgO w lo A gs) (hb : Nx w w') : SgO w' lo A gs := ⟨h.row.nx hb, fun k hk => (h.chs k hk).nx hb⟩
theorem SgO.low {w : World} {lo lo' : Nat} {A : Option Addr} {gs : List SgR} (h : SgO w lo A gs) (hl : lo' ≤ lo) : SgO w lo' A gs := ⟨h.row.low hl, fun k hk => (h.chs k hk).low hl⟩
theorem SgO.sgs {w : World} {lo : Nat} {A : Option Addr} {gs : List SgR} (h : SgO w lo A gs) : Sgs w w.heap.size A gs := ⟨h.row.row, fun k hk => (h.chs k hk).row⟩
def ssum (gs : List SgR) (k : Nat) : Nat := ((gs.take k).map fun g => g.cs.length).sum
theorem ssum_zero (gs : List SgR) : ssum gs 0 = 0 := rfl
theorem ssum_succ {gs : List SgR} {k : Nat} (hk : k < gs.length) : ssum gs (k + 1) = ssum gs k + (gs.getD k sgZ).cs.length := by
 unfold ssum
 rw [List.take_succ_eq_append_getElem hk, List.map_append, List.sum_append, gdE, List.getElem?_eq_getElem hk]
 simp
theorem info_sg : (Tryz.prog.info? 122).map (fun i => (i.zero, i.size, i.bytes)) = some (some (.agg #[ii 0, ii 0, ii 0, nsl]), 4, 48) := by kernel_rfl
theorem Fill.congr {w : World} {g : Nat} {t : TypeId} {m k : Nat} {F F' : Nat → Value} (h : Fill w g t m k F) (hf : ∀ i, i < k → F i = F' i) : Fill w g t m k F' := by
 obtain ⟨f, h, hF⟩ := h
 exact ⟨f, h, fun i hi => (hF i hi).trans (hf i hi)⟩
end Go.Proofs.YtieoiailjjnnoaaGreatDoor
namespace Go.Proofs.YtieoiailjjnnoaaGreatDoor
set_option linter.unusedVariables false
set_option maxRecDepth 100000
set_option maxHeartbeats 16000000
open Go.RowKit
def atK (base : Int) (gs : List SgR) : Nat → Int
 | 0 => base
 | k + 1 => (gs.getD k sgZ).t
def tmK (gs : List SgR) : Nat → Int
 | 0 => 0
 | k + 1 => (gs.getD k sgZ).m
def mpK (gs : List SgR) : Nat → Int → Option Chg
 | 0 => noM
 | k + 1 => noteM (mpK gs k) (gs.getD k sgZ).cs
def onC (M : Int → Option Chg) (c : Chg) : Bool := match M c.1 with
 | some a => decide (a.2.1 = c.2.2)
 | none => true
def onB (M : Int → Option Chg) (cs : List Chg) : Bool := cs.all (onC M)
def sgB (g : SgR) : Bool := segB g.f g.t g.m g.cs
def lnk (base : Int) (gs : List SgR) (k : Nat) : Bool := sgB (gs.getD k sgZ) && decide ((gs.getD k sgZ).f = atK base gs k) && decide (tmK gs k ≤ (gs.getD k sgZ).m) && onB (mpK gs k) (gs.getD k sgZ).cs
def chainB (base : Int) (gs : List SgR) : Bool := decide (gs.length ≤ 4096) && inB 0 999999 base && (List.range gs.length).all (lnk base gs)
def LnTo (base : Int) (gs : List SgR) (k : Nat) : Prop := ∀ j, j < k → lnk base gs j = true
theorem LnTo.zero (base : Int) (gs : List SgR) : LnTo base gs 0 := fun j h => absurd h (by omega)
theorem LnTo.succ {base : Int} {gs : List SgR} {k : Nat} (h : LnTo base gs k) (hk : lnk base gs k = true) : LnTo base gs (k + 1) := fun j hj => by
 rcases Nat.lt_or_ge j k with hlt | hge
 · exact h j hlt
 · obtain rfl : j = k := by omega
   exact hk
theorem LnTo.all {base : Int} {gs : List SgR} (h : LnTo base gs gs.length) (hl : gs.length ≤ 4096) (hb : inB 0 999999 base = true) : chainB base gs = true := by
 unfold chainB
 rw [decide_eq_true hl, hb, List.all_eq_true.2 fun j hj => h j (by simpa using hj)]; rfl
theorem chainB_no {base : Int} {gs : List SgR} {k : Nat} (hk : k < gs.length) (h : lnk base gs k = false) : chainB base gs = false := by
 unfold chainB
 rw [List.all_eq_false.2 ⟨k, by simpa using hk, by rw [h]; simp⟩]; simp
theorem chainB_long {base : Int} {gs : List SgR} (h : ¬ gs.length ≤ 4096) : chainB base gs = false := by
 unfold chainB; rw [decide_eq_false h]; rfl
theorem chainB_base {base : Int} {gs : List SgR} (h : inB 0 999999 base = false) : chainB base gs = false := by
 unfold chainB; rw [h]; simp
theorem lnk_parts {base : Int} {gs : List SgR} {k : Nat} {g : SgR} (hg : gs.getD k sgZ = g) : lnk base gs k = (segB g.f g.t g.m g.cs && decide (g.f = atK base gs k) && decide (tmK gs k ≤ g.m) && onB (mpK gs k) g.cs) := by
 unfold lnk sgB; rw [hg]
theorem onB_no {M : Int → Option Chg} {cs : List Chg} {k : Nat} (hk : k < cs.length) (h : onC M (cs.getD k chZ) = false) : onB M cs = false := by
 unfold onB
 rw [List.all_eq_false]
 rw [gdE, List.getElem?_eq_getElem hk] at h
 exact ⟨cs[k], List.getElem_mem _, by simp only [Option.getD_some] at h; rw [h]; simp⟩
def OnTo (M : Int → Option Chg) (cs : List Chg) (k : Nat) : Prop := ∀ j, j < k → onC M (cs.getD j chZ) = true
theorem OnTo.zero (M : Int → Option Chg) (cs : List Chg) : OnTo M cs 0 := fun j h => absurd h (by omega)
theorem OnTo.succ {M : Int → Option Chg} {cs : List Chg} {k : Nat} (h : OnTo M cs k) (hk : onC M (cs.getD k chZ) = true) : OnTo M cs (k + 1) := fun j hj => by
 rcases Nat.lt_or_ge j k with hlt | hge
 · exact h j hlt
 · obtain rfl : j = k := by omega
   exact hk
theorem OnTo.all {M : Int → Option Chg} {cs : List Chg} (h : OnTo M cs cs.length) : onB M cs = true := List.all_eq_true.2 fun x hx => by
 obtain ⟨j, hj, rfl⟩ := List.mem_iff_getElem.1 hx
 have := h j hj
 rwa [gdE, List.getElem?_eq_getElem hj] at this
theorem goesOnFrom_c (f t m : Int) (A : Option Addr) (c B b : Nat) (cs : List Chg) (M : Int → Option Chg) (w : World) (h : Chs w B A cs) (hm : MapC w b M) (hB : B ≤ w.heap.size) (hok : chsB cs = true) :
 Calls Tryz.prog 202 #[.agg #[ii f, ii t, ii m, .slice A cs.length c], .map (some b)] w fun e w' => e = .returned (.bool (onB M cs)) ∧ Nx w w' := by
 have hl8 := chsB_len hok
 have hto := chsB_to hok
 have hbw := hm.lt
 clear hok
 go_enter Tryz.func202, Tryz.ntmps202
 go_wp2_with fail
 have hr0 : Nx w (w.alloc (.cells #[ii f, ii t, ii m, .slice A cs.length c] 122)) := (Nx.refl w).alloc _
 generalize w.alloc (.cells #[ii f, ii t, ii m, .slice A cs.length c] 122) = W at *
 go_loopw [12] (fun i wr => ∃ k : Nat, k ≤ cs.length ∧ i = ii k ∧ OnTo M cs k ∧ Nx w wr) (fun i _ => cs.length - (intOf i).toNat)
 case atStart => exact ⟨0, Nat.zero_le _, rfl, OnTo.zero _ _, hr0⟩
 case round =>
  obtain ⟨k, hk, rfl, hon, hnx⟩ := hrel
  clear hr0
  by_cases hlt : k < cs.length
  · obtain ⟨b', off, rfl, hb, k0, k1, k2⟩ := (h.below hnx hB).at_ hlt
    obtain ⟨hr0, hr1⟩ := hto.rise k hlt
    have HN := qh (fun (hh : onC M (cs.getD k chZ) = false) => onB_no hlt hh)
    have HY := qh (fun (hh : onC M (cs.getD k chZ) = true) => hon.succ hh)
    obtain ⟨⟨q0, q1, q2⟩, Hq⟩ : ∃ q, Hid (cs.getD k chZ = q) := ⟨_, rfl⟩
    rw [Hq.out] at k0 k1 k2 hr0 hr1 HN HY
    have hwf := wf_small (q := q0) (by simp only at hr0; omega) hr1
    have hma := (hm.nx hnx).alloc (.cells #[ii q0, ii q1, ii q2] 192)
    have hlk := hma.look hwf
    clear hon
    cases hMk : M q0 with
    | none =>
      rw [hMk] at hlk
      have hlk' : (Instr.lookup 232 (.map (some b)) (ii q0) true).run Tryz.prog (wr.alloc (.cells #[ii q0, ii q1, ii q2] 192)) = .ok (.tuple #[.agg #[ii 0, ii 0, ii 0], .bool false]) (wr.alloc (.cells #[ii q0, ii q1, ii q2] 192)) := hlk
      have HM := qh (HY.out (by unfold onC; rw [hMk]))
      clear hlk hMk HN HY
      go_wp2
      go_roundw
      case rel => exact ⟨k + 1, by omega, by go_num, HM.out, (hnx.alloc _).alloc _⟩
      case measure => simp [intOf]; omega
    | some p =>
      obtain ⟨p0, p1, p2⟩ := p
      rw [hMk] at hlk
      have hlk' : (Instr.lookup 232 (.map (some b)) (ii q0) true).run Tryz.prog (wr.alloc (.cells #[ii q0, ii q1, ii q2] 192)) = .ok (.tuple #[.agg #[ii p0, ii p1, ii p2], .bool true]) (wr.alloc (.cells #[ii q0, ii q1, ii q2] 192)) := hlk
      clear hlk
      by_cases hpq : p1 = q2
      · have hd : (p1 != q2) = false := by simp [hpq]
        have HM := qh (HY.out (by unfold onC; rw [hMk]; simp [hpq]))
        clear hMk HN HY hpq
        go_wp2
        go_roundw
        case rel => exact ⟨k + 1, by omega, by go_num, HM.out, (hnx.alloc _).alloc _⟩
        case measure => simp [intOf]; omega
      · have hd : (p1 != q2) = true := by simp [hpq]
        have HM := qh (HN.out (by unfold onC; rw [hMk]; simp [hpq]))
        clear hMk HN HY hpq
        go_wp2
        go_ret
        exact ⟨by rw [HM.out]; rfl, (hnx.alloc _).alloc _⟩
  · obtain rfl : k = cs.length := by omega
    have HM := qh hon.all
    go_wp2
    go_ret
    exact ⟨by rw [HM.out]; rfl, hnx⟩
end Go.Proofs.YtieoiailjjnnoaaGreatDoor
