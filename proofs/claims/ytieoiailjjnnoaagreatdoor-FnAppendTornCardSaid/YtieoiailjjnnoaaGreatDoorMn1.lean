/-
  Texts of the proof, in their order.
  Conditions: those of each.
-/
import Derived.Test.YtieoiailjjnnoaaGreatDoorMn0
import Derived.IntWalk
import Derived.Lib.SmallJoins
import Derived.ChangeSame
import Derived.Deep.Fields
import Derived.Deep.Slices
import Derived.Deep.Strs
import Derived.StillTailTactics
import Derived.Deep.QuietTactic
import Derived.BigQuiet
import Derived.Deep.RegionHeld
import Derived.Outline
namespace Go.Proofs.YtieoiailjjnnoaaGreatDoor
set_option linter.unusedVariables false
open _root_.Go.Proofs.Tryz
set_option maxRecDepth 100000
set_option maxHeartbeats 16000000
section
open Go.RowKit
inductive Pl where
 | e
 | t (k : Nat) (r : Pl)
 | c (k : Nat) (r : Pl)
 | b (j : Nat) (r1 : Pl) (k : Nat) (r2 : Pl)
 | d (i : Nat) (r0 : Pl) (j : Nat) (r1 : Pl) (k : Nat) (r2 : Pl)
inductive Ps where
 | e
 | t (o : Oper) (r : Ps)
 | c (o : Oper) (r : Ps)
 | b (oj : Oper) (r1 : Ps) (ok : Oper) (r2 : Ps)
 | d (oi : Oper) (r0 : Ps) (oj : Oper) (r1 : Ps) (ok : Oper) (r2 : Ps)
def noOp : Oper := { dst := none, op := Op.move (Operand.const undef), type := 0, pos := "", after := #[], guard := none }
def psOf (l : List Oper) : Pl -> Ps
 | .e => .e
 | .t k r => .t (l.getD k noOp) (psOf l r)
 | .c k r => .c (l.getD k noOp) (psOf l r)
 | .b j r1 k r2 => .b (l.getD j noOp) (psOf l r1) (l.getD k noOp) (psOf l r2)
 | .d i r0 j r1 k r2 => .d (l.getD i noOp) (psOf l r0) (l.getD j noOp) (psOf l r1) (l.getD k noOp) (psOf l r2)
theorem callAt {P : Program} (f : FuncId) {a : Array Value} {w : World} {R : Ending -> World -> Prop} (h : Calls P f a w R) : Calls P f a w R := h
section
variable {P : Program} {ops : Array Oper} {Q : Exit -> Act -> World -> Prop} {S : World -> Prop}
def CallStep (P : Program) (ops : Array Oper) (Q : Exit -> Act -> World -> Prop) (S : World -> Prop) (o : Oper) (R : Act -> World -> Prop) (a : Act) (w : World) : Prop :=
 Region.wanted o (yielded ops a.tmps) = true /\ ∀ K : Act -> World -> Prop, Hid (∀ a' w', S w' -> R a' w' -> K a' w') -> o.wp P a w K Q
def HP (P : Program) (ops : Array Oper) (Q : Exit -> Act -> World -> Prop) (S : World -> Prop) : Ps -> Act -> World -> Prop
 | .e, a, w => Q .normal a w
 | .t o r, a, w => ∃ v, YieldsIf P ops S o v a /\ HP P ops Q S r (a.put o.dst v) w
 | .c o r, a, w => CallStep P ops Q S o (HP P ops Q S r) a w
 | .b oj r1 ok r2, a, w => CallStep P ops Q S oj (HP P ops Q S r1) a w /\ CallStep P ops Q S ok (HP P ops Q S r2) a w
 | .d oi r0 oj r1 ok r2, a, w => CallStep P ops Q S oi (HP P ops Q S r0) a w /\ CallStep P ops Q S oj (HP P ops Q S r1) a w /\ CallStep P ops Q S ok (HP P ops Q S r2) a w
def steps : Pl -> Nat
 | .e => 0
 | .t _ r => steps r + 1
 | .c _ r => steps r + 1
 | .b _ r1 _ _ => steps r1 + 1
 | .d _ r0 _ _ _ _ => steps r0 + 1
def planB (md : Region.Mode) (ops : Array Oper) : Pl -> Array Bool -> Bool
 | .e, listed => Region.ready md ops listed == []
 | .t k r, listed => decide (k < ops.size) && (Region.ready md ops listed).contains k && Region.free md ops listed k && planB md ops r (listed.setIfInBounds k true)
 | .c k r, listed => decide (k < ops.size) && (Region.ready md ops listed == [k]) && planB md ops r (listed.setIfInBounds k true)
 | .b j r1 k r2, listed => decide (j < ops.size) && decide (k < ops.size) && (Region.ready md ops listed == [j, k]) && decide (steps r2 = steps r1) && planB md ops r1 (listed.setIfInBounds j true) && planB md ops r2 (listed.setIfInBounds k true)
 | .d i r0 j r1 k r2, listed => decide (i < ops.size) && decide (j < ops.size) && decide (k < ops.size) && (Region.ready md ops listed == [i, j, k]) && decide (steps r1 = steps r0) && decide (steps r2 = steps r0) && planB md ops r0 (listed.setIfInBounds i true) && planB md ops r1 (listed.setIfInBounds j true) && planB md ops r2 (listed.setIfInBounds k true)
theorem HP.take {o : Oper} {r : Ps} {a : Act} {w : World} {v : Value} (hw : Region.wanted o (yielded ops a.tmps) = true) (h : ∀ w, S w -> (execOp a.eval o).run P w = .ok (.value v) w)
 (hr : HP P ops Q S r (a.put o.dst v) w) : HP P ops Q S (.t o r) a w := ⟨v, .inl ⟨hw, h⟩, hr⟩
theorem HP.skip {o : Oper} {r : Ps} {a : Act} {w : World} (hw : Region.wanted o (yielded ops a.tmps) = false) (hr : HP P ops Q S r (a.put o.dst undef) w) : HP P ops Q S (.t o r) a w := ⟨undef, .inr ⟨hw, rfl⟩, hr⟩
theorem HP.tk {o : Oper} {r : Ps} {a : Act} {w : World} {v : Value} (hr : HP P ops Q S r (a.put o.dst v) w) (hw : Region.wanted o (yielded ops a.tmps) = true := by rfl)
 (h : ∀ w, S w -> (execOp a.eval o).run P w = .ok (.value v) w := by (intro w hSw; (try dsimp only [CC] at hSw); go_simp; try with_reducible rfl)) : HP P ops Q S (.t o r) a w := HP.take hw h hr
theorem HP.sk {o : Oper} {r : Ps} {a : Act} {w : World} (hr : HP P ops Q S r (a.put o.dst undef) w) (hw : Region.wanted o (yielded ops a.tmps) = false := by rfl) : HP P ops Q S (.t o r) a w := HP.skip hw hr
theorem HP.call {o : Oper} {r : Ps} {a : Act} {w : World} (h : CallStep P ops Q S o (HP P ops Q S r) a w) : HP P ops Q S (.c o r) a w := h
theorem HP.both {oj ok : Oper} {r1 r2 : Ps} {a : Act} {w : World} (h1 : CallStep P ops Q S oj (HP P ops Q S r1) a w) (h2 : CallStep P ops Q S ok (HP P ops Q S r2) a w) : HP P ops Q S (.b oj r1 ok r2) a w := ⟨h1, h2⟩
theorem HP.three {oi oj ok : Oper} {r0 r1 r2 : Ps} {a : Act} {w : World} (h0 : CallStep P ops Q S oi (HP P ops Q S r0) a w) (h1 : CallStep P ops Q S oj (HP P ops Q S r1) a w) (h2 : CallStep P ops Q S ok (HP P ops Q S r2) a w) : HP P ops Q S (.d oi r0 oj r1 ok r2) a w := ⟨h0, h1, h2⟩
theorem hPr {p q : Prop} (k : q) (h : Hid q → p := by intro k; (repeat ((first | refine HP.tk ?_ | refine HP.sk ?_); (try simp only [Act.put, qqA, qqB, qqC]))); exact k.out) : p := h (Lib.hid k)
theorem HP.done {a : Act} {w : World} (h : Q .normal a w) : HP P ops Q S .e a w := h
theorem CallStep.mk {o : Oper} {R : Act -> World -> Prop} {a : Act} {w : World} (hw : Region.wanted o (yielded ops a.tmps) = true)
 (h : ∀ K : Act -> World -> Prop, Hid (∀ a' w', S w' -> R a' w' -> K a' w') -> o.wp P a w K Q) : CallStep P ops Q S o R a w := ⟨hw, h⟩
theorem cSt {o : Oper} {R : Act -> World -> Prop} {a : Act} {w : World} (h : ∀ K : Act -> World -> Prop, Hid (∀ a' w', S w' -> R a' w' -> K a' w') -> o.wp P a w K Q) (hw : Region.wanted o (yielded ops a.tmps) = true := by rfl) : CallStep P ops Q S o R a w := ⟨hw, h⟩
theorem hPc {o : Oper} {r : Ps} {a : Act} {w : World} (h : ∀ K : Act -> World -> Prop, Hid (∀ a' w', S w' -> HP P ops Q S r a' w' -> K a' w') -> o.wp P a w K Q) (hw : Region.wanted o (yielded ops a.tmps) = true := by rfl) : HP P ops Q S (.c o r) a w := ⟨hw, h⟩
theorem CallStep.op {k : Nat} {o : Oper} {R K : Act -> World -> Prop} {a : Act} {w : World} (h : CallStep P ops Q S o R a w) (h0 : ops[k]? = some o) (hK : ∀ a' w', S w' -> R a' w' -> K a' w') : wpOp P ops Q k K a w := by
 unfold wpOp
 simp only [h0, h.1, if_true]
 exact .inl (h.2 _ (qh hK))
theorem getD_op {l : List Oper} {k : Nat} (h : k < l.toArray.size) : l.toArray[k]? = some (l.getD k noOp) := by
 have h' : k < l.length := by simpa using h
 rw [List.getElem?_toArray, gdE, List.getElem?_eq_getElem h']; rfl
theorem HP.any {md : Region.Mode} {l : List Oper} (hs : Region.noSelect l.toArray = true) (hQ : ∀ c a d v w, Q (.panic c) (Act.put a d v) w -> Q (.panic c) a w) :
 ∀ (ks : Pl) (listed : Array Bool) (a : Act) (w : World), planB md l.toArray ks listed = true -> S w -> HP P l.toArray Q S (psOf l ks) a w -> wpAnyH P md l.toArray Q S (steps ks) listed a w
 | .e, listed, a, w, hB, _, h => wpAnyH_done (by simpa [planB] using hB) h _
 | .t k r, listed, a, w, hB, hS, h => by
   simp only [planB, Bool.and_eq_true, decide_eq_true_eq] at hB
   obtain ⟨⟨⟨hk, hr⟩, hf⟩, hB'⟩ := hB
   obtain ⟨v, hy, hK⟩ := h
   exact wpAnyH_take (getD_op hk) hs hf hr (fun c a w => hQ c a _ _ w) hy hS (HP.any hs hQ r _ _ w hB' hS hK)
 | .c k r, listed, a, w, hB, hS, h => by
   simp only [planB, Bool.and_eq_true, decide_eq_true_eq, beq_iff_eq] at hB
   obtain ⟨⟨hk, hr⟩, hB'⟩ := hB
   refine wpAnyH_all hr (by simp) fun i hi => ?_
   obtain rfl : i = k := by simpa using hi
   exact CallStep.op h (getD_op hk) fun a' w' hS' h' => ⟨hS', HP.any hs hQ r _ a' w' hB' hS' h'⟩
 | .b j r1 k r2, listed, a, w, hB, hS, h => by
   simp only [planB, Bool.and_eq_true, decide_eq_true_eq, beq_iff_eq] at hB
   obtain ⟨⟨⟨⟨⟨hj, hk⟩, hr⟩, hst⟩, hB1⟩, hB2⟩ := hB
   refine wpAnyH_all hr (by simp) fun i hi => ?_
   rcases (show i = j \/ i = k by simpa using hi) with rfl | rfl
   . exact CallStep.op h.1 (getD_op hj) fun a' w' hS' h' => ⟨hS', HP.any hs hQ r1 _ a' w' hB1 hS' h'⟩
   . exact CallStep.op h.2 (getD_op hk) fun a' w' hS' h' => ⟨hS', by have := HP.any hs hQ r2 _ a' w' hB2 hS' h'; rw [hst] at this; exact this⟩
 | .d i r0 j r1 k r2, listed, a, w, hB, hS, h => by
   simp only [planB, Bool.and_eq_true, decide_eq_true_eq, beq_iff_eq] at hB
   obtain ⟨⟨⟨⟨⟨⟨⟨⟨hi, hj⟩, hk⟩, hr⟩, hst1⟩, hst2⟩, hB0⟩, hB1⟩, hB2⟩ := hB
   refine wpAnyH_all hr (by simp) fun x hx => ?_
   rcases (show x = i \/ x = j \/ x = k by simpa using hx) with rfl | rfl | rfl
   . exact CallStep.op h.1 (getD_op hi) fun a' w' hS' h' => ⟨hS', HP.any hs hQ r0 _ a' w' hB0 hS' h'⟩
   . exact CallStep.op h.2.1 (getD_op hj) fun a' w' hS' h' => ⟨hS', by have := HP.any hs hQ r1 _ a' w' hB1 hS' h'; rw [hst1] at this; exact this⟩
   . exact CallStep.op h.2.2 (getD_op hk) fun a' w' hS' h' => ⟨hS', by have := HP.any hs hQ r2 _ a' w' hB2 hS' h'; rw [hst2] at this; exact this⟩
theorem wp_region_plan {id : Nat} {a : Act} {w : World} {l : List Oper} (ks : Pl) (S : World -> Prop) (hm : P.follows .mixedOrders = true) (hs : Region.noSelect l.toArray = true) (hl : l.length = steps ks)
 (hB : planB .any l.toArray ks (Array.replicate l.toArray.size false) = true) (hQ : ∀ c a d v w, Q (.panic c) (Act.put a d v) w -> Q (.panic c) a w) (hS : S w.drew)
 (h : HP P l.toArray Q S (psOf l ks) a w.drew) : (Code.region id l.toArray true).wp P Q a w := by
 refine wp_region_held_drew (S := S) hm hS fun _ => ?_
 have := HP.any (md := .any) hs hQ ks (Array.replicate l.toArray.size false) a w.drew hB hS h
 have e : l.toArray.size = steps ks := by simpa using hl
 rw [e]
 rw [e] at this
 exact this
theorem wp_planA {id : Nat} {a : Act} {w : World} {l : List Oper} (ks : Pl) (S : World -> Prop) (hS : S w.drew) (h : HP P l.toArray Q S (psOf l ks) a w.drew) (hm : P.follows .mixedOrders = true := by kernel_rfl) (hs : Region.noSelect l.toArray = true := by kernel_rfl) (hl : l.length = steps ks := by rfl)
 (hB : planB .any l.toArray ks (Array.replicate l.toArray.size false) = true := by kernel_rfl) (hQ : ∀ c a d v w, Q (.panic c) (Act.put a d v) w -> Q (.panic c) a w := by exact (fun _ _ d _ _ h => by cases d <;> exact h)) : (Code.region id l.toArray true).wp P Q a w := wp_region_plan ks S hm hs hl hB hQ hS h
end

theorem specSegOK_c (f t m : Int) (A : Option Addr) (c B : Nat) (cs : List Chg) (w : World) (h : Chs w B A cs) (hB : B <= w.heap.size) (hn : cs.length <= 1048576) :
 Calls Tryz.prog 221 #[.agg #[ii f, ii t, ii m, sC A cs.length c]] w fun e w' => e = .returned (.bool (segB f t m cs)) /\ Nx w w' := by
 cases x1 : inB 0 999998 f with
 | false =>
   have H1 := qh x1
   have HR := qh (segB_no (t := t) (m := m) (cs := cs) (.inl x1)).symm
   clear x1
   go_enter func221, ntmps221
   go_wp2_with (go_at_call 106; refine (l01In_c _ _ _ _).mono ?_; rintro e w' ⟨rfl, rfl⟩; first | rw [H1.out])
   go_ret
   exact ⟨ret_bool HR.out, (Nx.refl _).alloc _⟩
 | true =>
 have H1 := qh x1
 obtain ⟨hf0, hf1⟩ := inB_yes x1
 clear x1
 cases x2 : inB (f + 1) 999999 t with
 | false =>
   have H2 := qh x2
   have HR := qh (segB_no (f := f) (t := t) (m := m) (cs := cs) (.inr (.inl x2))).symm
   clear x2
   go_enter func221, ntmps221
   go_wp2_with (go_at_call 106; refine (l01In_c _ _ _ _).mono ?_; rintro e w' ⟨rfl, rfl⟩; first | rw [H1.out] | rw [H2.out])
   go_ret
   exact ⟨ret_bool HR.out, (Nx.refl _).alloc _⟩
 | true =>
 have H2 := qh x2
 obtain ⟨ht0, ht1⟩ := inB_yes x2
 clear x2
 cases x3 : inB 0 999999 m with
 | false =>
   have H3 := qh x3
   have HR := qh (segB_no (f := f) (t := t) (m := m) (cs := cs) (.inr (.inr (.inr (.inr (.inr (.inl x3))))))).symm
   clear x3
   go_enter func221, ntmps221
   go_wp2_with (go_at_call 106; refine (l01In_c _ _ _ _).mono ?_; rintro e w' ⟨rfl, rfl⟩; first | rw [H1.out] | rw [H2.out] | rw [H3.out])
   go_ret
   exact ⟨ret_bool HR.out, (Nx.refl _).alloc _⟩
 | true =>
 have H3 := qh x3
 clear x3
 by_cases hl : cs.length <= 8
 case neg =>
  have hl' : decide (8 < (cs.length : Int)) = true := by simp; omega
  have HR := qh (segB_no (f := f) (t := t) (m := m) (cs := cs) (.inr (.inr (.inr (.inr (.inr (.inr (by cases hx : chsB cs with
   | false => rfl
   | true => exact absurd (chsB_len hx) hl)))))))).symm
  go_enter func221, ntmps221
  go_wp2_with (go_at_call 106; refine (l01In_c _ _ _ _).mono ?_; rintro e w' ⟨rfl, rfl⟩; first | rw [H1.out] | rw [H2.out] | rw [H3.out])
  go_ret
  exact ⟨ret_bool HR.out, (Nx.refl _).alloc _⟩
 have hl' : decide (8 < (cs.length : Int)) = false := by simp; omega
 go_enter func221, ntmps221
 go_wp2_with (go_at_call 106; refine (l01In_c _ _ _ _).mono ?_; rintro e w' ⟨rfl, rfl⟩; first | rw [H1.out] | rw [H2.out] | rw [H3.out])
 have b0 := Box.new w 122 #[ii f, ii t, ii m, sC A cs.length c]
 have hx0 := (Nx.refl w).alloc (.cells #[ii f, ii t, ii m, sC A cs.length c] 122)
 generalize w.alloc (.cells #[ii f, ii t, ii m, sC A cs.length c] 122) = W at *
 clear hl'
 go_loopw [3] (fun i wr => ∃ k : Nat, k <= cs.length /\ i = ii k /\ OkTo cs k /\ Nx W wr) (fun i _ => cs.length - (intOf i).toNat)
 case atStart => exact ⟨0, Nat.zero_le _, rfl, OkTo.zero _, Nx.refl _⟩
 case round =>
  obtain ⟨k, hk, rfl, hto, hnx⟩ := hrel
  obtain ⟨_, _, _, c3⟩ := (b0.nx hnx).d4
  by_cases hlt : k < cs.length
  . obtain ⟨b, off, rfl, hb, k0, k1, k2⟩ := (h.below (hx0.trans hnx) hB).at_ hlt
    obtain ⟨⟨q0, q1, q2⟩, Hq⟩ := nM (cs.getD k chZ)
    rw [Hq.out] at k0 k1 k2
    have hbw : b < wr.heap.size := by have := hx0.size; have := hnx.size; omega
    have hbv : w.heap.size < wr.heap.size := (b0.nx hnx).lt
    cases hch : chB (q0, q1, q2) with
    | false =>
      have HC := qh hch
      have HR := qh (segB_no (f := f) (t := t) (m := m) (cs := cs) (.inr (.inr (.inr (.inr (.inr (.inr (chsB_no hlt (by unfold okCh; rw [Hq.out, hch]; rfl))))))))).symm
      clear hch
      go_wp2_with fail
      refine wp_lexA (kf5 (true :: kf9 (kf9 (kf3 ([]))))) (fun w' => CC w' w.heap.size 3 (sC (some ⟨b, off, none⟩) cs.length c) /\ CC w' b (off + k * 3) (ii q0) /\ CC w' b (off + k * 3 + 1) (ii q1) /\ CC w' b (off + k * 3 + 2) (ii q2)) (by exact ⟨c3, k0, k1, k2⟩) ?_
      refine hLr ?_
      refine hLc fun K hK => ?_
      go_simp
      refine (l02Change_c q0 q1 q2 _).mono ?_; rintro e w1 ⟨rfl, hnx1⟩; rw [HC.out]; have d3 := (hnx1.cell (p := ⟨w.heap.size, 3, none⟩) hbv).trans c3; have l0 := (hnx1.cell (p := ⟨b, off + k * 3, none⟩) hbw).trans k0; have l1 := (hnx1.cell (p := ⟨b, off + k * 3 + 1, none⟩) hbw).trans k1; have l2 := (hnx1.cell (p := ⟨b, off + k * 3 + 2, none⟩) hbw).trans k2
      go_wp2_with fail
      refine hK.out _ _ (by exact ⟨d3, l0, l1, l2⟩) ?_
      clear hK K
      refine nZ ?_
      refine hLr ?_
      refine HL.done ?_
      go_wp2
      go_ret
      exact ⟨ret_bool HR.out, hx0.trans (hnx.drew.trans hnx1)⟩
    | true =>
      have HC := qh hch
      clear hch
      by_cases hk0 : k = 0
      . have hd0 : decide (0 < (k : Int)) = false := by simp; omega
        have HO := qh (show okCh cs k = true by unfold okCh; rw [Hq.out, HC.out, hk0]; rfl)
        have hd1 : decide (0 < k) = false := by simp; omega
        clear hk0
        go_wp2_with fail
        refine wp_lexA (kf5 (true :: kf9 (kf9 (kf3 ([]))))) (fun w' => CC w' w.heap.size 3 (sC (some ⟨b, off, none⟩) cs.length c) /\ CC w' b (off + k * 3) (ii q0) /\ CC w' b (off + k * 3 + 1) (ii q1) /\ CC w' b (off + k * 3 + 2) (ii q2)) (by exact ⟨c3, k0, k1, k2⟩) ?_
        refine hLr ?_
        refine hLc fun K hK => ?_
        go_simp
        refine (l02Change_c q0 q1 q2 _).mono ?_; rintro e w1 ⟨rfl, hnx1⟩; rw [HC.out]; have d3 := (hnx1.cell (p := ⟨w.heap.size, 3, none⟩) hbv).trans c3; have l0 := (hnx1.cell (p := ⟨b, off + k * 3, none⟩) hbw).trans k0; have l1 := (hnx1.cell (p := ⟨b, off + k * 3 + 1, none⟩) hbw).trans k1; have l2 := (hnx1.cell (p := ⟨b, off + k * 3 + 2, none⟩) hbw).trans k2
        go_wp2_with fail
        refine hK.out _ _ (by exact ⟨d3, l0, l1, l2⟩) ?_
        clear hK K
        refine nZ ?_
        refine hLr ?_
        refine HL.done ?_
        go_wp2
        go_roundw
        case rel => exact ⟨k + 1, oM, by go_num, hto.succ HO.out, hnx.drew.trans hnx1⟩
        case measure => simp [intOf]; omega
      . obtain ⟨j, rfl⟩ : ∃ j, k = j + 1 := ⟨k - 1, oM⟩
        obtain ⟨b', off', he, _, m0, _, _⟩ := (h.below (hx0.trans hnx) hB).at_ (k := j) oM
        obtain ⟨rfl, rfl⟩ : b = b' /\ off = off' := by simpa using he
        clear he
        obtain ⟨⟨r0, r1, r2⟩, Hr⟩ := nM (cs.getD j chZ)
        rw [Hr.out] at m0
        have hd0 : decide (0 < ((j : Int) + 1)) = true := by simp
        have hd1 : decide (0 < j + 1) = true := by simp
        have hi1 : (0 : Int) <= (j : Int) + 1 := oM
        have hi2 : (j : Int) + 1 < (cs.length : Int) := oM
        have hi4 : (j : Int) < (cs.length : Int) := oM
        have hi5 : j < cs.length := oM
        have hi3 : ((j : Int) + 1).toNat = j + 1 := oM
        have hw1 : IntKind.i64.wrap ((j : Int) + 1 - 1) = (j : Int) := by rw [Int.add_sub_cancel]; exact IntWalk.i64_in _ oM
        have hw2 : IntKind.i64.wrap (j : Int) = (j : Int) := IntWalk.i64_in _ oM
        have hi6 : (0 : Int) <= (j : Int) := oM
        by_cases hlt2 : r0 < q0
        . have hd : decide (q0 <= r0) = false := by simp; omega
          have HO := qh (show okCh cs (j + 1) = true by unfold okCh; rw [Hq.out, HC.out, Nat.add_sub_cancel, Hr.out]; simp [hlt2])
          go_wp2_with fail
          refine wp_lexA (kf5 (true :: kf9 (kf9 (kf3 ([]))))) (fun w' => CC w' w.heap.size 3 (sC (some ⟨b, off, none⟩) cs.length c) /\ CC w' b (off + (j + 1) * 3) (ii q0) /\ CC w' b (off + (j + 1) * 3 + 1) (ii q1) /\ CC w' b (off + (j + 1) * 3 + 2) (ii q2) /\ CC w' b (off + j * 3) (ii r0)) (by exact ⟨c3, k0, k1, k2, m0⟩) ?_
          refine hLr ?_
          refine hLc fun K hK => ?_
          go_simp
          refine (l02Change_c q0 q1 q2 _).mono ?_; rintro e w1 ⟨rfl, hnx1⟩; rw [HC.out]; have d3 := (hnx1.cell (p := ⟨w.heap.size, 3, none⟩) hbv).trans c3; have l0 := (hnx1.cell (p := ⟨b, off + (j + 1) * 3, none⟩) hbw).trans k0; have l1 := (hnx1.cell (p := ⟨b, off + (j + 1) * 3 + 1, none⟩) hbw).trans k1; have l2 := (hnx1.cell (p := ⟨b, off + (j + 1) * 3 + 2, none⟩) hbw).trans k2; have n0 := (hnx1.cell (p := ⟨b, off + j * 3, none⟩) hbw).trans m0
          go_wp2_with fail
          refine hK.out _ _ (by exact ⟨d3, l0, l1, l2, n0⟩) ?_
          clear hK K
          refine nZ ?_
          refine hLr ?_
          refine HL.done ?_
          clear hw1 hw2 hi6 hi1 hi2 hi3 hi4 hi5
          go_wp2
          go_roundw
          case rel => exact ⟨j + 1 + 1, oM, by go_num, hto.succ HO.out, hnx.drew.trans hnx1⟩
          case measure => simp [intOf]; omega
        . have hd : decide (q0 <= r0) = true := by simp; omega
          have HR := qh (segB_no (f := f) (t := t) (m := m) (cs := cs) (.inr (.inr (.inr (.inr (.inr (.inr (chsB_no hlt (by unfold okCh; rw [Hq.out, Nat.add_sub_cancel, Hr.out]; simp [hlt2]))))))))).symm
          go_wp2_with fail
          refine wp_lexA (kf5 (true :: kf9 (kf9 (kf3 ([]))))) (fun w' => CC w' w.heap.size 3 (sC (some ⟨b, off, none⟩) cs.length c) /\ CC w' b (off + (j + 1) * 3) (ii q0) /\ CC w' b (off + (j + 1) * 3 + 1) (ii q1) /\ CC w' b (off + (j + 1) * 3 + 2) (ii q2) /\ CC w' b (off + j * 3) (ii r0)) (by exact ⟨c3, k0, k1, k2, m0⟩) ?_
          refine hLr ?_
          refine hLc fun K hK => ?_
          go_simp
          refine (l02Change_c q0 q1 q2 _).mono ?_; rintro e w1 ⟨rfl, hnx1⟩; rw [HC.out]; have d3 := (hnx1.cell (p := ⟨w.heap.size, 3, none⟩) hbv).trans c3; have l0 := (hnx1.cell (p := ⟨b, off + (j + 1) * 3, none⟩) hbw).trans k0; have l1 := (hnx1.cell (p := ⟨b, off + (j + 1) * 3 + 1, none⟩) hbw).trans k1; have l2 := (hnx1.cell (p := ⟨b, off + (j + 1) * 3 + 2, none⟩) hbw).trans k2; have n0 := (hnx1.cell (p := ⟨b, off + j * 3, none⟩) hbw).trans m0
          go_wp2_with fail
          refine hK.out _ _ (by exact ⟨d3, l0, l1, l2, n0⟩) ?_
          clear hK K
          refine nZ ?_
          refine hLr ?_
          refine HL.done ?_
          clear hw1 hw2 hi6 hi1 hi2 hi3 hi4 hi5
          go_wp2
          go_ret
          exact ⟨ret_bool HR.out, hx0.trans (hnx.drew.trans hnx1)⟩
  . obtain rfl : k = cs.length := oM
    have HR := qh (segB_mk hf0 oM ht1 H3.out hto.all).symm
    go_wp2
    go_ret
    exact ⟨ret_bool HR.out, hx0.trans hnx⟩
theorem cell_far (w : World) (p q : Addr) (v : Value) (h : q.block ≠ p.block) : (w.setCell p v).cell? q = w.cell? q := by
 unfold World.cell?
 rw [Below.heap_setCell w p v q.block h]
theorem nr_own {w u : World} {A : Option Addr} {xs : List Int} (h : NewRow w u 3 1 A xs.length (inAt xs)) (hp : 0 < xs.length) : ∃ g, A = some ⟨g, 0, none⟩ /\ w.heap.size <= g /\ Own u g 3 xs.length (inAt xs) := by
 obtain ⟨g, e, hg, ho⟩ := h.2 hp
 rw [Nat.mul_one] at ho
 exact ⟨g, e, hg, ho⟩
theorem l03Forward_c (A2 : Option Addr) (c2 B : Nat) (xs : List Int) (f t m : Int) (A : Option Addr) (c : Nat) (cs : List Chg) (w : World) (h : Ins w B A2 xs) (hg : Chs w B A cs) (hB : B <= w.heap.size) (hok : chsB cs = true) (h8 : xs.length = 8) :
 Calls Tryz.prog 209 #[sC A2 xs.length c2, .agg #[ii f, ii t, ii m, sC A cs.length c]] w (RetI w (app pN xs cs)) := by
 obtain ⟨i0, hi0, hz0, hz1, hz2⟩ := info_parts info_int
 have hl8 := chsB_len hok
 have hto := chsB_to hok
 have H8 := qh h8
 clear hok h8
 have b1 := (Box.new w 122 #[ii f, ii t, ii m, sC A cs.length c]).alloc (.cells #[] 3)
 have hx1 := ((Nx.refl w).alloc (.cells #[ii f, ii t, ii m, sC A cs.length c] 122)).alloc (.cells #[] 3)
 have Hsz := qh (show ((w.alloc (.cells #[ii f, ii t, ii m, sC A cs.length c] 122)).alloc (.cells #[] 3)).heap.size = w.heap.size + 1 + 1 by simp only [World.size_alloc])
 go_enter func209, ntmps209
 go_wp2_with (at_builtin; refine wpList_append_new rfl (.tmp 6) (.tmp 7) 23 rfl 3 i0 _ 1 8 underlying23 hi0 hz0 hz1 hz2 dC dC (w.heap.size + 1) A2 xs.length c2 B (inAt xs) rfl rfl (by rw [Nat.mul_one]; exact h.below hx1 hB) (by have := H8.out; omega) ?_)
 intro A9 c9 w1 hnew
 obtain ⟨g, rfl, hgl, hown⟩ := nr_own hnew (by have := H8.out; omega)
 have hx2 := hnew.1
 have b2 := b1.nx hx2
 have hX2 := hx1.trans hx2
 have hgw : w.heap.size < g := by have := Hsz.out; omega
 clear hnew b1 hx1 hx2 hgl
 go_wp2_with fail
 go_loopw [5] (fun i wr => ∃ k : Nat, k <= cs.length /\ i = ii k /\ Own wr g 3 xs.length (inAt (app pN xs (cs.take k))) /\ Box wr w.heap.size 122 #[ii f, ii t, ii m, sC A cs.length c] /\ Nx w wr) (fun i _ => cs.length - (intOf i).toNat)
 case atStart => exact ⟨0, Nat.zero_le _, rfl, hown, b2, hX2⟩
 case round =>
  obtain ⟨k, hk, rfl, hown, bg, hnx⟩ := hrel
  clear b2 hX2
  obtain ⟨_, _, _, d3⟩ := bg.d4
  by_cases hlt : k < cs.length
  . obtain ⟨b, off, rfl, hb, k0, k1, k2⟩ := (hg.below hnx hB).at_ hlt
    obtain ⟨hr0, hr1⟩ := hto.rise k hlt
    obtain ⟨⟨q0, q1, q2⟩, Hq⟩ := nM (cs.getD k chZ)
    rw [Hq.out] at k0 k1 k2 hr0 hr1
    obtain ⟨n0, rfl⟩ : ∃ n : Nat, q0 = n := ⟨q0.toNat, by simp only at hr0; omega⟩
    have hn0 : n0 < xs.length := by have := H8.out; simp only at hr1; omega
    have hn1 : (n0 : Int) < (xs.length : Int) := oM
    have hk1 : (k : Int) < (cs.length : Int) := oM
    have hbg : b ≠ g := oM
    clear hr0 hr1
    obtain ⟨v, hv⟩ : ∃ v, wr.cell? ⟨g, n0, none⟩ = some v := ⟨_, hown.cell hn0⟩
    have hz := hown.frozen n0
    go_wp2_with fail
    refine wp_lexA (kf9 (kf5 (true :: []))) (fun w' => CC w' w.heap.size 3 (sC (some ⟨b, off, none⟩) cs.length c) /\ CC w' b (off + k * 3) (ii (n0 : Int)) /\ CC w' b (off + k * 3 + 1) (ii q1)) (by exact ⟨d3, k0, k1⟩) ?_
    refine hLr ?_
    refine hLc fun K hK => ?_
    go_simp
    refine hK.out _ _ (by exact ⟨(bg.far (p := ⟨g, n0, none⟩) sM (ii q1)).cell 3, ((cell_far wr ⟨g, n0, none⟩ _ _ sM).trans k0), ((cell_far wr ⟨g, n0, none⟩ _ _ sM).trans k1)⟩) ?_
    clear hK K
    refine nZ ?_
    refine HL.done ?_
    go_wp2
    go_roundw
    case rel =>
     refine ⟨k + 1, oM, by go_num, (hown.set (k := n0) hn0 (ii q1)).congr fun i hi => ?_, bg.far (p := ⟨g, n0, none⟩) sM _, (hnx.setCell (p := ⟨g, n0, none⟩) sM _).drew⟩
     rw [app_succ pN xs cs hlt, Hq.out]
     rw [inAt_set _ (by rw [app_len]; simpa using hn0)]
     simp [pN]
    case measure => simp [intOf]; omega
  . obtain rfl : k = cs.length := oM
    rw [List.take_length] at hown
    go_wp2
    go_ret
    exact ⟨_, c9, by rw [app_len]; rfl, by unfold SlI; rw [app_len]; exact Sl.own hown oM, hnx⟩
theorem l03Backward_c (A2 : Option Addr) (c2 B : Nat) (xs : List Int) (f t m : Int) (A : Option Addr) (c : Nat) (cs : List Chg) (w : World) (h : Ins w B A2 xs) (hg : Chs w B A cs) (hB : B <= w.heap.size) (hok : chsB cs = true) (h8 : xs.length = 8) :
 Calls Tryz.prog 210 #[sC A2 xs.length c2, .agg #[ii f, ii t, ii m, sC A cs.length c]] w (RetI w (app pO xs cs)) := by
 obtain ⟨i0, hi0, hz0, hz1, hz2⟩ := info_parts info_int
 have hl8 := chsB_len hok
 have hto := chsB_to hok
 have H8 := qh h8
 clear hok h8
 have b1 := (Box.new w 122 #[ii f, ii t, ii m, sC A cs.length c]).alloc (.cells #[] 3)
 have hx1 := ((Nx.refl w).alloc (.cells #[ii f, ii t, ii m, sC A cs.length c] 122)).alloc (.cells #[] 3)
 have Hsz := qh (show ((w.alloc (.cells #[ii f, ii t, ii m, sC A cs.length c] 122)).alloc (.cells #[] 3)).heap.size = w.heap.size + 1 + 1 by simp only [World.size_alloc])
 go_enter func210, ntmps210
 go_wp2_with (at_builtin; refine wpList_append_new rfl (.tmp 6) (.tmp 7) 23 rfl 3 i0 _ 1 8 underlying23 hi0 hz0 hz1 hz2 dC dC (w.heap.size + 1) A2 xs.length c2 B (inAt xs) rfl rfl (by rw [Nat.mul_one]; exact h.below hx1 hB) (by have := H8.out; omega) ?_)
 intro A9 c9 w1 hnew
 obtain ⟨g, rfl, hgl, hown⟩ := nr_own hnew (by have := H8.out; omega)
 have hx2 := hnew.1
 have b2 := b1.nx hx2
 have hX2 := hx1.trans hx2
 have hgw : w.heap.size < g := by have := Hsz.out; omega
 clear hnew b1 hx1 hx2 hgl
 go_wp2_with fail
 go_loopw [5] (fun i wr => ∃ k : Nat, k <= cs.length /\ i = ii k /\ Own wr g 3 xs.length (inAt (app pO xs (cs.take k))) /\ Box wr w.heap.size 122 #[ii f, ii t, ii m, sC A cs.length c] /\ Nx w wr) (fun i _ => cs.length - (intOf i).toNat)
 case atStart => exact ⟨0, Nat.zero_le _, rfl, hown, b2, hX2⟩
 case round =>
  obtain ⟨k, hk, rfl, hown, bg, hnx⟩ := hrel
  clear b2 hX2
  obtain ⟨_, _, _, d3⟩ := bg.d4
  by_cases hlt : k < cs.length
  . obtain ⟨b, off, rfl, hb, k0, k1, k2⟩ := (hg.below hnx hB).at_ hlt
    obtain ⟨hr0, hr1⟩ := hto.rise k hlt
    obtain ⟨⟨q0, q1, q2⟩, Hq⟩ := nM (cs.getD k chZ)
    rw [Hq.out] at k0 k1 k2 hr0 hr1
    obtain ⟨n0, rfl⟩ : ∃ n : Nat, q0 = n := ⟨q0.toNat, by simp only at hr0; omega⟩
    have hn0 : n0 < xs.length := by have := H8.out; simp only at hr1; omega
    have hn1 : (n0 : Int) < (xs.length : Int) := oM
    have hk1 : (k : Int) < (cs.length : Int) := oM
    have hbg : b ≠ g := oM
    clear hr0 hr1
    obtain ⟨v, hv⟩ : ∃ v, wr.cell? ⟨g, n0, none⟩ = some v := ⟨_, hown.cell hn0⟩
    have hz := hown.frozen n0
    go_wp2_with fail
    refine wp_lexA (kf9 (kf5 (true :: []))) (fun w' => CC w' w.heap.size 3 (sC (some ⟨b, off, none⟩) cs.length c) /\ CC w' b (off + k * 3) (ii (n0 : Int)) /\ CC w' b (off + k * 3 + 2) (ii q2)) (by exact ⟨d3, k0, k2⟩) ?_
    refine hLr ?_
    refine hLc fun K hK => ?_
    go_simp
    refine hK.out _ _ (by exact ⟨(bg.far (p := ⟨g, n0, none⟩) sM (ii q2)).cell 3, ((cell_far wr ⟨g, n0, none⟩ _ _ sM).trans k0), ((cell_far wr ⟨g, n0, none⟩ _ _ sM).trans k2)⟩) ?_
    clear hK K
    refine nZ ?_
    refine HL.done ?_
    go_wp2
    go_roundw
    case rel =>
     refine ⟨k + 1, oM, by go_num, (hown.set (k := n0) hn0 (ii q2)).congr fun i hi => ?_, bg.far (p := ⟨g, n0, none⟩) sM _, (hnx.setCell (p := ⟨g, n0, none⟩) sM _).drew⟩
     rw [app_succ pO xs cs hlt, Hq.out]
     rw [inAt_set _ (by rw [app_len]; simpa using hn0)]
     simp [pO]
    case measure => simp [intOf]; omega
  . obtain rfl : k = cs.length := oM
    rw [List.take_length] at hown
    go_wp2
    go_ret
    exact ⟨_, c9, by rw [app_len]; rfl, by unfold SlI; rw [app_len]; exact Sl.own hown oM, hnx⟩
abbrev Sg4 := Int × Int × Int × List Chg
theorem chAt_one (b v o : Int) : ∀ i, i < 3 -> (#[Value.int .i64 b, ii v, ii o] : Array Value)[i]! = chAt [(b, v, o)] i := fun i hi => by
 match i, hi with
 | 0, _ => rfl
 | 1, _ => rfl
 | 2, _ => rfl
theorem one_own {w : World} {g : Nat} {t : TypeId} {b v o : Int} (h : Box w g t #[ii b, ii v, ii o]) : Own w g t 3 (chAt [(b, v, o)]) := h.own.congr (chAt_one b v o)
theorem segB_chs {f t m : Int} {cs : List Chg} (h : segB f t m cs = true) : chsB cs = true := by
 unfold segB at h
 simp only [Bool.and_eq_true] at h
 exact h.2
end
section
open Go.Joins Go.ChangeShapes Go.WideShapes Go.RowKit Go.Deep
theorem ci_ : Tryz.prog.cellsOf 3 = 1 := by kernel_rfl
section
variable {H : Type} {enc : TypeId × Value -> H} {w : World} {base : Nat} {spare : Nat -> Bool} {held : Bool}
end
def RetG (w : World) (f t m : Int) (cs : List Chg) (e : Ending) (w' : World) : Prop := ∃ (A : Option Addr) (c : Nat), e = .returned (.agg #[ii f, ii t, ii m, sC A cs.length c]) /\ Sl w' w.heap.size A 192 (cs.length * 3) (chAt cs) /\ Nx w w'
section
variable {H : Type} {enc : TypeId × Value -> H} {w : World} {base : Nat} {spare : Nat -> Bool} {held : Bool}
end
end
section
open Go.RowKit
def enc : Option Chg -> Chg
 | none => (-1, 0, 0)
 | some c => c

theorem l03Of_c (A2 : Option Addr) (c2 B n0 : Nat) (xs : List Int) (p v t : Int) (w : World) (h : Ins w B A2 xs) (hB : B <= w.heap.size) (hn0 : n0 < xs.length) (hn8 : xs.length <= 1048576) (hp1 : 1 <= p) (hp2 : p <= 9000000) :
 Calls Tryz.prog 160 #[sC A2 xs.length c2, .agg #[ii p, ii (n0 : Int), ii v, ii t]] w (RetG w (p - 1) p t [((n0 : Int), v, xs.getD n0 0)]) := by
 have bF0 := (Box.new w 55 #[ii p, ii (n0 : Int), ii v, ii t]).alloc (.cells #[ii 0, ii 0, ii 0, nsl] 122)
 have bR0 := Box.new (w.alloc (.cells #[ii p, ii (n0 : Int), ii v, ii t] 55)) 122 #[ii 0, ii 0, ii 0, nsl]
 have hx0 := ((Nx.refl w).alloc (.cells #[ii p, ii (n0 : Int), ii v, ii t] 55)).alloc (.cells #[ii 0, ii 0, ii 0, nsl] 122)
 simp only [World.size_alloc] at bR0
 have hn1 : (n0 : Int) < (xs.length : Int) := oM
 have hwp : IntKind.i64.wrap (p - 1) = p - 1 := IntWalk.i64_in _ oM
 obtain ⟨o, Ho⟩ := nM (xs.getD n0 0)
 go_enter func160, ntmps160
 go_wp2_with fail
 generalize (w.alloc (.cells #[ii p, ii (n0 : Int), ii v, ii t] 55)).alloc (.cells #[ii 0, ii 0, ii 0, nsl] 122) = W at *
 have bF : Box W.drew w.heap.size 55 #[ii p, ii (n0 : Int), ii v, ii t] := bF0
 have bR : Box W.drew (w.heap.size + 1) 122 #[ii 0, ii 0, ii 0, nsl] := bR0
 obtain ⟨g, off, rfl, hgB, hcell0⟩ := (h.below hx0 hB).at_ hn0
 rw [Ho.out] at hcell0
 have hcell : W.drew.cell? ⟨g, off + n0, none⟩ = some (ii o) := hcell0
 have hgw : g < W.drew.heap.size := by have := hx0.size; show g < W.heap.size; omega
 have hX2 := hx0.drew
 clear bF0 hcell0
 obtain ⟨rc0, rc1, rc2, rc3⟩ := bR0.d4
 have rf0 := bR0.frozen 0
 have rf1 := bR0.frozen 1
 have rf2 := bR0.frozen 2
 have rf3 := bR0.frozen 3
 have rlt := bR0.lt
 refine wp_lexA (kf9 (kf8 (true :: ff :: true :: []))) (fun w' => (CC w' w.heap.size 0 (ii p) /\ CC w' w.heap.size 1 (ii (n0 : Int)) /\ CC w' w.heap.size 2 (ii v) /\ CC w' w.heap.size 3 (ii t)) /\ CC w' g (off + n0) (ii o)) (by exact ⟨bF.d4, hcell⟩) ?_
 refine hLr ?_
 refine hLc fun K hK => ?_
 go_simp
 refine hK.out _ _ (by exact ⟨(bF.alloc (.cells #[ii (n0 : Int), ii v, ii o] 192)).d4, (((((Nx.refl W.drew).alloc (.cells #[ii (n0 : Int), ii v, ii o] 192)))).cell (p := ⟨g, off + n0, none⟩) hgw).trans hcell⟩) ?_
 clear hK K
 refine nZ ?_
 refine hLr ?_
 refine hLc fun K hK => ?_
 go_simp
 refine hK.out _ _ (by exact ⟨(((((bF.far (p := ⟨(w.heap.size + 1), 0, none⟩) (by simp) (ii (p - 1))).far (p := ⟨(w.heap.size + 1), 1, none⟩) (by simp) (ii p)).far (p := ⟨(w.heap.size + 1), 2, none⟩) (by simp) (ii t)).far (p := ⟨(w.heap.size + 1), 3, none⟩) (by simp) (sC (some ⟨W.heap.size, 0, none⟩) 1 1)).alloc (.cells #[ii (n0 : Int), ii v, ii o] 192)).d4, (((Nx.refl ((((W.drew.setCell ⟨(w.heap.size + 1), 0, none⟩ (ii (p - 1))).setCell ⟨(w.heap.size + 1), 1, none⟩ (ii p)).setCell ⟨(w.heap.size + 1), 2, none⟩ (ii t)).setCell ⟨(w.heap.size + 1), 3, none⟩ (sC (some ⟨W.heap.size, 0, none⟩) 1 1))).alloc (.cells #[ii (n0 : Int), ii v, ii o] 192)).cell (p := ⟨g, off + n0, none⟩) (by simp [World.setCell]; exact hgw)).trans ((cell_far (((W.drew.setCell ⟨(w.heap.size + 1), 0, none⟩ (ii (p - 1))).setCell ⟨(w.heap.size + 1), 1, none⟩ (ii p)).setCell ⟨(w.heap.size + 1), 2, none⟩ (ii t)) ⟨(w.heap.size + 1), 3, none⟩ ⟨g, off + n0, none⟩ (sC (some ⟨W.heap.size, 0, none⟩) 1 1) sM).trans ((cell_far ((W.drew.setCell ⟨(w.heap.size + 1), 0, none⟩ (ii (p - 1))).setCell ⟨(w.heap.size + 1), 1, none⟩ (ii p)) ⟨(w.heap.size + 1), 2, none⟩ ⟨g, off + n0, none⟩ (ii t) sM).trans ((cell_far (W.drew.setCell ⟨(w.heap.size + 1), 0, none⟩ (ii (p - 1))) ⟨(w.heap.size + 1), 1, none⟩ ⟨g, off + n0, none⟩ (ii p) sM).trans ((cell_far W.drew ⟨(w.heap.size + 1), 0, none⟩ ⟨g, off + n0, none⟩ (ii (p - 1)) sM).trans hcell))))⟩) ?_
 clear hK K
 refine nZ ?_
 refine HL.done ?_
 go_wp2_with fail
 have rq := (put4_box bR0 (ii (p - 1)) (ii p) (ii t) (sC (some ⟨W.heap.size, 0, none⟩) 1 1)).alloc (.cells #[ii (n0 : Int), ii v, ii o] 192)
 have hnf := (put4_nx (g := (w.heap.size + 1)) hx0 oM (ii (p - 1)) (ii p) (ii t) (sC (some ⟨W.heap.size, 0, none⟩) 1 1)).alloc (.cells #[ii (n0 : Int), ii v, ii o] 192)
 unfold put4 at rq hnf
 have hsz3 : ((((W.setCell ⟨(w.heap.size + 1), 0, none⟩ (ii (p - 1))).setCell ⟨(w.heap.size + 1), 1, none⟩ (ii p)).setCell ⟨(w.heap.size + 1), 2, none⟩ (ii t)).setCell ⟨(w.heap.size + 1), 3, none⟩ (sC (some ⟨W.heap.size, 0, none⟩) 1 1)).heap.size = W.heap.size := by simp [World.setCell]
 have bC3 := Box.new ((((W.setCell ⟨(w.heap.size + 1), 0, none⟩ (ii (p - 1))).setCell ⟨(w.heap.size + 1), 1, none⟩ (ii p)).setCell ⟨(w.heap.size + 1), 2, none⟩ (ii t)).setCell ⟨(w.heap.size + 1), 3, none⟩ (sC (some ⟨W.heap.size, 0, none⟩) 1 1)) 192 #[ii (n0 : Int), ii v, ii o]
 rw [hsz3] at bC3
 have hlw := hx0.size
 have hSf : Sl _ w.heap.size (some ⟨W.heap.size, 0, none⟩) 192 (1 * 3) (chAt [((n0 : Int), v, xs.getD n0 0)]) := Sl.own (by rw [Ho.out]; exact one_own bC3) oM
 clear hsz3
 generalize (((((W.setCell ⟨(w.heap.size + 1), 0, none⟩ (ii (p - 1))).setCell ⟨(w.heap.size + 1), 1, none⟩ (ii p)).setCell ⟨(w.heap.size + 1), 2, none⟩ (ii t)).setCell ⟨(w.heap.size + 1), 3, none⟩ (sC (some ⟨W.heap.size, 0, none⟩) 1 1)).alloc (.cells #[ii (n0 : Int), ii v, ii o] 192)) = Wf at *
 obtain ⟨rg0, rg1, rg2, rg3⟩ := rq.d4
 exact bodyPost_ret (v := .agg #[ii (p - 1), ii p, ii t, sC (some ⟨W.heap.size, 0, none⟩) 1 1]) (by simp [results, results160, go_sem, rg0, rg1, rg2, rg3]) rfl ⟨_, 1, rfl, hSf, hnf.drew⟩
theorem valuesSegOf_c (xs : List Int) (p v t : Int) (n0 : Nat) (w : World) (h8 : xs.length = 8) (hn0 : n0 < 8) (hp1 : 1 <= p) (hp2 : p <= 9000000) :
 Calls Tryz.prog 206 #[vA xs, .agg #[ii p, ii (n0 : Int), ii v, ii t]] w (RetG w (p - 1) p t [((n0 : Int), v, xs.getD n0 0)]) := by
 unfold vA
 have hwp : IntKind.i64.wrap (p - 1) = p - 1 := IntWalk.i64_in _ oM
 have bA0 : Box (((w.alloc (.cells #[inAt xs 0, inAt xs 1, inAt xs 2, inAt xs 3, inAt xs 4, inAt xs 5, inAt xs 6, inAt xs 7] 105)).alloc (.cells #[ii p, ii (n0 : Int), ii v, ii t] 55)).alloc (.cells #[ii 0, ii 0, ii 0, nsl] 122)) w.heap.size 105 #[inAt xs 0, inAt xs 1, inAt xs 2, inAt xs 3, inAt xs 4, inAt xs 5, inAt xs 6, inAt xs 7] := ((Box.new w _ _).alloc _).alloc _
 have bF0 : Box (((w.alloc (.cells #[inAt xs 0, inAt xs 1, inAt xs 2, inAt xs 3, inAt xs 4, inAt xs 5, inAt xs 6, inAt xs 7] 105)).alloc (.cells #[ii p, ii (n0 : Int), ii v, ii t] 55)).alloc (.cells #[ii 0, ii 0, ii 0, nsl] 122)) (w.heap.size + 1) 55 #[ii p, ii (n0 : Int), ii v, ii t] := by have := (Box.new (w.alloc (.cells #[inAt xs 0, inAt xs 1, inAt xs 2, inAt xs 3, inAt xs 4, inAt xs 5, inAt xs 6, inAt xs 7] 105)) 55 #[ii p, ii (n0 : Int), ii v, ii t]).alloc (.cells #[ii 0, ii 0, ii 0, nsl] 122); rwa [World.size_alloc] at this
 have bR0 : Box (((w.alloc (.cells #[inAt xs 0, inAt xs 1, inAt xs 2, inAt xs 3, inAt xs 4, inAt xs 5, inAt xs 6, inAt xs 7] 105)).alloc (.cells #[ii p, ii (n0 : Int), ii v, ii t] 55)).alloc (.cells #[ii 0, ii 0, ii 0, nsl] 122)) (w.heap.size + 1 + 1) 122 #[ii 0, ii 0, ii 0, nsl] := by have := Box.new ((w.alloc (.cells #[inAt xs 0, inAt xs 1, inAt xs 2, inAt xs 3, inAt xs 4, inAt xs 5, inAt xs 6, inAt xs 7] 105)).alloc (.cells #[ii p, ii (n0 : Int), ii v, ii t] 55)) 122 #[ii 0, ii 0, ii 0, nsl]; rwa [World.size_alloc, World.size_alloc] at this
 have hx0 := (((Nx.refl w).alloc (.cells #[inAt xs 0, inAt xs 1, inAt xs 2, inAt xs 3, inAt xs 4, inAt xs 5, inAt xs 6, inAt xs 7] 105)).alloc (.cells #[ii p, ii (n0 : Int), ii v, ii t] 55)).alloc (.cells #[ii 0, ii 0, ii 0, nsl] 122)
 go_enter func206, ntmps206
 go_wp2_with fail
 generalize (((w.alloc (.cells #[inAt xs 0, inAt xs 1, inAt xs 2, inAt xs 3, inAt xs 4, inAt xs 5, inAt xs 6, inAt xs 7] 105)).alloc (.cells #[ii p, ii (n0 : Int), ii v, ii t] 55)).alloc (.cells #[ii 0, ii 0, ii 0, nsl] 122)) = W at *
 obtain ⟨gF, HgF⟩ := nM (w.heap.size + 1)
 obtain ⟨gR, HgR⟩ := nM (w.heap.size + 1 + 1)
 have hgR : w.heap.size <= gR := by have := HgR.out; omega
 rw [HgR.out, HgF.out]
 rw [HgF.out] at bF0
 rw [HgR.out] at bR0
 have bF := bF0.nx (Nx.refl _).drew
 obtain ⟨o, Ho⟩ := nM (xs.getD n0 0)
 have hcell : W.drew.cell? ⟨w.heap.size, n0, none⟩ = some (ii o) := by have := (box_inAt bA0).cell hn0; unfold inAt at this; rw [Ho.out] at this; exact this
 have hgw : w.heap.size < W.drew.heap.size := bA0.lt
 have hi0 : (0 : Int) <= (n0 : Int) := oM
 have hi1 : (n0 : Int) < 8 := oM
 refine wp_lexA (kf9 (true :: true :: [])) (fun w' => (CC w' gF 0 (ii p) /\ CC w' gF 1 (ii (n0 : Int)) /\ CC w' gF 2 (ii v) /\ CC w' gF 3 (ii t)) /\ CC w' w.heap.size n0 (ii o)) (by exact ⟨bF.d4, hcell⟩) ?_
 refine hLr ?_
 refine hLc fun K hK => ?_
 go_simp
 refine hK.out _ _ (by exact ⟨(bF.alloc (.cells #[ii 0, ii 0, ii 0] 192)).d4, (((Nx.refl W.drew).alloc (.cells #[ii 0, ii 0, ii 0] 192)).cell (p := ⟨w.heap.size, n0, none⟩) hgw).trans hcell⟩) ?_
 clear hK K
 refine nZ ?_
 refine hLc fun K hK => ?_
 go_simp
 refine hK.out _ _ (by exact ⟨(bF.alloc (.cells #[ii (n0 : Int), ii v, ii o] 192)).d4, (((Nx.refl W.drew).alloc (.cells #[ii (n0 : Int), ii v, ii o] 192)).cell (p := ⟨w.heap.size, n0, none⟩) hgw).trans hcell⟩) ?_
 clear hK K
 refine nZ ?_
 refine HL.done ?_
 have bF2 := bF.alloc (.cells #[ii (n0 : Int), ii v, ii o] 192)
 have bR2 := (bR0.nx (Nx.refl W).drew).alloc (.cells #[ii (n0 : Int), ii v, ii o] 192)
 have bC2 : Box (W.drew.alloc (.cells #[ii (n0 : Int), ii v, ii o] 192)) W.heap.size 192 #[ii (n0 : Int), ii v, ii o] := Box.new W.drew 192 #[ii (n0 : Int), ii v, ii o]
 have hX2 := hx0.drew.alloc (.cells #[ii (n0 : Int), ii v, ii o] 192)
 have hgz : W.heap.size < (W.drew.alloc (.cells #[ii (n0 : Int), ii v, ii o] 192)).heap.size := bC2.lt
 change Exit.then _ _ _ _ (W.drew.alloc (.cells #[ii (n0 : Int), ii v, ii o] 192))
 generalize W.drew.alloc (.cells #[ii (n0 : Int), ii v, ii o] 192) = W3 at *
 obtain ⟨k0, k1, k2, k3⟩ := bF2.d4
 obtain ⟨m0, m1, m2⟩ := bC2.d3
 obtain ⟨rc0, rc1, rc2, rc3⟩ := bR2.d4
 have rf0 := bR2.frozen 0
 have rf1 := bR2.frozen 1
 have rf2 := bR2.frozen 2
 have rf3 := bR2.frozen 3
 have rlt := bR2.lt
 go_wp2
 have rq := (put4_box bR2 (ii (p - 1)) (ii p) (ii t) (sC (some ⟨W3.heap.size, 0, none⟩) 1 1)).alloc (.cells #[ii (n0 : Int), ii v, ii o] 192)
 have hnf := (put4_nx (g := gR) hX2 oM (ii (p - 1)) (ii p) (ii t) (sC (some ⟨W3.heap.size, 0, none⟩) 1 1)).alloc (.cells #[ii (n0 : Int), ii v, ii o] 192)
 unfold put4 at rq hnf
 have hsz3 : ((((W3.setCell ⟨gR, 0, none⟩ (ii (p - 1))).setCell ⟨gR, 1, none⟩ (ii p)).setCell ⟨gR, 2, none⟩ (ii t)).setCell ⟨gR, 3, none⟩ (sC (some ⟨W3.heap.size, 0, none⟩) 1 1)).heap.size = W3.heap.size := by simp [World.setCell]
 have bC3 := Box.new ((((W3.setCell ⟨gR, 0, none⟩ (ii (p - 1))).setCell ⟨gR, 1, none⟩ (ii p)).setCell ⟨gR, 2, none⟩ (ii t)).setCell ⟨gR, 3, none⟩ (sC (some ⟨W3.heap.size, 0, none⟩) 1 1)) 192 #[ii (n0 : Int), ii v, ii o]
 rw [hsz3] at bC3
 have hlw := hX2.size
 have hSf : Sl _ w.heap.size (some ⟨W3.heap.size, 0, none⟩) 192 (1 * 3) (chAt [((n0 : Int), v, xs.getD n0 0)]) := Sl.own (by rw [Ho.out]; exact one_own bC3) oM
 clear hsz3
 generalize (((((W3.setCell ⟨gR, 0, none⟩ (ii (p - 1))).setCell ⟨gR, 1, none⟩ (ii p)).setCell ⟨gR, 2, none⟩ (ii t)).setCell ⟨gR, 3, none⟩ (sC (some ⟨W3.heap.size, 0, none⟩) 1 1)).alloc (.cells #[ii (n0 : Int), ii v, ii o] 192)) = Wf at *
 obtain ⟨rg0, rg1, rg2, rg3⟩ := rq.d4
 exact bodyPost_ret (v := .agg #[ii (p - 1), ii p, ii t, sC (some ⟨W3.heap.size, 0, none⟩) 1 1]) (by simp [results, results206, go_sem, rg0, rg1, rg2, rg3]) rfl ⟨_, 1, rfl, hSf, hnf⟩
end
section
open Go.Joins Go.ChangeShapes Go.WideShapes Go.RowKit Go.Deep

end
section
open Go.RowKit

def markAt (k i : Nat) : Value := ii ((k + i : Nat) : Int)


end
section
open Go.ChangeShapes Go.WideShapes Go.RowKit Go.Deep
def u8At (ys : List Nat) (i : Nat) : Value := .int .u8 ((ys.getD i 0 : Nat) : Int)
def U8s (w : World) (B : Nat) (A : Option Addr) (n : Nat) (ys : List Nat) : Prop := ys.length = n /\ (∀ i, ys.getD i 0 < 256) /\ Row w B A n (u8At ys)
section
variable {w w' : World} {B B' n : Nat} {A : Option Addr} {ys : List Nat}
theorem U8s.below (h : U8s w B A n ys) (hb : Below B' w w') (hB : B <= B') : U8s w' B A n ys := ⟨h.1, h.2.1, h.2.2.below hb hB⟩
theorem U8s.more (h : U8s w B A n ys) (hB : B <= B') : U8s w B' A n ys := ⟨h.1, h.2.1, h.2.2.more hB⟩
theorem U8s.rg {lo hi : Nat} (h : U8s w B A n ys) (hb : Rg lo hi w w') (hB : B <= lo) (hl : lo <= w.heap.size) : U8s w' B A n ys := h.below (hb.below hl) hB
theorem U8s.at_ {k : Nat} (h : U8s w B A n ys) (hk : k < n) : ∃ b off, A = some ⟨b, off, none⟩ /\ b < B /\ w.cell? ⟨b, off + k, none⟩ = some (.int .u8 ((ys.getD k 0 : Nat) : Int)) := by
 obtain ⟨b, off, e, hb, hc⟩ := h.2.2 oM
 exact ⟨b, off, e, hb, hc k hk⟩
end
section
variable {w : World} {g : Nat} {t : TypeId} {v0 v1 v2 : Value}
theorem Box.d0 (h : Box w g t #[v0, v1, v2]) : w.cell? ⟨g, 0, none⟩ = some v0 := h.cell 0
theorem Box.d1 (h : Box w g t #[v0, v1, v2]) : w.cell? ⟨g, 1, none⟩ = some v1 := h.cell 1
theorem Box.d2 (h : Box w g t #[v0, v1, v2]) : w.cell? ⟨g, 2, none⟩ = some v2 := h.cell 2
theorem Box.put1 (h : Box w g t #[v0, v1, v2]) (u : Value) : Box (w.setCell ⟨g, 1, none⟩ u) g t #[v0, u, v2] := by
 unfold Box at h ⊢
 simp [World.setCell, Array.getElem?_modify, h]
theorem Box.put2 (h : Box w g t #[v0, v1, v2]) (u : Value) : Box (w.setCell ⟨g, 2, none⟩ u) g t #[v0, v1, u] := by
 unfold Box at h ⊢
 simp [World.setCell, Array.getElem?_modify, h]
end
def byteP (ys : List Nat) (a sd : Nat) : Nat × Nat × Nat :=
 if a + 1 <= ys.length then (ys.getD a 0, a + 1, (sd * 31 + ys.getD a 0 + 7) % 2147483648)
 else if 3000 < a + 1 then (0, a + 1, sd)
 else ((sd * 1103515245 + 12345) % 2147483648 / 65536 % 256, a + 1, (sd * 1103515245 + 12345) % 2147483648)
theorem byteP_lt {ys : List Nat} {a sd b a' sd' : Nat} (hy : ∀ i, ys.getD i 0 < 256) (hs : sd < 2147483648) (h : byteP ys a sd = (b, a', sd')) : b < 256 /\ a' = a + 1 /\ sd' < 2147483648 := by
 unfold byteP at h
 have := hy a
 split at h
 . cases h; omega
 . split at h <;> cases h <;> omega
def Src (w : World) (g : Nat) (A : Option Addr) (n c a sd : Nat) : Prop := Box w g 132 #[sC A n c, ii a, ii sd]
theorem byte_c (g : Nat) (A : Option Addr) (n c a sd B : Nat) (ys : List Nat) (b a' sd' : Nat) (w : World) (hb : Src w g A n c a sd) (h : U8s w B A n ys) (hB : B <= g) (hn : n <= 1048576) (ha : a <= 1048576) (hs : sd < 2147483648)
 (HP : byteP ys a sd = (b, a', sd')) :
 Calls Tryz.prog 170 #[.pointer (some ⟨g, 0, none⟩)] w fun e w' => e = .returned (ii b) /\ Src w' g A n c a' sd' /\ Rg g (g + 1) w w' := by
 unfold Src at *
 have c0 := hb.d0
 have c1 := hb.d1
 have c2 := hb.d2
 have f1 := hb.frozen 1
 have f2 := hb.frozen 2
 have hr1 := (Rg.of_nx (lo := g) (hi := g + 1) (Nx.refl w)).setCell (p := ⟨g, 1, none⟩) nle (Nat.lt_succ_self _) (ii ((a : Int) + 1))
 have hbs := hb.put1 (ii ((a : Int) + 1))
 have h1 := h.rg hr1 hB (Nat.le_of_lt hb.lt)
 go_enter func170, ntmps170
 go_wp2
 generalize w.setCell ⟨g, 1, none⟩ (ii ((a : Int) + 1)) = w1 at *
 clear c0 c1 c2 f1 f2 h
 have c0 := hbs.d0
 have c1 := hbs.d1
 have c2 := hbs.d2
 have f2 := hbs.frozen 2
 by_cases hlt : a < n
 . obtain ⟨b0, off, rfl, hb0, hc⟩ := h1.at_ hlt
   unfold byteP at HP
   rw [if_pos (by rw [h1.1]; omega)] at HP
   have hy := h1.2.1 a
   generalize ys.getD a 0 = y at *
   cases HP
   go_quiet (fail)
   have hr2 : Rg g (g + 1) w (w1.drewN nq) := hr1.trans (Rg.of_nx ((Nx.refl w1).drewN nq))
   have hb2 : Box (w1.drewN nq) g 132 #[sC (some ⟨b0, off, none⟩) n c, ii ((a : Int) + 1), ii sd] := hbs
   have hc2 : (w1.drewN nq).cell? ⟨b0, off + a, none⟩ = some (.int .u8 (b : Int)) := hc
   clear c0 c1 c2 f2 hc hbs hr1 h1
   generalize w1.drewN nq = w2 at *
   have c0 := hb2.d0
   have c1 := hb2.d1
   have c2 := hb2.d2
   have f2 := hb2.frozen 2
   go_wp2_with fail
   go_still_tail 23, (by kernel_rfl)
   have e1 : IntKind.i64.wrap (a : Int) = a := IntWalk.i64_in _ oM
   have e2 : IntKind.i64.wrap ((sd : Int) * 31) = (sd : Int) * 31 := IntWalk.i64_in _ oM
   have e0 : IntKind.i64.wrap (b : Int) = b := IntWalk.i64_in _ oM
   have e3 : IntKind.i64.wrap ((sd : Int) * 31 + b) = (sd : Int) * 31 + b := IntWalk.i64_in _ oM
   have e4 : IntKind.i64.wrap ((sd : Int) * 31 + b + 7) = (sd : Int) * 31 + b + 7 := IntWalk.i64_in _ oM
   have e6 : ((sd : Int) * 31 + b + 7).tmod 2147483648 = ((sd : Int) * 31 + b + 7) % 2147483648 := Int.tmod_eq_emod_of_nonneg oM
   repeat (first | still_step | rw [e1] | rw [e2])
   try refine wpStill_nil ?_
   change wpList _ _ _ _ _ w2.drew
   have e5 : ((sd : Int) * 31 + b + 7) % 2147483648 = (((sd * 31 + b + 7) % 2147483648 : Nat) : Int) := oM
   first | rw [e6, e5] | rw [e5]
   have hr3 : Rg g (g + 1) w w2.drew := hr2.trans (Rg.of_nx (Nx.refl w2).drew)
   have hb3 : Box w2.drew g 132 #[sC (some ⟨b0, off, none⟩) n c, ii ((a : Int) + 1), ii sd] := hb2
   have hc3 : w2.drew.cell? ⟨b0, off + a, none⟩ = some (.int .u8 (b : Int)) := hc2
   clear c0 c1 c2 f2 hc2 hb2 hr2 e0 e2 e3 e4 e5 e6
   generalize w2.drew = w3 at *
   have c2 := hb3.d2
   have f2 := hb3.frozen 2
   generalize hs' : (sd * 31 + b + 7) % 2147483648 = s'
   have Hs := qh hs'
   clear hs'
   have hb4 := hb3.put2 (ii (s' : Int))
   have hc4 : (w3.setCell ⟨g, 2, none⟩ (ii (s' : Int))).cell? ⟨b0, off + a, none⟩ = some (.int .u8 (b : Int)) := by rw [World.cell?_setCell_far _ _ _ _ sM]; exact hc3
   have hr4 := hr3.setCell (p := ⟨g, 2, none⟩) nle (Nat.lt_succ_self _) (ii (s' : Int))
   go_wp2_with fail
   clear c2 f2 hc3 hb3 hr3
   generalize w3.setCell ⟨g, 2, none⟩ (ii (s' : Int)) = w4 at *
   have c0 := hb4.d0
   have c1 := hb4.d1
   go_quiet (fail)
   go_wp2
   go_ret
   refine ⟨rfl, ?_, hr4.trans (Rg.of_nx ((Nx.refl w4).drewN nq))⟩
   rw [Hs.out]
   exact hb4
 . unfold byteP at HP
   rw [if_neg (by rw [h1.1]; omega)] at HP
   by_cases h3 : 3000 < a + 1
   . rw [if_pos h3] at HP
     cases HP
     have h3' : decide ((3000 : Int) < (a : Int) + 1) = true := by simp; omega
     clear h3
     go_quiet (fail)
     go_wp2
     go_ret
     exact ⟨rfl, hbs, hr1.trans (Rg.of_nx ((Nx.refl w1).drewN nq))⟩
   . rw [if_neg h3] at HP
     have H3 := (Prod.mk.inj (Prod.mk.inj HP).2).2
     have H2 := (Prod.mk.inj (Prod.mk.inj HP).2).1
     have H1 := (Prod.mk.inj HP).1
     clear HP
     rw [H3] at H1
     have e6 : ((sd : Int) * 1103515245 + 12345).tmod 2147483648 = (sd' : Int) := by rw [Int.tmod_eq_emod_of_nonneg oM]; omega
     have hsd' : sd' < 2147483648 := oM
     have K1 := qh H1
     clear H3 H1
     subst H2
     have h3' : decide ((3000 : Int) < (a : Int) + 1) = false := by simp; omega
     clear h3
     go_quiet (fail)
     have hr2 : Rg g (g + 1) w (w1.drewN nq) := hr1.trans (Rg.of_nx ((Nx.refl w1).drewN nq))
     have hb2 : Box (w1.drewN nq) g 132 #[sC A n c, ii ((a : Int) + 1), ii sd] := hbs
     clear c0 c1 c2 f2 hbs hr1 h1
     generalize w1.drewN nq = w2 at *
     have c0 := hb2.d0
     have c1 := hb2.d1
     have c2 := hb2.d2
     have f2 := hb2.frozen 2
     go_wp2
     go_ret
     exact ⟨ret_int (by have := K1.out; omega), hb2.put2 _, hr2.setCell (p := ⟨g, 2, none⟩) nle (Nat.lt_succ_self _) _⟩
theorem next_c (m g : Nat) (A : Option Addr) (n c a sd B : Nat) (ys : List Nat) (b a' sd' : Nat) (w : World) (hm : 2 <= m) (hm2 : m <= 256) (hb : Src w g A n c a sd) (h : U8s w B A n ys) (hB : B <= g) (hn : n <= 1048576) (ha : a <= 1048576) (hs : sd < 2147483648)
 (HP : byteP ys a sd = (b, a', sd')) :
 Calls Tryz.prog 96 #[.pointer (some ⟨g, 0, none⟩), ii m] w fun e w' => e = .returned (ii ((b % m : Nat) : Int)) /\ Src w' g A n c a' sd' /\ Rg g (g + 1) w w' := by
 have HH := qh HP
 have hb2 := (byteP_lt h.2.1 hs HP).1
 clear HP
 go_enter func96, ntmps96
 go_wp2_with fail
 refine (byte_c g A n c a sd B ys b a' sd' _ hb h hB hn ha hs HH.out).mono ?_
 rintro e w1 ⟨rfl, h1, hr⟩
 go_wp2
 go_ret
 exact ⟨ret_int oM, h1, hr⟩
theorem chance_c (m g : Nat) (A : Option Addr) (n c a sd B : Nat) (ys : List Nat) (b a' sd' : Nat) (w : World) (hm : 2 <= m) (hm2 : m <= 256) (hb : Src w g A n c a sd) (h : U8s w B A n ys) (hB : B <= g) (hn : n <= 1048576) (ha : a <= 1048576) (hs : sd < 2147483648)
 (HP : byteP ys a sd = (b, a', sd')) :
 Calls Tryz.prog 98 #[.pointer (some ⟨g, 0, none⟩), ii m] w fun e w' => e = .returned (.bool (decide (b % m = m - 1))) /\ Src w' g A n c a' sd' /\ Rg g (g + 1) w w' := by
 have HH := qh HP
 have hb2 := (byteP_lt h.2.1 hs HP).1
 clear HP
 go_enter func98, ntmps98
 go_wp2_with fail
 refine (next_c m g A n c a sd B ys b a' sd' _ hm hm2 hb h hB hn ha hs HH.out).mono ?_
 rintro e w1 ⟨rfl, h1, hr⟩
 go_wp2
 all_goals (go_ret; refine ⟨ret_bool ?_, h1, hr⟩; rw [Bool.eq_iff_iff]; simp; omega)
theorem l00Source_c (A : Option Addr) (n c : Nat) (w : World) (hn : n <= 1048576) :
 Calls Tryz.prog 42 #[sC A n c] w fun e w' => e = .returned (.pointer (some ⟨w.heap.size, 0, none⟩)) /\ Src w' w.heap.size A n c 0 (n % 1000) /\ Nx w w' := by
 go_enter func42, ntmps42
 go_wp2
 go_ret
 refine ⟨rfl, ?_, (Nx.refl w).alloc _⟩
 unfold Src
 rw [show (((n % 1000 : Nat) : Int)) = (n : Int) % 1000 from by omega]
 exact Box.new w _ _
theorem addr_plain8 {w : World} {a : Addr} {v : Value} (h : w.cell? (a.add 0) = some v) : ∃ b off, a = ⟨b, off, none⟩ /\ b < w.heap.size := by
 have h' : w.cell? a = some v := by simpa [Addr.add] using h
 have hs := World.cell?_spot h'
 obtain ⟨b, off, sp⟩ := a
 simp only at hs
 subst hs
 exact ⟨b, off, rfl, World.block_lt_of_cell? w _ h'⟩
theorem addr_add8 (b off i : Nat) : (Addr.mk b off none).add i = ⟨b, off + i, none⟩ := by
 unfold Addr.add
 by_cases h : i = 0
 . subst h; simp
 . simp [h]
theorem c5_ : Tryz.prog.cellsOf 5 = 1 := by kernel_rfl
theorem u8_wf {n : Int} (h : (Lit.int .u8 n).wf = true) : 0 <= n /\ n < 256 := by
 have h2 : IntKind.u8.min <= n /\ n <= IntKind.u8.max := by simpa [Lit.wf] using h
 have e1 : IntKind.u8.min = 0 := by decide
 have e2 : IntKind.u8.max = 255 := by decide
 omega
theorem open_u8s_ {H : Type} {enc : TypeId × Value -> H} {w : World} {base : Nat} {spare : Nat -> Bool} {held : Bool} {r : Reach} {b0 : Nat} {v : Value} {d : DataW H} {p : List MemPlace}
 (hv : Value.okWide Tryz.prog w r b0 22 v) (h : DataW.Trod enc Tryz.prog w base spare held 22 v d p) :
 ∃ (A : Option Addr) (n c : Nat) (ys : List Nat), v = sC A n c /\ U8s w w.heap.size A n ys /\ n <= 2 ^ 63 - 1 := by
 obtain ⟨a0, len0, cap0, rfl⟩ := okWide_slice underlying22 hv
 obtain ⟨fuel, hf⟩ := h
 rcases open_slice underlying22 hf with ⟨hcs, _⟩ | ⟨a, len, cap, m, n, D, Pl, hcs, _, hl, hm, hmm, _, hi⟩
 . simp [Value.cells] at hcs
   obtain ⟨rfl, rfl, rfl⟩ := hcs
   exact ⟨none, 0, 0, [], rfl, ⟨rfl, fun i => by simp, fun hn => absurd hn oM⟩, oM⟩
 . simp [Value.cells] at hcs
   obtain ⟨rfl, rfl, rfl⟩ := hcs
   have hle : len0 <= m := by rw [hmm]; split <;> omega
   unfold maxLen at hm
   have key : ∀ i, ∃ q : Nat, q < 256 /\ (i < m -> w.cell? (a.add i) = some (.int .u8 (q : Int))) := by
    intro i
    by_cases him : i < m
    . obtain ⟨cs', hc, ht⟩ := hi i him
      rw [c5_, Nat.mul_one] at hc
      obtain ⟨_, hcl, hat⟩ := World.cells?_some hc
      obtain ⟨q, e, _, hw⟩ := DataW.trod_int underlying5 ht
      subst e
      obtain ⟨h1, h2⟩ := u8_wf hw
      refine ⟨q.toNat, oM, fun _ => ?_⟩
      have := hat 0 oM
      rw [show ((q.toNat : Nat) : Int) = q by omega]
      simpa [Addr.add] using this
    . exact ⟨0, oM, fun h => absurd h him⟩
   obtain ⟨g, hg⟩ := Classical.skolem.1 key
   refine ⟨some a, len0, cap0, (List.range len0).map g, rfl, ⟨by simp, fun i => ?_, fun hn => ?_⟩, oM⟩
   . rw [gdE, List.getElem?_map]
     by_cases hi' : i < len0
     . rw [List.getElem?_range hi']; exact (hg i).1
     . rw [List.getElem?_eq_none (by simpa using hi')]; simp
   . obtain ⟨b, off, rfl, hb⟩ := addr_plain8 ((hg 0).2 oM)
     refine ⟨b, off, rfl, hb, fun i hi => ?_⟩
     have h1 := (hg i).2 oM
     rw [addr_add8] at h1
     rw [h1]
     unfold u8At
     rw [gdE, List.getElem?_map, List.getElem?_range hi]; rfl
end
section
open Go.RowKit
theorem Rg.setNew8 {lo hi : Nat} {a w : World} (h : Rg lo hi a w) {p : Addr} (h1 : a.heap.size <= p.block) (v : Value) : Rg lo hi a (w.setCell p v) := ⟨h.os, h.tape, h.output, by have := h.size; simp only [World.setCell, Array.size_modify]; exact this, fun k hk hr => (Below.heap_setCell _ _ _ _ oM).trans (h.block k hk hr)⟩
def SrcR (w : World) (g : Nat) (A : Option Addr) (n c k : Nat) : Prop := ∃ a sd, a <= k /\ sd < 2147483648 /\ Src w g A n c a sd
theorem SrcR.nx {w w' : World} {g n c k : Nat} {A : Option Addr} (h : SrcR w g A n c k) (hb : Nx w w') : SrcR w' g A n c k := by
 obtain ⟨a, sd, h1, h2, h3⟩ := h
 unfold Src at h3
 exact ⟨a, sd, h1, h2, h3.nx hb⟩
theorem SrcR.lt {w : World} {g n c k : Nat} {A : Option Addr} (h : SrcR w g A n c k) : g < w.heap.size := by
 obtain ⟨a, sd, h1, h2, h3⟩ := h
 unfold Src at h3
 exact h3.lt
theorem SrcR.more {w : World} {g n c k k' : Nat} {A : Option Addr} (h : SrcR w g A n c k) (hk : k <= k') : SrcR w g A n c k' := by
 obtain ⟨a, sd, h1, h2, h3⟩ := h
 exact ⟨a, sd, oM, h2, h3⟩
def RetV (m : Nat) (g : Nat) (A : Option Addr) (n c k : Nat) (w : World) (e : Ending) (w' : World) : Prop :=
 ∃ v : Nat, e = .returned (ii (v : Int)) /\ v < m /\ SrcR w' g A n c (k + 3) /\ Rg g (g + 1) w w'
theorem byteR_c (g : Nat) (A : Option Addr) (n c k B : Nat) (ys : List Nat) (w : World) (hb : SrcR w g A n c k) (h : U8s w B A n ys) (hB : B <= g) (hn : n <= 1048576) (hk : k <= 1048576) :
 Calls Tryz.prog 170 #[.pointer (some ⟨g, 0, none⟩)] w fun e w' => ∃ b : Nat, e = .returned (ii b) /\ b < 256 /\ SrcR w' g A n c (k + 1) /\ Rg g (g + 1) w w' := by
 obtain ⟨a, sd, h1, h2, h3⟩ := hb
 obtain ⟨⟨b, a', sd'⟩, HP⟩ : ∃ x, byteP ys a sd = x := ⟨_, rfl⟩
 obtain ⟨k1, k2, k3⟩ := byteP_lt h.2.1 h2 HP
 exact (byte_c g A n c a sd B ys b a' sd' w h3 h hB hn oM h2 HP).mono fun e w' ⟨he, hs, hr⟩ => ⟨b, he, k1, ⟨a', sd', oM, k3, hs⟩, hr⟩
theorem nextR_c (m g : Nat) (A : Option Addr) (n c k B : Nat) (ys : List Nat) (w : World) (hm : 2 <= m) (hm2 : m <= 100000) (hb : SrcR w g A n c k) (h : U8s w B A n ys) (hB : B <= g) (hn : n <= 1048576) (hk : k + 3 <= 1048576) :
 Calls Tryz.prog 96 #[.pointer (some ⟨g, 0, none⟩), ii m] w (RetV m g A n c k w) := by
 by_cases h256 : m <= 256
 . obtain ⟨a, sd, h1, h2, h3⟩ := hb
   obtain ⟨⟨b, a', sd'⟩, HP⟩ : ∃ x, byteP ys a sd = x := ⟨_, rfl⟩
   obtain ⟨k1, k2, k3⟩ := byteP_lt h.2.1 h2 HP
   exact (next_c m g A n c a sd B ys b a' sd' w hm h256 h3 h hB hn oM h2 HP).mono fun e w' ⟨he, hs, hr⟩ => ⟨b % m, he, Nat.mod_lt _ oM, ⟨a', sd', oM, k3, hs⟩, hr⟩
 . go_enter func96, ntmps96
   go_wp2_with fail
   refine (byteR_c g A n c k B ys _ hb h hB hn oM).mono ?_
   rintro e w1 ⟨x, rfl, hx, h1, hr1⟩
   have hu1 := h.rg hr1 hB (Nat.le_of_lt hb.lt)
   go_wp2_with fail
   refine (byteR_c g A n c (k + 1) B ys _ h1 hu1 hB hn oM).mono ?_
   rintro e w2 ⟨y, rfl, hy, h2, hr2⟩
   have hu2 := hu1.rg hr2 hB (Nat.le_of_lt h1.lt)
   go_wp2_with fail
   refine (byteR_c g A n c (k + 1 + 1) B ys _ h2 hu2 hB hn oM).mono ?_
   rintro e w3 ⟨z, rfl, hz, h3, hr3⟩
   go_wp2
   go_ret
   exact ⟨(x * 65536 + y * 256 + z) % m, ret_int (by rw [show (x : Int) * 65536 + (y : Int) * 256 + (z : Int) = ((x * 65536 + y * 256 + z : Nat) : Int) by omega, <- Int.natCast_emod]), Nat.mod_lt _ oM, h3, (hr1.trans hr2).trans hr3⟩
def iV (xs : List Int) : List Value := xs.map fun x => ii x
theorem iV_get (xs : List Int) (i : Nat) (h : i < xs.length) : (iV xs)[i]? = some (inAt xs i) := by
 unfold iV inAt
 rw [List.getElem?_map, List.getElem?_eq_getElem h, gdE, List.getElem?_eq_getElem h]; rfl
def RowI (w : World) (B : Nat) (v : Value) (xs : List Int) : Prop := w.ownsRow B 3 1 v xs.length (iV xs)
theorem RowI.new (w : World) {B : Nat} (hB : B <= w.heap.size) : RowI (w.alloc (.cells #[] 3)) B (sC (some ⟨w.heap.size, 0, none⟩) 0 0) [] :=
 ⟨rfl, .inr ⟨_, 0, #[], rfl, hB, heap_alloc_new w _, by simp, by unfold maxLen; omega, rfl, rfl⟩⟩
theorem RowI.sl {w : World} {B : Nat} {v : Value} {xs : List Int} (h : RowI w B v xs) : ∃ A c, v = sC A xs.length c /\ Sl w B A 3 xs.length (inAt xs) := by
 rcases h.2 with ⟨rfl, h0⟩ | ⟨g, cap, cur, rfl, hb, hg, hnc, _, hcs, htk⟩
 . exact ⟨none, 0, by rw [h0], fun hn => oM⟩
 . refine ⟨_, cap, rfl, Sl.own ⟨cur, hg, oM, fun i hi => ?_⟩ hb⟩
   have h1 : (cur.toList.take (xs.length * 1))[i]? = some (inAt xs i) := by rw [htk]; exact iV_get xs i hi
   rw [List.getElem?_take_of_lt oM] at h1
   simpa using h1
theorem RowI.nx {w w' : World} {B : Nat} {v : Value} {xs : List Int} (h : RowI w B v xs) (hb : Nx w w') : RowI w' B v xs := by
 refine World.ownsRow.kept (row := none) h ⟨hb.os, hb.tape, hb.output, hb.size, fun i hi _ => hb.block i hi⟩ ?_
 cases hv : v.ownBlock with
 | none => exact .inl rfl
 | some g => exact .inr (by simp)
theorem RowI.rg {w w' : World} {B lo hi : Nat} {v : Value} {xs : List Int} (h : RowI w B v xs) (hr : Rg lo hi w w') (hh : hi <= B) : RowI w' B v xs := by
 rcases h.2 with ⟨rfl, h0⟩ | ⟨g, cap, cur, rfl, hb, hg, r⟩
 . exact ⟨h.1, .inl ⟨rfl, h0⟩⟩
 . have hlt := (World.ownsRow.lt h g rfl).2
   exact ⟨h.1, .inr ⟨g, cap, cur, rfl, hb, (hr.block g hlt (.inr oM)).trans hg, r⟩⟩
theorem RowI.ne {w : World} {B g : Nat} {v : Value} {xs : List Int} {t : TypeId} {ys : Array Value} (h : RowI w B v xs) (hb : Box w g t ys) (ht : t ≠ 3) : some g ≠ v.ownBlock := by
 intro he
 rcases h.2 with ⟨rfl, _⟩ | ⟨g', cap, cur, rfl, _, hg, _⟩
 . simp [Value.ownBlock] at he
 . obtain rfl : g = g' := by simpa [Value.ownBlock] using he
   unfold Box at hb
   rw [hg] at hb
   injection hb with hb
   injection hb with _ hb
   exact ht hb.symm
structure GrewT (t : TypeId) (B : Nat) (w w' : World) : Prop where
 nx : ∀ a, Nx a w -> a.heap.size <= B -> Nx a w'
 rg : ∀ lo hi a, Rg lo hi a w -> a.heap.size <= B -> Rg lo hi a w'
 box : ∀ g t' xs, t' ≠ t -> Box w g t' xs -> Box w' g t' xs
 size : w.heap.size <= w'.heap.size
theorem wpList_addI {w : World} {ops : Array Oper} {rest : List Oper} {o : Oper} {a : Act} {Q : Exit -> Act -> World -> Prop}
 (hgd : o.guard = none) (s x : Operand) (ho : o.op = .call { callee := .builtin .append, args := #[s, x], argTypes := #[23, 23] })
 (B gd : Nat) (v : Value) (xs : List Int) (x0 : Int) (hs : a.eval s = v) (hx : a.eval x = sC (some ⟨gd, 0, none⟩) 1 1) (hown : RowI w B v xs) (hbx : Box w gd 3 #[ii x0])
 (hl : xs.length <= 1048576) (hB : B <= w.heap.size)
 (hK : ∀ A' k' w', RowI w' B (sC A' (xs.length + 1) k') (xs ++ [x0]) -> GrewT 3 B w w' -> wpList Tryz.prog ops Q rest (a.put o.dst (sC A' (xs.length + 1) k')) w') :
 wpList Tryz.prog ops Q (o :: rest) a w := by
 obtain ⟨i0, hi0, hz0, hz1, hz2⟩ := info_parts info_int
 refine wpList_append_own w hgd s x 23 ho B 3 i0 _ 1 8 underlying23 hi0 hz0 hz1 hz2 rfl oM v xs.length _ hs hown ⟨gd, 0, none⟩ 1 1 [ii x0] hx rfl (fun j u hj => ?_) (fun u hu => by simp only [List.mem_cons, List.not_mem_nil, or_false] at hu; rcases hu with rfl; rfl) (by unfold maxLen; omega) oM hB ?_
 . rw [addr_add', Nat.zero_add, hbx.cell j]
   rw [<- hj]
   rcases j with _ | j <;> simp
 . intro v' w' hw' hg' _
   have hr : RowI w' B v' (xs ++ [x0]) := by
    unfold RowI iV
    rw [List.map_append, List.length_append]
    exact hw'
   obtain ⟨A', k', rfl, _⟩ := hr.sl
   rw [List.length_append] at hr ⊢
   have hrow : ∀ k, Value.ownBlock v = some k -> B <= k := fun k hk => (World.ownsRow.lt hown k hk).1
   refine hK A' k' w' hr ⟨fun b hb hbB => Below.grown hb hg' hb.size (fun k hk => ntr hbB (hrow k hk)), fun lo hi b hb hbB => ?_, fun g t xs' ht hbg => hbg.grown hg' (hown.ne hbg ht), hg'.size⟩
   refine ⟨hg'.os.trans hb.os, hg'.tape.trans hb.tape, hg'.output.trans hb.output, ntr hb.size hg'.size, fun k hk hr => (hg'.block k (Nat.lt_of_lt_of_le hk hb.size) fun e => ?_).trans (hb.block k hk hr)⟩
   have := hrow k e.symm
   omega
theorem RowI.nil (w : World) (B : Nat) : RowI w B (nsl) [] := ⟨rfl, .inl ⟨rfl, rfl⟩⟩
theorem RowI.slc {w : World} {B : Nat} {v : Value} {xs : List Int} (h : RowI w B v xs) : ∃ A c, v = sC A xs.length c /\ xs.length <= c /\ Sl w B A 3 xs.length (inAt xs) := by
 rcases h.2 with ⟨rfl, h0⟩ | ⟨g, cap, cur, rfl, hb, hg, hnc, _, hcs, htk⟩
 . exact ⟨none, 0, by rw [h0], oM, fun hn => oM⟩
 . refine ⟨_, cap, rfl, oM, Sl.own ⟨cur, hg, oM, fun i hi => ?_⟩ hb⟩
   have h1 : (cur.toList.take (xs.length * 1))[i]? = some (inAt xs i) := by rw [htk]; exact iV_get xs i hi
   rw [List.getElem?_take_of_lt oM] at h1
   simpa using h1

def Sm (xs : List Int) : Prop := ∀ x ∈ xs, 0 <= x /\ x < 90
theorem Sm.add {xs : List Int} (h : Sm xs) {v : Nat} (hv : v < 90) : Sm (xs ++ [(v : Int)]) := fun x hx => by
 rcases List.mem_append.1 hx with hx | hx
 . exact h x hx
 . simp only [List.mem_singleton] at hx
   subst hx
   omega
theorem Sm.cont {xs : List Int} (h : Sm xs) (hl : xs.length = 8) : contB xs = true := by
 unfold contB
 rw [decide_eq_true hl, List.all_eq_true.2 fun x hx => by have := h x hx; unfold inB; simp; omega]; rfl
theorem SrcR.rgO {w w' : World} {B : Nat} {g n c k : Nat} {A : Option Addr} (h : SrcR w g A n c k) (hb : GrewT 3 B w w') : SrcR w' g A n c k := by
 obtain ⟨a, sd, h1, h2, h3⟩ := h
 unfold Src at h3
 exact ⟨a, sd, h1, h2, hb.box _ _ _ dC h3⟩
theorem content_c (g : Nat) (A : Option Addr) (n c B k0 : Nat) (ys : List Nat) (w : World) (hb : SrcR w g A n c k0) (h : U8s w B A n ys) (hB : B <= g) (hn : n <= 1048576) (hk0 : k0 <= 1000000) :
 Calls Tryz.prog 134 #[.pointer (some ⟨g, 0, none⟩)] w fun e w' => ∃ A' c' xs, e = .returned (sC A' 8 c') /\ xs.length = 8 /\ Sm xs /\ SlI w' w.heap.size A' xs /\ SrcR w' g A n c (k0 + 24) /\ Rg g (g + 1) w w' := by
 have hz0 := hb.lt
 have hrow0 := RowI.new w nle
 have hx0 := (Nx.refl w).alloc (.cells #[] 3)
 go_enter func134, ntmps134
 go_wp2_with fail
 go_loopw [3, 4] (fun v i wr => ∃ (k : Nat) (xs : List Int), k <= 8 /\ i = ii k /\ xs.length = k /\ Sm xs /\ (∃ u, u = v /\ RowI wr w.heap.size u xs) /\ SrcR wr g A n c (k0 + 3 * k) /\ Rg g (g + 1) w wr) (fun _ i _ => 8 - (intOf i).toNat)
 case atStart => exact ⟨0, [], oM, rfl, rfl, (fun x hx => by cases hx), ⟨_, rfl, hrow0⟩, (hb.nx hx0).more oM, Rg.of_nx hx0⟩
 case round =>
  obtain ⟨k, xs, hk, rfl, hl, hsm, ⟨u, rfl, hrow⟩, hs, hrg⟩ := hrel
  clear hrow0 hx0
  by_cases hlt : k < 8
  case neg =>
   obtain rfl : k = 8 := oM
   obtain ⟨A', c', rfl, hS⟩ := hrow.sl
   rw [hl]
   go_wp2
   go_ret
   exact ⟨A', c', xs, rfl, hl, hsm, hS, hs.more oM, hrg⟩
  have hu := h.rg hrg hB (Nat.le_of_lt hz0)
  go_wp2_with fail
  refine (nextR_c 90 g A n c (k0 + 3 * k) B ys _ oM oM hs hu hB hn oM).mono ?_
  rintro e w1 ⟨v, rfl, hv, hs1, hr1⟩
  have hx1 := (Nx.refl w1).alloc (.cells #[ii (v : Int)] 3)
  have hbx := Box.new w1 3 #[ii (v : Int)]
  have hrow1 := (hrow.rg hr1 oM).nx hx1
  have hs2 := hs1.nx hx1
  have hr2 := (hrg.trans hr1).trans (Rg.of_nx (lo := g) (hi := g + 1) hx1)
  have hsz := ntr hr2.size nle
  have HR := qh hrow1
  have HB := qh hbx
  have HL := qh hl
  clear hrow hrow1 hbx hs hs1 hu hl hrg hr1
  go_wp2_with (at_builtin; refine wpList_addI rfl _ _ rfl w.heap.size w1.heap.size _ xs (v : Int) rfl rfl HR.out HB.out (by have := HL.out; omega) hsz ?_)
  intro A' k' w2 hrow2 hgr
  go_wp2
  go_roundw
  case rel => exact ⟨k + 1, xs ++ [(v : Int)], oM, by go_num, by rw [List.length_append, HL.out]; rfl, hsm.add hv, ⟨_, rfl, hrow2⟩, (hs2.rgO hgr).more oM, hgr.rg _ _ _ hr2 nle⟩
  case measure => simp [intOf]; omega

def two (b b2 : Nat) (v o v2 o2 : Int) : List Chg := if b = b2 then [((b : Int), v2, o)] else if b < b2 then [((b : Int), v, o), ((b2 : Int), v2, o2)] else [((b2 : Int), v2, o2), ((b : Int), v, o)]
theorem ch_one {b v o : Int} (h : chB (b, v, o) = true) : chsB [(b, v, o)] = true := OkTo.all fun j hj => by
 obtain rfl : j = 0 := by simp at hj; omega
 unfold okCh
 show (chB (b, v, o) && _) = true
 rw [h]; rfl
theorem chB_mk {b v o : Int} (h0 : 0 <= b) (h1 : b <= 7) (h2 : 0 <= v) (h3 : v <= 999999) (h4 : 0 <= o) (h5 : o <= 999999) : chB (b, v, o) = true := by
 unfold chB
 rw [inB_mk h0 h1, inB_mk h2 h3, inB_mk h4 h5]; rfl
theorem app_one (p : Chg -> Int) (xs : List Int) (b : Nat) (v o : Int) : app p xs [((b : Int), v, o)] = xs.set b (p ((b : Int), v, o)) := by
 show xs.set ((b : Int)).toNat _ = _
 rw [Int.toNat_natCast]
theorem getD_set_self {xs : List Int} {b : Nat} (h : b < xs.length) (v : Int) : (xs.set b v).getD b 0 = v := by
 rw [gdE, List.getElem?_set]; simp [h]
theorem getD_set_ne {xs : List Int} {b b2 : Nat} (h : b ≠ b2) (v : Int) : (xs.set b v).getD b2 0 = xs.getD b2 0 := by
 rw [gdE, gdE, List.getElem?_set_ne h]
theorem set_getD {xs : List Int} {b : Nat} (h : b < xs.length) : xs.set b (xs.getD b 0) = xs := by
 rw [gdE, List.getElem?_eq_getElem h]
 exact List.set_getElem_self h
end
section
open Go.Joins Go.ChangeShapes Go.WideShapes Go.RowKit Go.Deep
structure SgR where
 f : Int
 t : Int
 m : Int
 A : Option Addr
 c : Nat
 cs : List Chg
def sgZ : SgR := ⟨0, 0, 0, none, 0, []⟩
def SgR.v (g : SgR) : Sg4 := (g.f, g.t, g.m, g.cs)
def sgAt (gs : List SgR) (i : Nat) : Value :=
 if i % 4 = 0 then ii (gs.getD (i / 4) sgZ).f else if i % 4 = 1 then ii (gs.getD (i / 4) sgZ).t else if i % 4 = 2 then ii (gs.getD (i / 4) sgZ).m else sC (gs.getD (i / 4) sgZ).A (gs.getD (i / 4) sgZ).cs.length (gs.getD (i / 4) sgZ).c
theorem sgAt0 (gs : List SgR) (k : Nat) : sgAt gs (k * 4) = ii (gs.getD k sgZ).f := by
 unfold sgAt; rw [if_pos oM, show k * 4 / 4 = k by omega]
theorem sgAt1 (gs : List SgR) (k : Nat) : sgAt gs (k * 4 + 1) = ii (gs.getD k sgZ).t := by
 unfold sgAt; rw [if_neg oM, if_pos oM, show (k * 4 + 1) / 4 = k by omega]
theorem sgAt2 (gs : List SgR) (k : Nat) : sgAt gs (k * 4 + 2) = ii (gs.getD k sgZ).m := by
 unfold sgAt; rw [if_neg oM, if_neg oM, if_pos oM, show (k * 4 + 2) / 4 = k by omega]
theorem sgAt3 (gs : List SgR) (k : Nat) : sgAt gs (k * 4 + 3) = sC (gs.getD k sgZ).A (gs.getD k sgZ).cs.length (gs.getD k sgZ).c := by
 unfold sgAt; rw [if_neg oM, if_neg oM, if_neg oM, show (k * 4 + 3) / 4 = k by omega]
theorem getD_app (gs : List SgR) (g : SgR) : (gs ++ [g]).getD gs.length sgZ = g := by
 rw [gdE, List.getElem?_append_right nle]; simp
theorem getD_app_lt (gs : List SgR) (g : SgR) {k : Nat} (h : k < gs.length) : (gs ++ [g]).getD k sgZ = gs.getD k sgZ := by
 rw [gdE, gdE, List.getElem?_append_left h]
theorem v_at {gs hs : List SgR} (h : gs.map SgR.v = hs.map SgR.v) (k : Nat) : (gs.getD k sgZ).v = (hs.getD k sgZ).v := by
 have e : (gs.map SgR.v)[k]? = (hs.map SgR.v)[k]? := by rw [h]
 rw [List.getElem?_map, List.getElem?_map] at e
 rw [gdE, gdE]
 cases h1 : gs[k]? <;> cases h2 : hs[k]? <;> rw [h1, h2] at e <;> simp at e
 . exact e
theorem v_len {gs hs : List SgR} (h : gs.map SgR.v = hs.map SgR.v) : gs.length = hs.length := by
 have := congrArg List.length h
 simpa using this
structure Sgs (w : World) (B : Nat) (A : Option Addr) (gs : List SgR) : Prop where
 row : Row w B A (gs.length * 4) (sgAt gs)
 chs : ∀ k, k < gs.length -> Chs w B (gs.getD k sgZ).A (gs.getD k sgZ).cs
theorem Sgs.below {w w' : World} {B B' : Nat} {A : Option Addr} {gs : List SgR} (h : Sgs w B A gs) (hb : Below B' w w') (hB : B <= B') : Sgs w' B A gs := ⟨h.row.below hb hB, fun k hk => (h.chs k hk).below hb hB⟩
theorem Row.at4 {w : World} {B k : Nat} {A : Option Addr} {gs : List SgR} (h : Row w B A (gs.length * 4) (sgAt gs)) (hk : k < gs.length) :
 ∃ b off, A = some ⟨b, off, none⟩ /\ b < B /\ w.cell? ⟨b, off + k * 4, none⟩ = some (ii (gs.getD k sgZ).f) /\ w.cell? ⟨b, off + k * 4 + 1, none⟩ = some (ii (gs.getD k sgZ).t) /\ w.cell? ⟨b, off + k * 4 + 2, none⟩ = some (ii (gs.getD k sgZ).m)
   /\ w.cell? ⟨b, off + k * 4 + 3, none⟩ = some (sC (gs.getD k sgZ).A (gs.getD k sgZ).cs.length (gs.getD k sgZ).c) := by
 obtain ⟨b, off, e, hb, hc⟩ := h oM
 have h0 := hc (k * 4) oM
 have h1 := hc (k * 4 + 1) oM
 have h2 := hc (k * 4 + 2) oM
 have h3 := hc (k * 4 + 3) oM
 rw [sgAt0] at h0
 rw [sgAt1] at h1
 rw [sgAt2] at h2
 rw [sgAt3] at h3
 exact ⟨b, off, e, hb, h0, h1, h2, h3⟩
structure SgO (w : World) (lo : Nat) (A : Option Addr) (gs : List SgR) : Prop where
 row : Sl w lo A 122 (gs.length * 4) (sgAt gs)
 chs : ∀ k, k < gs.length -> Sl w lo (gs.getD k sgZ).A 192 ((gs.getD k sgZ).cs.length * 3) (chAt (gs.getD k sgZ).cs)
theorem SgO.nx {w w' : World} {lo : Nat} {A : Option Addr} {gs : List SgR} (h : SgO w lo A gs) (hb : Nx w w') : SgO w' lo A gs := ⟨h.row.nx hb, fun k hk => (h.chs k hk).nx hb⟩
theorem SgO.sgs {w : World} {lo : Nat} {A : Option Addr} {gs : List SgR} (h : SgO w lo A gs) : Sgs w w.heap.size A gs := ⟨h.row.row, fun k hk => (h.chs k hk).row⟩
def ssum (gs : List SgR) (k : Nat) : Nat := ((gs.take k).map fun g => g.cs.length).sum
theorem ssum_zero (gs : List SgR) : ssum gs 0 = 0 := rfl
theorem ssum_succ {gs : List SgR} {k : Nat} (hk : k < gs.length) : ssum gs (k + 1) = ssum gs k + (gs.getD k sgZ).cs.length := by
 unfold ssum
 rw [List.take_succ_eq_append_getElem hk, List.map_append, List.sum_append, gdE, List.getElem?_eq_getElem hk]
 simp
theorem info_sg : (Tryz.prog.info? 122).map (fun i => (i.zero, i.size, i.bytes)) = some (some (.agg #[ii 0, ii 0, ii 0, nsl]), 4, 48) := by kernel_rfl
end
section
open Go.RowKit
def atK (base : Int) (gs : List SgR) : Nat -> Int
 | 0 => base
 | k + 1 => (gs.getD k sgZ).t
def tmK (gs : List SgR) : Nat -> Int
 | 0 => 0
 | k + 1 => (gs.getD k sgZ).m
def mpK (gs : List SgR) : Nat -> Int -> Option Chg
 | 0 => noM
 | k + 1 => noteM (mpK gs k) (gs.getD k sgZ).cs
def onC (M : Int -> Option Chg) (c : Chg) : Bool := match M c.1 with
 | some a => decide (a.2.1 = c.2.2)
 | none => true
def onB (M : Int -> Option Chg) (cs : List Chg) : Bool := cs.all (onC M)
def sgB (g : SgR) : Bool := segB g.f g.t g.m g.cs
def lnk (base : Int) (gs : List SgR) (k : Nat) : Bool := sgB (gs.getD k sgZ) && decide ((gs.getD k sgZ).f = atK base gs k) && decide (tmK gs k <= (gs.getD k sgZ).m) && onB (mpK gs k) (gs.getD k sgZ).cs
def chainB (base : Int) (gs : List SgR) : Bool := decide (gs.length <= 4096) && inB 0 999999 base && (List.range gs.length).all (lnk base gs)
def LnTo (base : Int) (gs : List SgR) (k : Nat) : Prop := ∀ j, j < k -> lnk base gs j = true
theorem LnTo.zero (base : Int) (gs : List SgR) : LnTo base gs 0 := fun j h => absurd h oM
theorem LnTo.succ {base : Int} {gs : List SgR} {k : Nat} (h : LnTo base gs k) (hk : lnk base gs k = true) : LnTo base gs (k + 1) := fun j hj => by
 rcases Nat.lt_or_ge j k with hlt | hge
 . exact h j hlt
 . obtain rfl : j = k := oM
   exact hk
theorem LnTo.all {base : Int} {gs : List SgR} (h : LnTo base gs gs.length) (hl : gs.length <= 4096) (hb : inB 0 999999 base = true) : chainB base gs = true := by
 unfold chainB
 rw [decide_eq_true hl, hb, List.all_eq_true.2 fun j hj => h j (by simpa using hj)]; rfl
theorem chainB_no {base : Int} {gs : List SgR} {k : Nat} (hk : k < gs.length) (h : lnk base gs k = false) : chainB base gs = false := by
 unfold chainB
 rw [List.all_eq_false.2 ⟨k, by simpa using hk, by rw [h]; simp⟩]; simp
theorem chainB_long {base : Int} {gs : List SgR} (h : ¬ gs.length <= 4096) : chainB base gs = false := by
 unfold chainB; rw [decide_eq_false h]; rfl
theorem chainB_base {base : Int} {gs : List SgR} (h : inB 0 999999 base = false) : chainB base gs = false := by
 unfold chainB; rw [h]; simp
theorem lnk_parts {base : Int} {gs : List SgR} {k : Nat} {g : SgR} (hg : gs.getD k sgZ = g) : lnk base gs k = (segB g.f g.t g.m g.cs && decide (g.f = atK base gs k) && decide (tmK gs k <= g.m) && onB (mpK gs k) g.cs) := by
 unfold lnk sgB; rw [hg]
theorem onB_no {M : Int -> Option Chg} {cs : List Chg} {k : Nat} (hk : k < cs.length) (h : onC M (cs.getD k chZ) = false) : onB M cs = false := by
 unfold onB
 rw [List.all_eq_false]
 rw [gdE, List.getElem?_eq_getElem hk] at h
 exact ⟨cs[k], List.getElem_mem _, by simp only [Option.getD_some] at h; rw [h]; simp⟩
def OnTo (M : Int -> Option Chg) (cs : List Chg) (k : Nat) : Prop := ∀ j, j < k -> onC M (cs.getD j chZ) = true
theorem OnTo.zero (M : Int -> Option Chg) (cs : List Chg) : OnTo M cs 0 := fun j h => absurd h oM
theorem OnTo.succ {M : Int -> Option Chg} {cs : List Chg} {k : Nat} (h : OnTo M cs k) (hk : onC M (cs.getD k chZ) = true) : OnTo M cs (k + 1) := fun j hj => by
 rcases Nat.lt_or_ge j k with hlt | hge
 . exact h j hlt
 . obtain rfl : j = k := oM
   exact hk
theorem OnTo.all {M : Int -> Option Chg} {cs : List Chg} (h : OnTo M cs cs.length) : onB M cs = true := List.all_eq_true.2 fun x hx => by
 obtain ⟨j, hj, rfl⟩ := List.mem_iff_getElem.1 hx
 have := h j hj
 rwa [gdE, List.getElem?_eq_getElem hj] at this
theorem goesOnFrom_c (f t m : Int) (A : Option Addr) (c B b : Nat) (cs : List Chg) (M : Int -> Option Chg) (w : World) (h : Chs w B A cs) (hm : MapC w b M) (hB : B <= w.heap.size) (hok : chsB cs = true) :
 Calls Tryz.prog 202 #[.agg #[ii f, ii t, ii m, sC A cs.length c], .map (some b)] w fun e w' => e = .returned (.bool (onB M cs)) /\ Nx w w' := by
 have hl8 := chsB_len hok
 have hto := chsB_to hok
 have hbw := hm.lt
 clear hok
 go_enter func202, ntmps202
 go_wp2_with fail
 have hr0 : Nx w (w.alloc (.cells #[ii f, ii t, ii m, sC A cs.length c] 122)) := (Nx.refl w).alloc _
 generalize w.alloc (.cells #[ii f, ii t, ii m, sC A cs.length c] 122) = W at *
 go_loopw [12] (fun i wr => ∃ k : Nat, k <= cs.length /\ i = ii k /\ OnTo M cs k /\ Nx w wr) (fun i _ => cs.length - (intOf i).toNat)
 case atStart => exact ⟨0, Nat.zero_le _, rfl, OnTo.zero _ _, hr0⟩
 case round =>
  obtain ⟨k, hk, rfl, hon, hnx⟩ := hrel
  clear hr0
  by_cases hlt : k < cs.length
  . obtain ⟨b', off, rfl, hb, k0, k1, k2⟩ := (h.below hnx hB).at_ hlt
    obtain ⟨hr0, hr1⟩ := hto.rise k hlt
    have HN := qh (fun (hh : onC M (cs.getD k chZ) = false) => onB_no hlt hh)
    have HY := qh (fun (hh : onC M (cs.getD k chZ) = true) => hon.succ hh)
    obtain ⟨⟨q0, q1, q2⟩, Hq⟩ := nM (cs.getD k chZ)
    rw [Hq.out] at k0 k1 k2 hr0 hr1 HN HY
    have hwf := wf_small (q := q0) (by simp only at hr0; omega) hr1
    have hma := (hm.nx hnx).alloc (.cells #[ii q0, ii q1, ii q2] 192)
    have hlk := hma.look hwf
    clear hon
    cases hMk : M q0 with
    | none =>
      rw [hMk] at hlk
      have hlk' : (Instr.lookup 232 (.map (some b)) (ii q0) true).run Tryz.prog (wr.alloc (.cells #[ii q0, ii q1, ii q2] 192)) = .ok (.tuple #[.agg #[ii 0, ii 0, ii 0], .bool false]) (wr.alloc (.cells #[ii q0, ii q1, ii q2] 192)) := hlk
      have HM := qh (HY.out (by unfold onC; rw [hMk]))
      clear hlk hMk HN HY
      go_wp2
      go_roundw
      case rel => exact ⟨k + 1, oM, by go_num, HM.out, (hnx.alloc _).alloc _⟩
      case measure => simp [intOf]; omega
    | some p =>
      obtain ⟨p0, p1, p2⟩ := p
      rw [hMk] at hlk
      have hlk' : (Instr.lookup 232 (.map (some b)) (ii q0) true).run Tryz.prog (wr.alloc (.cells #[ii q0, ii q1, ii q2] 192)) = .ok (.tuple #[.agg #[ii p0, ii p1, ii p2], .bool true]) (wr.alloc (.cells #[ii q0, ii q1, ii q2] 192)) := hlk
      clear hlk
      by_cases hpq : p1 = q2
      . have hd : (p1 != q2) = false := by simp [hpq]
        have HM := qh (HY.out (by unfold onC; rw [hMk]; simp [hpq]))
        clear hMk HN HY hpq
        go_wp2
        go_roundw
        case rel => exact ⟨k + 1, oM, by go_num, HM.out, (hnx.alloc _).alloc _⟩
        case measure => simp [intOf]; omega
      . have hd : (p1 != q2) = true := by simp [hpq]
        have HM := qh (HN.out (by unfold onC; rw [hMk]; simp [hpq]))
        clear hMk HN HY hpq
        go_wp2
        go_ret
        exact ⟨by rw [HM.out]; rfl, (hnx.alloc _).alloc _⟩
  . obtain rfl : k = cs.length := oM
    have HM := qh hon.all
    go_wp2
    go_ret
    exact ⟨by rw [HM.out]; rfl, hnx⟩
theorem lnk_bad {base : Int} {gs : List SgR} {k : Nat} {f t m : Int} {A : Option Addr} {c : Nat} {cs : List Chg} (hg : gs.getD k sgZ = ⟨f, t, m, A, c, cs⟩)
 (h : segB f t m cs = false \/ ¬ f = atK base gs k \/ ¬ tmK gs k <= m \/ onB (mpK gs k) cs = false) : lnk base gs k = false := by
 rw [lnk_parts hg]
 rcases h with h | h | h | h
 . simp only; rw [h]; rfl
 . simp only; rw [decide_eq_false h]; simp
 . simp only; rw [decide_eq_false h]; simp
 . simp only; rw [h]; simp
theorem lnk_yes {base : Int} {gs : List SgR} {k : Nat} {f t m : Int} {A : Option Addr} {c : Nat} {cs : List Chg} (hg : gs.getD k sgZ = ⟨f, t, m, A, c, cs⟩)
 (h1 : segB f t m cs = true) (h2 : f = atK base gs k) (h3 : tmK gs k <= m) (h4 : onB (mpK gs k) cs = true) : lnk base gs k = true := by
 rw [lnk_parts hg]
 simp only
 rw [h1, decide_eq_true h2, decide_eq_true h3, h4]; rfl
theorem implChainOK_c (base : Int) (A : Option Addr) (c B : Nat) (gs : List SgR) (w : World) (h : Sgs w B A gs) (hB : B <= w.heap.size) (hn : gs.length <= 1048576) (hm : ∀ k, k < gs.length -> (gs.getD k sgZ).cs.length <= 1048576) :
 Calls Tryz.prog 142 #[ii base, sC A gs.length c] w fun e w' => e = .returned (.bool (chainB base gs)) /\ Nx w w' := by
 obtain ⟨n, Hn⟩ := nM (gs.length)
 rw [Hn.out] at hn ⊢
 by_cases hl : n <= 4096
 case neg =>
  have HR := qh (chainB_long (base := base) (gs := gs) (by rw [Hn.out]; exact hl))
  have hd : decide (4096 < (n : Int)) = true := by simp; omega
  go_enter func142, ntmps142
  go_wp2
  go_ret
  exact ⟨by rw [HR.out]; rfl, Nx.refl _⟩
 have hd : decide (4096 < (n : Int)) = false := by simp; omega
 cases hb : inB 0 999999 base
 . have HR := qh (chainB_base (base := base) (gs := gs) hb)
   have HB := qh hb
   clear hb
   go_enter func142, ntmps142
   go_wp2_with fail
   refine (isPosition_c base _).mono ?_
   rintro e w1 ⟨rfl, rfl⟩
   rw [HB.out]
   go_wp2
   go_ret
   exact ⟨by rw [HR.out]; rfl, Nx.refl _⟩
 have HB := qh hb
 clear hb
 have hmm := @run_makeMap Tryz.prog
 have hmap := MapC.made w
 have hx0 := (Nx.refl w).alloc (.map #[] 0)
 go_enter func142, ntmps142
 go_wp2_with fail
 refine (isPosition_c base _).mono ?_
 rintro e w1 ⟨rfl, rfl⟩
 rw [HB.out]
 go_wp2_with fail
 clear hmm
 generalize w.alloc (.map #[] 0) = W at *
 go_loopw [5, 6, 22] (fun a0 t0 i wr => ∃ k : Nat, k <= n /\ i = ii k /\ a0 = ii (atK base gs k) /\ t0 = ii (tmK gs k) /\ MapC wr w.heap.size (mpK gs k) /\ LnTo base gs k /\ Nx w wr) (fun _ _ i _ => n - (intOf i).toNat)
 case atStart => exact ⟨0, Nat.zero_le _, rfl, rfl, rfl, hmap, LnTo.zero _ _, hx0⟩
 case round =>
  obtain ⟨k, hk, rfl, rfl, rfl, hmk, hln, hnx⟩ := hrel
  clear hmap hx0
  by_cases hlt : k < n
  . have hlk : k < gs.length := by rw [Hn.out]; exact hlt
    obtain ⟨b, off, rfl, hb, p0, p1, p2, p3⟩ := (h.below hnx hB).row.at4 hlk
    have hch := (h.below hnx hB).chs k hlk
    have hmk' := hm k hlk
    have HNo := qh (fun (hh : lnk base gs k = false) => chainB_no hlk hh)
    have HYes := qh (fun (hh : lnk base gs k = true) => hln.succ hh)
    have HA := qh (show atK base gs (k + 1) = (gs.getD k sgZ).t from rfl)
    have HT := qh (show tmK gs (k + 1) = (gs.getD k sgZ).m from rfl)
    have HM := qh (show mpK gs (k + 1) = noteM (mpK gs k) (gs.getD k sgZ).cs from rfl)
    clear hln
    obtain ⟨⟨f, t, m, A2, cc, cs⟩, Hs⟩ := nM (gs.getD k sgZ)
    rw [Hs.out] at p0 p1 p2 p3 hch hmk' HA HT HM
    simp only at p0 p1 p2 p3 hch hmk'
    have bG := Box.new wr 122 #[ii f, ii t, ii m, sC A2 cs.length cc]
    have hxa := (Nx.refl wr).alloc (.cells #[ii f, ii t, ii m, sC A2 cs.length cc] 122)
    have hmka := hmk.nx hxa
    have hltm := hmk.lt
    obtain ⟨a0, Ha⟩ := nM (atK base gs k)
    obtain ⟨t0, Ht⟩ := nM (tmK gs k)
    obtain ⟨M, HMk⟩ := nM (mpK gs k)
    rw [Ha.out, Ht.out]
    rw [HMk.out] at hmka HM
    have HBad := qh (fun hh => HNo.out (lnk_bad (base := base) Hs.out hh))
    have HGood := qh (fun h1 h2 h3 h4 => HYes.out (lnk_yes (base := base) Hs.out h1 h2 h3 h4))
    rw [Ha.out, Ht.out, HMk.out] at HBad HGood
    clear HNo HYes hm
    go_wp2_with fail
    generalize hWa : wr.alloc (.cells #[ii f, ii t, ii m, sC A2 cs.length cc] 122) = wa at *
    clear hWa p0 p1 p2 p3
    have hnxa := hnx.trans hxa
    have hszB := ntr hB hnxa.size
    refine (segRight_c f t m A2 cc B cs _ (hch.below hxa (ntr hB hnx.size)) hszB hmk').mono ?_
    rintro e w1 ⟨rfl, hx1⟩
    replace bG := bG.nx hx1
    replace hmka := hmka.nx hx1
    have hch1 := (hch.below hxa (ntr hB hnx.size)).below hx1 hszB
    have hX1 := hnxa.trans hx1
    have hszB1 := ntr hB hX1.size
    clear hxa hx1 hch hmk
    cases hsb : segB f t m cs
    . have HR := qh (HBad.out (.inl hsb))
      clear hsb HBad HGood
      go_wp2
      go_ret
      exact ⟨by rw [HR.out]; rfl, hX1⟩
    have hok : chsB cs = true := segB_chs hsb
    have HSB := qh hsb
    obtain ⟨c0, c1, c2, c3⟩ := bG.d4
    clear hsb
    by_cases hfa : f = a0
    case neg =>
     have HR := qh (HBad.out (.inr (.inl hfa)))
     have hd1 : (f != a0) = true := by simp [hfa]
     clear HBad HGood hfa
     go_wp2
     go_ret
     exact ⟨by rw [HR.out]; rfl, hX1⟩
    have hd1 : (f != a0) = false := by simp [hfa]
    have HFA := qh hfa
    clear hfa
    by_cases htm : t0 <= m
    case neg =>
     have HR := qh (HBad.out (.inr (.inr (.inl oM))))
     have hd2 : decide (m < t0) = true := by simp; omega
     clear HBad HGood htm
     go_wp2
     go_ret
     exact ⟨by rw [HR.out]; rfl, hX1⟩
    have hd2 : decide (m < t0) = false := by simp; omega
    have HTM := qh htm
    clear htm
    go_wp2_with fail
    refine (goesOnFrom_c f t m A2 cc B w.heap.size cs M _ hch1 hmka hszB1 hok).mono ?_
    rintro e w2 ⟨rfl, hx2⟩
    clear c0 c1 c2 c3
    replace bG := bG.nx hx2
    replace hmka := hmka.nx hx2
    have hch2 := hch1.below hx2 hszB1
    have hX2 := hX1.trans hx2
    clear hx2 hch1
    cases hon : onB M cs
    . have HR := qh (HBad.out (.inr (.inr (.inr hon))))
      clear hon HBad HGood
      go_wp2
      go_ret
      exact ⟨by rw [HR.out]; rfl, hX2⟩
    have HLn := qh (HGood.out HSB.out HFA.out HTM.out hon)
    clear hon HBad HGood
    obtain ⟨c0, c1, c2, c3⟩ := bG.d4
    go_wp2_with fail
    refine (noteIn_c f t m A2 cc B w.heap.size cs M _ hch2 hmka hB hok).mono ?_
    rintro e w3 ⟨rfl, hm3, hr3⟩
    have bG3 := bG.rg hr3 oM
    have hX3 := Rg.nx_of hX2 hr3 nle
    clear c0 c1 c2 c3
    obtain ⟨c0, c1, c2, c3⟩ := bG3.d4
    go_wp2_with fail
    -- region
    refine wp_lexA (kf6 ([])) (fun w' => CC w' wr.heap.size 1 (ii t) /\ CC w' wr.heap.size 2 (ii m)) (by exact ⟨c1, c2⟩) ?_
    refine hLr ?_
    refine HL.done ?_
    -- end
    go_wp2
    go_roundw
    case rel => exact ⟨k + 1, oM, by go_num, by rw [HA.out], by rw [HT.out], by rw [HM.out]; exact hm3, HLn.out, hX3.drew⟩
    case measure => simp [intOf]; omega
  . obtain rfl : k = n := oM
    have HR := qh (LnTo.all (base := base) (gs := gs) (by rw [Hn.out]; exact hln) (by rw [Hn.out]; exact hl) HB.out)
    go_wp2
    go_ret
    exact ⟨by rw [HR.out]; rfl, hnx⟩
end
end Go.Proofs.YtieoiailjjnnoaaGreatDoor
