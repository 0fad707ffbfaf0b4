/-
  Texts of the proof, put together in their order: Pln, Fwl, Sgs, Fws, Sof, Opf, Sgt, Sos.
  Conditions: those of each.
-/
import Derived.Test.YtjefjngheolmkaaMw0
import Derived.IntWalk
import Derived.Lib.SmallJoins
import Derived.ChangeSame
import Derived.Deep.Fields
import Derived.Deep.Slices
import Derived.Deep.Strs
/- A region that draws its order, walked by a plan: operations that only read cells that stay as they are (S) are taken in whatever order the plan names; where two may come up, both orders are walked. Conditions: those of each theorem. -/
namespace Go.Proofs.Ytjefjngheolmkaa
set_option linter.unusedVariables false
set_option maxRecDepth 100000
open Go.RowKit
/-- A plan: its end; take k; meet k when it alone may come up; where j and k may come up, a plan behind each. -/
inductive Pl where
  | e
  | t (k : Nat) (r : Pl)
  | c (k : Nat) (r : Pl)
  | b (j : Nat) (r1 : Pl) (k : Nat) (r2 : Pl)
  | d (i : Nat) (r0 : Pl) (j : Nat) (r1 : Pl) (k : Nat) (r2 : Pl)
/-- .. with the operations. -/
inductive Ps where
  | e
  | t (o : Oper) (r : Ps)
  | c (o : Oper) (r : Ps)
  | b (oj : Oper) (r1 : Ps) (ok : Oper) (r2 : Ps)
  | d (oi : Oper) (r0 : Ps) (oj : Oper) (r1 : Ps) (ok : Oper) (r2 : Ps)
def noOp : Oper := { dst := none, op := Op.move (Operand.const undef), type := 0, pos := "", after := #[], guard := none }
def psOf (l : List Oper) : Pl → Ps
  | .e => .e
  | .t k r => .t (l.getD k noOp) (psOf l r)
  | .c k r => .c (l.getD k noOp) (psOf l r)
  | .b j r1 k r2 => .b (l.getD j noOp) (psOf l r1) (l.getD k noOp) (psOf l r2)
  | .d i r0 j r1 k r2 => .d (l.getD i noOp) (psOf l r0) (l.getD j noOp) (psOf l r1) (l.getD k noOp) (psOf l r2)
section
variable {P : Program} {ops : Array Oper} {Q : Exit → Act → World → Prop} {S : World → Prop}
def CallStep (P : Program) (ops : Array Oper) (Q : Exit → Act → World → Prop) (S : World → Prop) (o : Oper) (R : Act → World → Prop) (a : Act) (w : World) : Prop :=
  Region.wanted o (yielded ops a.tmps) = true ∧ ∀ K : Act → World → Prop, Hid (∀ a' w', S w' → R a' w' → K a' w') → o.wp P a w K Q
def HP (P : Program) (ops : Array Oper) (Q : Exit → Act → World → Prop) (S : World → Prop) : Ps → Act → World → Prop
  | .e, a, w => Q .normal a w
  | .t o r, a, w => ∃ v, YieldsIf P ops S o v a ∧ HP P ops Q S r (a.put o.dst v) w
  | .c o r, a, w => CallStep P ops Q S o (HP P ops Q S r) a w
  | .b oj r1 ok r2, a, w => CallStep P ops Q S oj (HP P ops Q S r1) a w ∧ CallStep P ops Q S ok (HP P ops Q S r2) a w
  | .d oi r0 oj r1 ok r2, a, w => CallStep P ops Q S oi (HP P ops Q S r0) a w ∧ CallStep P ops Q S oj (HP P ops Q S r1) a w ∧ CallStep P ops Q S ok (HP P ops Q S r2) a w
def steps : Pl → Nat
  | .e => 0
  | .t _ r => steps r + 1
  | .c _ r => steps r + 1
  | .b _ r1 _ _ => steps r1 + 1
  | .d _ r0 _ _ _ _ => steps r0 + 1
/-- What is asked of the region's edges alone. -/
def planB (md : Region.Mode) (ops : Array Oper) : Pl → Array Bool → Bool
  | .e, listed => Region.ready md ops listed == []
  | .t k r, listed => decide (k < ops.size) && (Region.ready md ops listed).contains k && Region.free md ops listed k && planB md ops r (listed.setIfInBounds k true)
  | .c k r, listed => decide (k < ops.size) && (Region.ready md ops listed == [k]) && planB md ops r (listed.setIfInBounds k true)
  | .b j r1 k r2, listed => decide (j < ops.size) && decide (k < ops.size) && (Region.ready md ops listed == [j, k]) && decide (steps r2 = steps r1) && planB md ops r1 (listed.setIfInBounds j true) && planB md ops r2 (listed.setIfInBounds k true)
  | .d i r0 j r1 k r2, listed => decide (i < ops.size) && decide (j < ops.size) && decide (k < ops.size) && (Region.ready md ops listed == [i, j, k]) && decide (steps r1 = steps r0) && decide (steps r2 = steps r0) && planB md ops r0 (listed.setIfInBounds i true) && planB md ops r1 (listed.setIfInBounds j true) && planB md ops r2 (listed.setIfInBounds k true)
theorem HP.take {o : Oper} {r : Ps} {a : Act} {w : World} {v : Value} (hw : Region.wanted o (yielded ops a.tmps) = true) (h : ∀ w, S w → (execOp a.eval o).run P w = .ok (.value v) w)
    (hr : HP P ops Q S r (a.put o.dst v) w) : HP P ops Q S (.t o r) a w := ⟨v, .inl ⟨hw, h⟩, hr⟩
theorem HP.skip {o : Oper} {r : Ps} {a : Act} {w : World} (hw : Region.wanted o (yielded ops a.tmps) = false) (hr : HP P ops Q S r (a.put o.dst undef) w) : HP P ops Q S (.t o r) a w := ⟨undef, .inr ⟨hw, rfl⟩, hr⟩
theorem HP.call {o : Oper} {r : Ps} {a : Act} {w : World} (h : CallStep P ops Q S o (HP P ops Q S r) a w) : HP P ops Q S (.c o r) a w := h
theorem HP.both {oj ok : Oper} {r1 r2 : Ps} {a : Act} {w : World} (h1 : CallStep P ops Q S oj (HP P ops Q S r1) a w) (h2 : CallStep P ops Q S ok (HP P ops Q S r2) a w) : HP P ops Q S (.b oj r1 ok r2) a w := ⟨h1, h2⟩
theorem HP.three {oi oj ok : Oper} {r0 r1 r2 : Ps} {a : Act} {w : World} (h0 : CallStep P ops Q S oi (HP P ops Q S r0) a w) (h1 : CallStep P ops Q S oj (HP P ops Q S r1) a w) (h2 : CallStep P ops Q S ok (HP P ops Q S r2) a w) : HP P ops Q S (.d oi r0 oj r1 ok r2) a w := ⟨h0, h1, h2⟩
theorem HP.done {a : Act} {w : World} (h : Q .normal a w) : HP P ops Q S .e a w := h
theorem CallStep.mk {o : Oper} {R : Act → World → Prop} {a : Act} {w : World} (hw : Region.wanted o (yielded ops a.tmps) = true)
    (h : ∀ K : Act → World → Prop, Hid (∀ a' w', S w' → R a' w' → K a' w') → o.wp P a w K Q) : CallStep P ops Q S o R a w := ⟨hw, h⟩
theorem CallStep.op {k : Nat} {o : Oper} {R K : Act → World → Prop} {a : Act} {w : World} (h : CallStep P ops Q S o R a w) (h0 : ops[k]? = some o) (hK : ∀ a' w', S w' → R a' w' → K a' w') : wpOp P ops Q k K a w := by
  unfold wpOp
  simp only [h0, h.1, if_true]
  exact .inl (h.2 _ (Lib.hid hK))
theorem getD_op {l : List Oper} {k : Nat} (h : k < l.toArray.size) : l.toArray[k]? = some (l.getD k noOp) := by
  have h' : k < l.length := by simpa using h
  rw [List.getElem?_toArray, List.getD_eq_getElem?_getD, List.getElem?_eq_getElem h']; rfl
theorem HP.any {md : Region.Mode} {l : List Oper} (hs : Region.noSelect l.toArray = true) (hQ : ∀ c a d v w, Q (.panic c) (Act.put a d v) w → Q (.panic c) a w) :
    ∀ (ks : Pl) (listed : Array Bool) (a : Act) (w : World), planB md l.toArray ks listed = true → S w → HP P l.toArray Q S (psOf l ks) a w → wpAnyH P md l.toArray Q S (steps ks) listed a w
  | .e, listed, a, w, hB, _, h => wpAnyH_done (by simpa [planB] using hB) h _
  | .t k r, listed, a, w, hB, hS, h => by
    simp only [planB, Bool.and_eq_true, decide_eq_true_eq] at hB
    obtain ⟨⟨⟨hk, hr⟩, hf⟩, hB'⟩ := hB
    obtain ⟨v, hy, hK⟩ := h
    exact wpAnyH_take (getD_op hk) hs hf hr (fun c a w => hQ c a _ _ w) hy hS (HP.any hs hQ r _ _ w hB' hS hK)
  | .c k r, listed, a, w, hB, hS, h => by
    simp only [planB, Bool.and_eq_true, decide_eq_true_eq, beq_iff_eq] at hB
    obtain ⟨⟨hk, hr⟩, hB'⟩ := hB
    refine wpAnyH_all hr (by simp) fun i hi => ?_
    obtain rfl : i = k := by simpa using hi
    exact CallStep.op h (getD_op hk) fun a' w' hS' h' => ⟨hS', HP.any hs hQ r _ a' w' hB' hS' h'⟩
  | .b j r1 k r2, listed, a, w, hB, hS, h => by
    simp only [planB, Bool.and_eq_true, decide_eq_true_eq, beq_iff_eq] at hB
    obtain ⟨⟨⟨⟨⟨hj, hk⟩, hr⟩, hst⟩, hB1⟩, hB2⟩ := hB
    refine wpAnyH_all hr (by simp) fun i hi => ?_
    rcases (show i = j ∨ i = k by simpa using hi) with rfl | rfl
    · exact CallStep.op h.1 (getD_op hj) fun a' w' hS' h' => ⟨hS', HP.any hs hQ r1 _ a' w' hB1 hS' h'⟩
    · exact CallStep.op h.2 (getD_op hk) fun a' w' hS' h' => ⟨hS', by have := HP.any hs hQ r2 _ a' w' hB2 hS' h'; rw [hst] at this; exact this⟩
  | .d i r0 j r1 k r2, listed, a, w, hB, hS, h => by
    simp only [planB, Bool.and_eq_true, decide_eq_true_eq, beq_iff_eq] at hB
    obtain ⟨⟨⟨⟨⟨⟨⟨⟨hi, hj⟩, hk⟩, hr⟩, hst1⟩, hst2⟩, hB0⟩, hB1⟩, hB2⟩ := hB
    refine wpAnyH_all hr (by simp) fun x hx => ?_
    rcases (show x = i ∨ x = j ∨ x = k by simpa using hx) with rfl | rfl | rfl
    · exact CallStep.op h.1 (getD_op hi) fun a' w' hS' h' => ⟨hS', HP.any hs hQ r0 _ a' w' hB0 hS' h'⟩
    · exact CallStep.op h.2.1 (getD_op hj) fun a' w' hS' h' => ⟨hS', by have := HP.any hs hQ r1 _ a' w' hB1 hS' h'; rw [hst1] at this; exact this⟩
    · exact CallStep.op h.2.2 (getD_op hk) fun a' w' hS' h' => ⟨hS', by have := HP.any hs hQ r2 _ a' w' hB2 hS' h'; rw [hst2] at this; exact this⟩
/-- The region. -/
theorem wp_region_plan {id : Nat} {a : Act} {w : World} {l : List Oper} (ks : Pl) (S : World → Prop) (hm : P.follows .mixedOrders = true) (hs : Region.noSelect l.toArray = true) (hl : l.length = steps ks)
    (hB : planB .any l.toArray ks (Array.replicate l.toArray.size false) = true) (hQ : ∀ c a d v w, Q (.panic c) (Act.put a d v) w → Q (.panic c) a w) (hS : S w.drew)
    (h : HP P l.toArray Q S (psOf l ks) a w.drew) : (Code.region id l.toArray true).wp P Q a w := by
  refine wp_region_held_drew (S := S) hm hS fun _ => ?_
  have := HP.any (md := .any) hs hQ ks (Array.replicate l.toArray.size false) a w.drew hB hS h
  have e : l.toArray.size = steps ks := by simpa using hl
  rw [e]
  rw [e] at this
  exact this
end
end Go.Proofs.Ytjefjngheolmkaa
/- Contracts of the program's contentCode, turnCode, Forward and Backward. Conditions: the list and the segment can be read, and hold at most 1048576 elements each. -/
namespace Go.Proofs.Ytjefjngheolmkaa
set_option linter.unusedVariables false
set_option maxRecDepth 100000
open Go.RowKit

/-- The code of a content and of what is asked beside it. -/
def askC (xs : List Int) (ok : Bool) : Int := if 4096 < xs.length then 2 else if contB xs && ok then 0 else 1
/-- A content that was turned, and its code. -/
def RetIC (w : World) (ys : List Int) (cd : Int) (e : Ending) (w' : World) : Prop := ∃ (A : Option Addr) (c : Nat), e = .returned (.tuple #[.slice A ys.length c, .int .i64 cd]) ∧ SlI w' w.heap.size A ys ∧ Nx w w'
def fwV (p : Chg → Int) (xs : List Int) (ok : Bool) (cs : List Chg) : List Int := if contB xs && ok then app p xs cs else []
theorem askC_long {xs : List Int} (h : 4096 < xs.length) (ok : Bool) : askC xs ok = 2 ∧ contB xs = false := ⟨by unfold askC; rw [if_pos h], contB_len (by omega)⟩
theorem askC_short {xs : List Int} (h : ¬ 4096 < xs.length) {a b : Bool} (ha : contB xs = a) (hb : b = b) : askC xs b = if a && b then 0 else 1 := by unfold askC; rw [if_neg h, ha]
theorem fwV_no {p : Chg → Int} {xs : List Int} {ok : Bool} {cs : List Chg} (h : (contB xs && ok) = false) : fwV p xs ok cs = [] := by unfold fwV; rw [h]; rfl
theorem fwV_yes {p : Chg → Int} {xs : List Int} {ok : Bool} {cs : List Chg} (h : (contB xs && ok) = true) : fwV p xs ok cs = app p xs cs := by unfold fwV; rw [h]; rfl

set_option maxHeartbeats 1000000 in
theorem contentCode_c (A : Option Addr) (c B : Nat) (xs : List Int) (w : World) (h : Ins w B A xs) (hB : B ≤ w.heap.size) (hn : xs.length ≤ 1048576) :
    Calls Try.prog 57 #[.slice A xs.length c] w fun e w' => e = .returned (.int .i64 (askC xs true)) ∧ Nx w w' := by
  by_cases hl : 4096 < xs.length
  · have hd : decide (4096 < (xs.length : Int)) = true := by simp; omega
    have HR := Lib.hid (askC_long hl true).1.symm
    go_enter Try.func57, Try.ntmps57
    go_wp2
    go_ret
    exact ⟨ret_int HR.out, Nx.refl _⟩
  have hd : decide (4096 < (xs.length : Int)) = false := by simp; omega
  cases hc : contB xs <;> (
    have HC := Lib.hid hc
    have HR := Lib.hid (askC_short hl hc (rfl : true = true)).symm
    clear hc
    go_enter Try.func57, Try.ntmps57
    go_wp2_with fail
    refine (implContentOK_c A c B xs _ h hB hn).mono ?_
    rintro e w1 ⟨rfl, hx1⟩
    rw [HC.out]
    go_wp2
    go_ret
    exact ⟨ret_int HR.out, hx1⟩)

set_option maxHeartbeats 1000000 in
theorem turnCode_c (A2 : Option Addr) (c2 B : Nat) (xs : List Int) (f t m : Int) (A : Option Addr) (c : Nat) (cs : List Chg) (w : World) (h : Ins w B A2 xs) (hg : Chs w B A cs) (hB : B ≤ w.heap.size) (hn : xs.length ≤ 1048576) (hn2 : cs.length ≤ 1048576) :
    Calls Try.prog 76 #[.slice A2 xs.length c2, .agg #[.int .i64 f, .int .i64 t, .int .i64 m, .slice A cs.length c]] w fun e w' => e = .returned (.int .i64 (askC xs (segB f t m cs))) ∧ Nx w w' := by
  have b0 := Box.new w 30 #[.int .i64 f, .int .i64 t, .int .i64 m, .slice A cs.length c]
  have hx0 := (Nx.refl w).alloc (.cells #[.int .i64 f, .int .i64 t, .int .i64 m, .slice A cs.length c] 30)
  obtain ⟨z, Hz⟩ : ∃ z, Hid (askC xs true = z) := ⟨_, rfl⟩
  by_cases hz : z = 0
  case neg =>
    have hd : (z != 0) = true := by simp [hz]
    have HR := Lib.hid (show askC xs (segB f t m cs) = z by
      have := Hz.out
      unfold askC at this ⊢
      by_cases hl : 4096 < xs.length
      · rw [if_pos hl] at this ⊢; exact this
      · rw [if_neg hl] at this ⊢
        cases hc : contB xs <;> rw [hc] at this <;> simp_all)
    go_enter Try.func76, Try.ntmps76
    go_wp2_with fail
    refine (contentCode_c A2 c2 B xs _ (h.below hx0 hB) (Nat.le_trans hB hx0.size) hn).mono ?_
    rintro e w1 ⟨rfl, hx1⟩
    rw [Hz.out]
    go_wp2
    go_ret
    exact ⟨ret_int HR.out.symm, hx0.trans hx1⟩
  subst hz
  have HC := Lib.hid (show ¬ 4096 < xs.length ∧ contB xs = true by
    have := Hz.out
    unfold askC at this
    by_cases hl : 4096 < xs.length
    · rw [if_pos hl] at this; omega
    · rw [if_neg hl] at this
      cases hc : contB xs
      · rw [hc] at this; simp at this
      · exact ⟨hl, rfl⟩)
  generalize w.alloc (.cells #[.int .i64 f, .int .i64 t, .int .i64 m, .slice A cs.length c] 30) = W at *
  cases hs : segB f t m cs <;> (
    have HS := Lib.hid hs
    have HR := Lib.hid (askC_short HC.out.1 HC.out.2 (rfl : segB f t m cs = segB f t m cs)).symm
    rw [hs] at HR
    clear hs
    go_enter Try.func76, Try.ntmps76
    go_wp2_with fail
    have b1 := Box.new w 30 #[.int .i64 f, .int .i64 t, .int .i64 m, .slice A cs.length c]
    have hx1 := (Nx.refl w).alloc (.cells #[.int .i64 f, .int .i64 t, .int .i64 m, .slice A cs.length c] 30)
    generalize w.alloc (.cells #[.int .i64 f, .int .i64 t, .int .i64 m, .slice A cs.length c] 30) = W1 at *
    refine (contentCode_c A2 c2 B xs _ (h.below hx1 hB) (Nat.le_trans hB hx1.size) hn).mono ?_
    rintro e w1 ⟨rfl, hx2⟩
    rw [Hz.out]
    obtain ⟨k0, k1, k2, k3⟩ := (b1.nx hx2).d4
    have hx3 := hx1.trans hx2
    go_wp2_with fail
    refine (segRight_c f t m A c B cs _ (hg.below hx3 hB) (Nat.le_trans hB hx3.size) hn2).mono ?_
    rintro e w2 ⟨rfl, hx4⟩
    rw [HS.out]
    go_wp2
    go_ret
    exact ⟨ret_int HR.out, hx3.trans hx4⟩)

set_option maxRecDepth 100000 in
set_option maxHeartbeats 4000000 in
theorem implForward_c (A2 : Option Addr) (c2 B : Nat) (xs : List Int) (f t m : Int) (A : Option Addr) (c : Nat) (cs : List Chg) (w : World) (h : Ins w B A2 xs) (hg : Chs w B A cs) (hB : B ≤ w.heap.size) (hn : xs.length ≤ 1048576) (hn2 : cs.length ≤ 1048576) :
    Calls Try.prog 36 #[.slice A2 xs.length c2, .agg #[.int .i64 f, .int .i64 t, .int .i64 m, .slice A cs.length c]] w (RetIC w (fwV pN xs (segB f t m cs) cs) (askC xs (segB f t m cs))) := by
  obtain ⟨z, Hz⟩ : ∃ z, Hid (askC xs (segB f t m cs) = z) := ⟨_, rfl⟩
  by_cases hz : z = 0
  case neg =>
    have hd : (z != 0) = true := by simp [hz]
    have HF := Lib.hid (show fwV pN xs (segB f t m cs) cs = [] from fwV_no (by
      have := Hz.out
      unfold askC at this
      by_cases hl : 4096 < xs.length
      · rw [(askC_long hl true).2]; rfl
      · rw [if_neg hl] at this
        cases hc : (contB xs && segB f t m cs)
        · rfl
        · rw [hc] at this; exact absurd this.symm hz))
    go_enter Try.func36, Try.ntmps36
    go_wp2_with fail
    have hx1 := (Nx.refl w).alloc (.cells #[.int .i64 f, .int .i64 t, .int .i64 m, .slice A cs.length c] 30)
    generalize w.alloc (.cells #[.int .i64 f, .int .i64 t, .int .i64 m, .slice A cs.length c] 30) = W1 at *
    refine (turnCode_c A2 c2 B xs f t m A c cs _ (h.below hx1 hB) (hg.below hx1 hB) (Nat.le_trans hB hx1.size) hn hn2).mono ?_
    rintro e w1 ⟨rfl, hx2⟩
    rw [Hz.out]
    go_wp2
    exact bodyPost_ret (v := .tuple #[.slice none 0 0, .int .i64 z]) (by simp [results, Try.results36, go_sem]) rfl ⟨none, 0, by rw [HF.out, Hz.out]; rfl, by rw [HF.out]; exact Sl.none_ _ _ _ _ _, hx1.trans hx2⟩
  subst hz
  have HC := Lib.hid (show contB xs = true ∧ segB f t m cs = true by
    have := Hz.out
    unfold askC at this
    by_cases hl : 4096 < xs.length
    · rw [if_pos hl] at this; omega
    · rw [if_neg hl] at this
      cases hc : contB xs <;> cases hs : segB f t m cs <;> rw [hc, hs] at this <;> simp at this ⊢)
  have HF := Lib.hid (show fwV pN xs (segB f t m cs) cs = app pN xs cs from fwV_yes (by rw [HC.out.1, HC.out.2]; rfl))
  have H8 := Lib.hid (contB_yes HC.out.1).1
  have HK := Lib.hid (show chsB cs = true by
    have := HC.out.2
    unfold segB at this
    simp only [Bool.and_eq_true] at this
    exact this.2)
  go_enter Try.func36, Try.ntmps36
  go_wp2_with fail
  have b1 := Box.new w 30 #[.int .i64 f, .int .i64 t, .int .i64 m, .slice A cs.length c]
  have hx1 := (Nx.refl w).alloc (.cells #[.int .i64 f, .int .i64 t, .int .i64 m, .slice A cs.length c] 30)
  generalize w.alloc (.cells #[.int .i64 f, .int .i64 t, .int .i64 m, .slice A cs.length c] 30) = W1 at *
  refine (turnCode_c A2 c2 B xs f t m A c cs _ (h.below hx1 hB) (hg.below hx1 hB) (Nat.le_trans hB hx1.size) hn hn2).mono ?_
  rintro e w1 ⟨rfl, hx2⟩
  rw [Hz.out]
  have b2 := b1.nx hx2
  have hX2 := hx1.trans hx2
  clear b1 hx1 hx2
  go_wp2_with fail
  refine wp_region_plan (.t 0 (.t 2 (.c 1 (.c 3 (.c 4 (.t 5 (.t 6 .e))))))) (fun w' => w'.cell? ⟨w.heap.size, 0, none⟩ = some (.int .i64 f) ∧ w'.cell? ⟨w.heap.size, 1, none⟩ = some (.int .i64 t) ∧ w'.cell? ⟨w.heap.size, 2, none⟩ = some (.int .i64 m) ∧ w'.cell? ⟨w.heap.size, 3, none⟩ = some (.slice A cs.length c)) (by kernel_rfl) (by kernel_rfl) rfl (by kernel_rfl) (fun _ _ d _ _ h => by cases d <;> exact h) (by exact (b2.d4)) ?_
  simp only [psOf, List.getD_cons_zero, List.getD_cons_succ]
  repeat (first | (refine HP.take (v := ?_) (by rfl) ?_ ?_; rotate_left; (· (intro w hSw; (try dsimp only at hSw); go_simp; try with_reducible rfl)); (try simp only [Act.put, List.setIfInBounds_toArray, List.set_cons_zero, List.set_cons_succ])) | (refine HP.skip (by rfl) ?_; (try simp only [Act.put, List.setIfInBounds_toArray, List.set_cons_zero, List.set_cons_succ])))
  refine HP.call ?_
  refine CallStep.mk (by rfl) (fun K hK => ?_)
  go_simp
  refine (valuesOf_c A2 c2 B xs _ (h.below hX2.drew hB) (Nat.le_trans hB hX2.drew.size) H8.out).mono ?_; rintro e v1 ⟨rfl, hv1⟩; have bv1 := b2.nx (Nx.drew_r hv1); have hXv1 := hX2.drew.trans hv1
  go_wp2_with fail
  refine hK.out _ _ (by exact bv1.d4) ?_
  clear hK K
  try simp only [Act.put, List.setIfInBounds_toArray, List.set_cons_zero, List.set_cons_succ]
  refine HP.call ?_
  refine CallStep.mk (by rfl) (fun K hK => ?_)
  go_simp
  refine (valuesForward_c f t m A c B cs xs _ (hg.below hXv1 hB) (Nat.le_trans hB hXv1.size) HK.out H8.out).mono ?_; rintro e v2 ⟨rfl, hv2⟩; have bv2 := bv1.nx hv2; have hXv2 := hXv1.trans hv2
  go_wp2_with fail
  refine hK.out _ _ (by exact bv2.d4) ?_
  clear hK K
  try simp only [Act.put, List.setIfInBounds_toArray, List.set_cons_zero, List.set_cons_succ]
  refine HP.call ?_
  refine CallStep.mk (by rfl) (fun K hK => ?_)
  go_simp
  refine (valuesList_c (app pN xs cs) _ (by rw [app_len]; exact H8.out)).mono ?_; rintro e v3 ⟨A9, c9, rfl, hS9, hv3⟩; have bv3 := bv2.nx hv3
  go_wp2_with fail
  refine hK.out _ _ (by exact bv3.d4) ?_
  clear hK K
  try simp only [Act.put, List.setIfInBounds_toArray, List.set_cons_zero, List.set_cons_succ]
  repeat (first | (refine HP.take (v := ?_) (by rfl) ?_ ?_; rotate_left; (· (intro w hSw; (try dsimp only at hSw); go_simp; try with_reducible rfl)); (try simp only [Act.put, List.setIfInBounds_toArray, List.set_cons_zero, List.set_cons_succ])) | (refine HP.skip (by rfl) ?_; (try simp only [Act.put, List.setIfInBounds_toArray, List.set_cons_zero, List.set_cons_succ])))
  refine HP.done ?_
  go_wp2
  exact bodyPost_ret (v := .tuple #[.slice A9 (app pN xs cs).length c9, .int .i64 0]) (by simp [results, Try.results36, go_sem]) rfl ⟨A9, c9, by rw [HF.out, Hz.out], by rw [HF.out]; exact hS9.low hXv2.size, hXv2.trans hv3⟩

set_option maxRecDepth 100000 in
set_option maxHeartbeats 4000000 in
theorem implBackward_c (A2 : Option Addr) (c2 B : Nat) (xs : List Int) (f t m : Int) (A : Option Addr) (c : Nat) (cs : List Chg) (w : World) (h : Ins w B A2 xs) (hg : Chs w B A cs) (hB : B ≤ w.heap.size) (hn : xs.length ≤ 1048576) (hn2 : cs.length ≤ 1048576) :
    Calls Try.prog 38 #[.slice A2 xs.length c2, .agg #[.int .i64 f, .int .i64 t, .int .i64 m, .slice A cs.length c]] w (RetIC w (fwV pO xs (segB f t m cs) cs) (askC xs (segB f t m cs))) := by
  obtain ⟨z, Hz⟩ : ∃ z, Hid (askC xs (segB f t m cs) = z) := ⟨_, rfl⟩
  by_cases hz : z = 0
  case neg =>
    have hd : (z != 0) = true := by simp [hz]
    have HF := Lib.hid (show fwV pO xs (segB f t m cs) cs = [] from fwV_no (by
      have := Hz.out
      unfold askC at this
      by_cases hl : 4096 < xs.length
      · rw [(askC_long hl true).2]; rfl
      · rw [if_neg hl] at this
        cases hc : (contB xs && segB f t m cs)
        · rfl
        · rw [hc] at this; exact absurd this.symm hz))
    go_enter Try.func38, Try.ntmps38
    go_wp2_with fail
    have hx1 := (Nx.refl w).alloc (.cells #[.int .i64 f, .int .i64 t, .int .i64 m, .slice A cs.length c] 30)
    generalize w.alloc (.cells #[.int .i64 f, .int .i64 t, .int .i64 m, .slice A cs.length c] 30) = W1 at *
    refine (turnCode_c A2 c2 B xs f t m A c cs _ (h.below hx1 hB) (hg.below hx1 hB) (Nat.le_trans hB hx1.size) hn hn2).mono ?_
    rintro e w1 ⟨rfl, hx2⟩
    rw [Hz.out]
    go_wp2
    exact bodyPost_ret (v := .tuple #[.slice none 0 0, .int .i64 z]) (by simp [results, Try.results38, go_sem]) rfl ⟨none, 0, by rw [HF.out, Hz.out]; rfl, by rw [HF.out]; exact Sl.none_ _ _ _ _ _, hx1.trans hx2⟩
  subst hz
  have HC := Lib.hid (show contB xs = true ∧ segB f t m cs = true by
    have := Hz.out
    unfold askC at this
    by_cases hl : 4096 < xs.length
    · rw [if_pos hl] at this; omega
    · rw [if_neg hl] at this
      cases hc : contB xs <;> cases hs : segB f t m cs <;> rw [hc, hs] at this <;> simp at this ⊢)
  have HF := Lib.hid (show fwV pO xs (segB f t m cs) cs = app pO xs cs from fwV_yes (by rw [HC.out.1, HC.out.2]; rfl))
  have H8 := Lib.hid (contB_yes HC.out.1).1
  have HK := Lib.hid (show chsB cs = true by
    have := HC.out.2
    unfold segB at this
    simp only [Bool.and_eq_true] at this
    exact this.2)
  go_enter Try.func38, Try.ntmps38
  go_wp2_with fail
  have b1 := Box.new w 30 #[.int .i64 f, .int .i64 t, .int .i64 m, .slice A cs.length c]
  have hx1 := (Nx.refl w).alloc (.cells #[.int .i64 f, .int .i64 t, .int .i64 m, .slice A cs.length c] 30)
  generalize w.alloc (.cells #[.int .i64 f, .int .i64 t, .int .i64 m, .slice A cs.length c] 30) = W1 at *
  refine (turnCode_c A2 c2 B xs f t m A c cs _ (h.below hx1 hB) (hg.below hx1 hB) (Nat.le_trans hB hx1.size) hn hn2).mono ?_
  rintro e w1 ⟨rfl, hx2⟩
  rw [Hz.out]
  have b2 := b1.nx hx2
  have hX2 := hx1.trans hx2
  clear b1 hx1 hx2
  go_wp2_with fail
  refine wp_region_plan (.t 0 (.t 2 (.c 1 (.c 3 (.c 4 (.t 5 (.t 6 .e))))))) (fun w' => w'.cell? ⟨w.heap.size, 0, none⟩ = some (.int .i64 f) ∧ w'.cell? ⟨w.heap.size, 1, none⟩ = some (.int .i64 t) ∧ w'.cell? ⟨w.heap.size, 2, none⟩ = some (.int .i64 m) ∧ w'.cell? ⟨w.heap.size, 3, none⟩ = some (.slice A cs.length c)) (by kernel_rfl) (by kernel_rfl) rfl (by kernel_rfl) (fun _ _ d _ _ h => by cases d <;> exact h) (by exact (b2.d4)) ?_
  simp only [psOf, List.getD_cons_zero, List.getD_cons_succ]
  repeat (first | (refine HP.take (v := ?_) (by rfl) ?_ ?_; rotate_left; (· (intro w hSw; (try dsimp only at hSw); go_simp; try with_reducible rfl)); (try simp only [Act.put, List.setIfInBounds_toArray, List.set_cons_zero, List.set_cons_succ])) | (refine HP.skip (by rfl) ?_; (try simp only [Act.put, List.setIfInBounds_toArray, List.set_cons_zero, List.set_cons_succ])))
  refine HP.call ?_
  refine CallStep.mk (by rfl) (fun K hK => ?_)
  go_simp
  refine (valuesOf_c A2 c2 B xs _ (h.below hX2.drew hB) (Nat.le_trans hB hX2.drew.size) H8.out).mono ?_; rintro e v1 ⟨rfl, hv1⟩; have bv1 := b2.nx (Nx.drew_r hv1); have hXv1 := hX2.drew.trans hv1
  go_wp2_with fail
  refine hK.out _ _ (by exact bv1.d4) ?_
  clear hK K
  try simp only [Act.put, List.setIfInBounds_toArray, List.set_cons_zero, List.set_cons_succ]
  refine HP.call ?_
  refine CallStep.mk (by rfl) (fun K hK => ?_)
  go_simp
  refine (valuesBackward_c f t m A c B cs xs _ (hg.below hXv1 hB) (Nat.le_trans hB hXv1.size) HK.out H8.out).mono ?_; rintro e v2 ⟨rfl, hv2⟩; have bv2 := bv1.nx hv2; have hXv2 := hXv1.trans hv2
  go_wp2_with fail
  refine hK.out _ _ (by exact bv2.d4) ?_
  clear hK K
  try simp only [Act.put, List.setIfInBounds_toArray, List.set_cons_zero, List.set_cons_succ]
  refine HP.call ?_
  refine CallStep.mk (by rfl) (fun K hK => ?_)
  go_simp
  refine (valuesList_c (app pO xs cs) _ (by rw [app_len]; exact H8.out)).mono ?_; rintro e v3 ⟨A9, c9, rfl, hS9, hv3⟩; have bv3 := bv2.nx hv3
  go_wp2_with fail
  refine hK.out _ _ (by exact bv3.d4) ?_
  clear hK K
  try simp only [Act.put, List.setIfInBounds_toArray, List.set_cons_zero, List.set_cons_succ]
  repeat (first | (refine HP.take (v := ?_) (by rfl) ?_ ?_; rotate_left; (· (intro w hSw; (try dsimp only at hSw); go_simp; try with_reducible rfl)); (try simp only [Act.put, List.setIfInBounds_toArray, List.set_cons_zero, List.set_cons_succ])) | (refine HP.skip (by rfl) ?_; (try simp only [Act.put, List.setIfInBounds_toArray, List.set_cons_zero, List.set_cons_succ])))
  refine HP.done ?_
  go_wp2
  exact bodyPost_ret (v := .tuple #[.slice A9 (app pO xs cs).length c9, .int .i64 0]) (by simp [results, Try.results38, go_sem]) rfl ⟨A9, c9, by rw [HF.out, Hz.out], by rw [HF.out]; exact hS9.low hXv2.size, hXv2.trans hv3⟩
end Go.Proofs.Ytjefjngheolmkaa
/- Contract of SegOK, as the model has it. Conditions: the segment can be read, and has at most 1048576 changes. -/
namespace Go.Proofs.Ytjefjngheolmkaa
set_option linter.unusedVariables false
set_option maxRecDepth 100000
open Go.RowKit

set_option maxRecDepth 100000 in
set_option maxHeartbeats 4000000 in
theorem specSegOK_c (f t m : Int) (A : Option Addr) (c B : Nat) (cs : List Chg) (w : World) (h : Chs w B A cs) (hB : B ≤ w.heap.size) (hn : cs.length ≤ 1048576) :
    Calls Try.prog 48 #[.agg #[.int .i64 f, .int .i64 t, .int .i64 m, .slice A cs.length c]] w fun e w' => e = .returned (.bool (segB f t m cs)) ∧ Nx w w' := by
  cases x1 : inB 0 999998 f with
  | false =>
    have H1 := Lib.hid x1
    have HR := Lib.hid (segB_no (t := t) (m := m) (cs := cs) (.inl x1)).symm
    clear x1
    go_enter Try.func48, Try.ntmps48
    go_wp2_with (go_at_call 89; refine (l01In_c _ _ _ _).mono ?_; rintro e w' ⟨rfl, rfl⟩; first | rw [H1.out])
    go_ret
    exact ⟨ret_bool HR.out, (Nx.refl _).alloc _⟩
  | true =>
  have H1 := Lib.hid x1
  obtain ⟨hf0, hf1⟩ := inB_yes x1
  clear x1
  cases x2 : inB (f + 1) 999999 t with
  | false =>
    have H2 := Lib.hid x2
    have HR := Lib.hid (segB_no (f := f) (t := t) (m := m) (cs := cs) (.inr (.inl x2))).symm
    clear x2
    go_enter Try.func48, Try.ntmps48
    go_wp2_with (go_at_call 89; refine (l01In_c _ _ _ _).mono ?_; rintro e w' ⟨rfl, rfl⟩; first | rw [H1.out] | rw [H2.out])
    go_ret
    exact ⟨ret_bool HR.out, (Nx.refl _).alloc _⟩
  | true =>
  have H2 := Lib.hid x2
  obtain ⟨ht0, ht1⟩ := inB_yes x2
  clear x2
  cases x3 : inB 0 999999 m with
  | false =>
    have H3 := Lib.hid x3
    have HR := Lib.hid (segB_no (f := f) (t := t) (m := m) (cs := cs) (.inr (.inr (.inr (.inr (.inr (.inl x3))))))).symm
    clear x3
    go_enter Try.func48, Try.ntmps48
    go_wp2_with (go_at_call 89; refine (l01In_c _ _ _ _).mono ?_; rintro e w' ⟨rfl, rfl⟩; first | rw [H1.out] | rw [H2.out] | rw [H3.out])
    go_ret
    exact ⟨ret_bool HR.out, (Nx.refl _).alloc _⟩
  | true =>
  have H3 := Lib.hid x3
  clear x3
  by_cases hl : cs.length ≤ 8
  case neg =>
    have hl' : decide (8 < (cs.length : Int)) = true := by simp; omega
    have HR := Lib.hid (segB_no (f := f) (t := t) (m := m) (cs := cs) (.inr (.inr (.inr (.inr (.inr (.inr (by cases hx : chsB cs with
      | false => rfl
      | true => exact absurd (chsB_len hx) hl)))))))).symm
    go_enter Try.func48, Try.ntmps48
    go_wp2_with (go_at_call 89; refine (l01In_c _ _ _ _).mono ?_; rintro e w' ⟨rfl, rfl⟩; first | rw [H1.out] | rw [H2.out] | rw [H3.out])
    go_ret
    exact ⟨ret_bool HR.out, (Nx.refl _).alloc _⟩
  have hl' : decide (8 < (cs.length : Int)) = false := by simp; omega
  go_enter Try.func48, Try.ntmps48
  go_wp2_with (go_at_call 89; refine (l01In_c _ _ _ _).mono ?_; rintro e w' ⟨rfl, rfl⟩; first | rw [H1.out] | rw [H2.out] | rw [H3.out])
  have b0 := Box.new w 30 #[.int .i64 f, .int .i64 t, .int .i64 m, .slice A cs.length c]
  have hx0 := (Nx.refl w).alloc (.cells #[.int .i64 f, .int .i64 t, .int .i64 m, .slice A cs.length c] 30)
  generalize w.alloc (.cells #[.int .i64 f, .int .i64 t, .int .i64 m, .slice A cs.length c] 30) = W at *
  clear hl'
  go_loopw [3] (fun i wr => ∃ k : Nat, k ≤ cs.length ∧ i = .int .i64 k ∧ OkTo cs k ∧ Nx W wr) (fun i _ => cs.length - (intOf i).toNat)
  case atStart => exact ⟨0, Nat.zero_le _, rfl, OkTo.zero _, Nx.refl _⟩
  case round =>
    obtain ⟨k, hk, rfl, hto, hnx⟩ := hrel
    obtain ⟨_, _, _, c3⟩ := (b0.nx hnx).d4
    by_cases hlt : k < cs.length
    · obtain ⟨b, off, rfl, hb, k0, k1, k2⟩ := (h.below (hx0.trans hnx) hB).at_ hlt
      obtain ⟨⟨q0, q1, q2⟩, Hq⟩ : ∃ q, Hid (cs.getD k chZ = q) := ⟨_, rfl⟩
      rw [Hq.out] at k0 k1 k2
      have hbw : b < wr.heap.size := by have := hx0.size; have := hnx.size; omega
      have hbv : w.heap.size < wr.heap.size := (b0.nx hnx).lt
      cases hch : chB (q0, q1, q2) with
      | false =>
        have HC := Lib.hid hch
        have HR := Lib.hid (segB_no (f := f) (t := t) (m := m) (cs := cs) (.inr (.inr (.inr (.inr (.inr (.inr (chsB_no hlt (by unfold okCh; rw [Hq.out, hch]; rfl))))))))).symm
        clear hch
        go_wp2_with fail
        refine wp_region_lex [false, false, false, false, false, true, false, false, false, false, false, false, false, false, false, false, false, false, false, false, false, false, false, false, false, false, false] (fun w' => w'.cell? ⟨w.heap.size, 3, none⟩ = some (.slice (some ⟨b, off, none⟩) cs.length c) ∧ w'.cell? ⟨b, off + k * 3, none⟩ = some (.int .i64 q0) ∧ w'.cell? ⟨b, off + k * 3 + 1, none⟩ = some (.int .i64 q1) ∧ w'.cell? ⟨b, off + k * 3 + 2, none⟩ = some (.int .i64 q2)) (by kernel_rfl) (by kernel_rfl) rfl (by kernel_rfl) (fun _ _ d _ _ h => by cases d <;> exact h) (by exact ⟨c3, k0, k1, k2⟩) ?_
        repeat (first | (refine HL.take (v := ?_) (by rfl) ?_ ?_; rotate_left; (· (intro w hSw; (try dsimp only at hSw); go_simp; try with_reducible rfl)); (try simp only [Act.put, List.setIfInBounds_toArray, List.set_cons_zero, List.set_cons_succ])) | (refine HL.skip (by rfl) ?_; (try simp only [Act.put, List.setIfInBounds_toArray, List.set_cons_zero, List.set_cons_succ])))
        refine HL.call (by rfl) (fun K hK => ?_)
        go_simp
        refine (l02Change_c q0 q1 q2 _).mono ?_; rintro e w1 ⟨rfl, hnx1⟩; rw [HC.out]; have d3 := (hnx1.cell (p := ⟨w.heap.size, 3, none⟩) hbv).trans c3; have l0 := (hnx1.cell (p := ⟨b, off + k * 3, none⟩) hbw).trans k0; have l1 := (hnx1.cell (p := ⟨b, off + k * 3 + 1, none⟩) hbw).trans k1; have l2 := (hnx1.cell (p := ⟨b, off + k * 3 + 2, none⟩) hbw).trans k2
        go_wp2_with fail
        refine hK.out _ _ (by exact ⟨d3, l0, l1, l2⟩) ?_
        clear hK K
        try simp only [Act.put, List.setIfInBounds_toArray, List.set_cons_zero, List.set_cons_succ]
        repeat (first | (refine HL.take (v := ?_) (by rfl) ?_ ?_; rotate_left; (· (intro w hSw; (try dsimp only at hSw); go_simp; try with_reducible rfl)); (try simp only [Act.put, List.setIfInBounds_toArray, List.set_cons_zero, List.set_cons_succ])) | (refine HL.skip (by rfl) ?_; (try simp only [Act.put, List.setIfInBounds_toArray, List.set_cons_zero, List.set_cons_succ])))
        refine HL.done ?_
        go_wp2
        go_ret
        exact ⟨ret_bool HR.out, hx0.trans (hnx.drew.trans hnx1)⟩
      | true =>
        have HC := Lib.hid hch
        clear hch
        by_cases hk0 : k = 0
        · have hd0 : decide (0 < (k : Int)) = false := by simp; omega
          have HO := Lib.hid (show okCh cs k = true by unfold okCh; rw [Hq.out, HC.out, hk0]; rfl)
          have hd1 : decide (0 < k) = false := by simp; omega
          clear hk0
          go_wp2_with fail
          refine wp_region_lex [false, false, false, false, false, true, false, false, false, false, false, false, false, false, false, false, false, false, false, false, false, false, false, false, false, false, false] (fun w' => w'.cell? ⟨w.heap.size, 3, none⟩ = some (.slice (some ⟨b, off, none⟩) cs.length c) ∧ w'.cell? ⟨b, off + k * 3, none⟩ = some (.int .i64 q0) ∧ w'.cell? ⟨b, off + k * 3 + 1, none⟩ = some (.int .i64 q1) ∧ w'.cell? ⟨b, off + k * 3 + 2, none⟩ = some (.int .i64 q2)) (by kernel_rfl) (by kernel_rfl) rfl (by kernel_rfl) (fun _ _ d _ _ h => by cases d <;> exact h) (by exact ⟨c3, k0, k1, k2⟩) ?_
          repeat (first | (refine HL.take (v := ?_) (by rfl) ?_ ?_; rotate_left; (· (intro w hSw; (try dsimp only at hSw); go_simp; try with_reducible rfl)); (try simp only [Act.put, List.setIfInBounds_toArray, List.set_cons_zero, List.set_cons_succ])) | (refine HL.skip (by rfl) ?_; (try simp only [Act.put, List.setIfInBounds_toArray, List.set_cons_zero, List.set_cons_succ])))
          refine HL.call (by rfl) (fun K hK => ?_)
          go_simp
          refine (l02Change_c q0 q1 q2 _).mono ?_; rintro e w1 ⟨rfl, hnx1⟩; rw [HC.out]; have d3 := (hnx1.cell (p := ⟨w.heap.size, 3, none⟩) hbv).trans c3; have l0 := (hnx1.cell (p := ⟨b, off + k * 3, none⟩) hbw).trans k0; have l1 := (hnx1.cell (p := ⟨b, off + k * 3 + 1, none⟩) hbw).trans k1; have l2 := (hnx1.cell (p := ⟨b, off + k * 3 + 2, none⟩) hbw).trans k2
          go_wp2_with fail
          refine hK.out _ _ (by exact ⟨d3, l0, l1, l2⟩) ?_
          clear hK K
          try simp only [Act.put, List.setIfInBounds_toArray, List.set_cons_zero, List.set_cons_succ]
          repeat (first | (refine HL.take (v := ?_) (by rfl) ?_ ?_; rotate_left; (· (intro w hSw; (try dsimp only at hSw); go_simp; try with_reducible rfl)); (try simp only [Act.put, List.setIfInBounds_toArray, List.set_cons_zero, List.set_cons_succ])) | (refine HL.skip (by rfl) ?_; (try simp only [Act.put, List.setIfInBounds_toArray, List.set_cons_zero, List.set_cons_succ])))
          refine HL.done ?_
          go_wp2
          go_roundw
          case rel => exact ⟨k + 1, by omega, by go_num, hto.succ HO.out, hnx.drew.trans hnx1⟩
          case measure => simp [intOf]; omega
        · obtain ⟨j, rfl⟩ : ∃ j, k = j + 1 := ⟨k - 1, by omega⟩
          obtain ⟨b', off', he, _, m0, _, _⟩ := (h.below (hx0.trans hnx) hB).at_ (k := j) (by omega)
          obtain ⟨rfl, rfl⟩ : b = b' ∧ off = off' := by simpa using he
          clear he
          obtain ⟨⟨r0, r1, r2⟩, Hr⟩ : ∃ q, Hid (cs.getD j chZ = q) := ⟨_, rfl⟩
          rw [Hr.out] at m0
          have hd0 : decide (0 < ((j : Int) + 1)) = true := by simp
          have hd1 : decide (0 < j + 1) = true := by simp
          have hi1 : (0 : Int) ≤ (j : Int) + 1 := by omega
          have hi2 : (j : Int) + 1 < (cs.length : Int) := by omega
          have hi4 : (j : Int) < (cs.length : Int) := by omega
          have hi5 : j < cs.length := by omega
          have hi3 : ((j : Int) + 1).toNat = j + 1 := by omega
          have hw1 : IntKind.i64.wrap ((j : Int) + 1 - 1) = (j : Int) := by rw [Int.add_sub_cancel]; exact IntWalk.i64_in _ (by omega)
          have hw2 : IntKind.i64.wrap (j : Int) = (j : Int) := IntWalk.i64_in _ (by omega)
          have hi6 : (0 : Int) ≤ (j : Int) := by omega
          by_cases hlt2 : r0 < q0
          · have hd : decide (q0 ≤ r0) = false := by simp; omega
            have HO := Lib.hid (show okCh cs (j + 1) = true by unfold okCh; rw [Hq.out, HC.out, Nat.add_sub_cancel, Hr.out]; simp [hlt2])
            go_wp2_with fail
            refine wp_region_lex [false, false, false, false, false, true, false, false, false, false, false, false, false, false, false, false, false, false, false, false, false, false, false, false, false, false, false] (fun w' => w'.cell? ⟨w.heap.size, 3, none⟩ = some (.slice (some ⟨b, off, none⟩) cs.length c) ∧ w'.cell? ⟨b, off + (j + 1) * 3, none⟩ = some (.int .i64 q0) ∧ w'.cell? ⟨b, off + (j + 1) * 3 + 1, none⟩ = some (.int .i64 q1) ∧ w'.cell? ⟨b, off + (j + 1) * 3 + 2, none⟩ = some (.int .i64 q2) ∧ w'.cell? ⟨b, off + j * 3, none⟩ = some (.int .i64 r0)) (by kernel_rfl) (by kernel_rfl) rfl (by kernel_rfl) (fun _ _ d _ _ h => by cases d <;> exact h) (by exact ⟨c3, k0, k1, k2, m0⟩) ?_
            repeat (first | (refine HL.take (v := ?_) (by rfl) ?_ ?_; rotate_left; (· (intro w hSw; (try dsimp only at hSw); go_simp; try with_reducible rfl)); (try simp only [Act.put, List.setIfInBounds_toArray, List.set_cons_zero, List.set_cons_succ])) | (refine HL.skip (by rfl) ?_; (try simp only [Act.put, List.setIfInBounds_toArray, List.set_cons_zero, List.set_cons_succ])))
            refine HL.call (by rfl) (fun K hK => ?_)
            go_simp
            refine (l02Change_c q0 q1 q2 _).mono ?_; rintro e w1 ⟨rfl, hnx1⟩; rw [HC.out]; have d3 := (hnx1.cell (p := ⟨w.heap.size, 3, none⟩) hbv).trans c3; have l0 := (hnx1.cell (p := ⟨b, off + (j + 1) * 3, none⟩) hbw).trans k0; have l1 := (hnx1.cell (p := ⟨b, off + (j + 1) * 3 + 1, none⟩) hbw).trans k1; have l2 := (hnx1.cell (p := ⟨b, off + (j + 1) * 3 + 2, none⟩) hbw).trans k2; have n0 := (hnx1.cell (p := ⟨b, off + j * 3, none⟩) hbw).trans m0
            go_wp2_with fail
            refine hK.out _ _ (by exact ⟨d3, l0, l1, l2, n0⟩) ?_
            clear hK K
            try simp only [Act.put, List.setIfInBounds_toArray, List.set_cons_zero, List.set_cons_succ]
            repeat (first | (refine HL.take (v := ?_) (by rfl) ?_ ?_; rotate_left; (· (intro w hSw; (try dsimp only at hSw); go_simp; try with_reducible rfl)); (try simp only [Act.put, List.setIfInBounds_toArray, List.set_cons_zero, List.set_cons_succ])) | (refine HL.skip (by rfl) ?_; (try simp only [Act.put, List.setIfInBounds_toArray, List.set_cons_zero, List.set_cons_succ])))
            refine HL.done ?_
            clear hw1 hw2 hi6 hi1 hi2 hi3 hi4 hi5
            go_wp2
            go_roundw
            case rel => exact ⟨j + 1 + 1, by omega, by go_num, hto.succ HO.out, hnx.drew.trans hnx1⟩
            case measure => simp [intOf]; omega
          · have hd : decide (q0 ≤ r0) = true := by simp; omega
            have HR := Lib.hid (segB_no (f := f) (t := t) (m := m) (cs := cs) (.inr (.inr (.inr (.inr (.inr (.inr (chsB_no hlt (by unfold okCh; rw [Hq.out, Nat.add_sub_cancel, Hr.out]; simp [hlt2]))))))))).symm
            go_wp2_with fail
            refine wp_region_lex [false, false, false, false, false, true, false, false, false, false, false, false, false, false, false, false, false, false, false, false, false, false, false, false, false, false, false] (fun w' => w'.cell? ⟨w.heap.size, 3, none⟩ = some (.slice (some ⟨b, off, none⟩) cs.length c) ∧ w'.cell? ⟨b, off + (j + 1) * 3, none⟩ = some (.int .i64 q0) ∧ w'.cell? ⟨b, off + (j + 1) * 3 + 1, none⟩ = some (.int .i64 q1) ∧ w'.cell? ⟨b, off + (j + 1) * 3 + 2, none⟩ = some (.int .i64 q2) ∧ w'.cell? ⟨b, off + j * 3, none⟩ = some (.int .i64 r0)) (by kernel_rfl) (by kernel_rfl) rfl (by kernel_rfl) (fun _ _ d _ _ h => by cases d <;> exact h) (by exact ⟨c3, k0, k1, k2, m0⟩) ?_
            repeat (first | (refine HL.take (v := ?_) (by rfl) ?_ ?_; rotate_left; (· (intro w hSw; (try dsimp only at hSw); go_simp; try with_reducible rfl)); (try simp only [Act.put, List.setIfInBounds_toArray, List.set_cons_zero, List.set_cons_succ])) | (refine HL.skip (by rfl) ?_; (try simp only [Act.put, List.setIfInBounds_toArray, List.set_cons_zero, List.set_cons_succ])))
            refine HL.call (by rfl) (fun K hK => ?_)
            go_simp
            refine (l02Change_c q0 q1 q2 _).mono ?_; rintro e w1 ⟨rfl, hnx1⟩; rw [HC.out]; have d3 := (hnx1.cell (p := ⟨w.heap.size, 3, none⟩) hbv).trans c3; have l0 := (hnx1.cell (p := ⟨b, off + (j + 1) * 3, none⟩) hbw).trans k0; have l1 := (hnx1.cell (p := ⟨b, off + (j + 1) * 3 + 1, none⟩) hbw).trans k1; have l2 := (hnx1.cell (p := ⟨b, off + (j + 1) * 3 + 2, none⟩) hbw).trans k2; have n0 := (hnx1.cell (p := ⟨b, off + j * 3, none⟩) hbw).trans m0
            go_wp2_with fail
            refine hK.out _ _ (by exact ⟨d3, l0, l1, l2, n0⟩) ?_
            clear hK K
            try simp only [Act.put, List.setIfInBounds_toArray, List.set_cons_zero, List.set_cons_succ]
            repeat (first | (refine HL.take (v := ?_) (by rfl) ?_ ?_; rotate_left; (· (intro w hSw; (try dsimp only at hSw); go_simp; try with_reducible rfl)); (try simp only [Act.put, List.setIfInBounds_toArray, List.set_cons_zero, List.set_cons_succ])) | (refine HL.skip (by rfl) ?_; (try simp only [Act.put, List.setIfInBounds_toArray, List.set_cons_zero, List.set_cons_succ])))
            refine HL.done ?_
            clear hw1 hw2 hi6 hi1 hi2 hi3 hi4 hi5
            go_wp2
            go_ret
            exact ⟨ret_bool HR.out, hx0.trans (hnx.drew.trans hnx1)⟩
    · obtain rfl : k = cs.length := by omega
      have HR := Lib.hid (segB_mk hf0 (by omega) ht1 H3.out hto.all).symm
      go_wp2
      go_ret
      exact ⟨ret_bool HR.out, hx0.trans hnx⟩
end Go.Proofs.Ytjefjngheolmkaa
/- Contracts of the model's l03Ask, l03Forward, l03Backward, Forward and Backward. Conditions: the list and the segment can be read, and hold at most 1048576 elements each. -/
namespace Go.Proofs.Ytjefjngheolmkaa
set_option linter.unusedVariables false
set_option maxRecDepth 100000
open Go.RowKit

set_option maxRecDepth 100000 in
set_option maxHeartbeats 2000000 in
theorem l03Ask_c (A2 : Option Addr) (c2 B : Nat) (xs : List Int) (f t m : Int) (A : Option Addr) (c : Nat) (cs : List Chg) (w : World) (h : Ins w B A2 xs) (hg : Chs w B A cs) (hB : B ≤ w.heap.size) (hn : xs.length ≤ 1048576) (hn2 : cs.length ≤ 1048576) :
    Calls Try.prog 79 #[.slice A2 xs.length c2, .agg #[.int .i64 f, .int .i64 t, .int .i64 m, .slice A cs.length c]] w fun e w' => e = .returned (.int .i64 (askC xs (segB f t m cs))) ∧ Nx w w' := by
  by_cases hl : 4096 < xs.length
  · have hd : decide (4096 < (xs.length : Int)) = true := by simp; omega
    have HR := Lib.hid (askC_long hl (segB f t m cs)).1.symm
    go_enter Try.func79, Try.ntmps79
    go_wp2
    go_ret
    exact ⟨ret_int HR.out, (Nx.refl _).alloc _⟩
  have hd : decide (4096 < (xs.length : Int)) = false := by simp; omega
  cases hc : contB xs <;> cases hs : segB f t m cs <;> (
    have HC := Lib.hid hc
    have HS := Lib.hid hs
    have HR := Lib.hid (askC_short hl hc (rfl : segB f t m cs = segB f t m cs)).symm
    rw [hs] at HR
    clear hc hs
    go_enter Try.func79, Try.ntmps79
    go_wp2_with fail
    have b1 := Box.new w 30 #[.int .i64 f, .int .i64 t, .int .i64 m, .slice A cs.length c]
    have hx1 := (Nx.refl w).alloc (.cells #[.int .i64 f, .int .i64 t, .int .i64 m, .slice A cs.length c] 30)
    generalize w.alloc (.cells #[.int .i64 f, .int .i64 t, .int .i64 m, .slice A cs.length c] 30) = W1 at *
    refine (specContentOK_c A2 c2 B xs _ (h.below hx1 hB) (Nat.le_trans hB hx1.size) hn).mono ?_
    rintro e w1 ⟨rfl, hx2⟩
    rw [HC.out]
    obtain ⟨k0, k1, k2, k3⟩ := (b1.nx hx2).d4
    have hx3 := hx1.trans hx2
    first
      | (go_wp2_with (go_at_call 48; refine (specSegOK_c f t m A c B cs _ (hg.below hx3 hB) (Nat.le_trans hB hx3.size) hn2).mono ?_; rintro e w2 ⟨rfl, hx4⟩; rw [HS.out])
         go_ret
         exact ⟨ret_int HR.out, hx3.trans hx4⟩)
      | (go_wp2
         go_ret
         exact ⟨ret_int HR.out, hx3⟩))
theorem cell_far (w : World) (p q : Addr) (v : Value) (h : q.block ≠ p.block) : (w.setCell p v).cell? q = w.cell? q := by
  unfold World.cell?
  rw [Below.heap_setCell w p v q.block h]
theorem nr_own {w u : World} {A : Option Addr} {xs : List Int} (h : NewRow w u 3 1 A xs.length (inAt xs)) (hp : 0 < xs.length) : ∃ g, A = some ⟨g, 0, none⟩ ∧ w.heap.size ≤ g ∧ Own u g 3 xs.length (inAt xs) := by
  obtain ⟨g, e, hg, ho⟩ := h.2 hp
  rw [Nat.mul_one] at ho
  exact ⟨g, e, hg, ho⟩

set_option maxRecDepth 100000 in
set_option maxHeartbeats 4000000 in
theorem l03Forward_c (A2 : Option Addr) (c2 B : Nat) (xs : List Int) (f t m : Int) (A : Option Addr) (c : Nat) (cs : List Chg) (w : World) (h : Ins w B A2 xs) (hg : Chs w B A cs) (hB : B ≤ w.heap.size) (hok : chsB cs = true) (h8 : xs.length = 8) :
    Calls Try.prog 80 #[.slice A2 xs.length c2, .agg #[.int .i64 f, .int .i64 t, .int .i64 m, .slice A cs.length c]] w (RetI w (app pN xs cs)) := by
  obtain ⟨i0, hi0, hz0, hz1, hz2⟩ := info_parts info_int
  have hl8 := chsB_len hok
  have hto := chsB_to hok
  have H8 := Lib.hid h8
  clear hok h8
  have b1 := (Box.new w 30 #[.int .i64 f, .int .i64 t, .int .i64 m, .slice A cs.length c]).alloc (.cells #[] 3)
  have hx1 := ((Nx.refl w).alloc (.cells #[.int .i64 f, .int .i64 t, .int .i64 m, .slice A cs.length c] 30)).alloc (.cells #[] 3)
  have Hsz := Lib.hid (show ((w.alloc (.cells #[.int .i64 f, .int .i64 t, .int .i64 m, .slice A cs.length c] 30)).alloc (.cells #[] 3)).heap.size = w.heap.size + 1 + 1 by simp only [World.size_alloc])
  go_enter Try.func80, Try.ntmps80
  go_wp2_with (at_builtin; refine wpList_append_new rfl (.tmp 6) (.tmp 7) 34 rfl 3 i0 _ 1 8 Try.underlying34 hi0 hz0 hz1 hz2 (by decide) (by decide) (w.heap.size + 1) A2 xs.length c2 B (inAt xs) rfl rfl (by rw [Nat.mul_one]; exact h.below hx1 hB) (by have := H8.out; omega) ?_)
  intro A9 c9 w1 hnew
  obtain ⟨g, rfl, hgl, hown⟩ := nr_own hnew (by have := H8.out; omega)
  have hx2 := hnew.1
  have b2 := b1.nx hx2
  have hX2 := hx1.trans hx2
  have hgw : w.heap.size < g := by have := Hsz.out; omega
  clear hnew b1 hx1 hx2 hgl
  go_wp2_with fail
  go_loopw [5] (fun i wr => ∃ k : Nat, k ≤ cs.length ∧ i = .int .i64 k ∧ Own wr g 3 xs.length (inAt (app pN xs (cs.take k))) ∧ Box wr w.heap.size 30 #[.int .i64 f, .int .i64 t, .int .i64 m, .slice A cs.length c] ∧ Nx w wr) (fun i _ => cs.length - (intOf i).toNat)
  case atStart => exact ⟨0, Nat.zero_le _, rfl, hown, b2, hX2⟩
  case round =>
    obtain ⟨k, hk, rfl, hown, bg, hnx⟩ := hrel
    clear b2 hX2
    obtain ⟨_, _, _, d3⟩ := bg.d4
    by_cases hlt : k < cs.length
    · obtain ⟨b, off, rfl, hb, k0, k1, k2⟩ := (hg.below hnx hB).at_ hlt
      obtain ⟨hr0, hr1⟩ := hto.rise k hlt
      obtain ⟨⟨q0, q1, q2⟩, Hq⟩ : ∃ q, Hid (cs.getD k chZ = q) := ⟨_, rfl⟩
      rw [Hq.out] at k0 k1 k2 hr0 hr1
      obtain ⟨n0, rfl⟩ : ∃ n : Nat, q0 = n := ⟨q0.toNat, by simp only at hr0; omega⟩
      have hn0 : n0 < xs.length := by have := H8.out; simp only at hr1; omega
      have hn1 : (n0 : Int) < (xs.length : Int) := by omega
      have hk1 : (k : Int) < (cs.length : Int) := by omega
      have hbg : b ≠ g := by omega
      clear hr0 hr1
      obtain ⟨v, hv⟩ : ∃ v, wr.cell? ⟨g, n0, none⟩ = some v := ⟨_, hown.cell hn0⟩
      have hz := hown.frozen n0
      go_wp2_with fail
      refine wp_region_lex [false, false, false, false, false, false, false, false, false, false, false, false, false, false, true] (fun w' => w'.cell? ⟨w.heap.size, 3, none⟩ = some (.slice (some ⟨b, off, none⟩) cs.length c) ∧ w'.cell? ⟨b, off + k * 3, none⟩ = some (.int .i64 (n0 : Int)) ∧ w'.cell? ⟨b, off + k * 3 + 1, none⟩ = some (.int .i64 q1)) (by kernel_rfl) (by kernel_rfl) rfl (by kernel_rfl) (fun _ _ d _ _ h => by cases d <;> exact h) (by exact ⟨d3, k0, k1⟩) ?_
      repeat (first | (refine HL.take (v := ?_) (by rfl) ?_ ?_; rotate_left; (· (intro w hSw; (try dsimp only at hSw); go_simp; try with_reducible rfl)); (try simp only [Act.put, List.setIfInBounds_toArray, List.set_cons_zero, List.set_cons_succ])) | (refine HL.skip (by rfl) ?_; (try simp only [Act.put, List.setIfInBounds_toArray, List.set_cons_zero, List.set_cons_succ])))
      refine HL.call (by rfl) (fun K hK => ?_)
      go_simp
      refine hK.out _ _ (by exact ⟨(bg.far (p := ⟨g, n0, none⟩) (by simp; omega) (.int .i64 q1)).cell 3, ((cell_far wr ⟨g, n0, none⟩ _ _ (by simp; omega)).trans k0), ((cell_far wr ⟨g, n0, none⟩ _ _ (by simp; omega)).trans k1)⟩) ?_
      clear hK K
      try simp only [Act.put, List.setIfInBounds_toArray, List.set_cons_zero, List.set_cons_succ]
      refine HL.done ?_
      go_wp2
      go_roundw
      case rel =>
        refine ⟨k + 1, by omega, by go_num, (hown.set (k := n0) hn0 (.int .i64 q1)).congr fun i hi => ?_, bg.far (p := ⟨g, n0, none⟩) (by simp; omega) _, (hnx.setCell (p := ⟨g, n0, none⟩) (by simp; omega) _).drew⟩
        rw [app_succ pN xs cs hlt, Hq.out]
        rw [inAt_set _ (by rw [app_len]; simpa using hn0)]
        simp [pN]
      case measure => simp [intOf]; omega
    · obtain rfl : k = cs.length := by omega
      rw [List.take_length] at hown
      go_wp2
      go_ret
      exact ⟨_, c9, by rw [app_len]; rfl, by unfold SlI; rw [app_len]; exact Sl.own hown (by omega), hnx⟩

set_option maxRecDepth 100000 in
set_option maxHeartbeats 4000000 in
theorem specForward_c (A2 : Option Addr) (c2 B : Nat) (xs : List Int) (f t m : Int) (A : Option Addr) (c : Nat) (cs : List Chg) (w : World) (h : Ins w B A2 xs) (hg : Chs w B A cs) (hB : B ≤ w.heap.size) (hn : xs.length ≤ 1048576) (hn2 : cs.length ≤ 1048576) :
    Calls Try.prog 37 #[.slice A2 xs.length c2, .agg #[.int .i64 f, .int .i64 t, .int .i64 m, .slice A cs.length c]] w (RetIC w (fwV pN xs (segB f t m cs) cs) (askC xs (segB f t m cs))) := by
  by_cases hl : 4096 < xs.length
  · have hd : decide (4096 < (xs.length : Int)) = true := by simp; omega
    have HR := Lib.hid (askC_long hl (segB f t m cs)).1
    have HF := Lib.hid (show fwV pN xs (segB f t m cs) cs = [] from fwV_no (by rw [(askC_long hl true).2]; rfl))
    go_enter Try.func37, Try.ntmps37
    go_wp2
    exact bodyPost_ret (v := .tuple #[.slice (some ⟨w.heap.size + 1, 0, none⟩) 0 0, .int .i64 2]) (by simp [results, Try.results37, go_sem]) rfl ⟨_, 0, by rw [HF.out, HR.out]; rfl, by rw [HF.out]; exact Sl.none_ _ _ _ _ _, ((Nx.refl w).alloc _).alloc _⟩
  have hd : decide (4096 < (xs.length : Int)) = false := by simp; omega
  obtain ⟨z, Hz⟩ : ∃ z, Hid (askC xs (segB f t m cs) = z) := ⟨_, rfl⟩
  have b1 := Box.new w 30 #[.int .i64 f, .int .i64 t, .int .i64 m, .slice A cs.length c]
  have hx1 := (Nx.refl w).alloc (.cells #[.int .i64 f, .int .i64 t, .int .i64 m, .slice A cs.length c] 30)
  by_cases hz : z = 0
  case neg =>
    have hd2 : (z != 0) = true := by simp [hz]
    have HF := Lib.hid (show fwV pN xs (segB f t m cs) cs = [] from fwV_no (by
      have := Hz.out
      unfold askC at this
      rw [if_neg hl] at this
      cases hc : (contB xs && segB f t m cs)
      · rfl
      · rw [hc] at this; exact absurd this.symm hz))
    go_enter Try.func37, Try.ntmps37
    go_wp2_with fail
    generalize w.alloc (.cells #[.int .i64 f, .int .i64 t, .int .i64 m, .slice A cs.length c] 30) = W1 at *
    refine (l03Ask_c A2 c2 B xs f t m A c cs _ (h.below hx1 hB) (hg.below hx1 hB) (Nat.le_trans hB hx1.size) hn hn2).mono ?_
    rintro e w1 ⟨rfl, hx2⟩
    rw [Hz.out]
    go_wp2
    exact bodyPost_ret (v := .tuple #[.slice (some ⟨w1.heap.size, 0, none⟩) 0 0, .int .i64 z]) (by simp [results, Try.results37, go_sem]) rfl ⟨_, 0, by rw [HF.out, Hz.out]; rfl, by rw [HF.out]; exact Sl.none_ _ _ _ _ _, (hx1.trans hx2).alloc _⟩
  subst hz
  have HC := Lib.hid (show contB xs = true ∧ segB f t m cs = true by
    have := Hz.out
    unfold askC at this
    rw [if_neg hl] at this
    cases hc : contB xs <;> cases hs : segB f t m cs <;> rw [hc, hs] at this <;> simp at this ⊢)
  have HF := Lib.hid (show fwV pN xs (segB f t m cs) cs = app pN xs cs from fwV_yes (by rw [HC.out.1, HC.out.2]; rfl))
  have H8 := Lib.hid (contB_yes HC.out.1).1
  have HK := Lib.hid (show chsB cs = true by
    have := HC.out.2
    unfold segB at this
    simp only [Bool.and_eq_true] at this
    exact this.2)
  go_enter Try.func37, Try.ntmps37
  go_wp2_with fail
  generalize w.alloc (.cells #[.int .i64 f, .int .i64 t, .int .i64 m, .slice A cs.length c] 30) = W1 at *
  refine (l03Ask_c A2 c2 B xs f t m A c cs _ (h.below hx1 hB) (hg.below hx1 hB) (Nat.le_trans hB hx1.size) hn hn2).mono ?_
  rintro e w1 ⟨rfl, hx2⟩
  rw [Hz.out]
  obtain ⟨k0, k1, k2, k3⟩ := (b1.nx hx2).d4
  have hX2 := hx1.trans hx2
  go_wp2_with fail
  refine (l03Forward_c A2 c2 B xs f t m A c cs _ (h.below hX2 hB) (hg.below hX2 hB) (Nat.le_trans hB hX2.size) HK.out H8.out).mono ?_
  rintro e w2 ⟨A9, c9, rfl, hS9, hx3⟩
  go_wp2
  exact bodyPost_ret (v := .tuple #[.slice A9 (app pN xs cs).length c9, .int .i64 0]) (by simp [results, Try.results37, go_sem]) rfl ⟨A9, c9, by rw [HF.out, Hz.out], by rw [HF.out]; exact hS9.low hX2.size, hX2.trans hx3⟩

end Go.Proofs.Ytjefjngheolmkaa
/- Contracts of SegOf, as the program and as the model have it. Conditions: the list can be read, and holds at most 1048576 elements. -/
namespace Go.Proofs.Ytjefjngheolmkaa
set_option linter.unusedVariables false
set_option maxRecDepth 100000
open Go.RowKit

/-- A segment: from, to, time, changes. -/
abbrev Sg4 := Int × Int × Int × List Chg
def zSg : Sg4 := (0, 0, 0, [])
/-- A segment and a code that are answered. -/
def RetSC (w : World) (q : Sg4) (cd : Int) (e : Ending) (w' : World) : Prop :=
  ∃ (A : Option Addr) (c : Nat), e = .returned (.tuple #[.agg #[.int .i64 q.1, .int .i64 q.2.1, .int .i64 q.2.2.1, .slice A q.2.2.2.length c], .int .i64 cd]) ∧ Sl w' w.heap.size A 75 (q.2.2.2.length * 3) (chAt q.2.2.2) ∧ Nx w w'
/-- What a write makes of a content. -/
def ofW (xs : List Int) (p b v t : Int) : Sg4 := (p - 1, p, t, [(b, v, xs.getD b.toNat 0)])
def sgFr (xs : List Int) (p b v t : Int) : Sg4 := if contB xs && frameB p b v t then ofW xs p b v t else zSg
theorem chAt_one (b v o : Int) : ∀ i, i < 3 → (#[Value.int .i64 b, .int .i64 v, .int .i64 o] : Array Value)[i]! = chAt [(b, v, o)] i := fun i hi => by
  match i, hi with
  | 0, _ => rfl
  | 1, _ => rfl
  | 2, _ => rfl
theorem one_own {w : World} {g : Nat} {t : TypeId} {b v o : Int} (h : Box w g t #[.int .i64 b, .int .i64 v, .int .i64 o]) : Own w g t 3 (chAt [(b, v, o)]) := h.own.congr (chAt_one b v o)
theorem frameB_block {p b v t : Int} (h : frameB p b v t = true) : 0 ≤ b ∧ b ≤ 7 ∧ 1 ≤ p ∧ p ≤ 999999 ∧ 0 ≤ v ∧ v ≤ 999999 ∧ 0 ≤ t ∧ t ≤ 999999 := by
  unfold frameB at h
  simp only [Bool.and_eq_true] at h
  have h1 := inB_yes h.1.1.1
  have h2 := inB_yes h.1.1.2
  have h3 := inB_yes h.1.2
  have h4 := inB_yes h.2
  omega
end Go.Proofs.Ytjefjngheolmkaa
/- A frame that comes in, opened. Conditions: none. -/
namespace Go.Proofs.Ytjefjngheolmkaa
set_option linter.unusedVariables false
set_option maxRecDepth 100000
open Go.Joins Go.ChangeShapes Go.WideShapes Go.RowKit Go.Deep
theorem ci_ : Try.prog.cellsOf 3 = 1 := by kernel_rfl
section
variable {H : Type} {enc : TypeId × Value → H} {w : World} {base : Nat} {spare : Nat → Bool} {held : Bool}
theorem one_int {fuel : Nat} {v : Value} {x : DataW H × List MemPlace} (h : DataW.trod enc Try.prog w base spare held fuel 3 [v] = some x) : ∃ q, v = .int .i64 q ∧ (Lit.int .i64 q).wf = true := by
  obtain ⟨q, e, _, hw⟩ := DataW.trod_int (k := .i64) Try.underlying3 h
  exact ⟨q, by simpa using e, hw⟩
theorem open_frame {r : Reach} {b0 : Nat} {v : Value} {d : DataW H} {p : List MemPlace} (hv : Value.okWide Try.prog w r b0 36 v) (h : DataW.Trod enc Try.prog w base spare held 36 v d p) :
    ∃ a b c t : Int, v = .agg #[.int .i64 a, .int .i64 b, .int .i64 c, .int .i64 t] := by
  obtain ⟨v0, v1, v2, v3, y0, y1, y2, y3, m, rfl, _, _, t0, t1, t2, t3⟩ := open_agg4 Try.underlying36 (by kernel_rfl) (by kernel_rfl) hv h
  obtain ⟨q0, rfl, _⟩ := one_int t0
  obtain ⟨q1, rfl, _⟩ := one_int t1
  obtain ⟨q2, rfl, _⟩ := one_int t2
  obtain ⟨q3, rfl, _⟩ := one_int t3
  exact ⟨q0, q1, q2, q3, rfl⟩
end
end Go.Proofs.Ytjefjngheolmkaa
/- Contracts of the laws' functions that count the size of segments, and that make the program's segments out of the laws' own; a segment that comes in, opened. Conditions: what is counted or copied can be read; copied: it has at most 1048576 changes. -/
namespace Go.Proofs.Ytjefjngheolmkaa
set_option linter.unusedVariables false
set_option maxRecDepth 100000
open Go.Joins Go.ChangeShapes Go.WideShapes Go.RowKit Go.Deep

set_option maxHeartbeats 1000000 in
theorem szSeg_c (f t m : Int) (A : Option Addr) (n c : Nat) (left : Int) (w : World) (hn : n ≤ 2 ^ 63 - 1) (h0 : 0 ≤ left) (h1 : left ≤ 1048576) :
    Calls Try.prog 10 #[.agg #[.int .i64 f, .int .i64 t, .int .i64 m, .slice A n c], .int .i64 left] w fun e w' => e = .returned (.int .i64 (szR left n)) ∧ Nx w w' := by
  have key : ∀ W : World, Calls Try.prog 47 #[.slice A n c, .int .i64 left] W fun e w' => e = .returned (.int .i64 (szR left n)) ∧ W = w' := by
    intro W
    by_cases hle : (n : Int) ≤ left
    · have HF := Lib.hid (szR_yes hle)
      have hd : decide (left - (n : Int) < 0) = false := by simp; omega
      go_enter Try.func47, Try.ntmps47
      go_wp2
      go_ret
      exact ⟨ret_int HF.out, rfl⟩
    · have HF := Lib.hid (szR_no (left := left) (cost := n) (by omega))
      have hd : decide (left - (n : Int) < 0) = true := by simp; omega
      go_enter Try.func47, Try.ntmps47
      go_wp2
      go_ret
      exact ⟨ret_int HF.out, rfl⟩
  by_cases hle : (n : Int) ≤ left
  · have HF := Lib.hid (szR_yes hle)
    have hd : decide (left - (n : Int) < 0) = false := by simp; omega
    go_enter Try.func10, Try.ntmps10
    go_wp2_with fail
    refine (key _).mono ?_
    rintro e w1 ⟨rfl, rfl⟩
    rw [← HF.out]
    go_wp2
    go_ret
    exact ⟨ret_int HF.out, (Nx.refl _).alloc _⟩
  · have HF := Lib.hid (szR_no (left := left) (cost := n) (by omega))
    go_enter Try.func10, Try.ntmps10
    go_wp2_with fail
    refine (key _).mono ?_
    rintro e w1 ⟨rfl, rfl⟩
    rw [← HF.out]
    go_wp2
    go_ret
    exact ⟨ret_int HF.out, (Nx.refl _).alloc _⟩

theorem info_ch : (Try.prog.info? 75).map (fun i => (i.zero, i.size, i.bytes)) = some (some (.agg #[.int .i64 0, .int .i64 0, .int .i64 0]), 3, 24) := by kernel_rfl
set_option maxHeartbeats 1000000 in
theorem toChange_c (a b c : Int) (w : World) :
    Calls Try.prog 93 #[.agg #[.int .i64 a, .int .i64 b, .int .i64 c]] w fun e w' => e = .returned (.agg #[.int .i64 a, .int .i64 b, .int .i64 c]) ∧ Nx w w' := by
  go_enter Try.func93, Try.ntmps93
  go_wp2
  exact bodyPost_ret (v := .agg #[.int .i64 a, .int .i64 b, .int .i64 c]) (by simp [results, Try.results93, go_sem]) rfl ⟨rfl, ((((Nx.refl _).alloc _).alloc _).alloc _)⟩
/-- What a function leaves that answers a list of changes in new memory. -/
def RetC (w : World) (cs : List Chg) (e : Ending) (w' : World) : Prop := ∃ (A : Option Addr) (c : Nat), e = .returned (.slice A cs.length c) ∧ Sl w' w.heap.size A 75 (cs.length * 3) (chAt cs) ∧ Nx w w'
def RetG (w : World) (f t m : Int) (cs : List Chg) (e : Ending) (w' : World) : Prop := ∃ (A : Option Addr) (c : Nat), e = .returned (.agg #[.int .i64 f, .int .i64 t, .int .i64 m, .slice A cs.length c]) ∧ Sl w' w.heap.size A 75 (cs.length * 3) (chAt cs) ∧ Nx w w'
set_option maxHeartbeats 1000000 in
theorem toChangeS_c (A : Option Addr) (c B : Nat) (cs : List Chg) (w : World) (h : Chs w B A cs) (hB : B ≤ w.heap.size) (hn : cs.length ≤ 1048576) :
    Calls Try.prog 50 #[.slice A cs.length c] w (RetC w cs) := by
  obtain ⟨i0, hi0, hz0, hz1, hz2⟩ := info_parts info_ch
  have hmk := fun W => run_make_rowN (P := Try.prog) 28 75 i0 _ Try.underlying28 hi0 hz0 .i64 .i64 cs.length cs.length (Nat.le_refl _) (by rw [hz2]; omega) (by omega) W
  rw [hz1] at hmk
  have hmade := Own.made w #[Value.int .i64 0, Value.int .i64 0, Value.int .i64 0] (cs.length * 3) 75
  go_enter Try.func50, Try.ntmps50
  go_wp2
  go_loopw [4] (fun i wr => ∃ k : Nat, k ≤ cs.length ∧ i = .int .i64 k ∧ Fill wr w.heap.size 75 (cs.length * 3) (k * 3) (chAt cs) ∧ Nx w wr) (fun i _ => cs.length - (intOf i).toNat)
  case atStart => exact ⟨0, Nat.zero_le _, rfl, Fill.start hmade, (Nx.refl _).alloc _⟩
  case round =>
    obtain ⟨k, hk, rfl, hf, hnx⟩ := hrel
    by_cases hlt : k < cs.length
    · obtain ⟨b, off, rfl, hb, p0, p1, p2⟩ := (h.below hnx hB).at_ hlt
      clear hmk hmade
      obtain ⟨⟨x, y, z⟩, Hs⟩ : ∃ s, Hid (cs.getD k chZ = s) := ⟨_, rfl⟩
      rw [Hs.out] at p0 p1 p2
      go_wp2_with fail
      refine (toChange_c x y z _).mono ?_
      rintro e w1 ⟨rfl, hnx1⟩
      have hf1 := hf.nx hnx1
      obtain ⟨v0, hv0⟩ := hf1.some_ (i := k * 3) (by omega)
      obtain ⟨v1, hv1⟩ := hf1.some_ (i := k * 3 + 1) (by omega)
      obtain ⟨v2, hv2⟩ := hf1.some_ (i := k * 3 + 2) (by omega)
      have hz0 := hf1.frozen (k * 3)
      have hz1 := hf1.frozen (k * 3 + 1)
      have hz2 := hf1.frozen (k * 3 + 2)
      clear p0 p1 p2
      go_wp2
      go_roundw
      case rel =>
        refine ⟨k + 1, by omega, by go_num, ?_, (((hnx.trans hnx1).setCell (Nat.le_refl _) _).setCell (Nat.le_refl _) _).setCell (Nat.le_refl _) _⟩
        have e2 : (k + 1) * 3 = k * 3 + 1 + 1 + 1 := by omega
        rw [e2]
        exact ((hf1.step (by omega) (by rw [chAt0, Hs.out])).step (by omega) (by rw [chAt1, Hs.out])).step (by omega) (by rw [show k * 3 + 1 + 1 = k * 3 + 2 by omega, chAt2, Hs.out])
      case measure => simp [intOf]; omega
    · obtain rfl : k = cs.length := by omega
      go_wp2
      go_ret
      exact ⟨_, _, rfl, Sl.own hf.done (Nat.le_refl _), hnx⟩

set_option maxHeartbeats 1000000 in
theorem toSeg_c (f t m : Int) (A : Option Addr) (c B : Nat) (cs : List Chg) (w : World) (h : Chs w B A cs) (hB : B ≤ w.heap.size) (hn : cs.length ≤ 1048576) :
    Calls Try.prog 12 #[.agg #[.int .i64 f, .int .i64 t, .int .i64 m, .slice A cs.length c]] w (RetG w f t m cs) := by
  go_enter Try.func12, Try.ntmps12
  go_wp2_with fail
  have b1 := (Box.new (w.alloc (.cells #[.int .i64 f, .int .i64 t, .int .i64 m, .slice A cs.length c] 24)) 30 #[.int .i64 0, .int .i64 0, .int .i64 0, .slice none 0 0]).alloc (.cells #[.int .i64 f, .int .i64 t, .int .i64 m, .slice none 0 0] 30)
  have b2 := Box.new ((w.alloc (.cells #[.int .i64 f, .int .i64 t, .int .i64 m, .slice A cs.length c] 24)).alloc (.cells #[.int .i64 0, .int .i64 0, .int .i64 0, .slice none 0 0] 30)) 30 #[.int .i64 f, .int .i64 t, .int .i64 m, .slice none 0 0]
  have hnx0 := (((Nx.refl w).alloc (.cells #[.int .i64 f, .int .i64 t, .int .i64 m, .slice A cs.length c] 24)).alloc (.cells #[.int .i64 0, .int .i64 0, .int .i64 0, .slice none 0 0] 30)).alloc (.cells #[.int .i64 f, .int .i64 t, .int .i64 m, .slice none 0 0] 30)
  have hsz : (((w.alloc (.cells #[.int .i64 f, .int .i64 t, .int .i64 m, .slice A cs.length c] 24)).alloc (.cells #[.int .i64 0, .int .i64 0, .int .i64 0, .slice none 0 0] 30)).alloc (.cells #[.int .i64 f, .int .i64 t, .int .i64 m, .slice none 0 0] 30)).heap.size = w.heap.size + 1 + 1 + 1 := by simp only [World.size_alloc]
  simp only [World.size_alloc] at b1 b2
  generalize (((w.alloc (.cells #[.int .i64 f, .int .i64 t, .int .i64 m, .slice A cs.length c] 24)).alloc (.cells #[.int .i64 0, .int .i64 0, .int .i64 0, .slice none 0 0] 30)).alloc (.cells #[.int .i64 f, .int .i64 t, .int .i64 m, .slice none 0 0] 30)) = W at *
  have Hsz := Lib.hid hsz
  clear hsz
  refine (toChangeS_c A c B cs _ (h.below hnx0 hB) (by have := Hsz.out; omega) hn).mono ?_
  rintro e w1 ⟨A3, c3, rfl, hS, hnx1⟩
  have b1t := b1.nx hnx1
  have b2t := b2.nx hnx1
  obtain ⟨d0, d1, d2, d3⟩ := b2t.d4
  obtain ⟨e0, e1, e2, e3⟩ := b1t.d4
  have f23 := b2t.frozen 3
  have f10 := b1t.frozen 0
  have f11 := b1t.frozen 1
  have f12 := b1t.frozen 2
  have f13 := b1t.frozen 3
  go_wp2
  have hz := Hsz.out
  have q := ((((b1t.far (p := ⟨w.heap.size + 1 + 1, 3, none⟩) (by simp) (.slice A3 cs.length c3)).set 0 (.int .i64 f)).set 1 (.int .i64 t)).set 2 (.int .i64 m)).set 3 (.slice A3 cs.length c3)
  have hSf := ((((hS.far (p := ⟨w.heap.size + 1 + 1, 3, none⟩) (by simp; omega) (.slice A3 cs.length c3)).far (p := ⟨w.heap.size + 1, 0, none⟩) (by simp; omega) (.int .i64 f)).far (p := ⟨w.heap.size + 1, 1, none⟩) (by simp; omega) (.int .i64 t)).far (p := ⟨w.heap.size + 1, 2, none⟩) (by simp; omega) (.int .i64 m)).far (p := ⟨w.heap.size + 1, 3, none⟩) (by simp; omega) (.slice A3 cs.length c3)
  have hnf := (((((hnx0.trans hnx1).setCell (p := ⟨w.heap.size + 1 + 1, 3, none⟩) (by simp; omega) (.slice A3 cs.length c3)).setCell (p := ⟨w.heap.size + 1, 0, none⟩) (by simp) (.int .i64 f)).setCell (p := ⟨w.heap.size + 1, 1, none⟩) (by simp) (.int .i64 t)).setCell (p := ⟨w.heap.size + 1, 2, none⟩) (by simp) (.int .i64 m)).setCell (p := ⟨w.heap.size + 1, 3, none⟩) (by simp) (.slice A3 cs.length c3)
  generalize ((((w1.setCell ⟨w.heap.size + 1 + 1, 3, none⟩ (.slice A3 cs.length c3)).setCell ⟨w.heap.size + 1, 0, none⟩ (.int .i64 f)).setCell ⟨w.heap.size + 1, 1, none⟩ (.int .i64 t)).setCell ⟨w.heap.size + 1, 2, none⟩ (.int .i64 m)).setCell ⟨w.heap.size + 1, 3, none⟩ (.slice A3 cs.length c3) = Wf at *
  have g0 := q.cell 0
  have g1 := q.cell 1
  have g2 := q.cell 2
  have g3 := q.cell 3
  simp at g0 g1 g2 g3
  exact bodyPost_ret (v := .agg #[.int .i64 f, .int .i64 t, .int .i64 m, .slice A3 cs.length c3]) (by simp [results, Try.results12, go_sem, g0, g1, g2, g3]) rfl ⟨A3, c3, rfl, hSf.low (by omega), hnf⟩

theorem cLC : Try.prog.cellsOf 116 = 3 := by kernel_rfl
theorem cLG : Try.prog.cellsOf 24 = 4 := by kernel_rfl
theorem addr_plainG {w : World} {a : Addr} {v : Value} (h : w.cell? (a.add 0) = some v) : ∃ b off, a = ⟨b, off, none⟩ ∧ b < w.heap.size := by
  have h' : w.cell? a = some v := by simpa [Addr.add] using h
  have hs := World.cell?_spot h'
  obtain ⟨b, off, sp⟩ := a
  simp only at hs
  subst hs
  exact ⟨b, off, rfl, World.block_lt_of_cell? w _ h'⟩
theorem addr_addG (b off i : Nat) : (Addr.mk b off none).add i = ⟨b, off + i, none⟩ := by
  unfold Addr.add
  by_cases h : i = 0
  · subst h; simp
  · simp [h]
section
variable {H : Type} {enc : TypeId × Value → H} {w : World} {base : Nat} {spare : Nat → Bool} {held : Bool}
set_option maxRecDepth 100000 in
theorem open_chs_ {fuel : Nat} {v : Value} {x : DataW H × List MemPlace} (h : DataW.trod enc Try.prog w base spare held fuel 22 [v] = some x) :
    ∃ (A : Option Addr) (c : Nat) (cs : List Chg), v = .slice A cs.length c ∧ Chs w w.heap.size A cs ∧ cs.length ≤ 2 ^ 63 - 1 := by
  rcases open_slice Try.underlying22 h with ⟨hcs, _⟩ | ⟨a, len, cap, m, n, D, Pl, hcs, _, hl, hm, hmm, _, hi⟩
  · exact ⟨none, 0, [], by simpa using hcs, fun hn => absurd hn (by simp), by simp⟩
  · have hle : len ≤ m := by rw [hmm]; split <;> omega
    unfold maxLen at hm
    have key : ∀ i, ∃ p : Chg, i < m → w.cell? (a.add (i * 3)) = some (.int .i64 p.1) ∧ w.cell? ((a.add (i * 3)).add 1) = some (.int .i64 p.2.1) ∧ w.cell? ((a.add (i * 3)).add 2) = some (.int .i64 p.2.2) := by
      intro i
      by_cases him : i < m
      · obtain ⟨cs', hc, ht⟩ := hi i him
        rw [cLC] at hc
        obtain ⟨_, hcl, hat⟩ := World.cells?_some hc
        obtain ⟨y0, y1, y2, k, _, _, t0, t1, t2⟩ := trod_struct3 Try.underlying116 ht
        match cs', hcl with
        | [u0, u1, u2], _ =>
          have e0 : ∃ q, [u0] = [Value.int .i64 q] := by
            obtain ⟨q, e, _, _⟩ := DataW.trod_int (k := .i64) Try.underlying3 t0
            rw [ci_] at e
            exact ⟨q, e⟩
          have e1 : ∃ q, [u1] = [Value.int .i64 q] := by
            obtain ⟨q, e, _, _⟩ := DataW.trod_int (k := .i64) Try.underlying3 t1
            rw [ci_] at e
            exact ⟨q, e⟩
          have e2 : ∃ q, [u2] = [Value.int .i64 q] := by
            obtain ⟨q, e, _, _⟩ := DataW.trod_int (k := .i64) Try.underlying3 t2
            rw [ci_] at e
            exact ⟨q, e⟩
          obtain ⟨q0, e0⟩ := e0
          obtain ⟨q1, e1⟩ := e1
          obtain ⟨q2, e2⟩ := e2
          simp only [List.cons.injEq, and_true] at e0 e1 e2
          subst e0 e1 e2
          refine ⟨(q0, q1, q2), fun _ => ⟨?_, hat 1 (by omega), hat 2 (by omega)⟩⟩
          have := hat 0 (by omega)
          simpa [Addr.add] using this
      · exact ⟨(0, 0, 0), fun h => absurd h him⟩
    obtain ⟨g, hg⟩ := Classical.skolem.1 key
    have hget : ∀ k, k < len → ((List.range len).map g).getD k chZ = g k := by
      intro k hk
      rw [List.getD_eq_getElem?_getD, List.getElem?_map, List.getElem?_range hk]; rfl
    refine ⟨some a, cap, (List.range len).map g, by simpa using hcs, fun hn => ?_, by simp; omega⟩
    have hlen : ((List.range len).map g).length = len := by simp
    rw [hlen] at hn
    have h0 := (hg 0 (by omega)).1
    rw [Nat.zero_mul] at h0
    obtain ⟨b, off, rfl, hb⟩ := addr_plainG h0
    refine ⟨b, off, rfl, hb, fun i hi => ?_⟩
    rw [hlen] at hi
    have h1 := (hg (i / 3) (by omega)).1
    have h2 := (hg (i / 3) (by omega)).2.1
    have h3 := (hg (i / 3) (by omega)).2.2
    rw [addr_addG] at h1 h2 h3
    rw [addr_addG] at h2 h3
    unfold chAt
    rw [hget _ (by omega)]
    by_cases hp : i % 3 = 0
    · rw [if_pos hp, show off + i = off + i / 3 * 3 by omega]
      exact h1
    · by_cases hp2 : i % 3 = 1
      · rw [if_neg hp, if_pos hp2, show off + i = off + i / 3 * 3 + 1 by omega]
        exact h2
      · rw [if_neg hp, if_neg hp2, show off + i = off + i / 3 * 3 + 2 by omega]
        exact h3
set_option maxRecDepth 100000 in
theorem open_seg {r : Reach} {b0 : Nat} {v : Value} {d : DataW H} {p : List MemPlace} (hv : Value.okWide Try.prog w r b0 24 v) (h : DataW.Trod enc Try.prog w base spare held 24 v d p) :
    ∃ (f t m : Int) (A : Option Addr) (c : Nat) (cs : List Chg), v = .agg #[.int .i64 f, .int .i64 t, .int .i64 m, .slice A cs.length c] ∧ Chs w w.heap.size A cs ∧ cs.length ≤ 2 ^ 63 - 1 := by
  obtain ⟨v0, v1, v2, v3, y0, y1, y2, y3, m, rfl, _, _, t0, t1, t2, t3⟩ := open_agg4 Try.underlying24 (by kernel_rfl) cLG hv h
  obtain ⟨q0, rfl, _⟩ := one_int t0
  obtain ⟨q1, rfl, _⟩ := one_int t1
  obtain ⟨q2, rfl, _⟩ := one_int t2
  obtain ⟨A, c, cs, rfl, hS, hn⟩ := open_chs_ t3
  exact ⟨q0, q1, q2, A, c, cs, rfl, hS, hn⟩
end
end Go.Proofs.Ytjefjngheolmkaa
/- Contracts of the model's l03Of and SegOf. Conditions: the list can be read, and holds at most 1048576 elements. -/
namespace Go.Proofs.Ytjefjngheolmkaa
set_option linter.unusedVariables false
set_option maxRecDepth 100000
open Go.RowKit


set_option maxRecDepth 100000 in
set_option maxHeartbeats 4000000 in
theorem l03Of_c (A2 : Option Addr) (c2 B n0 : Nat) (xs : List Int) (p v t : Int) (w : World) (h : Ins w B A2 xs) (hB : B ≤ w.heap.size) (hn0 : n0 < xs.length) (hn8 : xs.length ≤ 1048576) (hp1 : 1 ≤ p) (hp2 : p ≤ 9000000) :
    Calls Try.prog 56 #[.slice A2 xs.length c2, .agg #[.int .i64 p, .int .i64 (n0 : Int), .int .i64 v, .int .i64 t]] w (RetG w (p - 1) p t [((n0 : Int), v, xs.getD n0 0)]) := by
  have bF0 := (Box.new w 40 #[.int .i64 p, .int .i64 (n0 : Int), .int .i64 v, .int .i64 t]).alloc (.cells #[.int .i64 0, .int .i64 0, .int .i64 0, .slice none 0 0] 30)
  have bR0 := Box.new (w.alloc (.cells #[.int .i64 p, .int .i64 (n0 : Int), .int .i64 v, .int .i64 t] 40)) 30 #[.int .i64 0, .int .i64 0, .int .i64 0, .slice none 0 0]
  have hx0 := ((Nx.refl w).alloc (.cells #[.int .i64 p, .int .i64 (n0 : Int), .int .i64 v, .int .i64 t] 40)).alloc (.cells #[.int .i64 0, .int .i64 0, .int .i64 0, .slice none 0 0] 30)
  simp only [World.size_alloc] at bR0
  have hn1 : (n0 : Int) < (xs.length : Int) := by omega
  have hwp : IntKind.i64.wrap (p - 1) = p - 1 := IntWalk.i64_in _ (by omega)
  obtain ⟨o, Ho⟩ : ∃ o, Hid (xs.getD n0 0 = o) := ⟨_, rfl⟩
  go_enter Try.func56, Try.ntmps56
  go_wp2_with fail
  generalize (w.alloc (.cells #[.int .i64 p, .int .i64 (n0 : Int), .int .i64 v, .int .i64 t] 40)).alloc (.cells #[.int .i64 0, .int .i64 0, .int .i64 0, .slice none 0 0] 30) = W at *
  have bF : Box W.drew w.heap.size 40 #[.int .i64 p, .int .i64 (n0 : Int), .int .i64 v, .int .i64 t] := bF0
  have bR : Box W.drew (w.heap.size + 1) 30 #[.int .i64 0, .int .i64 0, .int .i64 0, .slice none 0 0] := bR0
  obtain ⟨g, off, rfl, hgB, hcell0⟩ := (h.below hx0 hB).at_ hn0
  rw [Ho.out] at hcell0
  have hcell : W.drew.cell? ⟨g, off + n0, none⟩ = some (.int .i64 o) := hcell0
  have hgw : g < W.drew.heap.size := by have := hx0.size; show g < W.heap.size; omega
  have hX2 := hx0.drew
  clear bF0 hcell0
  obtain ⟨rc0, rc1, rc2, rc3⟩ := bR0.d4
  have rf0 := bR0.frozen 0
  have rf1 := bR0.frozen 1
  have rf2 := bR0.frozen 2
  have rf3 := bR0.frozen 3
  have rlt := bR0.lt
  refine wp_region_lex [false, false, false, false, false, false, false, false, false, false, false, false, false, false, false, false, false, true, false, true] (fun w' => (w'.cell? ⟨w.heap.size, 0, none⟩ = some (.int .i64 p) ∧ w'.cell? ⟨w.heap.size, 1, none⟩ = some (.int .i64 (n0 : Int)) ∧ w'.cell? ⟨w.heap.size, 2, none⟩ = some (.int .i64 v) ∧ w'.cell? ⟨w.heap.size, 3, none⟩ = some (.int .i64 t)) ∧ w'.cell? ⟨g, off + n0, none⟩ = some (.int .i64 o)) (by kernel_rfl) (by kernel_rfl) rfl (by kernel_rfl) (fun _ _ d _ _ h => by cases d <;> exact h) (by exact ⟨bF.d4, hcell⟩) ?_
  repeat (first | (refine HL.take (v := ?_) (by rfl) ?_ ?_; rotate_left; (· (intro w hSw; (try dsimp only at hSw); go_simp; try with_reducible rfl)); (try simp only [Act.put, List.setIfInBounds_toArray, List.set_cons_zero, List.set_cons_succ])) | (refine HL.skip (by rfl) ?_; (try simp only [Act.put, List.setIfInBounds_toArray, List.set_cons_zero, List.set_cons_succ])))
  refine HL.call (by rfl) (fun K hK => ?_)
  go_simp
  refine hK.out _ _ (by exact ⟨(bF.alloc (.cells #[.int .i64 (n0 : Int), .int .i64 v, .int .i64 o] 75)).d4, (((((Nx.refl W.drew).alloc (.cells #[.int .i64 (n0 : Int), .int .i64 v, .int .i64 o] 75)))).cell (p := ⟨g, off + n0, none⟩) hgw).trans hcell⟩) ?_
  clear hK K
  try simp only [Act.put, List.setIfInBounds_toArray, List.set_cons_zero, List.set_cons_succ]
  repeat (first | (refine HL.take (v := ?_) (by rfl) ?_ ?_; rotate_left; (· (intro w hSw; (try dsimp only at hSw); go_simp; try with_reducible rfl)); (try simp only [Act.put, List.setIfInBounds_toArray, List.set_cons_zero, List.set_cons_succ])) | (refine HL.skip (by rfl) ?_; (try simp only [Act.put, List.setIfInBounds_toArray, List.set_cons_zero, List.set_cons_succ])))
  refine HL.call (by rfl) (fun K hK => ?_)
  go_simp
  refine hK.out _ _ (by exact ⟨(((((bF.far (p := ⟨(w.heap.size + 1), 0, none⟩) (by simp) (.int .i64 (p - 1))).far (p := ⟨(w.heap.size + 1), 1, none⟩) (by simp) (.int .i64 p)).far (p := ⟨(w.heap.size + 1), 2, none⟩) (by simp) (.int .i64 t)).far (p := ⟨(w.heap.size + 1), 3, none⟩) (by simp) (.slice (some ⟨W.heap.size, 0, none⟩) 1 1)).alloc (.cells #[.int .i64 (n0 : Int), .int .i64 v, .int .i64 o] 75)).d4, (((Nx.refl ((((W.drew.setCell ⟨(w.heap.size + 1), 0, none⟩ (.int .i64 (p - 1))).setCell ⟨(w.heap.size + 1), 1, none⟩ (.int .i64 p)).setCell ⟨(w.heap.size + 1), 2, none⟩ (.int .i64 t)).setCell ⟨(w.heap.size + 1), 3, none⟩ (.slice (some ⟨W.heap.size, 0, none⟩) 1 1))).alloc (.cells #[.int .i64 (n0 : Int), .int .i64 v, .int .i64 o] 75)).cell (p := ⟨g, off + n0, none⟩) (by simp [World.setCell]; exact hgw)).trans ((cell_far (((W.drew.setCell ⟨(w.heap.size + 1), 0, none⟩ (.int .i64 (p - 1))).setCell ⟨(w.heap.size + 1), 1, none⟩ (.int .i64 p)).setCell ⟨(w.heap.size + 1), 2, none⟩ (.int .i64 t)) ⟨(w.heap.size + 1), 3, none⟩ ⟨g, off + n0, none⟩ (.slice (some ⟨W.heap.size, 0, none⟩) 1 1) (by simp; omega)).trans ((cell_far ((W.drew.setCell ⟨(w.heap.size + 1), 0, none⟩ (.int .i64 (p - 1))).setCell ⟨(w.heap.size + 1), 1, none⟩ (.int .i64 p)) ⟨(w.heap.size + 1), 2, none⟩ ⟨g, off + n0, none⟩ (.int .i64 t) (by simp; omega)).trans ((cell_far (W.drew.setCell ⟨(w.heap.size + 1), 0, none⟩ (.int .i64 (p - 1))) ⟨(w.heap.size + 1), 1, none⟩ ⟨g, off + n0, none⟩ (.int .i64 p) (by simp; omega)).trans ((cell_far W.drew ⟨(w.heap.size + 1), 0, none⟩ ⟨g, off + n0, none⟩ (.int .i64 (p - 1)) (by simp; omega)).trans hcell))))⟩) ?_
  clear hK K
  try simp only [Act.put, List.setIfInBounds_toArray, List.set_cons_zero, List.set_cons_succ]
  refine HL.done ?_
  go_wp2_with fail
  have rq := (put4_box bR0 (.int .i64 (p - 1)) (.int .i64 p) (.int .i64 t) (.slice (some ⟨W.heap.size, 0, none⟩) 1 1)).alloc (.cells #[.int .i64 (n0 : Int), .int .i64 v, .int .i64 o] 75)
  have hnf := (put4_nx (g := (w.heap.size + 1)) hx0 (by omega) (.int .i64 (p - 1)) (.int .i64 p) (.int .i64 t) (.slice (some ⟨W.heap.size, 0, none⟩) 1 1)).alloc (.cells #[.int .i64 (n0 : Int), .int .i64 v, .int .i64 o] 75)
  unfold put4 at rq hnf
  have hsz3 : ((((W.setCell ⟨(w.heap.size + 1), 0, none⟩ (.int .i64 (p - 1))).setCell ⟨(w.heap.size + 1), 1, none⟩ (.int .i64 p)).setCell ⟨(w.heap.size + 1), 2, none⟩ (.int .i64 t)).setCell ⟨(w.heap.size + 1), 3, none⟩ (.slice (some ⟨W.heap.size, 0, none⟩) 1 1)).heap.size = W.heap.size := by simp [World.setCell]
  have bC3 := Box.new ((((W.setCell ⟨(w.heap.size + 1), 0, none⟩ (.int .i64 (p - 1))).setCell ⟨(w.heap.size + 1), 1, none⟩ (.int .i64 p)).setCell ⟨(w.heap.size + 1), 2, none⟩ (.int .i64 t)).setCell ⟨(w.heap.size + 1), 3, none⟩ (.slice (some ⟨W.heap.size, 0, none⟩) 1 1)) 75 #[.int .i64 (n0 : Int), .int .i64 v, .int .i64 o]
  rw [hsz3] at bC3
  have hlw := hx0.size
  have hSf : Sl _ w.heap.size (some ⟨W.heap.size, 0, none⟩) 75 (1 * 3) (chAt [((n0 : Int), v, xs.getD n0 0)]) := Sl.own (by rw [Ho.out]; exact one_own bC3) (by omega)
  clear hsz3
  generalize (((((W.setCell ⟨(w.heap.size + 1), 0, none⟩ (.int .i64 (p - 1))).setCell ⟨(w.heap.size + 1), 1, none⟩ (.int .i64 p)).setCell ⟨(w.heap.size + 1), 2, none⟩ (.int .i64 t)).setCell ⟨(w.heap.size + 1), 3, none⟩ (.slice (some ⟨W.heap.size, 0, none⟩) 1 1)).alloc (.cells #[.int .i64 (n0 : Int), .int .i64 v, .int .i64 o] 75)) = Wf at *
  obtain ⟨rg0, rg1, rg2, rg3⟩ := rq.d4
  exact bodyPost_ret (v := .agg #[.int .i64 (p - 1), .int .i64 p, .int .i64 t, .slice (some ⟨W.heap.size, 0, none⟩) 1 1]) (by simp [results, Try.results56, go_sem, rg0, rg1, rg2, rg3]) rfl ⟨_, 1, rfl, hSf, hnf.drew⟩

set_option maxRecDepth 100000 in
set_option maxHeartbeats 4000000 in
theorem specSegOf_c (A2 : Option Addr) (c2 B : Nat) (xs : List Int) (p b v t : Int) (w : World) (h : Ins w B A2 xs) (hB : B ≤ w.heap.size) (hn : xs.length ≤ 1048576) :
    Calls Try.prog 15 #[.slice A2 xs.length c2, .agg #[.int .i64 p, .int .i64 b, .int .i64 v, .int .i64 t]] w (RetSC w (sgFr xs p b v t) (askC xs (frameB p b v t))) := by
  have bF0 := (Box.new w 40 #[.int .i64 p, .int .i64 b, .int .i64 v, .int .i64 t]).alloc (.cells #[.int .i64 0, .int .i64 0, .int .i64 0, .slice none 0 0] 30)
  have bR0 := Box.new (w.alloc (.cells #[.int .i64 p, .int .i64 b, .int .i64 v, .int .i64 t] 40)) 30 #[.int .i64 0, .int .i64 0, .int .i64 0, .slice none 0 0]
  have hx0 := ((Nx.refl w).alloc (.cells #[.int .i64 p, .int .i64 b, .int .i64 v, .int .i64 t] 40)).alloc (.cells #[.int .i64 0, .int .i64 0, .int .i64 0, .slice none 0 0] 30)
  simp only [World.size_alloc] at bR0
  by_cases hl : 4096 < xs.length
  · have hd : decide (4096 < (xs.length : Int)) = true := by simp; omega
    have HR := Lib.hid (show askC xs (frameB p b v t) = 2 ∧ sgFr xs p b v t = zSg by
      unfold sgFr; rw [(askC_long hl true).2]; exact ⟨(askC_long hl _).1, rfl⟩)
    go_enter Try.func15, Try.ntmps15
    go_wp2
    exact bodyPost_ret (v := .tuple #[.agg #[.int .i64 0, .int .i64 0, .int .i64 0, .slice none 0 0], .int .i64 2]) (by simp [results, Try.results15, go_sem]) rfl ⟨none, 0, by rw [HR.out.1, HR.out.2]; rfl, by rw [HR.out.2]; exact Sl.none_ _ _ _ _ _, hx0⟩
  have hd : decide (4096 < (xs.length : Int)) = false := by simp; omega
  cases hc : contB xs
  · have HC := Lib.hid hc
    clear hc
    have HR := Lib.hid (show askC xs (frameB p b v t) = 1 ∧ sgFr xs p b v t = zSg by
      unfold askC sgFr; rw [if_neg hl, HC.out]; exact ⟨rfl, rfl⟩)
    go_enter Try.func15, Try.ntmps15
    go_wp2_with fail
    generalize (w.alloc (.cells #[.int .i64 p, .int .i64 b, .int .i64 v, .int .i64 t] 40)).alloc (.cells #[.int .i64 0, .int .i64 0, .int .i64 0, .slice none 0 0] 30) = W at *
    refine (specContentOK_c A2 c2 B xs _ (h.below hx0 hB) (Nat.le_trans hB hx0.size) hn).mono ?_
    rintro e w1 ⟨rfl, hx1⟩
    rw [HC.out]
    have bR := bR0.nx hx1
    have hX := hx0.trans hx1
    obtain ⟨rc0, rc1, rc2, rc3⟩ := bR.d4
    have rf0 := bR.frozen 0
    have rf1 := bR.frozen 1
    have rf2 := bR.frozen 2
    have rf3 := bR.frozen 3
    have rlt := bR.lt
    go_wp2
    have rq := (put4_box bR (.int .i64 0) (.int .i64 0) (.int .i64 0) (.slice none 0 0))
    have hnf := (put4_nx (g := (w.heap.size + 1)) hX (by omega) (.int .i64 0) (.int .i64 0) (.int .i64 0) (.slice none 0 0))
    unfold put4 at rq hnf
    generalize ((((w1.setCell ⟨(w.heap.size + 1), 0, none⟩ (.int .i64 0)).setCell ⟨(w.heap.size + 1), 1, none⟩ (.int .i64 0)).setCell ⟨(w.heap.size + 1), 2, none⟩ (.int .i64 0)).setCell ⟨(w.heap.size + 1), 3, none⟩ (.slice none 0 0)) = Wf at *
    obtain ⟨rg0, rg1, rg2, rg3⟩ := rq.d4
    exact bodyPost_ret (v := .tuple #[.agg #[.int .i64 0, .int .i64 0, .int .i64 0, .slice none 0 0], .int .i64 1]) (by simp [results, Try.results15, go_sem, rg0, rg1, rg2, rg3]) rfl ⟨none, 0, by rw [HR.out.1, HR.out.2]; rfl, by rw [HR.out.2]; exact Sl.none_ _ _ _ _ _, hnf⟩
  have HC := Lib.hid hc
  clear hc
  cases hfb : frameB p b v t
  · have HFB := Lib.hid hfb
    clear hfb
    have HR := Lib.hid (show askC xs (frameB p b v t) = 1 ∧ sgFr xs p b v t = zSg by
      rw [HFB.out]; unfold askC sgFr; rw [if_neg hl, HC.out, HFB.out]; exact ⟨rfl, rfl⟩)
    rw [HFB.out] at HR
    go_enter Try.func15, Try.ntmps15
    go_wp2_with fail
    generalize (w.alloc (.cells #[.int .i64 p, .int .i64 b, .int .i64 v, .int .i64 t] 40)).alloc (.cells #[.int .i64 0, .int .i64 0, .int .i64 0, .slice none 0 0] 30) = W at *
    refine (specContentOK_c A2 c2 B xs _ (h.below hx0 hB) (Nat.le_trans hB hx0.size) hn).mono ?_
    rintro e w1 ⟨rfl, hx1⟩
    rw [HC.out]
    obtain ⟨k0, k1, k2, k3⟩ := (bF0.nx hx1).d4
    go_wp2_with fail
    refine (specFrameOK_c p b v t _).mono ?_
    rintro e w2 ⟨rfl, hx2⟩
    rw [HFB.out]
    have bR := (bR0.nx hx1).nx hx2
    have hX := (hx0.trans hx1).trans hx2
    clear k0 k1 k2 k3
    obtain ⟨rc0, rc1, rc2, rc3⟩ := bR.d4
    have rf0 := bR.frozen 0
    have rf1 := bR.frozen 1
    have rf2 := bR.frozen 2
    have rf3 := bR.frozen 3
    have rlt := bR.lt
    go_wp2
    have rq := (put4_box bR (.int .i64 0) (.int .i64 0) (.int .i64 0) (.slice none 0 0))
    have hnf := (put4_nx (g := (w.heap.size + 1)) hX (by omega) (.int .i64 0) (.int .i64 0) (.int .i64 0) (.slice none 0 0))
    unfold put4 at rq hnf
    generalize ((((w2.setCell ⟨(w.heap.size + 1), 0, none⟩ (.int .i64 0)).setCell ⟨(w.heap.size + 1), 1, none⟩ (.int .i64 0)).setCell ⟨(w.heap.size + 1), 2, none⟩ (.int .i64 0)).setCell ⟨(w.heap.size + 1), 3, none⟩ (.slice none 0 0)) = Wf at *
    obtain ⟨rg0, rg1, rg2, rg3⟩ := rq.d4
    exact bodyPost_ret (v := .tuple #[.agg #[.int .i64 0, .int .i64 0, .int .i64 0, .slice none 0 0], .int .i64 1]) (by simp [results, Try.results15, go_sem, rg0, rg1, rg2, rg3]) rfl ⟨none, 0, by rw [HR.out.1, HR.out.2]; rfl, by rw [HR.out.2]; exact Sl.none_ _ _ _ _ _, hnf⟩
  have HFB := Lib.hid hfb
  obtain ⟨hb0, hb7, hp1, hp2, _, _, _, _⟩ := frameB_block hfb
  clear hfb
  obtain ⟨n0, rfl⟩ : ∃ n : Nat, b = n := ⟨b.toNat, by omega⟩
  have HR := Lib.hid (show askC xs (frameB p n0 v t) = 0 ∧ sgFr xs p n0 v t = ofW xs p n0 v t by
    rw [HFB.out]; unfold askC sgFr; rw [if_neg hl, HC.out, HFB.out]; exact ⟨rfl, rfl⟩)
  rw [HFB.out] at HR
  have hn0 : n0 < xs.length := by have := (contB_yes HC.out).1; omega
  obtain ⟨o, Ho⟩ : ∃ o, Hid (xs.getD n0 0 = o) := ⟨_, rfl⟩
  go_enter Try.func15, Try.ntmps15
  go_wp2_with fail
  generalize (w.alloc (.cells #[.int .i64 p, .int .i64 (n0 : Int), .int .i64 v, .int .i64 t] 40)).alloc (.cells #[.int .i64 0, .int .i64 0, .int .i64 0, .slice none 0 0] 30) = W at *
  refine (specContentOK_c A2 c2 B xs _ (h.below hx0 hB) (Nat.le_trans hB hx0.size) hn).mono ?_
  rintro e w0 ⟨rfl, hx1⟩
  rw [HC.out]
  obtain ⟨k0, k1, k2, k3⟩ := (bF0.nx hx1).d4
  go_wp2_with fail
  refine (specFrameOK_c p n0 v t _).mono ?_
  rintro e w1 ⟨rfl, hx2⟩
  rw [HFB.out]
  have hX1 := (hx0.trans hx1).trans hx2
  clear k0 k1 k2 k3
  obtain ⟨k0, k1, k2, k3⟩ := ((bF0.nx hx1).nx hx2).d4
  go_wp2_with fail
  refine (l03Of_c A2 c2 B n0 xs p v t _ (h.below hX1 hB) (Nat.le_trans hB hX1.size) hn0 hn hp1 (by omega)).mono ?_
  rintro e w2 ⟨A9, c9, rfl, hS9, hx3⟩
  rw [Ho.out] at hS9
  have bR := ((bR0.nx hx1).nx hx2).nx hx3
  have hX := hX1.trans hx3
  have hlR : w.heap.size + 1 < w1.heap.size := ((bR0.nx hx1).nx hx2).lt
  clear k0 k1 k2 k3
  obtain ⟨rc0, rc1, rc2, rc3⟩ := bR.d4
  have rf0 := bR.frozen 0
  have rf1 := bR.frozen 1
  have rf2 := bR.frozen 2
  have rf3 := bR.frozen 3
  have rlt := bR.lt
  go_wp2
  have rq := (put4_box bR (.int .i64 (p - 1)) (.int .i64 p) (.int .i64 t) (.slice A9 1 c9))
  have hnf := (put4_nx (g := (w.heap.size + 1)) hX (by omega) (.int .i64 (p - 1)) (.int .i64 p) (.int .i64 t) (.slice A9 1 c9))
  unfold put4 at rq hnf
  have hSf := (((((hS9.low (lo' := w.heap.size + 2) (by omega)).far (p := ⟨(w.heap.size + 1), 0, none⟩) (by simp) (.int .i64 (p - 1))).far (p := ⟨(w.heap.size + 1), 1, none⟩) (by simp) (.int .i64 p)).far (p := ⟨(w.heap.size + 1), 2, none⟩) (by simp) (.int .i64 t)).far (p := ⟨(w.heap.size + 1), 3, none⟩) (by simp) (.slice A9 1 c9))
  replace hSf := hSf.low (lo' := w.heap.size) (by omega)
  generalize ((((w2.setCell ⟨(w.heap.size + 1), 0, none⟩ (.int .i64 (p - 1))).setCell ⟨(w.heap.size + 1), 1, none⟩ (.int .i64 p)).setCell ⟨(w.heap.size + 1), 2, none⟩ (.int .i64 t)).setCell ⟨(w.heap.size + 1), 3, none⟩ (.slice A9 1 c9)) = Wf at *
  obtain ⟨rg0, rg1, rg2, rg3⟩ := rq.d4
  exact bodyPost_ret (v := .tuple #[.agg #[.int .i64 (p - 1), .int .i64 p, .int .i64 t, .slice A9 1 c9], .int .i64 0]) (by simp [results, Try.results15, go_sem, rg0, rg1, rg2, rg3]) rfl ⟨A9, c9, by rw [HR.out.1, HR.out.2]; unfold ofW; rfl, by rw [HR.out.2]; unfold ofW; rw [Int.toNat_natCast, Ho.out]; exact hSf, hnf⟩
end Go.Proofs.Ytjefjngheolmkaa
