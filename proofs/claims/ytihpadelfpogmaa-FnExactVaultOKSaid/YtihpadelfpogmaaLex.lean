/-
  A region that draws its order, walked once, in the order of its text: what only reads cells that stay as they are (S) is taken first, a call comes up when nothing else may.
  Conditions: those of each theorem.
-/
import Derived.Test.YtihpadelfpogmaaCore
import Derived.Deep.RegionHeld3
namespace Go.Proofs.Ytihpadelfpogmaa
set_option linter.unusedVariables false
set_option maxRecDepth 100000
open Go.RowKit
section
variable {P : Program} {ops : Array Oper} {Q : Exit → Act → World → Prop} {S : World → Prop}
/-- The walk: of each operation a mark: true: a call that is met by its contract. -/
def HL (P : Program) (ops : Array Oper) (Q : Exit → Act → World → Prop) (S : World → Prop) : List Bool → List Oper → Act → World → Prop
  | false :: cs, o :: l, a, w => ∃ v, YieldsIf P ops S o v a ∧ HL P ops Q S cs l (a.put o.dst v) w
  | true :: cs, o :: l, a, w => Region.wanted o (yielded ops a.tmps) = true ∧ ∀ K : Act → World → Prop, Hid (∀ a' w', S w' → HL P ops Q S cs l a' w' → K a' w') → o.wp P a w K Q
  | _, _, a, w => Q .normal a w
/-- What is asked of the region's edges alone. -/
def lexB (md : Region.Mode) (ops : Array Oper) : List Bool → Nat → Array Bool → Bool
  | [], _, listed => Region.ready md ops listed == []
  | false :: cs, k, listed => (Region.ready md ops listed).contains k && Region.free md ops listed k && lexB md ops cs (k + 1) (listed.setIfInBounds k true)
  | true :: cs, k, listed => (Region.ready md ops listed == [k]) && lexB md ops cs (k + 1) (listed.setIfInBounds k true)
theorem HL.take {cs : List Bool} {o : Oper} {l : List Oper} {a : Act} {w : World} {v : Value} (hw : Region.wanted o (yielded ops a.tmps) = true) (h : ∀ w, S w → (execOp a.eval o).run P w = .ok (.value v) w)
    (hr : HL P ops Q S cs l (a.put o.dst v) w) : HL P ops Q S (false :: cs) (o :: l) a w := ⟨v, .inl ⟨hw, h⟩, hr⟩
theorem HL.skip {cs : List Bool} {o : Oper} {l : List Oper} {a : Act} {w : World} (hw : Region.wanted o (yielded ops a.tmps) = false) (hr : HL P ops Q S cs l (a.put o.dst undef) w) : HL P ops Q S (false :: cs) (o :: l) a w :=
  ⟨undef, .inr ⟨hw, rfl⟩, hr⟩
theorem HL.call {cs : List Bool} {o : Oper} {l : List Oper} {a : Act} {w : World} (hw : Region.wanted o (yielded ops a.tmps) = true)
    (h : ∀ K : Act → World → Prop, Hid (∀ a' w', S w' → HL P ops Q S cs l a' w' → K a' w') → o.wp P a w K Q) : HL P ops Q S (true :: cs) (o :: l) a w := ⟨hw, h⟩
theorem HL.done {a : Act} {w : World} (h : Q .normal a w) : HL P ops Q S [] [] a w := h
theorem HL.any {md : Region.Mode} (hs : Region.noSelect ops = true) (hQ : ∀ c a d v w, Q (.panic c) (Act.put a d v) w → Q (.panic c) a w) :
    ∀ (cs : List Bool) (l : List Oper) (k : Nat) (listed : Array Bool) (a : Act) (w : World), (∀ j, j < l.length → ops[k + j]? = l[j]?) → l.length = cs.length → lexB md ops cs k listed = true → S w →
      HL P ops Q S cs l a w → wpAnyH P md ops Q S cs.length listed a w
  | [], [], k, listed, a, w, _, _, hB, _, h => by
    refine wpAnyH_done ?_ h _
    simpa [lexB] using hB
  | [], _ :: _, _, _, _, _, _, hl, _, _, _ => by simp at hl
  | _ :: _, [], _, _, _, _, _, hl, _, _, _ => by simp at hl
  | c :: cs, o :: l, k, listed, a, w, ho, hl, hB, hS, h => by
    have h0 : ops[k]? = some o := by simpa using ho 0 (by simp)
    have ho' : ∀ j, j < l.length → ops[k + 1 + j]? = l[j]? := fun j hj => by
      have := ho (j + 1) (by simp; omega)
      rw [show k + 1 + j = k + (j + 1) by omega, this]; simp
    have hl' : l.length = cs.length := by simpa using hl
    cases c with
    | false =>
      simp only [lexB, Bool.and_eq_true] at hB
      obtain ⟨⟨hr, hf⟩, hB'⟩ := hB
      obtain ⟨v, hy, hK⟩ := h
      exact wpAnyH_take h0 hs hf hr (fun c a w => hQ c a _ _ w) hy hS (HL.any hs hQ cs l (k + 1) _ _ w ho' hl' hB' hS hK)
    | true =>
      simp only [lexB, Bool.and_eq_true, beq_iff_eq] at hB
      obtain ⟨hr, hB'⟩ := hB
      obtain ⟨hw, hK⟩ := h
      refine wpAnyH_all hr (by simp) fun i hi => ?_
      obtain rfl : i = k := by simpa using hi
      unfold wpOp
      simp only [h0, hw, if_true]
      exact .inl (hK _ (Lib.hid fun a' w' hS' h' => ⟨hS', HL.any hs hQ cs l (i + 1) _ a' w' ho' hl' hB' hS' h'⟩))
/-- The region. -/
theorem wp_region_lex {id : Nat} {a : Act} {w : World} {l : List Oper} (cs : List Bool) (S : World → Prop) (hm : P.follows .mixedOrders = true) (hs : Region.noSelect l.toArray = true) (hl : l.length = cs.length)
    (hB : lexB .any l.toArray cs 0 (Array.replicate l.toArray.size false) = true) (hQ : ∀ c a d v w, Q (.panic c) (Act.put a d v) w → Q (.panic c) a w) (hS : S w.drew)
    (h : HL P l.toArray Q S cs l a w.drew) : (Code.region id l.toArray true).wp P Q a w := by
  refine wp_region_held_drew (S := S) hm hS fun _ => ?_
  have := HL.any (md := .any) hs hQ cs l 0 (Array.replicate l.toArray.size false) a w.drew (fun j hj => by simp) hl hB hS h
  have e : l.toArray.size = cs.length := by simpa using hl
  rw [e]
  rw [e] at this
  exact this
end
end Go.Proofs.Ytihpadelfpogmaa
