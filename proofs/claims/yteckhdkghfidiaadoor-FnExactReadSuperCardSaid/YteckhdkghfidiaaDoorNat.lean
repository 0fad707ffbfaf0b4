/-
  Rows of numbers that grow, as values and in memory.
  Conditions: none.
-/
import Derived.Test.YteckhdkghfidiaaDoorNmt
import Derived.Test.YteckhdkghfidiaaDoorIns
import Derived.Deep.AppendLies
namespace Go.Proofs.YteckhdkghfidiaaDoor
set_option linter.unusedVariables false
open Go.RowKit

def vI (n : Nat) : Value := .int .i64 (n : Int)
theorem vI_toNat {a : Int} (h : 0 ≤ a) : vI a.toNat = .int .i64 a := by unfold vI; rw [Int.toNat_of_nonneg h]
theorem Nx.of_two {a w u : World} (h : Nx a w) (k : Nx a u) : ∀ p : Addr, p.block < a.heap.size → w.cell? p = u.cell? p := fun p hp => (h.cell hp).trans (k.cell hp).symm
theorem owns_nx {w w' : World} {B : Nat} {e : TypeId} {v : Value} {n : Nat} {xs : List Value} (h : w.ownsRow B e 1 v n xs) (hb : Nx w w') : w'.ownsRow B e 1 v n xs := by
  refine h.kept (row := none) ⟨hb.os, hb.tape, hb.output, hb.size, fun i hi _ => hb.block i hi⟩ ?_
  cases hv : v.ownBlock with
  | none => exact .inl rfl
  | some g => exact .inr (by simp)
theorem owns_row {w : World} {B : Nat} {ns : List Nat} {v : Value} (h : w.ownsRow B 3 1 v ns.length (ns.map vI)) (hn : 0 < ns.length) :
    ∃ A c, v = .slice A ns.length c ∧ Row w w.heap.size A ns.length (intAt ns) := by
  obtain ⟨g, cap, rfl, _, hlt⟩ := h.form hn
  refine ⟨_, cap, rfl, fun _ => ⟨g, 0, rfl, hlt, fun i hi => ?_⟩⟩
  rw [Nat.zero_add, h.cellAt i (by omega), List.getElem?_map, List.getElem?_eq_getElem hi]
  unfold intAt vI
  rw [List.getD_eq_getElem?_getD, List.getElem?_eq_getElem hi]; rfl

end Go.Proofs.YteckhdkghfidiaaDoor
