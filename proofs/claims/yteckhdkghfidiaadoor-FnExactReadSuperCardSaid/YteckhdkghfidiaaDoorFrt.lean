/-
  Contracts of FrameText, as the model has it.
  Conditions: none.
-/
import Derived.Test.YteckhdkghfidiaaDoorSix
import Derived.Test.YteckhdkghfidiaaDoorFrm
namespace Go.Proofs.YteckhdkghfidiaaDoor
set_option linter.unusedVariables false
open Go.RowKit

/-- A text with its sum. -/
def sealS (s : ByteArray) : ByteArray := s ++ ⟨(sumD s).toArray⟩
def numsS (ns : List Nat) : ByteArray := ⟨(padAll ns).toArray⟩
theorem numsS_size (ns : List Nat) : (numsS ns).size = ns.length * 6 := by rw [ba_size]; exact padAll_len ns
def frameS (p b v t : Int) : ByteArray := if frameB p b v t then sealS (numsS [p.toNat, b.toNat, v.toNat, t.toNat]) else ⟨#[]⟩
def codeB (ok : Bool) (c : Int) : Int := if ok then 0 else c
theorem frameB_yes {p b v t : Int} (h : frameB p b v t = true) : (1 ≤ p ∧ p ≤ 999999) ∧ (0 ≤ b ∧ b ≤ 7) ∧ (0 ≤ v ∧ v ≤ 999999) ∧ (0 ≤ t ∧ t ≤ 999999) := by
  unfold frameB at h
  simp only [Bool.and_eq_true] at h
  exact ⟨inB_yes h.1.1.1, inB_yes h.1.1.2, inB_yes h.1.2, inB_yes h.2⟩
theorem ret_tup {a b : ByteArray} {c d : Int} (h : a = b) (k : c = d) : Ending.returned (.tuple #[.string a, .int .i64 c]) = .returned (.tuple #[.string b, .int .i64 d]) := by rw [h, k]

theorem Own.new4 (w : World) (t : TypeId) (a b c d : Value) : Own (w.alloc (.cells #[a, b, c, d] t)) w.heap.size t 4 (fun i => #[a, b, c, d].getD i undef) :=
  ⟨_, heap_alloc_new w _, by simp, fun i hi => by
    match i, hi with
    | 0, _ => rfl
    | 1, _ => rfl
    | 2, _ => rfl
    | 3, _ => rfl⟩
theorem int4 (p b v t : Nat) : ∀ i, i < 4 → (#[Value.int .i64 (p : Int), .int .i64 (b : Int), .int .i64 (v : Int), .int .i64 (t : Int)].getD i undef) = intAt [p, b, v, t] i := fun i hi => by
  match i, hi with
  | 0, _ => rfl
  | 1, _ => rfl
  | 2, _ => rfl
  | 3, _ => rfl
theorem all4 {p b v t : Nat} (h1 : p ≤ 999999) (h2 : b ≤ 999999) (h3 : v ≤ 999999) (h4 : t ≤ 999999) : All6 [p, b, v, t] := fun i hi => by
  match i, hi with
  | 0, _ => exact h1
  | 1, _ => exact h2
  | 2, _ => exact h3
  | 3, _ => exact h4
end Go.Proofs.YteckhdkghfidiaaDoor
