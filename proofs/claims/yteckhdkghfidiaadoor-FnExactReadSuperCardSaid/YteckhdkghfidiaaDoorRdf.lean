/-
  Contracts of ReadFrame, as the model and as the program have it: both answer the same frame and code.
  Conditions: texts of at most 1048576 bytes; the package's errors are known.
-/
import Derived.Test.YteckhdkghfidiaaDoorOpn
namespace Go.Proofs.YteckhdkghfidiaaDoor
set_option linter.unusedVariables false
open Go.RowKit

abbrev F4 := Nat × Nat × Nat × Nat
def frOf : List Nat → Option F4
  | [p, b, v, t] => if frameB p b v t then some (p, b, v, t) else none
  | _ => none
/-- The frame of a text. -/
def rdF (t : ByteArray) : Option F4 := (rdN t).bind frOf
def zF : F4 := (0, 0, 0, 0)
def vF (q : F4) : Value := .agg #[.int .i64 q.1, .int .i64 q.2.1, .int .i64 q.2.2.1, .int .i64 q.2.2.2]
theorem rdF_none {t : ByteArray} (h : rdN t = none) : rdF t = none := by unfold rdF; rw [h]; rfl
theorem rdF_len {t : ByteArray} {ns : List Nat} (h : rdN t = some ns) (hl : ns.length ≠ 4) : rdF t = none := by
  unfold rdF; rw [h]
  match ns, hl with
  | [], _ => rfl
  | [_], _ => rfl
  | [_, _], _ => rfl
  | [_, _, _], _ => rfl
  | [_, _, _, _], hl => exact absurd rfl hl
  | _ :: _ :: _ :: _ :: _ :: _, _ => rfl
theorem rdF_four {t : ByteArray} {n0 n1 n2 n3 : Nat} (h : rdN t = some [n0, n1, n2, n3]) : rdF t = if frameB n0 n1 n2 n3 then some (n0, n1, n2, n3) else none := by
  unfold rdF; rw [h]; rfl
theorem four {ns : List Nat} (h : ns.length = 4) : ∃ a b c d, ns = [a, b, c, d] := by
  match ns, h with
  | [a, b, c, d], _ => exact ⟨a, b, c, d, rfl⟩
theorem Row.four {w : World} {B : Nat} {A : Option Addr} {n0 n1 n2 n3 : Nat} (h : Row w B A 4 (intAt [n0, n1, n2, n3])) :
    ∃ b off, A = some ⟨b, off, none⟩ ∧ b < B ∧ w.cell? ⟨b, off, none⟩ = some (.int .i64 n0) ∧ w.cell? ⟨b, off + 1, none⟩ = some (.int .i64 n1) ∧ w.cell? ⟨b, off + 2, none⟩ = some (.int .i64 n2) ∧ w.cell? ⟨b, off + 3, none⟩ = some (.int .i64 n3) := by
  obtain ⟨b, off, e, hb, hc⟩ := h (by omega)
  exact ⟨b, off, e, hb, hc 0 (by omega), hc 1 (by omega), hc 2 (by omega), hc 3 (by omega)⟩

def RetTF (w : World) (o : Option F4) (e : Ending) (w' : World) : Prop := e = .returned (.tuple #[vF (o.getD zF), .bool o.isSome]) ∧ Nx w w'
end Go.Proofs.YteckhdkghfidiaaDoor
