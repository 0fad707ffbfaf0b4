/-
  Contracts of SegOf, as the program and as the model have it.
  Conditions: the list can be read, and holds at most 1048576 elements.
-/
import Derived.Test.YtihpadelfpogmaaFwl
import Derived.Test.YtihpadelfpogmaaFws
namespace Go.Proofs.Ytihpadelfpogmaa
set_option linter.unusedVariables false
set_option maxRecDepth 100000
open Go.RowKit

/-- A segment: from, to, time, changes. -/
abbrev Sg4 := Int × Int × Int × List Chg
def zSg : Sg4 := (0, 0, 0, [])
/-- A segment and a code that are answered. -/
def RetSC (w : World) (q : Sg4) (cd : Int) (e : Ending) (w' : World) : Prop :=
  ∃ (A : Option Addr) (c : Nat), e = .returned (.tuple #[.agg #[.int .i64 q.1, .int .i64 q.2.1, .int .i64 q.2.2.1, .slice A q.2.2.2.length c], .int .i64 cd]) ∧ Sl w' w.heap.size A 84 (q.2.2.2.length * 3) (chAt q.2.2.2) ∧ Nx w w'
/-- What a write makes of a content. -/
def ofW (xs : List Int) (p b v t : Int) : Sg4 := (p - 1, p, t, [(b, v, xs.getD b.toNat 0)])
def sgOf (xs : List Int) (p b v t : Int) : Sg4 := if contB xs && frameB p b v t then ofW xs p b v t else zSg
theorem chAt_one (b v o : Int) : ∀ i, i < 3 → (#[Value.int .i64 b, .int .i64 v, .int .i64 o] : Array Value)[i]! = chAt [(b, v, o)] i := fun i hi => by
  match i, hi with
  | 0, _ => rfl
  | 1, _ => rfl
  | 2, _ => rfl
theorem one_own {w : World} {g : Nat} {t : TypeId} {b v o : Int} (h : Box w g t #[.int .i64 b, .int .i64 v, .int .i64 o]) : Own w g t 3 (chAt [(b, v, o)]) := h.own.congr (chAt_one b v o)
theorem frameB_block {p b v t : Int} (h : frameB p b v t = true) : 0 ≤ b ∧ b ≤ 7 ∧ 1 ≤ p ∧ p ≤ 999999 ∧ 0 ≤ v ∧ v ≤ 999999 ∧ 0 ≤ t ∧ t ≤ 999999 := by
  unfold frameB at h
  simp only [Bool.and_eq_true] at h
  have h1 := inB_yes h.1.1.1
  have h2 := inB_yes h.1.1.2
  have h3 := inB_yes h.1.2
  have h4 := inB_yes h.2
  omega
end Go.Proofs.Ytihpadelfpogmaa
