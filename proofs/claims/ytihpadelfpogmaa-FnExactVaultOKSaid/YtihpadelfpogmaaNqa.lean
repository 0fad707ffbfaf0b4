/-
  Arrays of eight ints compared with '!='.
  Conditions: none.
-/
import Derived.Test.YtihpadelfpogmaaVvs
import Derived.ChangeKeysEq
namespace Go.Proofs.Ytihpadelfpogmaa
set_option linter.unusedVariables false
set_option maxRecDepth 100000
open Go.RowKit

theorem pk_int : Try.prog.plainKey 3 = true := by kernel_rfl
theorem eq_step (d : Nat) (a b : Array Value) (x y : Int) (i : Nat) (is : List Nat) (w : World) (ha : a[i]? = some (.int .i64 x)) (hb : b[i]? = some (.int .i64 y)) :
    (Op.eqItems (d + 1) 3 1 a b (i :: is)).run Try.prog w = if x = y then (Op.eqItems (d + 1) 3 1 a b is).run Try.prog w else .ok false w := by
  simp only [Op.eqItems, Sem.run_bind, Nat.mul_one]
  rw [run_part_plain (P := Try.prog) w pk_int ha]
  simp only [Result.andThen_ok]
  rw [run_part_plain (P := Try.prog) w pk_int hb]
  simp only [Result.andThen_ok]
  rw [run_equalIn_int (P := Try.prog) w d 3 .i64 .i64 x y Try.underlying3]
  simp only [Result.andThen_ok]
  by_cases h : x = y
  · subst h; simp
  · rw [if_neg h, show (x == y) = false by simp [h]]; simp
theorem eq_all (d : Nat) (a b : Array Value) (xs ys : List Int) (w : World) : ∀ is : List Nat, (∀ i ∈ is, a[i]? = some (inAt xs i)) → (∀ i ∈ is, b[i]? = some (inAt ys i)) →
    (Op.eqItems (d + 1) 3 1 a b is).run Try.prog w = .ok (is.all fun i => decide (xs.getD i 0 = ys.getD i 0)) w
  | [], _, _ => by simp [Op.eqItems]
  | i :: is, ha, hb => by
    rw [eq_step d a b (xs.getD i 0) (ys.getD i 0) i is w (ha i (by simp)) (hb i (by simp)), List.all_cons]
    by_cases h : xs.getD i 0 = ys.getD i 0
    · rw [if_pos h, eq_all d a b xs ys w is (fun j hj => ha j (by simp [hj])) (fun j hj => hb j (by simp [hj])), decide_eq_true h, Bool.true_and]
    · rw [if_neg h, decide_eq_false h, Bool.false_and]
def arr8 (xs : List Int) : Array Value := #[inAt xs 0, inAt xs 1, inAt xs 2, inAt xs 3, inAt xs 4, inAt xs 5, inAt xs 6, inAt xs 7]
theorem arr8_at (xs : List Int) : ∀ i ∈ List.range 8, (arr8 xs)[i]? = some (inAt xs i) := fun i hi => by
  have : i < 8 := by simpa using hi
  match i, this with
  | 0, _ => rfl
  | 1, _ => rfl
  | 2, _ => rfl
  | 3, _ => rfl
  | 4, _ => rfl
  | 5, _ => rfl
  | 6, _ => rfl
  | 7, _ => rfl
theorem all8 {xs ys : List Int} (h : xs.length = 8) (h2 : ys.length = 8) : ((List.range 8).all fun i => decide (xs.getD i 0 = ys.getD i 0)) = decide (xs = ys) := by
  by_cases e : xs = ys
  · rw [decide_eq_true e, List.all_eq_true]
    intro i _
    rw [e]; simp
  · rw [decide_eq_false e, List.all_eq_false]
    refine Classical.byContradiction fun hc => e (ext8 h h2 fun j hj => Classical.byContradiction fun hn => hc ⟨j, by simpa using hj, by simpa using hn⟩)
theorem und_values : Try.prog.underlying 99 = some (.array 8 3) := Try.underlying99
theorem equal_arr (d : Nat) {xs ys : List Int} (h : xs.length = 8) (h2 : ys.length = 8) (w : World) : (Op.equalIn (d + 2) 99 (.agg (arr8 xs)) (.agg (arr8 ys))).run Try.prog w = .ok (decide (xs = ys)) w := by
  obtain ⟨i0, hi0, hz0, hz1, hz2⟩ := info_parts info_int
  rw [run_equalIn_array (P := Try.prog) w (d + 1) (arr8 xs) (arr8 ys) und_values hi0, show Try.prog.cellsOf 3 = 1 from ci_, eq_all d _ _ xs ys w _ (arr8_at xs) (arr8_at ys), all8 h h2]
theorem neq_arr {xs ys : List Int} (h : xs.length = 8) (h2 : ys.length = 8) (w : World) : (binOp .neq 99 (.agg (arr8 xs)) (.agg (arr8 ys))).run Try.prog w = .ok (.bool (!decide (xs = ys))) w := by
  rw [run_neq_struct, show (10000 : Nat) = 9998 + 2 from rfl, equal_arr 9998 h h2]; rfl
theorem eqg_values : Try.prog.eqGuardType Try.prog.depth 99 = false := by kernel_rfl
/-- The comparison as an operation. -/
theorem neq_op {o : Oper} {a : Act} {x y : Operand} {xs ys : List Int} {t : TypeId} (h : xs.length = 8) (h2 : ys.length = 8) (w : World) (ho : o.op = .binOp .neq 99 x y t) (hx : a.eval x = .agg (arr8 xs)) (hy : a.eval y = .agg (arr8 ys)) :
    (execOp a.eval o).run Try.prog w = .ok (.value (.bool (!decide (xs = ys)))) w := by
  unfold execOp
  simp only [ho, hx, hy]
  simp [run_eqGuard_agg (P := Try.prog) w .neq 99 x y (arr8 xs) (arr8 ys) eqg_values, neq_arr h h2]
end Go.Proofs.Ytihpadelfpogmaa
