/-
  Contract of ChainOK, as the model has it.
  Conditions: the segments can be read, and have at most 1048576 changes each.
-/
import Derived.Test.YtihpadelfpogmaaChi
import Derived.Test.YtihpadelfpogmaaSgs
namespace Go.Proofs.Ytihpadelfpogmaa
set_option linter.unusedVariables false
set_option maxRecDepth 100000
open Go.RowKit

/-- What was new last of a block, -1 where nothing is known. -/
def lastV (M : Int → Option Chg) (j : Int) : Int := match M j with
  | some c => c.2.1
  | none => -1
def lsAt (M : Int → Option Chg) (i : Nat) : Value := .int .i64 (lastV M (i : Int))
def NonN (M : Int → Option Chg) : Prop := ∀ j c, M j = some c → 0 ≤ c.2.1
theorem OkTo.lt {cs : List Chg} {n : Nat} (h : OkTo cs n) : ∀ j, j < n → ∀ i, i < j → (cs.getD i chZ).1 < (cs.getD j chZ).1 := by
  intro j
  induction j with
  | zero => intro _ i hi; omega
  | succ j ih =>
    intro hj i hi
    have h0 := h (j + 1) hj
    unfold okCh at h0
    simp only [Bool.and_eq_true, Bool.or_eq_true, decide_eq_true_eq, Nat.add_sub_cancel] at h0
    have hlt : (cs.getD j chZ).1 < (cs.getD (j + 1) chZ).1 := by
      rcases h0.2 with h2 | h2
      · simp at h2
      · exact h2
    by_cases e : i = j
    · rw [e]; exact hlt
    · have := ih (by omega) i (by omega)
      omega
theorem noteM_far (M : Int → Option Chg) {cs : List Chg} (h : OkTo cs cs.length) : ∀ k, k ≤ cs.length → ∀ x : Int, (∀ i, i < k → (cs.getD i chZ).1 ≠ x) → noteM M (cs.take k) x = M x := by
  intro k
  induction k with
  | zero => intro _ x _; rfl
  | succ k ih =>
    intro hk x hx
    rw [noteM_succ M cs (by omega)]
    simp only
    rw [if_neg (fun e => hx k (by omega) e.symm)]
    exact ih (by omega) x fun i hi => hx i (by omega)
theorem noteM_at (M : Int → Option Chg) {cs : List Chg} (h : OkTo cs cs.length) {k : Nat} (hk : k < cs.length) : noteM M (cs.take k) (cs.getD k chZ).1 = M (cs.getD k chZ).1 :=
  noteM_far M h k (by omega) _ fun i hi => by have := h.lt k hk i hi; omega
theorem NonN.note {M : Int → Option Chg} (h : NonN M) {cs : List Chg} (hok : OkTo cs cs.length) : ∀ k, k ≤ cs.length → NonN (noteM M (cs.take k)) := by
  intro k
  induction k with
  | zero => intro _; exact h
  | succ k ih =>
    intro hk j c hj
    rw [noteM_succ M cs (by omega)] at hj
    simp only at hj
    by_cases e : j = (cs.getD k chZ).1
    · rw [if_pos e] at hj
      obtain rfl := Option.some.inj hj
      have := hok k (by omega)
      unfold okCh chB at this
      simp only [Bool.and_eq_true] at this
      exact (inB_yes this.1.1.2).1
    · rw [if_neg e] at hj
      exact ih (by omega) j c hj
theorem lnk_yes_parts {base : Int} {gs : List SgR} {k : Nat} (h : lnk base gs k = true) : segB (gs.getD k sgZ).f (gs.getD k sgZ).t (gs.getD k sgZ).m (gs.getD k sgZ).cs = true ∧ (gs.getD k sgZ).f = atK base gs k := by
  unfold lnk sgB at h
  simp only [Bool.and_eq_true, decide_eq_true_eq] at h
  exact ⟨h.1.1.1, h.1.1.2⟩
theorem LnTo.nonN {base : Int} {gs : List SgR} : ∀ k, LnTo base gs k → NonN (mpK gs k)
  | 0, _ => fun j c h => by cases h
  | k + 1, h => by
    have h1 := LnTo.nonN k fun j hj => h j (by omega)
    have h2 := chsB_to (segB_chs (lnk_yes_parts (h k (by omega))).1)
    have h3 := h1.note h2 _ (Nat.le_refl _)
    rw [List.take_length] at h3
    exact h3
theorem segB_range {f t m : Int} {cs : List Chg} (h : segB f t m cs = true) : inB 0 999999 f = true ∧ inB 0 999999 t = true ∧ inB 0 999999 m = true ∧ f < t := by
  unfold segB at h
  simp only [Bool.and_eq_true, decide_eq_true_eq] at h
  exact ⟨h.1.1.1.1, h.1.1.1.2, h.1.2, h.1.1.2⟩
theorem LnTo.end_ {base : Int} {gs : List SgR} {k : Nat} (h : LnTo base gs k) : inB 0 999999 (atK base gs k) = inB 0 999999 base := by
  cases k with
  | zero => rfl
  | succ k =>
    obtain ⟨h1, h2⟩ := lnk_yes_parts (h 0 (by omega))
    have h3 := (segB_range h1).1
    rw [h2] at h3
    rw [show atK base gs (k + 1) = (gs.getD k sgZ).t from rfl, (segB_range (lnk_yes_parts (h k (by omega))).1).2.1]
    exact h3.symm
theorem LnTo.chain {base : Int} {gs : List SgR} (h : LnTo base gs gs.length) (hl : gs.length ≤ 4096) : chainB base gs = inB 0 999999 base := by
  unfold chainB
  rw [decide_eq_true hl, List.all_eq_true.2 fun j hj => h j (by simpa using hj)]; simp
theorem onC_val {M : Int → Option Chg} (h : NonN M) (q0 q1 q2 : Int) : onC M (q0, q1, q2) = (decide (lastV M q0 < 0) || decide (lastV M q0 = q2)) := by
  unfold onC lastV
  cases hM : M q0 with
  | none => simp
  | some c =>
    have := h q0 c hM
    simp only
    rw [decide_eq_false (by omega : ¬ c.2.1 < 0)]; simp
theorem tmK_zero {gs : List SgR} {m : Int} (h : inB 0 999999 m = true) : tmK gs 0 ≤ m := (inB_yes h).1
end Go.Proofs.Ytihpadelfpogmaa
