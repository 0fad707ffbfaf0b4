/-
  Where a number stands in a list, as the library's Index tells it; rows of ints with one element.
  Conditions: at most 1048576 elements.
-/
import Derived.Test.YtihpadelfpogmaaVlm
import Derived.Test.YtihpadelfpogmaaRwi
namespace Go.Proofs.Ytihpadelfpogmaa
set_option linter.unusedVariables false
set_option maxRecDepth 100000
open Go.RowKit

theorem idx_not {xs : List Int} {x : Int} : ∀ {k : Nat}, NotTo xs k x → k ≤ xs.length → k ≤ idx xs x := by
  induction xs with
  | nil => intro k _ hk; simp at hk; omega
  | cons y xs ih =>
    intro k h hk
    rw [idx_cons]
    match k with
    | 0 => exact Nat.zero_le _
    | k + 1 =>
      have h0 := h 0 (by omega)
      rw [if_neg (by simpa using h0)]
      have := ih (k := k) (fun j hj => by have := h (j + 1) (by omega); simpa using this) (by rw [List.length_cons] at hk; omega)
      omega
theorem idx_hit {xs : List Int} {x : Int} {k : Nat} (h : NotTo xs k x) (hk : k < xs.length) (he : xs.getD k 0 = x) : idx xs x = k := by
  have h1 := idx_not h (by omega)
  have h2 := idx_lt hk he
  omega
theorem hasB_idx (xs : List Int) (x : Int) : hasB xs xs.length x = decide (idx xs x < xs.length) := by
  by_cases h : idx xs x < xs.length
  · rw [decide_eq_true h]; exact hasB_yes h h (idx_at h)
  · rw [decide_eq_false h]
    refine hasB_no fun j hj he => ?_
    have := idx_lt hj he
    omega
theorem isRet_hasB {b : Int} {gs : List SgR} {x : Int} {k : Nat} (hk : k = gs.length + 1) : hasB (retL b gs) k x = isRet b gs x := by
  subst hk
  have := hasB_idx (retL b gs) x
  rw [retL_len] at this
  exact this
/-- As Index tells it. -/
def idxI (xs : List Int) (x : Int) : Int := if idx xs x < xs.length then (idx xs x : Int) else -1
theorem idxI_hit {xs : List Int} {x : Int} {k : Nat} (h : NotTo xs k x) (hk : k < xs.length) (he : xs.getD k 0 = x) : (k : Int) = idxI xs x := by
  unfold idxI
  rw [idx_hit h hk he, if_pos hk]
theorem idxI_none {xs : List Int} {x : Int} (h : NotTo xs xs.length x) : -1 = idxI xs x := by
  unfold idxI
  have := idx_not h (Nat.le_refl _)
  rw [if_neg (by omega)]
theorem idxI_ahd {b : Int} {gs : List SgR} {x : Int} (h : isRet b gs x = true) : idxI (retL b gs) x = (ahd b gs x : Int) := by
  unfold isRet at h
  simp only [decide_eq_true_eq] at h
  unfold idxI
  rw [retL_len, if_pos h]; rfl
set_option maxHeartbeats 1000000 in
theorem indexI_c (A : Option Addr) (n c B : Nat) (xs : List Int) (x : Int) (w : World) (h : Ins w B A xs) (hl : n = xs.length) (hn : xs.length ≤ 1048576) :
    Calls Try.prog 158 #[.slice A n c, .int .i64 x] w fun e w' => e = .returned (.int .i64 (idxI xs x)) ∧ w = w' := by
  have Hl := Lib.hid hl
  have hn' : n ≤ 1048576 := by omega
  clear hl
  go_enter Try.func158, Try.ntmps158
  go_wp2
  go_loop [8] (fun i => ∃ k : Nat, k ≤ n ∧ i = .int .i64 k ∧ NotTo xs k x) (fun i => n - (intOf i).toNat)
  case atStart => exact ⟨0, Nat.zero_le _, rfl, NotTo.zero _ _⟩
  case round =>
    obtain ⟨k, hk, rfl, hto⟩ := hrel
    by_cases hlt : k < n
    · obtain ⟨b, off, rfl, hb, hc⟩ := h.at_ (k := k) (by have := Hl.out; omega)
      obtain ⟨y, Hy⟩ : ∃ y, Hid (xs.getD k 0 = y) := ⟨_, rfl⟩
      rw [Hy.out] at hc
      by_cases he : y = x
      · have hd : (x == y) = true := by simp [he]
        have HR := Lib.hid (idxI_hit hto (by have := Hl.out; omega) (Hy.out.trans he))
        clear he
        go_wp2
        go_ret
        exact ⟨ret_int HR.out, rfl⟩
      · have hd : (x == y) = false := by rw [beq_eq_false_iff_ne]; exact fun h => he h.symm
        have HT := Lib.hid (hto.succ (by rw [Hy.out]; exact he))
        clear he
        go_wp2
        go_round
        case rel => exact ⟨k + 1, by omega, by go_num, HT.out⟩
        case measure => simp [intOf]; omega
    · obtain rfl : k = n := by omega
      have HR := Lib.hid (idxI_none (xs := xs) (x := x) (by rw [← Hl.out]; exact hto))
      go_wp2
      go_ret
      exact ⟨ret_int HR.out, rfl⟩
theorem RowI.one (w : World) {B : Nat} (hB : B ≤ w.heap.size) (x : Int) : RowI (w.alloc (.cells #[.int .i64 x] 3)) B (.slice (some ⟨w.heap.size, 0, none⟩) 1 1) [x] :=
  ⟨rfl, .inr ⟨_, 1, #[.int .i64 x], rfl, hB, heap_alloc_new w _, by simp, by unfold maxLen; omega, rfl, rfl⟩⟩
/-- The first k of what is retained. -/
def retTo (b : Int) (gs : List SgR) (k : Nat) : List Int := b :: (gs.take k).map SgR.t
theorem retTo_zero (b : Int) (gs : List SgR) : retTo b gs 0 = [b] := rfl
theorem retTo_succ {b : Int} {gs : List SgR} {k : Nat} (h : k < gs.length) : retTo b gs (k + 1) = retTo b gs k ++ [(gs.getD k sgZ).t] := by
  unfold retTo
  rw [List.take_succ_eq_append_getElem h, List.map_append, List.getD_eq_getElem?_getD, List.getElem?_eq_getElem h]; rfl
theorem retTo_len {b : Int} {gs : List SgR} {k : Nat} (h : k ≤ gs.length) : (retTo b gs k).length = k + 1 := by
  unfold retTo; simp; omega
theorem retTo_all (b : Int) (gs : List SgR) : retTo b gs gs.length = retL b gs := by
  unfold retTo retL; rw [List.take_length]
end Go.Proofs.Ytihpadelfpogmaa
