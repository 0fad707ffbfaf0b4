/-
  Contracts of FreeSectors, as the model and as the program have it: both answer the same list and the same code, in new memory.
  Conditions: the super can be read, and holds at most 1048576 elements of a kind; its table is no longer than its capacity.
-/
import Derived.Test.YtccapcadgjlmkaaSio
import Derived.Test.YtccapcadgjlmkaaRwi
namespace Go.Proofs.Ytccapcadgjlmkaa
set_option linter.unusedVariables false
set_option maxRecDepth 100000
open Go.RowKit

/-- The sectors from 10 on, k of them, that a table has not. -/
def freeTo (xs : List Int) (k : Nat) : List Int := ((List.range k).map fun i : Nat => (i : Int) + 10).filter fun x => !hasB xs xs.length x
theorem freeTo_zero (xs : List Int) : freeTo xs 0 = [] := rfl
theorem freeTo_yes {xs : List Int} {k : Nat} (h : hasB xs xs.length ((k : Int) + 10) = false) : freeTo xs (k + 1) = freeTo xs k ++ [(k : Int) + 10] := by
  unfold freeTo
  rw [List.range_succ, List.map_append, List.filter_append]
  simp [h]
theorem freeTo_no {xs : List Int} {k : Nat} (h : hasB xs xs.length ((k : Int) + 10) = true) : freeTo xs (k + 1) = freeTo xs k := by
  unfold freeTo
  rw [List.range_succ, List.map_append, List.filter_append]
  simp [h]
theorem freeTo_len (xs : List Int) (k : Nat) : (freeTo xs k).length ≤ k := by
  unfold freeTo
  refine Nat.le_trans (List.length_filter_le _ _) ?_
  simp
set_option maxHeartbeats 2000000 in
theorem l04Free_c (g b p t : Int) (A A2 : Option Addr) (c c2 B : Nat) (xs : List Int) (ms : List Mrk) (w : World) (h : Ins w B A xs) (hB : B ≤ w.heap.size) (hn : xs.length ≤ 1048576) :
    Calls Try.prog 59 #[.agg #[.int .i64 g, .int .i64 b, .int .i64 p, .int .i64 t, .slice A xs.length c, .slice A2 ms.length c2]] w (RetIc w (freeTo xs 54)) := by
  have b0 := (Box.new w 45 #[.int .i64 g, .int .i64 b, .int .i64 p, .int .i64 t, .slice A xs.length c, .slice A2 ms.length c2]).alloc (.cells #[] 3)
  have hx0 := (Nx.refl w).alloc (.cells #[.int .i64 g, .int .i64 b, .int .i64 p, .int .i64 t, .slice A xs.length c, .slice A2 ms.length c2] 45)
  have hz0 : (w.alloc (.cells #[.int .i64 g, .int .i64 b, .int .i64 p, .int .i64 t, .slice A xs.length c, .slice A2 ms.length c2] 45)).heap.size = w.heap.size + 1 := by simp
  have hrow0 := RowI.new (w.alloc (.cells #[.int .i64 g, .int .i64 b, .int .i64 p, .int .i64 t, .slice A xs.length c, .slice A2 ms.length c2] 45)) (B := w.heap.size + 1) (by rw [hz0]; exact Nat.le_refl _)
  have hx1 := hx0.alloc (.cells #[] 3)
  have hz1 : w.heap.size + 1 ≤ ((w.alloc (.cells #[.int .i64 g, .int .i64 b, .int .i64 p, .int .i64 t, .slice A xs.length c, .slice A2 ms.length c2] 45)).alloc (.cells #[] 3)).heap.size := by simp
  rw [hz0] at hrow0
  clear hz0
  go_enter Try.func59, Try.ntmps59
  go_wp2_with fail
  generalize (w.alloc (.cells #[.int .i64 g, .int .i64 b, .int .i64 p, .int .i64 t, .slice A xs.length c, .slice A2 ms.length c2] 45)).alloc (.cells #[] 3) = W at *
  go_loopw [3, 4] (fun v i wr => ∃ (k : Nat), k ≤ 54 ∧ i = .int .i64 ((k : Int) + 10) ∧ (∃ u, u = v ∧ RowI wr (w.heap.size + 1) u (freeTo xs k)) ∧ Nx w wr ∧ Box wr w.heap.size 45 #[.int .i64 g, .int .i64 b, .int .i64 p, .int .i64 t, .slice A xs.length c, .slice A2 ms.length c2] ∧ w.heap.size + 1 ≤ wr.heap.size) (fun _ i _ => 64 - (intOf i).toNat)
  case atStart => exact ⟨0, by omega, rfl, ⟨_, rfl, hrow0⟩, hx1, b0, hz1⟩
  case round =>
    obtain ⟨k, hk, rfl, ⟨u, rfl, hrow⟩, hnx, hb, hsz⟩ := hrel
    clear hrow0 hx1 hz1 b0 hx0
    obtain ⟨_, _, _, _, c4, _⟩ := hb.d6
    have hil := freeTo_len xs k
    by_cases hlt : k < 54
    case neg =>
      obtain rfl : k = 54 := by omega
      obtain ⟨A', c', rfl, hc', hS⟩ := hrow.slc
      have hdl : decide (((54 : Nat) : Int) + 10 < 64) = false := by decide
      go_wp2
      go_ret
      exact ⟨A', c', rfl, hc', hS.low (by omega), hnx⟩
    have hdl : decide ((k : Int) + 10 < 64) = true := by simp; omega
    obtain ⟨q, Hq⟩ : ∃ q, Hid ((k : Int) + 10 = q) := ⟨_, rfl⟩
    have hq0 : 0 ≤ q := by have := Hq.out; omega
    have hq1 : q < 64 := by have := Hq.out; omega
    rw [Hq.out] at hdl ⊢
    clear hdl
    have hdq : decide (q < 64) = true := by simp; omega
    cases hh : hasB xs xs.length q with
    | true =>
      have HX := Lib.hid hh
      have HN := Lib.hid (freeTo_no (xs := xs) (k := k) (by rw [Hq.out]; exact hh))
      clear hh
      have HR := Lib.hid hrow
      clear hrow
      go_wp2_with (go_at_call 74; refine (l04In_c A xs.length c B xs q _ (h.below hnx hB) (Nat.le_refl _) hn).mono ?_; rintro e w' ⟨rfl, rfl⟩; rw [HX.out])
      go_roundw
      case rel => exact ⟨k + 1, by omega, by have := Hq.out; go_num, ⟨_, rfl, by rw [HN.out]; exact HR.out⟩, hnx, hb, hsz⟩
      case measure => have := Hq.out; simp [intOf]; omega
    | false =>
      have HX := Lib.hid hh
      have HN := Lib.hid (freeTo_yes (xs := xs) (k := k) (by rw [Hq.out]; exact hh))
      clear hh
      have hx2 := (Nx.refl wr).alloc (.cells #[.int .i64 q] 3)
      have hbx := Box.new wr 3 #[.int .i64 q]
      have hrow1 := hrow.nx hx2
      have hnx2 := hnx.trans hx2
      have hb2 := hb.nx hx2
      have hsz2 := Nat.le_trans hsz hx2.size
      have HR := Lib.hid hrow1
      have HB := Lib.hid hbx
      clear hrow hrow1 hbx
      go_wp2_with (first | (go_at_call 74; refine (l04In_c A xs.length c B xs q _ (h.below hnx hB) (Nat.le_refl _) hn).mono ?_; rintro e w' ⟨rfl, rfl⟩; rw [HX.out]) | (at_builtin; refine wpList_addI rfl _ _ rfl (w.heap.size + 1) wr.heap.size _ (freeTo xs k) q rfl rfl HR.out HB.out (by omega) hsz2 ?_))
      intro A' k' w' hr' hg'
      have hnx3 := hg'.nx w hnx2 (by omega)
      have hb3 := hg'.box _ _ _ (by decide) hb2
      have hsz3 := Nat.le_trans hsz2 hg'.size
      go_wp2
      go_roundw
      case rel => exact ⟨k + 1, by omega, by have := Hq.out; go_num, ⟨_, rfl, by rw [HN.out, Hq.out]; exact hr'⟩, hnx3, hb3, hsz3⟩
      case measure => have := Hq.out; simp [intOf]; omega

def RetIcC (w : World) (xs : List Int) (code : Int) (e : Ending) (w' : World) : Prop := ∃ (A : Option Addr) (c : Nat), e = .returned (.tuple #[.slice A xs.length c, .int .i64 code]) ∧ xs.length ≤ c ∧ SlI w' w.heap.size A xs ∧ Nx w w'
def frL (ok : Bool) (xs : List Int) : List Int := if ok = true then freeTo xs 54 else []
def frC (ok : Bool) : Int := if ok = true then 0 else 1
theorem frL_len (ok : Bool) (xs : List Int) : (frL ok xs).length ≤ 54 := by
  unfold frL
  split
  · exact freeTo_len _ _
  · simp
set_option maxHeartbeats 2000000 in
theorem specFree_c (g b p t : Int) (A A2 : Option Addr) (c c2 B : Nat) (xs : List Int) (ms : List Mrk) (w : World) (h : Ins w B A xs) (h2 : Mks w B A2 ms) (hB : B ≤ w.heap.size) (hn : xs.length ≤ 1048576) (hn2 : ms.length ≤ 1048576) (hc : xs.length ≤ c) (hm : AllM ms) :
    Calls Try.prog 23 #[.agg #[.int .i64 g, .int .i64 b, .int .i64 p, .int .i64 t, .slice A xs.length c, .slice A2 ms.length c2]] w (RetIcC w (frL (superB g b p t xs ms) xs) (frC (superB g b p t xs ms))) := by
  have b0 := Box.new w 45 #[.int .i64 g, .int .i64 b, .int .i64 p, .int .i64 t, .slice A xs.length c, .slice A2 ms.length c2]
  have hx0 := (Nx.refl w).alloc (.cells #[.int .i64 g, .int .i64 b, .int .i64 p, .int .i64 t, .slice A xs.length c, .slice A2 ms.length c2] 45)
  cases hs : superB g b p t xs ms with
  | false =>
    have HS := Lib.hid hs
    clear hs
    go_enter Try.func23, Try.ntmps23
    go_wp2_with fail
    generalize w.alloc (.cells #[.int .i64 g, .int .i64 b, .int .i64 p, .int .i64 t, .slice A xs.length c, .slice A2 ms.length c2] 45) = W at *
    refine (specSuperOK_c g b p t A A2 c c2 B xs ms _ (h.below hx0 hB) (h2.below hx0 hB) (Nat.le_trans hB hx0.size) hn hn2 hc hm).mono ?_
    rintro e w1 ⟨rfl, hnx1⟩
    rw [HS.out]
    have hx1 := hx0.trans hnx1
    go_wp2
    go_ret2
    exact ⟨_, _, rfl, Nat.le_refl _, Sl.none_ _ _ _ _ _, hx1.alloc _⟩
  | true =>
    have HS := Lib.hid hs
    clear hs
    go_enter Try.func23, Try.ntmps23
    go_wp2_with fail
    generalize w.alloc (.cells #[.int .i64 g, .int .i64 b, .int .i64 p, .int .i64 t, .slice A xs.length c, .slice A2 ms.length c2] 45) = W at *
    refine (specSuperOK_c g b p t A A2 c c2 B xs ms _ (h.below hx0 hB) (h2.below hx0 hB) (Nat.le_trans hB hx0.size) hn hn2 hc hm).mono ?_
    rintro e w1 ⟨rfl, hnx1⟩
    rw [HS.out]
    have hx1 := hx0.trans hnx1
    obtain ⟨d0, d1, d2, d3, d4, d5⟩ := (b0.nx hnx1).d6
    go_wp2_with fail
    refine (l04Free_c g b p t A A2 c c2 B xs ms _ (h.below hx1 hB) (Nat.le_trans hB hx1.size) hn).mono ?_
    rintro e w2 ⟨A3, c3, rfl, hc3, hS, hnx2⟩
    have HC := Lib.hid hc3
    clear hc3
    go_wp2
    go_ret2
    exact ⟨A3, c3, rfl, HC.out, hS.low hx1.size, hx1.trans hnx2⟩
set_option maxHeartbeats 4000000 in
theorem implFree_c (g b p t : Int) (A A2 : Option Addr) (c c2 B : Nat) (xs : List Int) (ms : List Mrk) (w : World) (h : Ins w B A xs) (h2 : Mks w B A2 ms) (hB : B ≤ w.heap.size) (hn : xs.length ≤ 1048576) (hn2 : ms.length ≤ 1048576) (hc : xs.length ≤ c) (hm : AllM ms) :
    Calls Try.prog 22 #[.agg #[.int .i64 g, .int .i64 b, .int .i64 p, .int .i64 t, .slice A xs.length c, .slice A2 ms.length c2]] w (RetIcC w (frL (superB g b p t xs ms) xs) (frC (superB g b p t xs ms))) := by
  have b0 := Box.new w 45 #[.int .i64 g, .int .i64 b, .int .i64 p, .int .i64 t, .slice A xs.length c, .slice A2 ms.length c2]
  have hx0 := (Nx.refl w).alloc (.cells #[.int .i64 g, .int .i64 b, .int .i64 p, .int .i64 t, .slice A xs.length c, .slice A2 ms.length c2] 45)
  cases hs : superB g b p t xs ms with
  | false =>
    have HS := Lib.hid hs
    clear hs
    go_enter Try.func22, Try.ntmps22
    go_wp2_with fail
    generalize w.alloc (.cells #[.int .i64 g, .int .i64 b, .int .i64 p, .int .i64 t, .slice A xs.length c, .slice A2 ms.length c2] 45) = W at *
    refine (superRight_c g b p t A A2 c c2 B xs ms _ (h.below hx0 hB) (h2.below hx0 hB) (Nat.le_trans hB hx0.size) hn hn2 hc hm).mono ?_
    rintro e w1 ⟨rfl, hnx1⟩
    rw [HS.out]
    have hx1 := hx0.trans hnx1
    go_wp2
    go_ret2
    exact ⟨_, _, rfl, Nat.le_refl _, Sl.none_ _ _ _ _ _, hx1⟩
  | true =>
  have HS := Lib.hid hs
  clear hs
  go_enter Try.func22, Try.ntmps22
  go_wp2_with fail
  generalize w.alloc (.cells #[.int .i64 g, .int .i64 b, .int .i64 p, .int .i64 t, .slice A xs.length c, .slice A2 ms.length c2] 45) = W at *
  refine (superRight_c g b p t A A2 c c2 B xs ms _ (h.below hx0 hB) (h2.below hx0 hB) (Nat.le_trans hB hx0.size) hn hn2 hc hm).mono ?_
  rintro e w1 ⟨rfl, hnx1⟩
  rw [HS.out]
  have hx1 := hx0.trans hnx1
  have b1 := b0.nx hnx1
  have hz1 : w.heap.size + 1 ≤ w1.heap.size := b1.lt
  have hrow0 := RowI.nil w1 (w.heap.size + 1)
  clear hnx1
  go_wp2
  go_loopw [4, 5] (fun v i wr => ∃ (k : Nat), k ≤ 54 ∧ i = .int .i64 ((k : Int) + 10) ∧ (∃ u, u = v ∧ RowI wr (w.heap.size + 1) u (freeTo xs k)) ∧ Nx w wr ∧ Box wr w.heap.size 45 #[.int .i64 g, .int .i64 b, .int .i64 p, .int .i64 t, .slice A xs.length c, .slice A2 ms.length c2] ∧ w.heap.size + 1 ≤ wr.heap.size) (fun _ i _ => 64 - (intOf i).toNat)
  case atStart => exact ⟨0, by omega, rfl, ⟨_, rfl, hrow0⟩, hx1, b1, hz1⟩
  case round =>
    obtain ⟨k, hk, rfl, ⟨u, rfl, hrow⟩, hnx, hb, hsz⟩ := hrel
    clear hrow0 hx1 hz1 b0 b1 hx0
    obtain ⟨_, _, _, _, c4, _⟩ := hb.d6
    have hil := freeTo_len xs k
    by_cases hlt : k < 54
    case neg =>
      obtain rfl : k = 54 := by omega
      obtain ⟨A', c', rfl, hc', hS⟩ := hrow.slc
      have hdl : decide (((54 : Nat) : Int) + 10 < 64) = false := by decide
      go_wp2
      go_ret2
      exact ⟨A', c', rfl, hc', hS.low (by omega), hnx⟩
    have hdl : decide ((k : Int) + 10 < 64) = true := by simp; omega
    obtain ⟨q, Hq⟩ : ∃ q, Hid ((k : Int) + 10 = q) := ⟨_, rfl⟩
    have hq0 : 0 ≤ q := by have := Hq.out; omega
    have hq1 : q < 64 := by have := Hq.out; omega
    rw [Hq.out] at hdl ⊢
    clear hdl
    have hdq : decide (q < 64) = true := by simp; omega
    cases hh : hasB xs xs.length q with
    | true =>
      have HX := Lib.hid hh
      have HN := Lib.hid (freeTo_no (xs := xs) (k := k) (by rw [Hq.out]; exact hh))
      clear hh
      have HR := Lib.hid hrow
      clear hrow
      go_wp2_with (go_at_call 58; refine (contains_c A xs.length c B xs q _ (h.below hnx hB) (Nat.le_refl _) hn).mono ?_; rintro e w' ⟨rfl, rfl⟩; rw [HX.out])
      go_roundw
      case rel => exact ⟨k + 1, by omega, by have := Hq.out; go_num, ⟨_, rfl, by rw [HN.out]; exact HR.out⟩, hnx, hb, hsz⟩
      case measure => have := Hq.out; simp [intOf]; omega
    | false =>
      have HX := Lib.hid hh
      have HN := Lib.hid (freeTo_yes (xs := xs) (k := k) (by rw [Hq.out]; exact hh))
      clear hh
      have hx2 := (Nx.refl wr).alloc (.cells #[.int .i64 q] 3)
      have hbx := Box.new wr 3 #[.int .i64 q]
      have hrow1 := hrow.nx hx2
      have hnx2 := hnx.trans hx2
      have hb2 := hb.nx hx2
      have hsz2 := Nat.le_trans hsz hx2.size
      have HR := Lib.hid hrow1
      have HB := Lib.hid hbx
      clear hrow hrow1 hbx
      go_wp2_with (first | (go_at_call 58; refine (contains_c A xs.length c B xs q _ (h.below hnx hB) (Nat.le_refl _) hn).mono ?_; rintro e w' ⟨rfl, rfl⟩; rw [HX.out]) | (at_builtin; refine wpList_addI rfl _ _ rfl (w.heap.size + 1) wr.heap.size _ (freeTo xs k) q rfl rfl HR.out HB.out (by omega) hsz2 ?_))
      intro A' k' w' hr' hg'
      have hnx3 := hg'.nx w hnx2 (by omega)
      have hb3 := hg'.box _ _ _ (by decide) hb2
      have hsz3 := Nat.le_trans hsz2 hg'.size
      go_wp2
      go_roundw
      case rel => exact ⟨k + 1, by omega, by have := Hq.out; go_num, ⟨_, rfl, by rw [HN.out, Hq.out]; exact hr'⟩, hnx3, hb3, hsz3⟩
      case measure => have := Hq.out; simp [intOf]; omega
end Go.Proofs.Ytccapcadgjlmkaa
