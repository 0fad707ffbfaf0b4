/-
  Texts of the proof, put together in their order: Fre, Base, Mk, Mku, Lfs, Rwm, Src, Op8, Drf, Rwq.
  Conditions: those of each.
-/
import Derived.Test.YtjefjngheolmkaaMw4
import Derived.StillTailTactics
import Derived.Deep.RegionHeld3
import Derived.Laws.BytesArg
import Derived.Outline
import Derived.Deep.QuietTactic
import Derived.BigQuiet
import Derived.Deep.Slices
import Derived.ChangeSame
import Derived.IntWalk
import Derived.Deep.RegionHeld
/- Contracts of FreeSectors, as the model and as the program have it: both answer the same list and the same code, in new memory. Conditions: the super can be read, and holds at most 1048576 elements of a kind; its table is no longer than its capacity. -/
namespace Go.Proofs.Ytjefjngheolmkaa
set_option linter.unusedVariables false
set_option maxRecDepth 100000
open Go.RowKit

/-- The sectors from 10 on, k of them, that a table has not. -/
def freeTo (xs : List Int) (k : Nat) : List Int := ((List.range k).map fun i : Nat => (i : Int) + 10).filter fun x => !hasB xs xs.length x
theorem freeTo_zero (xs : List Int) : freeTo xs 0 = [] := rfl
theorem freeTo_yes {xs : List Int} {k : Nat} (h : hasB xs xs.length ((k : Int) + 10) = false) : freeTo xs (k + 1) = freeTo xs k ++ [(k : Int) + 10] := by
  unfold freeTo
  rw [List.range_succ, List.map_append, List.filter_append]
  simp [h]
theorem freeTo_no {xs : List Int} {k : Nat} (h : hasB xs xs.length ((k : Int) + 10) = true) : freeTo xs (k + 1) = freeTo xs k := by
  unfold freeTo
  rw [List.range_succ, List.map_append, List.filter_append]
  simp [h]
theorem freeTo_len (xs : List Int) (k : Nat) : (freeTo xs k).length ≤ k := by
  unfold freeTo
  refine Nat.le_trans (List.length_filter_le _ _) ?_
  simp
set_option maxHeartbeats 2000000 in
theorem l04Free_c (g b p t : Int) (A A2 : Option Addr) (c c2 B : Nat) (xs : List Int) (ms : List Mrk) (w : World) (h : Ins w B A xs) (hB : B ≤ w.heap.size) (hn : xs.length ≤ 1048576) :
    Calls Try.prog 66 #[.agg #[.int .i64 g, .int .i64 b, .int .i64 p, .int .i64 t, .slice A xs.length c, .slice A2 ms.length c2]] w (RetIc w (freeTo xs 54)) := by
  have b0 := (Box.new w 54 #[.int .i64 g, .int .i64 b, .int .i64 p, .int .i64 t, .slice A xs.length c, .slice A2 ms.length c2]).alloc (.cells #[] 3)
  have hx0 := (Nx.refl w).alloc (.cells #[.int .i64 g, .int .i64 b, .int .i64 p, .int .i64 t, .slice A xs.length c, .slice A2 ms.length c2] 54)
  have hz0 : (w.alloc (.cells #[.int .i64 g, .int .i64 b, .int .i64 p, .int .i64 t, .slice A xs.length c, .slice A2 ms.length c2] 54)).heap.size = w.heap.size + 1 := by simp
  have hrow0 := RowI.new (w.alloc (.cells #[.int .i64 g, .int .i64 b, .int .i64 p, .int .i64 t, .slice A xs.length c, .slice A2 ms.length c2] 54)) (B := w.heap.size + 1) (by rw [hz0]; exact Nat.le_refl _)
  have hx1 := hx0.alloc (.cells #[] 3)
  have hz1 : w.heap.size + 1 ≤ ((w.alloc (.cells #[.int .i64 g, .int .i64 b, .int .i64 p, .int .i64 t, .slice A xs.length c, .slice A2 ms.length c2] 54)).alloc (.cells #[] 3)).heap.size := by simp
  rw [hz0] at hrow0
  clear hz0
  go_enter Try.func66, Try.ntmps66
  go_wp2_with fail
  generalize (w.alloc (.cells #[.int .i64 g, .int .i64 b, .int .i64 p, .int .i64 t, .slice A xs.length c, .slice A2 ms.length c2] 54)).alloc (.cells #[] 3) = W at *
  go_loopw [3, 4] (fun v i wr => ∃ (k : Nat), k ≤ 54 ∧ i = .int .i64 ((k : Int) + 10) ∧ (∃ u, u = v ∧ RowI wr (w.heap.size + 1) u (freeTo xs k)) ∧ Nx w wr ∧ Box wr w.heap.size 54 #[.int .i64 g, .int .i64 b, .int .i64 p, .int .i64 t, .slice A xs.length c, .slice A2 ms.length c2] ∧ w.heap.size + 1 ≤ wr.heap.size) (fun _ i _ => 64 - (intOf i).toNat)
  case atStart => exact ⟨0, by omega, rfl, ⟨_, rfl, hrow0⟩, hx1, b0, hz1⟩
  case round =>
    obtain ⟨k, hk, rfl, ⟨u, rfl, hrow⟩, hnx, hb, hsz⟩ := hrel
    clear hrow0 hx1 hz1 b0 hx0
    obtain ⟨_, _, _, _, c4, _⟩ := hb.d6
    have hil := freeTo_len xs k
    by_cases hlt : k < 54
    case neg =>
      obtain rfl : k = 54 := by omega
      obtain ⟨A', c', rfl, hc', hS⟩ := hrow.slc
      have hdl : decide (((54 : Nat) : Int) + 10 < 64) = false := by decide
      go_wp2
      go_ret
      exact ⟨A', c', rfl, hc', hS.low (by omega), hnx⟩
    have hdl : decide ((k : Int) + 10 < 64) = true := by simp; omega
    obtain ⟨q, Hq⟩ : ∃ q, Hid ((k : Int) + 10 = q) := ⟨_, rfl⟩
    have hq0 : 0 ≤ q := by have := Hq.out; omega
    have hq1 : q < 64 := by have := Hq.out; omega
    rw [Hq.out] at hdl ⊢
    clear hdl
    have hdq : decide (q < 64) = true := by simp; omega
    cases hh : hasB xs xs.length q with
    | true =>
      have HX := Lib.hid hh
      have HN := Lib.hid (freeTo_no (xs := xs) (k := k) (by rw [Hq.out]; exact hh))
      clear hh
      have HR := Lib.hid hrow
      clear hrow
      go_wp2_with (go_at_call 102; refine (l04In_c A xs.length c B xs q _ (h.below hnx hB) (Nat.le_refl _) hn).mono ?_; rintro e w' ⟨rfl, rfl⟩; rw [HX.out])
      go_roundw
      case rel => exact ⟨k + 1, by omega, by have := Hq.out; go_num, ⟨_, rfl, by rw [HN.out]; exact HR.out⟩, hnx, hb, hsz⟩
      case measure => have := Hq.out; simp [intOf]; omega
    | false =>
      have HX := Lib.hid hh
      have HN := Lib.hid (freeTo_yes (xs := xs) (k := k) (by rw [Hq.out]; exact hh))
      clear hh
      have hx2 := (Nx.refl wr).alloc (.cells #[.int .i64 q] 3)
      have hbx := Box.new wr 3 #[.int .i64 q]
      have hrow1 := hrow.nx hx2
      have hnx2 := hnx.trans hx2
      have hb2 := hb.nx hx2
      have hsz2 := Nat.le_trans hsz hx2.size
      have HR := Lib.hid hrow1
      have HB := Lib.hid hbx
      clear hrow hrow1 hbx
      go_wp2_with (first | (go_at_call 102; refine (l04In_c A xs.length c B xs q _ (h.below hnx hB) (Nat.le_refl _) hn).mono ?_; rintro e w' ⟨rfl, rfl⟩; rw [HX.out]) | (at_builtin; refine wpList_addI rfl _ _ rfl (w.heap.size + 1) wr.heap.size _ (freeTo xs k) q rfl rfl HR.out HB.out (by omega) hsz2 ?_))
      intro A' k' w' hr' hg'
      have hnx3 := hg'.nx w hnx2 (by omega)
      have hb3 := hg'.box _ _ _ (by decide) hb2
      have hsz3 := Nat.le_trans hsz2 hg'.size
      go_wp2
      go_roundw
      case rel => exact ⟨k + 1, by omega, by have := Hq.out; go_num, ⟨_, rfl, by rw [HN.out, Hq.out]; exact hr'⟩, hnx3, hb3, hsz3⟩
      case measure => have := Hq.out; simp [intOf]; omega

set_option maxHeartbeats 2000000 in
theorem superFree_c (g b p t : Int) (A A2 : Option Addr) (c c2 B : Nat) (xs : List Int) (ms : List Mrk) (w : World) (h : Ins w B A xs) (hB : B ≤ w.heap.size) (hn : xs.length ≤ 1048576) :
    Calls Try.prog 69 #[.agg #[.int .i64 g, .int .i64 b, .int .i64 p, .int .i64 t, .slice A xs.length c, .slice A2 ms.length c2]] w (RetIc w (freeTo xs 54)) := by
  have b0 := Box.new w 54 #[.int .i64 g, .int .i64 b, .int .i64 p, .int .i64 t, .slice A xs.length c, .slice A2 ms.length c2]
  have hx0 := (Nx.refl w).alloc (.cells #[.int .i64 g, .int .i64 b, .int .i64 p, .int .i64 t, .slice A xs.length c, .slice A2 ms.length c2] 54)
  have hrow0 := RowI.nil (w.alloc (.cells #[.int .i64 g, .int .i64 b, .int .i64 p, .int .i64 t, .slice A xs.length c, .slice A2 ms.length c2] 54)) (w.heap.size + 1)
  have hx1 := hx0
  have hz1 : w.heap.size + 1 ≤ (w.alloc (.cells #[.int .i64 g, .int .i64 b, .int .i64 p, .int .i64 t, .slice A xs.length c, .slice A2 ms.length c2] 54)).heap.size := by simp
  go_enter Try.func69, Try.ntmps69
  go_wp2_with fail
  generalize w.alloc (.cells #[.int .i64 g, .int .i64 b, .int .i64 p, .int .i64 t, .slice A xs.length c, .slice A2 ms.length c2] 54) = W at *
  go_loopw [3, 4] (fun v i wr => ∃ (k : Nat), k ≤ 54 ∧ i = .int .i64 ((k : Int) + 10) ∧ (∃ u, u = v ∧ RowI wr (w.heap.size + 1) u (freeTo xs k)) ∧ Nx w wr ∧ Box wr w.heap.size 54 #[.int .i64 g, .int .i64 b, .int .i64 p, .int .i64 t, .slice A xs.length c, .slice A2 ms.length c2] ∧ w.heap.size + 1 ≤ wr.heap.size) (fun _ i _ => 64 - (intOf i).toNat)
  case atStart => exact ⟨0, by omega, rfl, ⟨_, rfl, hrow0⟩, hx1, b0, hz1⟩
  case round =>
    obtain ⟨k, hk, rfl, ⟨u, rfl, hrow⟩, hnx, hb, hsz⟩ := hrel
    clear hrow0 hx1 hz1 b0 hx0
    obtain ⟨_, _, _, _, c4, _⟩ := hb.d6
    have hil := freeTo_len xs k
    by_cases hlt : k < 54
    case neg =>
      obtain rfl : k = 54 := by omega
      obtain ⟨A', c', rfl, hc', hS⟩ := hrow.slc
      have hdl : decide (((54 : Nat) : Int) + 10 < 64) = false := by decide
      go_wp2
      go_ret
      exact ⟨A', c', rfl, hc', hS.low (by omega), hnx⟩
    have hdl : decide ((k : Int) + 10 < 64) = true := by simp; omega
    obtain ⟨q, Hq⟩ : ∃ q, Hid ((k : Int) + 10 = q) := ⟨_, rfl⟩
    have hq0 : 0 ≤ q := by have := Hq.out; omega
    have hq1 : q < 64 := by have := Hq.out; omega
    rw [Hq.out] at hdl ⊢
    clear hdl
    have hdq : decide (q < 64) = true := by simp; omega
    cases hh : hasB xs xs.length q with
    | true =>
      have HX := Lib.hid hh
      have HN := Lib.hid (freeTo_no (xs := xs) (k := k) (by rw [Hq.out]; exact hh))
      clear hh
      have HR := Lib.hid hrow
      clear hrow
      go_wp2_with (go_at_call 108; refine (contains_c A xs.length c B xs q _ (h.below hnx hB) (Nat.le_refl _) hn).mono ?_; rintro e w' ⟨rfl, rfl⟩; rw [HX.out])
      go_roundw
      case rel => exact ⟨k + 1, by omega, by have := Hq.out; go_num, ⟨_, rfl, by rw [HN.out]; exact HR.out⟩, hnx, hb, hsz⟩
      case measure => have := Hq.out; simp [intOf]; omega
    | false =>
      have HX := Lib.hid hh
      have HN := Lib.hid (freeTo_yes (xs := xs) (k := k) (by rw [Hq.out]; exact hh))
      clear hh
      have hx2 := (Nx.refl wr).alloc (.cells #[.int .i64 q] 3)
      have hbx := Box.new wr 3 #[.int .i64 q]
      have hrow1 := hrow.nx hx2
      have hnx2 := hnx.trans hx2
      have hb2 := hb.nx hx2
      have hsz2 := Nat.le_trans hsz hx2.size
      have HR := Lib.hid hrow1
      have HB := Lib.hid hbx
      clear hrow hrow1 hbx
      go_wp2_with (first | (go_at_call 108; refine (contains_c A xs.length c B xs q _ (h.below hnx hB) (Nat.le_refl _) hn).mono ?_; rintro e w' ⟨rfl, rfl⟩; rw [HX.out]) | (at_builtin; refine wpList_addI rfl _ _ rfl (w.heap.size + 1) wr.heap.size _ (freeTo xs k) q rfl rfl HR.out HB.out (by omega) hsz2 ?_))
      intro A' k' w' hr' hg'
      have hnx3 := hg'.nx w hnx2 (by omega)
      have hb3 := hg'.box _ _ _ (by decide) hb2
      have hsz3 := Nat.le_trans hsz2 hg'.size
      go_wp2
      go_roundw
      case rel => exact ⟨k + 1, by omega, by have := Hq.out; go_num, ⟨_, rfl, by rw [HN.out, Hq.out]; exact hr'⟩, hnx3, hb3, hsz3⟩
      case measure => have := Hq.out; simp [intOf]; omega
def RetIcC (w : World) (xs : List Int) (code : Int) (e : Ending) (w' : World) : Prop := ∃ (A : Option Addr) (c : Nat), e = .returned (.tuple #[.slice A xs.length c, .int .i64 code]) ∧ xs.length ≤ c ∧ SlI w' w.heap.size A xs ∧ Nx w w'
def frL (ok : Bool) (xs : List Int) : List Int := if ok = true then freeTo xs 54 else []
def frCd (ok : Bool) : Int := if ok = true then 0 else 1
theorem frL_len (ok : Bool) (xs : List Int) : (frL ok xs).length ≤ 54 := by
  unfold frL
  split
  · exact freeTo_len _ _
  · simp
set_option maxHeartbeats 2000000 in
theorem specFree_c (g b p t : Int) (A A2 : Option Addr) (c c2 B : Nat) (xs : List Int) (ms : List Mrk) (w : World) (h : Ins w B A xs) (h2 : Mks w B A2 ms) (hB : B ≤ w.heap.size) (hn : xs.length ≤ 1048576) (hn2 : ms.length ≤ 1048576) (hc : xs.length ≤ c) (hm : AllM ms) :
    Calls Try.prog 24 #[.agg #[.int .i64 g, .int .i64 b, .int .i64 p, .int .i64 t, .slice A xs.length c, .slice A2 ms.length c2]] w (RetIcC w (frL (superB g b p t xs ms) xs) (frCd (superB g b p t xs ms))) := by
  have b0 := Box.new w 54 #[.int .i64 g, .int .i64 b, .int .i64 p, .int .i64 t, .slice A xs.length c, .slice A2 ms.length c2]
  have hx0 := (Nx.refl w).alloc (.cells #[.int .i64 g, .int .i64 b, .int .i64 p, .int .i64 t, .slice A xs.length c, .slice A2 ms.length c2] 54)
  cases hs : superB g b p t xs ms with
  | false =>
    have HS := Lib.hid hs
    clear hs
    go_enter Try.func24, Try.ntmps24
    go_wp2_with fail
    generalize w.alloc (.cells #[.int .i64 g, .int .i64 b, .int .i64 p, .int .i64 t, .slice A xs.length c, .slice A2 ms.length c2] 54) = W at *
    refine (specSuperOK_c g b p t A A2 c c2 B xs ms _ (h.below hx0 hB) (h2.below hx0 hB) (Nat.le_trans hB hx0.size) hn hn2 hc hm).mono ?_
    rintro e w1 ⟨rfl, hnx1⟩
    rw [HS.out]
    have hx1 := hx0.trans hnx1
    go_wp2
    go_ret2
    exact ⟨_, _, rfl, Nat.le_refl _, Sl.none_ _ _ _ _ _, hx1.alloc _⟩
  | true =>
    have HS := Lib.hid hs
    clear hs
    go_enter Try.func24, Try.ntmps24
    go_wp2_with fail
    generalize w.alloc (.cells #[.int .i64 g, .int .i64 b, .int .i64 p, .int .i64 t, .slice A xs.length c, .slice A2 ms.length c2] 54) = W at *
    refine (specSuperOK_c g b p t A A2 c c2 B xs ms _ (h.below hx0 hB) (h2.below hx0 hB) (Nat.le_trans hB hx0.size) hn hn2 hc hm).mono ?_
    rintro e w1 ⟨rfl, hnx1⟩
    rw [HS.out]
    have hx1 := hx0.trans hnx1
    obtain ⟨d0, d1, d2, d3, d4, d5⟩ := (b0.nx hnx1).d6
    go_wp2_with fail
    refine (l04Free_c g b p t A A2 c c2 B xs ms _ (h.below hx1 hB) (Nat.le_trans hB hx1.size) hn).mono ?_
    rintro e w2 ⟨A3, c3, rfl, hc3, hS, hnx2⟩
    have HC := Lib.hid hc3
    clear hc3
    go_wp2
    go_ret2
    exact ⟨A3, c3, rfl, HC.out, hS.low hx1.size, hx1.trans hnx2⟩
set_option maxHeartbeats 4000000 in
theorem implFree_c (g b p t : Int) (A A2 : Option Addr) (c c2 B : Nat) (xs : List Int) (ms : List Mrk) (w : World) (h : Ins w B A xs) (h2 : Mks w B A2 ms) (hB : B ≤ w.heap.size) (hn : xs.length ≤ 1048576) (hn2 : ms.length ≤ 1048576) (hc : xs.length ≤ c) (hm : AllM ms) :
    Calls Try.prog 26 #[.agg #[.int .i64 g, .int .i64 b, .int .i64 p, .int .i64 t, .slice A xs.length c, .slice A2 ms.length c2]] w (RetIcC w (frL (superB g b p t xs ms) xs) (frCd (superB g b p t xs ms))) := by
  have b0 := Box.new w 54 #[.int .i64 g, .int .i64 b, .int .i64 p, .int .i64 t, .slice A xs.length c, .slice A2 ms.length c2]
  have hx0 := (Nx.refl w).alloc (.cells #[.int .i64 g, .int .i64 b, .int .i64 p, .int .i64 t, .slice A xs.length c, .slice A2 ms.length c2] 54)
  cases hs : superB g b p t xs ms with
  | false =>
    have HS := Lib.hid hs
    clear hs
    go_enter Try.func26, Try.ntmps26
    go_wp2_with fail
    generalize w.alloc (.cells #[.int .i64 g, .int .i64 b, .int .i64 p, .int .i64 t, .slice A xs.length c, .slice A2 ms.length c2] 54) = W at *
    refine (superRight_c g b p t A A2 c c2 B xs ms _ (h.below hx0 hB) (h2.below hx0 hB) (Nat.le_trans hB hx0.size) hn hn2 hc hm).mono ?_
    rintro e w1 ⟨rfl, hnx1⟩
    rw [HS.out]
    have hx1 := hx0.trans hnx1
    go_wp2
    go_ret2
    exact ⟨_, _, rfl, Nat.le_refl _, Sl.none_ _ _ _ _ _, hx1⟩
  | true =>
  have HS := Lib.hid hs
  clear hs
  go_enter Try.func26, Try.ntmps26
  go_wp2_with fail
  generalize w.alloc (.cells #[.int .i64 g, .int .i64 b, .int .i64 p, .int .i64 t, .slice A xs.length c, .slice A2 ms.length c2] 54) = W at *
  refine (superRight_c g b p t A A2 c c2 B xs ms _ (h.below hx0 hB) (h2.below hx0 hB) (Nat.le_trans hB hx0.size) hn hn2 hc hm).mono ?_
  rintro e w1 ⟨rfl, hnx1⟩
  rw [HS.out]
  have hx1 := hx0.trans hnx1
  obtain ⟨d0, d1, d2, d3, d4, d5⟩ := (b0.nx hnx1).d6
  go_wp2_with fail
  refine (superFree_c g b p t A A2 c c2 B xs ms _ (h.below hx1 hB) (Nat.le_trans hB hx1.size) hn).mono ?_
  rintro e w2 ⟨A3, c3, rfl, hc3, hS, hnx2⟩
  have HC := Lib.hid hc3
  clear hc3
  go_wp2
  go_ret2
  exact ⟨A3, c3, rfl, HC.out, hS.low hx1.size, hx1.trans hnx2⟩
end Go.Proofs.Ytjefjngheolmkaa
/- Words on memory for the texts of this seat: slices of texts and of writes that are read, what a size is, and how these facts go on from world to world. Conditions: none. -/
namespace Go.Proofs.Ytjefjngheolmkaa
set_option linter.unusedVariables false
set_option maxRecDepth 100000
open Go.RowKit

def Strs (w : World) (B : Nat) (A : Option Addr) (n : Nat) (ss : List ByteArray) : Prop :=
  ss.length = n ∧ Row w B A n (fun i => .string (ss.getD i ByteArray.empty))
def Wrs (w : World) (B : Nat) (A : Option Addr) (n : Nat) (ws : List (Int × ByteArray)) : Prop :=
  ws.length = n ∧ Row w B A (n * 2) (fun i => if i % 2 = 0 then .int .i64 (ws.getD (i / 2) (0, ByteArray.empty)).1 else .string (ws.getD (i / 2) (0, ByteArray.empty)).2)
theorem Strs.below {w w' : World} {B B' n : Nat} {A : Option Addr} {ss : List ByteArray} (h : Strs w B A n ss) (hb : Below B' w w') (hB : B ≤ B') : Strs w' B A n ss := ⟨h.1, h.2.below hb hB⟩
theorem Strs.more {w : World} {B B' n : Nat} {A : Option Addr} {ss : List ByteArray} (h : Strs w B A n ss) (hB : B ≤ B') : Strs w B' A n ss := ⟨h.1, h.2.more hB⟩
theorem Wrs.below {w w' : World} {B B' n : Nat} {A : Option Addr} {ws : List (Int × ByteArray)} (h : Wrs w B A n ws) (hb : Below B' w w') (hB : B ≤ B') : Wrs w' B A n ws := ⟨h.1, h.2.below hb hB⟩
theorem Wrs.more {w : World} {B B' n : Nat} {A : Option Addr} {ws : List (Int × ByteArray)} (h : Wrs w B A n ws) (hB : B ≤ B') : Wrs w B' A n ws := ⟨h.1, h.2.more hB⟩
theorem Strs.at_ {w : World} {B n k : Nat} {A : Option Addr} {ss : List ByteArray} (h : Strs w B A n ss) (hk : k < n) :
    ∃ b off, A = some ⟨b, off, none⟩ ∧ b < B ∧ w.cell? ⟨b, off + k, none⟩ = some (.string (ss.getD k ByteArray.empty)) := by
  obtain ⟨b, off, e, hb, hc⟩ := h.2 (by omega)
  exact ⟨b, off, e, hb, hc k hk⟩
theorem Wrs.at_ {w : World} {B n k : Nat} {A : Option Addr} {ws : List (Int × ByteArray)} (h : Wrs w B A n ws) (hk : k < n) :
    ∃ b off, A = some ⟨b, off, none⟩ ∧ b < B ∧ w.cell? ⟨b, off + k * 2, none⟩ = some (.int .i64 (ws.getD k (0, ByteArray.empty)).1) ∧ w.cell? ⟨b, off + k * 2 + 1, none⟩ = some (.string (ws.getD k (0, ByteArray.empty)).2) := by
  obtain ⟨b, off, e, hb, hc⟩ := h.2 (by omega)
  have h0 := hc (k * 2) (by omega)
  have h1 := hc (k * 2 + 1) (by omega)
  have e1 : (k * 2) % 2 = 0 := by omega
  have e2 : ¬ (k * 2 + 1) % 2 = 0 := by omega
  have e3 : (k * 2) / 2 = k := by omega
  have e4 : (k * 2 + 1) / 2 = k := by omega
  simp only [e1, e3, if_true] at h0
  simp only [e2, e4, if_false] at h1
  exact ⟨b, off, e, hb, h0, h1⟩

def lenS (ss : List ByteArray) : Nat := (ss.map ByteArray.size).sum
def lenW (ws : List (Int × ByteArray)) : Nat := (ws.map fun x => x.2.size).sum
def lenSTo (ss : List ByteArray) (k : Nat) : Nat := ((ss.map ByteArray.size).take k).sum
def lenWTo (ws : List (Int × ByteArray)) (k : Nat) : Nat := ((ws.map fun x => x.2.size).take k).sum
theorem lenSTo_zero (ss : List ByteArray) : lenSTo ss 0 = 0 := rfl
theorem lenWTo_zero (ws : List (Int × ByteArray)) : lenWTo ws 0 = 0 := rfl
theorem lenSTo_le (ss : List ByteArray) (k : Nat) : lenSTo ss k ≤ lenS ss := sum_take_le _ _
theorem lenWTo_le (ws : List (Int × ByteArray)) (k : Nat) : lenWTo ws k ≤ lenW ws := sum_take_le _ _
theorem lenSTo_all (ss : List ByteArray) : lenSTo ss ss.length = lenS ss := by
  unfold lenSTo lenS; rw [List.take_of_length_le (by simp)]
theorem lenWTo_all (ws : List (Int × ByteArray)) : lenWTo ws ws.length = lenW ws := by
  unfold lenWTo lenW; rw [List.take_of_length_le (by simp)]
theorem lenSTo_succ (ss : List ByteArray) (k : Nat) (h : k < ss.length) : lenSTo ss (k + 1) = lenSTo ss k + (ss.getD k ByteArray.empty).size := by
  unfold lenSTo
  rw [sum_take_succ _ _ (by simpa using h), List.getD_eq_getElem?_getD, List.getElem?_eq_getElem h]; simp
theorem lenWTo_succ (ws : List (Int × ByteArray)) (k : Nat) (h : k < ws.length) : lenWTo ws (k + 1) = lenWTo ws k + (ws.getD k (0, ByteArray.empty)).2.size := by
  unfold lenWTo
  rw [sum_take_succ _ _ (by simpa using h), List.getD_eq_getElem?_getD, List.getElem?_eq_getElem h]; simp
def strAt (ss : List ByteArray) (i : Nat) : Value := .string (ss.getD i ByteArray.empty)
def wrAt (ws : List (Int × ByteArray)) (i : Nat) : Value := if i % 2 = 0 then .int .i64 (ws.getD (i / 2) (0, ByteArray.empty)).1 else .string (ws.getD (i / 2) (0, ByteArray.empty)).2
theorem wrAt_even (ws : List (Int × ByteArray)) (k : Nat) : wrAt ws (k * 2) = .int .i64 (ws.getD k (0, ByteArray.empty)).1 := by
  unfold wrAt; rw [if_pos (by omega), show k * 2 / 2 = k by omega]
theorem wrAt_odd (ws : List (Int × ByteArray)) (k : Nat) : wrAt ws (k * 2 + 1) = .string (ws.getD k (0, ByteArray.empty)).2 := by
  unfold wrAt; rw [if_neg (by omega), show (k * 2 + 1) / 2 = k by omega]
/-- A slice's row of texts, and of writes, in a block of the call's own. -/
def OwnS (w : World) (g : Nat) (ss : List ByteArray) : Prop := Own w g 9 ss.length (strAt ss)
/-- A slice value whose elements lie in a block of the call's own, from block number lo on. -/
def SlS (w : World) (lo : Nat) (A : Option Addr) (n : Nat) (ss : List ByteArray) : Prop := ss.length = n ∧ (0 < n → ∃ g, A = some ⟨g, 0, none⟩ ∧ lo ≤ g ∧ OwnS w g ss)
theorem SlS.nil (w : World) (lo : Nat) : SlS w lo none 0 [] := ⟨rfl, fun h => absurd h (by omega)⟩
theorem SlS.nx {w w' : World} {lo n : Nat} {A : Option Addr} {ss : List ByteArray} (h : SlS w lo A n ss) (hb : Nx w w') : SlS w' lo A n ss :=
  ⟨h.1, fun hn => by obtain ⟨g, e, hl, ho⟩ := h.2 hn; exact ⟨g, e, hl, Own.nx ho hb⟩⟩
theorem SlS.low {w : World} {lo lo' n : Nat} {A : Option Addr} {ss : List ByteArray} (h : SlS w lo A n ss) (hl : lo' ≤ lo) : SlS w lo' A n ss :=
  ⟨h.1, fun hn => by obtain ⟨g, e, hl2, ho⟩ := h.2 hn; exact ⟨g, e, Nat.le_trans hl hl2, ho⟩⟩
theorem SlS.strs {w : World} {lo n : Nat} {A : Option Addr} {ss : List ByteArray} (h : SlS w lo A n ss) : Strs w w.heap.size A n ss :=
  ⟨h.1, fun hn => by
    obtain ⟨g, e, hl, ho⟩ := h.2 hn
    subst e
    have := Own.row ho (Own.lt ho)
    rw [h.1] at this
    exact this hn⟩
/-- A slice whose elements lie in a block of the call's own, its number from lo to below hi. -/
def SrS (w : World) (lo hi : Nat) (A : Option Addr) (n : Nat) (ss : List ByteArray) : Prop := ss.length = n ∧ (0 < n → ∃ g, A = some ⟨g, 0, none⟩ ∧ lo ≤ g ∧ g < hi ∧ OwnS w g ss)
theorem SlS.sr {w : World} {lo n : Nat} {A : Option Addr} {ss : List ByteArray} (h : SlS w lo A n ss) : SrS w lo w.heap.size A n ss :=
  ⟨h.1, fun hn => by obtain ⟨g, e, hl, ho⟩ := h.2 hn; exact ⟨g, e, hl, Own.lt ho, ho⟩⟩
theorem SrS.sl {w : World} {lo hi n : Nat} {A : Option Addr} {ss : List ByteArray} (h : SrS w lo hi A n ss) : SlS w lo A n ss :=
  ⟨h.1, fun hn => by obtain ⟨g, e, hl, _, ho⟩ := h.2 hn; exact ⟨g, e, hl, ho⟩⟩
theorem SrS.rg {w w' : World} {lo hi a b n : Nat} {A : Option Addr} {ss : List ByteArray} (h : SrS w lo hi A n ss) (hb : Rg a b w w') (hd : hi ≤ a ∨ b ≤ lo) : SrS w' lo hi A n ss :=
  ⟨h.1, fun hn => by obtain ⟨g, e, hl, hh, ho⟩ := h.2 hn; exact ⟨g, e, hl, hh, Own.rg ho hb (by omega)⟩⟩
theorem SrS.nx {w w' : World} {lo hi n : Nat} {A : Option Addr} {ss : List ByteArray} (h : SrS w lo hi A n ss) (hb : Nx w w') : SrS w' lo hi A n ss :=
  ⟨h.1, fun hn => by obtain ⟨g, e, hl, hh, ho⟩ := h.2 hn; exact ⟨g, e, hl, hh, Own.nx ho hb⟩⟩
/-- What a function leaves that answers a slice in new memory. -/
def RetS (w : World) (ss : List ByteArray) (e : Ending) (w' : World) : Prop := ∃ (A : Option Addr) (n c : Nat), e = .returned (.slice A n c) ∧ SlS w' w.heap.size A n ss ∧ Nx w w'
theorem RetS.mk_own {w w' : World} {g n c : Nat} {ss : List ByteArray} (hn : ss.length = n) (hg : w.heap.size ≤ g) (h : OwnS w' g ss) (hb : Nx w w') : RetS w ss (.returned (.slice (some ⟨g, 0, none⟩) n c)) w' :=
  ⟨_, n, c, rfl, ⟨hn, fun _ => ⟨g, rfl, hg, h⟩⟩, hb⟩
theorem SlS.far {w : World} {lo n : Nat} {A : Option Addr} {ss : List ByteArray} (h : SlS w lo A n ss) {p : Addr} (hp : p.block < lo) (v : Value) : SlS (w.setCell p v) lo A n ss :=
  ⟨h.1, fun hn => by obtain ⟨g, e, hl, ho⟩ := h.2 hn; exact ⟨g, e, hl, Own.far ho (by omega) v⟩⟩
section
variable {w w' : World} {lo hi : Nat} {A : Option Addr} {n c : Nat} {A2 : Option Addr} {n2 c2 : Nat} {ss : List ByteArray} {ws : List (Int × ByteArray)}
end
theorem OwnS.strs {w : World} {g B : Nat} {ss : List ByteArray} (h : OwnS w g ss) (hB : g < B) : Strs w B (some ⟨g, 0, none⟩) ss.length ss := ⟨rfl, Own.row h hB⟩
end Go.Proofs.Ytjefjngheolmkaa
/- Contracts of the laws' functions that mark disks and ask whether the marks are still there. Conditions: numbers below 2^40. -/
namespace Go.Proofs.Ytjefjngheolmkaa
set_option linter.unusedVariables false
set_option maxRecDepth 100000
open Go.RowKit

/-- The text of one digit. -/
def dg (k : Nat) : ByteArray := strOfNums [48 + (k : Int) % 10]
theorem dg_size (k : Nat) : (dg k).size = 1 := by simp [dg, strOfNums, ByteArray.size]
def mtL (k : Nat) (o : ByteArray) : ByteArray := if h : k = 0 then o else mtL (k / 10) (dg k ++ o)
termination_by k
decreasing_by omega
theorem mtL_zero (o : ByteArray) : mtL 0 o = o := by rw [mtL]; simp
theorem mtL_pos (k : Nat) (o : ByteArray) (h : 0 < k) : mtL k o = mtL (k / 10) (dg k ++ o) := by rw [mtL, dif_neg (by omega)]
/-- The mark of a number. -/
def mt (k : Nat) : ByteArray := if k = 0 then ⟨#[109, 48]⟩ else ⟨#[109]⟩ ++ mtL k ⟨#[]⟩
def MtTo (K k : Nat) (o : ByteArray) : Prop := mtL K ⟨#[]⟩ = mtL k o

theorem MtTo.next_ {K k : Nat} {o : ByteArray} (h : MtTo K k o) (hp : 0 < k) : MtTo K (k / 10) (dg k ++ o) := by
  unfold MtTo at h ⊢; rw [h, mtL_pos k o hp]
theorem MtTo.done {K : Nat} {o : ByteArray} (h : MtTo K 0 o) (hK : 0 < K) : ⟨#[109]⟩ ++ o = mt K := by
  unfold MtTo at h
  unfold mt
  rw [if_neg (by omega), h, mtL_zero]
theorem ret_str' {a b : ByteArray} (h : a = b) : Ending.returned (.string a) = .returned (.string b) := by rw [h]
theorem conv_one (x : Int) (W : World) : (convert 59 9 (.slice (some ⟨W.heap.size, 0, none⟩) 1 1)).run Try.prog (W.alloc (.cells #[.int .u8 x] 5)) = .ok (.string (strOfNums [x])) (W.alloc (.cells #[.int .u8 x] 5)) :=
  run_convert_bytes_arg _ 59 5 Try.underlying59 Try.underlying5 W.heap.size 0 1 1 [x] rfl (fun i hi => by
    obtain rfl : i = 0 := by omega
    exact (Box.new W 5 #[.int .u8 x]).cell 0) 9 Try.underlying9

set_option maxHeartbeats 1000000 in
theorem markText_c (k : Nat) (w : World) (hk : k ≤ 1099511627776) : Calls Try.prog 110 #[.int .i64 k] w fun e w' => e = .returned (.string (mt k)) ∧ Nx w w' := by
  rcases Nat.eq_zero_or_pos k with hz | hp
  · subst hz
    go_enter Try.func110, Try.ntmps110
    go_wp2
    go_ret
    exact ⟨rfl, Nx.refl _⟩
  have hd : decide ((k : Int) ≤ 0) = false := by simp; omega
  have hd0 : decide (k = 0) = false := by simp; omega
  go_enter Try.func110, Try.ntmps110
  go_wp2
  go_loopw [0, 3] (fun i o wr => ∃ (j : Nat) (s : ByteArray), j ≤ k ∧ i = .int .i64 j ∧ o = .string s ∧ s.size + j ≤ k ∧ MtTo k j s ∧ Nx w wr) (fun i _ _ => (intOf i).toNat)
  case atStart => exact ⟨k, ⟨#[]⟩, Nat.le_refl _, rfl, rfl, by show 0 + k ≤ k; omega, rfl, Nx.refl _⟩
  case round =>
    obtain ⟨j, s, hj, rfl, rfl, hs, hto, hnx⟩ := hrel
    rcases Nat.eq_zero_or_pos j with hz | hp2
    · subst hz
      have HF := Lib.hid (hto.done hp)
      go_wp2
      go_ret
      exact ⟨ret_str' HF.out, hnx⟩
    · have hd2 : decide (0 < (j : Int)) = true := by simp; omega
      have hcv := conv_one (48 + (j : Int) % 10) wr
      have HF := Lib.hid (hto.next_ hp2)
      rw [show strOfNums [48 + (j : Int) % 10] = dg j from rfl] at hcv
      have HZ := Lib.hid (dg_size j)
      have hz1 : (dg j).size ≤ 1 := by rw [HZ.out]; omega
      generalize dg j = g at *
      go_wp2
      go_roundw
      case rel => exact ⟨j / 10, g ++ s, by omega, by go_num, rfl, by rw [ByteArray.size_append]; have := HZ.out; omega, HF.out, hnx.alloc _⟩
      case measure => simp [intOf]; omega

def markS (k n : Nat) : List ByteArray := (List.range n).map (fun i => mt (k + i))
def markW (k n : Nat) : List (Int × ByteArray) := (List.range n).map (fun i => (((k + i * 2 : Nat) : Int), mt (k + i * 2 + 1)))
theorem markS_len (k n : Nat) : (markS k n).length = n := by simp [markS]
theorem markW_len (k n : Nat) : (markW k n).length = n := by simp [markW]
theorem markS_at {k n i : Nat} (h : i < n) : (markS k n).getD i ByteArray.empty = mt (k + i) := by
  unfold markS; rw [List.getD_eq_getElem?_getD, List.getElem?_map, List.getElem?_range h]; rfl
theorem markW_at {k n i : Nat} (h : i < n) : (markW k n).getD i (0, ByteArray.empty) = (((k + i * 2 : Nat) : Int), mt (k + i * 2 + 1)) := by
  unfold markW; rw [List.getD_eq_getElem?_getD, List.getElem?_map, List.getElem?_range h]; rfl
/-- A slice that is being filled with marks. -/
def FillA (w : World) (lo hi : Nat) (A : Option Addr) (n : Nat) (t : TypeId) (m k : Nat) (F : Nat → Value) : Prop := 0 < n → ∃ g, A = some ⟨g, 0, none⟩ ∧ lo ≤ g ∧ g < hi ∧ Fill w g t m k F

end Go.Proofs.Ytjefjngheolmkaa
/- Contracts of the laws' functions that mark supers and ask whether the marks are still there. Conditions: numbers below 2^40. -/
namespace Go.Proofs.Ytjefjngheolmkaa
set_option linter.unusedVariables false
set_option maxRecDepth 100000
open Go.RowKit

def markM (k n : Nat) : List Mrk := (List.range n).map (fun i => (mt (k + i * 2), ((k + i * 2 + 1 : Nat) : Int)))
theorem markM_len (k n : Nat) : (markM k n).length = n := by simp [markM]
theorem markM_at {k n i : Nat} (h : i < n) : (markM k n).getD i mrZ = (mt (k + i * 2), ((k + i * 2 + 1 : Nat) : Int)) := by
  unfold markM; rw [List.getD_eq_getElem?_getD, List.getElem?_map, List.getElem?_range h]; rfl
set_option maxHeartbeats 1000000 in
theorem markMarkS_c (A : Option Addr) (n c k lo hi : Nat) (f : Nat → Value) (w : World) (h : Sr w lo hi A 122 (n * 2) f) (hi' : hi ≤ w.heap.size) (hn : n ≤ 1048576) (hk : k ≤ 1099500000000) :
    Calls Try.prog 71 #[.slice A n c, .int .i64 k] w fun e w' => e = .returned (.int .i64 ((k + n * 2 : Nat) : Int)) ∧ Sr w' lo hi A 122 (n * 2) (mrAt (markM k n)) ∧ Rg lo hi w w' ∧ TyK 122 w w' := by
  have HS : FillA w lo hi A n 122 (n * 2) 0 (mrAt (markM k n)) := fun hn0 => by
    obtain ⟨g, e, h1, h2, ho⟩ := h (by omega)
    exact ⟨g, e, h1, h2, Fill.start ho⟩
  go_enter Try.func71, Try.ntmps71
  go_wp2
  go_loopw [1, 5] (fun q i wr => ∃ j : Nat, j ≤ n ∧ i = .int .i64 j ∧ q = .int .i64 ((k + j * 2 : Nat) : Int) ∧ FillA wr lo hi A n 122 (n * 2) (j * 2) (mrAt (markM k n)) ∧ Rg lo hi w wr ∧ TyK 122 w wr) (fun _ i _ => n - (intOf i).toNat)
  case atStart => exact ⟨0, Nat.zero_le _, rfl, rfl, HS, Rg.of_nx (Nx.refl _), TyK.refl _ _⟩
  case round =>
    obtain ⟨j, hj, rfl, rfl, hf, hrg, hty⟩ := hrel
    clear HS
    by_cases hlt : j < n
    · obtain ⟨g, rfl, hg1, hg2, hfill⟩ := hf (by omega)
      go_wp2_with fail
      refine (markText_c (k + j * 2) _ (by omega)).mono ?_
      rintro e w2 ⟨rfl, hnx2⟩
      have hf2 := hfill.nx hnx2
      obtain ⟨v0, hv0⟩ := hf2.some_ (i := j * 2) (by omega)
      obtain ⟨v1, hv1⟩ := hf2.some_ (i := j * 2 + 1) (by omega)
      have hz0 := hf2.frozen (j * 2)
      have hz1 := hf2.frozen (j * 2 + 1)
      have hs1 := hf2.step (v := .string (mt (k + j * 2))) (by omega) (by rw [mrAt0, markM_at hlt])
      have hs2 := hs1.step (v := .int .i64 ((k + j * 2 + 1 : Nat) : Int)) (by omega) (by rw [mrAt1, markM_at hlt])
      have hr2 := ((hrg.trans (Rg.of_nx hnx2)).setCell (p := ⟨g, j * 2, none⟩) hg1 hg2 (.string (mt (k + j * 2)))).setCell (p := ⟨g, j * 2 + 1, none⟩) hg1 hg2 (.int .i64 ((k + j * 2 + 1 : Nat) : Int))
      have ht2 := ((hty.nx hnx2).set_fill (i := j * 2) hf2 (.string (mt (k + j * 2)))).set_fill (i := j * 2 + 1) hs1 (.int .i64 ((k + j * 2 + 1 : Nat) : Int))
      have e1 : (((k + j * 2 + 1 : Nat) : Int)) = (k : Int) + (j : Int) * 2 + 1 := by omega
      rw [e1] at hs2 hr2 ht2
      clear e1
      go_wp2
      go_roundw
      case rel =>
        refine ⟨j + 1, by omega, by go_num, by go_num, fun _ => ⟨g, rfl, hg1, hg2, ?_⟩, ?_, ?_⟩
        · rw [show (j + 1) * 2 = j * 2 + 1 + 1 by omega]
          exact hs2
        · exact hr2
        · exact ht2
      case measure => simp [intOf]; omega
    · obtain rfl : j = n := by omega
      go_wp2
      go_ret
      refine ⟨rfl, fun hn0 => ?_, hrg, hty⟩
      obtain ⟨g, e, h1, h2, ho⟩ := hf (by omega)
      exact ⟨g, e, h1, h2, ho.done⟩
set_option maxHeartbeats 1000000 in
/-- The marks come behind the table, so their block is not the table's: it holds another type. -/
theorem markIntT_c (A : Option Addr) (n c k lo hi : Nat) (f : Nat → Value) (w : World) (h : Sr w lo hi A 3 n f) (hn : n ≤ 1048576) (hk : k ≤ 4194304) :
    Calls Try.prog 20 #[.slice A n c, .int .i64 k] w fun e w' => e = .returned (.int .i64 ((k + n : Nat) : Int)) ∧ Sr w' lo hi A 3 n (mkAt k) ∧ Rg lo hi w w' ∧ TyK 3 w w' := by
  have HS : FillI w lo hi A n 0 k := fun hn0 => by
    obtain ⟨g, e, h1, h2, ho⟩ := h (by omega)
    exact ⟨g, e, h1, h2, Fill.start ho⟩
  go_enter Try.func20, Try.ntmps20
  go_wp2
  go_loopw [1, 5] (fun q i wr => ∃ j : Nat, j ≤ n ∧ i = .int .i64 j ∧ q = .int .i64 ((k + j : Nat) : Int) ∧ FillI wr lo hi A n j k ∧ Rg lo hi w wr ∧ TyK 3 w wr) (fun _ i _ => n - (intOf i).toNat)
  case atStart => exact ⟨0, Nat.zero_le _, rfl, rfl, HS, Rg.of_nx (Nx.refl _), TyK.refl _ _⟩
  case round =>
    obtain ⟨j, hj, rfl, rfl, hf, hrg, hty⟩ := hrel
    clear HS
    by_cases hlt : j < n
    · obtain ⟨g, rfl, hg1, hg2, hfill⟩ := hf (by omega)
      obtain ⟨v0, hv0⟩ := hfill.some_ (i := j) (by omega)
      have hz0 := hfill.frozen j
      clear hf
      go_wp2
      go_roundw
      case rel => exact ⟨j + 1, by omega, by go_num, by go_num, fun _ => ⟨g, rfl, hg1, hg2, hfill.step hlt rfl⟩, hrg.setCell hg1 hg2 _, hty.set_fill hfill _⟩
      case measure => simp [intOf]; omega
    · obtain rfl : j = n := by omega
      go_wp2
      go_ret
      refine ⟨rfl, fun hn0 => ?_, hrg, hty⟩
      obtain ⟨g, e, h1, h2, ho⟩ := hf (by omega)
      exact ⟨g, e, h1, h2, ho.done⟩
set_option maxHeartbeats 1000000 in
theorem markSuper_c (g b p t : Int) (A A2 : Option Addr) (n c n2 c2 k lo hi : Nat) (f f2 : Nat → Value) (w : World) (h : Sr w lo hi A 3 n f) (h2 : Sr w lo hi A2 122 (n2 * 2) f2) (hi' : hi ≤ w.heap.size) (hn : n ≤ 1048576) (hn2 : n2 ≤ 1048576) (hk : k ≤ 4194304) :
    Calls Try.prog 28 #[.agg #[.int .i64 g, .int .i64 b, .int .i64 p, .int .i64 t, .slice A n c, .slice A2 n2 c2], .int .i64 k] w fun e w' => e = .returned (.int .i64 ((k + n + n2 * 2 : Nat) : Int)) ∧ Sr w' lo hi A 3 n (mkAt k) ∧ Sr w' lo hi A2 122 (n2 * 2) (mrAt (markM (k + n) n2)) ∧ Rg lo hi w w' := by
  go_enter Try.func28, Try.ntmps28
  go_wp2_with fail
  have b0 := Box.new w 54 #[.int .i64 g, .int .i64 b, .int .i64 p, .int .i64 t, .slice A n c, .slice A2 n2 c2]
  have hnx0 := (Nx.refl w).alloc (.cells #[.int .i64 g, .int .i64 b, .int .i64 p, .int .i64 t, .slice A n c, .slice A2 n2 c2] 54)
  have HZ := Lib.hid (show (w.alloc (.cells #[.int .i64 g, .int .i64 b, .int .i64 p, .int .i64 t, .slice A n c, .slice A2 n2 c2] 54)).heap.size = w.heap.size + 1 by simp)
  generalize w.alloc (.cells #[.int .i64 g, .int .i64 b, .int .i64 p, .int .i64 t, .slice A n c, .slice A2 n2 c2] 54) = W at *
  refine (markIntT_c A n c k lo hi f _ (h.nx hnx0) hn hk).mono ?_
  rintro e w1 ⟨rfl, hS1, hr1, ht1⟩
  have b1 := b0.rg hr1 (.inr hi')
  obtain ⟨_, _, _, _, c4, c5⟩ := b1.d6
  have hsz1 := hr1.size
  go_wp2_with fail
  rw [show ((k : Int) + (n : Int)) = ((k + n : Nat) : Int) from by omega]
  refine (markMarkS_c A2 n2 c2 (k + n) lo hi f2 _ ((h2.nx hnx0).ty ht1 (by decide)) (by have := HZ.out; omega) hn2 (by omega)).mono ?_
  rintro e w2 ⟨rfl, hW2, hr2, ht2⟩
  go_wp2
  go_ret
  exact ⟨rfl, hS1.ty ht2 (by decide), hW2, ((Rg.of_nx hnx0).trans hr1).trans hr2⟩
end Go.Proofs.Ytjefjngheolmkaa
/- The walk of the law FnExactFreeSectors. Conditions: the super that comes in can be read. -/
namespace Go.Proofs.Ytjefjngheolmkaa
set_option linter.unusedVariables false
set_option maxRecDepth 100000
open Go.RowKit

set_option maxHeartbeats 8000000 in
theorem lawFreeSectors (g b p t : Int) (A A2 : Option Addr) (c c2 : Nat) (xs : List Int) (ms : List Mrk) (w : World) (h : Ins w w.heap.size A xs) (h2 : Mks w w.heap.size A2 ms) (hm : AllM ms) (hn : xs.length ≤ 2 ^ 63 - 1) (hn2 : ms.length ≤ 2 ^ 63 - 1) :
    Calls Try.prog 5 #[.agg #[.int .i64 g, .int .i64 b, .int .i64 p, .int .i64 t, .slice A xs.length c, .slice A2 ms.length c2]] w fun e w' => e = .returned (.bool true) ∧ Nx w w' := by
  obtain ⟨ys, Hy⟩ : ∃ y, Hid (frL (superB g b p t xs ms) xs = y) := ⟨_, rfl⟩
  obtain ⟨cd, Hc⟩ : ∃ y, Hid (frCd (superB g b p t xs ms) = y) := ⟨_, rfl⟩
  have hy : ys.length ≤ 1048576 := by rw [← Hy.out]; exact Nat.le_trans (frL_len _ _) (by omega)
  go_enter Try.func5, Try.ntmps5
  go_wp2_with fail
  have bD := Box.new w 48 #[.int .i64 g, .int .i64 b, .int .i64 p, .int .i64 t, .slice A xs.length c, .slice A2 ms.length c2]
  have hX := (Nx.refl w).alloc (.cells #[.int .i64 g, .int .i64 b, .int .i64 p, .int .i64 t, .slice A xs.length c, .slice A2 ms.length c2] 48)
  generalize w.alloc (.cells #[.int .i64 g, .int .i64 b, .int .i64 p, .int .i64 t, .slice A xs.length c, .slice A2 ms.length c2] 48) = W at *
  have zb := bD.lt
  refine (szSuper_c g b p t A A2 c c2 w.heap.size xs ms _ _ (h2.below hX (Nat.le_refl _)) hX.size hm hn hn2 (by omega) (by omega)).mono ?_
  rintro e w1 ⟨rfl, hx1⟩
  by_cases hle : costU xs ms ≤ 1048576
  case neg =>
    rw [← szR_no (by omega)]
    go_wp2
    go_ret
    exact ⟨rfl, hX.trans hx1⟩
  rw [← szR_yes hle]
  have hn' : xs.length ≤ 1048576 := by unfold costU at hle; omega
  have hn2' : ms.length ≤ 1048576 := by unfold costU at hle; omega
  have hd1 : decide (1048576 - costU xs ms < 0) = false := by simp; omega
  have zhx1 := hx1.size; replace bD := bD.nx hx1; replace hX := hX.trans hx1
  clear hx1
  obtain ⟨d0, d1, d2, d3, d4, d5⟩ := bD.d6
  go_wp2_with fail
  refine (toSuper_c g b p t A A2 c c2 w.heap.size xs ms _ (h.below hX (Nat.le_refl _)) (h2.below hX (Nat.le_refl _)) hX.size hn' hn2').mono ?_
  rintro e w2 ⟨A3, c3, A4, c4, rfl, hcc3, hS3, hM3, hx2⟩
  have zhx2 := hx2.size; replace bD := bD.nx hx2; replace hX := hX.trans hx2
  clear d0 d1 d2 d3 d4 d5
  have HCc3 := Lib.hid hcc3
  clear hcc3
  go_wp2_with fail
  refine (specFree_c g b p t A3 A4 c3 c4 _ xs ms _ hS3.row hM3.row (Nat.le_refl _) hn' hn2' HCc3.out hm).mono ?_
  intro e w3 hR
  rw [Hy.out, Hc.out] at hR
  obtain ⟨A5, c5, rfl, hc5, hS5, hx3⟩ := hR
  clear hc5
  replace hS5 := hS5.sr
  have zhx3 := hx3.size; replace bD := bD.nx hx3; replace hX := hX.trans hx3
  clear hS3 hM3
  obtain ⟨d0, d1, d2, d3, d4, d5⟩ := bD.d6
  go_wp2_with fail
  refine (toSuper_c g b p t A A2 c c2 w.heap.size xs ms _ (h.below hX (Nat.le_refl _)) (h2.below hX (Nat.le_refl _)) hX.size hn' hn2').mono ?_
  rintro e w4 ⟨A6, c6, A7, c7, rfl, hcc6, hS6, hM6, hx4⟩
  have zhx4 := hx4.size; replace bD := bD.nx hx4; replace hS5 := hS5.nx hx4; replace hX := hX.trans hx4
  clear d0 d1 d2 d3 d4 d5
  have HCc6 := Lib.hid hcc6
  clear hcc6
  replace hS6 := hS6.sr
  replace hM6 := hM6.sr
  go_wp2_with fail
  have bx := Box.new w4 54 #[.int .i64 g, .int .i64 b, .int .i64 p, .int .i64 t, .slice A6 xs.length c6, .slice A7 ms.length c7]
  have hxa := (Nx.refl w4).alloc (.cells #[.int .i64 g, .int .i64 b, .int .i64 p, .int .i64 t, .slice A6 xs.length c6, .slice A7 ms.length c7] 54)
  have zW : w4.heap.size < (w4.alloc (.cells #[.int .i64 g, .int .i64 b, .int .i64 p, .int .i64 t, .slice A6 xs.length c6, .slice A7 ms.length c7] 54)).heap.size := by simp
  have zhxa := hxa.size; replace bD := bD.nx hxa; replace hS5 := hS5.nx hxa; replace hS6 := hS6.nx hxa; replace hM6 := hM6.nx hxa; replace hX := hX.trans hxa
  clear hxa
  generalize w4.alloc (.cells #[.int .i64 g, .int .i64 b, .int .i64 p, .int .i64 t, .slice A6 xs.length c6, .slice A7 ms.length c7] 54) = W4 at *
  refine (implFree_c g b p t A6 A7 c6 c7 _ xs ms _ hS6.sl.row hM6.sl.row (Nat.le_refl _) hn' hn2' HCc6.out hm).mono ?_
  intro e w5 hR
  rw [Hy.out, Hc.out] at hR
  obtain ⟨A8, c8, rfl, hc8, hS8, hx5⟩ := hR
  clear hc8
  replace hS8 := hS8.sr
  have zhx5 := hx5.size; replace bD := bD.nx hx5; replace hS5 := hS5.nx hx5; replace hS6 := hS6.nx hx5; replace hM6 := hM6.nx hx5; replace bx := bx.nx hx5; replace hX := hX.trans hx5
  go_wp2_with fail
  refine (eqIntS_c A8 A5 c8 c5 _ ys _ hS8.sl.row hS5.sl.row (Nat.le_refl _) hy).mono ?_
  rintro e w7 ⟨rfl, hx7⟩
  have zhx7 := hx7.size; replace bD := bD.nx hx7; replace hS5 := hS5.nx hx7; replace hS6 := hS6.nx hx7; replace hM6 := hM6.nx hx7; replace bx := bx.nx hx7; replace hS8 := hS8.nx hx7; replace hX := hX.trans hx7
  replace hX := hX.drew
  replace bD : Box w7.drew w.heap.size 48 #[.int .i64 g, .int .i64 b, .int .i64 p, .int .i64 t, .slice A xs.length c, .slice A2 ms.length c2] := bD
  replace bx : Box w7.drew w4.heap.size 54 #[.int .i64 g, .int .i64 b, .int .i64 p, .int .i64 t, .slice A6 xs.length c6, .slice A7 ms.length c7] := bx
  replace hS5 : Sr w7.drew w2.heap.size w3.heap.size A5 3 ys.length (inAt ys) := hS5
  replace hS6 : Sr w7.drew w3.heap.size w4.heap.size A6 3 xs.length (inAt xs) := hS6
  replace hM6 : Sr w7.drew w3.heap.size w4.heap.size A7 122 (ms.length * 2) (mrAt ms) := hM6
  replace hS8 : Sr w7.drew W4.heap.size w5.heap.size A8 3 ys.length (inAt ys) := hS8
  have zd2 : w7.heap.size ≤ w7.drew.heap.size := Nat.le_refl _
  go_wp2_with fail
  refine wp_region_lex [false, false, true, true, false] (fun w' => (w'.cell? ⟨w4.heap.size, 0, none⟩ = some (.int .i64 g) ∧ w'.cell? ⟨w4.heap.size, 1, none⟩ = some (.int .i64 b) ∧ w'.cell? ⟨w4.heap.size, 2, none⟩ = some (.int .i64 p) ∧ w'.cell? ⟨w4.heap.size, 3, none⟩ = some (.int .i64 t) ∧ w'.cell? ⟨w4.heap.size, 4, none⟩ = some (.slice A6 xs.length c6) ∧ w'.cell? ⟨w4.heap.size, 5, none⟩ = some (.slice A7 ms.length c7)) ∧ (w'.cell? ⟨w.heap.size, 0, none⟩ = some (.int .i64 g) ∧ w'.cell? ⟨w.heap.size, 1, none⟩ = some (.int .i64 b) ∧ w'.cell? ⟨w.heap.size, 2, none⟩ = some (.int .i64 p) ∧ w'.cell? ⟨w.heap.size, 3, none⟩ = some (.int .i64 t) ∧ w'.cell? ⟨w.heap.size, 4, none⟩ = some (.slice A xs.length c) ∧ w'.cell? ⟨w.heap.size, 5, none⟩ = some (.slice A2 ms.length c2))) (by kernel_rfl) (by kernel_rfl) rfl (by kernel_rfl) (fun _ _ d _ _ h => by cases d <;> exact h) (by exact ⟨bx.d6, bD.d6⟩) ?_
  repeat (first | (refine HL.take (v := ?_) (by rfl) ?_ ?_; rotate_left; (· (intro w hSw; (try dsimp only at hSw); go_simp; try with_reducible rfl)); (try simp only [Act.put, List.setIfInBounds_toArray, List.set_cons_zero, List.set_cons_succ])) | (refine HL.skip (by rfl) ?_; (try simp only [Act.put, List.setIfInBounds_toArray, List.set_cons_zero, List.set_cons_succ])))
  refine HL.call (by rfl) (fun K hK => ?_)
  go_simp
  refine (toSuper_c g b p t A A2 c c2 w.heap.size xs ms _ (h.below hX (Nat.le_refl _)) (h2.below hX (Nat.le_refl _)) hX.size hn' hn2').mono ?_; rintro e v4 ⟨A10, c10, A11, c11, rfl, hc10, hS10, hM10, hv4⟩; have zhv4 := hv4.size; replace bD := bD.nx hv4; replace hS5 := hS5.nx hv4; replace hS6 := hS6.nx hv4; replace hM6 := hM6.nx hv4; replace bx := bx.nx hv4; replace hS8 := hS8.nx hv4; replace hX := hX.trans hv4
  go_wp2_with fail
  refine hK.out _ _ (by exact ⟨bx.d6, bD.d6⟩) ?_
  clear hK K
  try simp only [Act.put, List.setIfInBounds_toArray, List.set_cons_zero, List.set_cons_succ]
  refine HL.call (by rfl) (fun K hK => ?_)
  go_simp
  refine (eqSuper_c g b p t A6 A7 A10 A11 c6 c7 c10 c11 _ xs ms _ hS6.sl.row hM6.sl.row hS10.row hM10.row (Nat.le_refl _) hn' hn2').mono ?_; rintro e v5 ⟨rfl, hv5⟩; have zhv5 := hv5.size; replace bD := bD.nx hv5; replace hS5 := hS5.nx hv5; replace hS6 := hS6.nx hv5; replace hM6 := hM6.nx hv5; replace bx := bx.nx hv5; replace hS8 := hS8.nx hv5; replace hX := hX.trans hv5
  go_wp2_with fail
  refine hK.out _ _ (by exact ⟨bx.d6, bD.d6⟩) ?_
  clear hK K
  try simp only [Act.put, List.setIfInBounds_toArray, List.set_cons_zero, List.set_cons_succ]
  repeat (first | (refine HL.take (v := ?_) (by rfl) ?_ ?_; rotate_left; (· (intro w hSw; (try dsimp only at hSw); go_simp; try with_reducible rfl)); (try simp only [Act.put, List.setIfInBounds_toArray, List.set_cons_zero, List.set_cons_succ])) | (refine HL.skip (by rfl) ?_; (try simp only [Act.put, List.setIfInBounds_toArray, List.set_cons_zero, List.set_cons_succ])))
  refine HL.done ?_
  clear hS10 hM10
  obtain ⟨d0, d1, d2, d3, d4, d5⟩ := bx.d6
  go_wp2_with fail
  refine (markSuper_c g b p t A6 A7 xs.length c6 ms.length c7 1 _ _ _ _ _ hS6 hM6 (by omega) hn' hn2' (by omega)).mono ?_
  rintro e wc ⟨rfl, hS6b, hM6b, hr1⟩
  clear d0 d1 d2 d3 d4 d5
  have zhr1 := hr1.size; replace bD := bD.rg hr1 (by omega); replace hS5 := hS5.rg hr1 (by omega); replace bx := bx.rg hr1 (by omega); replace hS8 := hS8.rg hr1 (by omega); replace hX := Rg.nx_of hX hr1 (by omega)
  clear hS6 hS6b hM6 hM6b
  obtain ⟨q1, Hq1⟩ : ∃ q, Hid (1 + xs.length + ms.length * 2 = q) := ⟨_, rfl⟩
  rw [Hq1.out]
  have hd2 : decide ((q1 : Int) < 0) = false := by simp
  go_wp2_with fail
  refine (eqIntS_c A8 A5 c8 c5 _ ys _ hS8.sl.row hS5.sl.row (Nat.le_refl _) hy).mono ?_
  rintro e we ⟨rfl, hxe⟩
  have zhxe := hxe.size; replace bD := bD.nx hxe; replace hS5 := hS5.nx hxe; replace bx := bx.nx hxe; replace hS8 := hS8.nx hxe; replace hX := hX.trans hxe
  go_wp2_with fail
  refine (markIntS_c A8 ys.length c8 1 _ _ _ _ hS8 hy (by omega)).mono ?_
  rintro e wf ⟨rfl, hS8b, hr3⟩
  have zhr3 := hr3.size; replace bD := bD.rg hr3 (by omega); replace hS5 := hS5.rg hr3 (by omega); replace bx := bx.rg hr3 (by omega); replace hX := Rg.nx_of hX hr3 (by omega)
  clear hS8
  obtain ⟨q3, Hq3⟩ : ∃ q, Hid (1 + ys.length = q) := ⟨_, rfl⟩
  have hd3 : decide ((q3 : Int) < 0) = false := by simp
  rw [Hq3.out]
  go_wp2_with fail
  refine (heldIntS_c A8 ys.length c8 1 _ _ hS8b.sl.row hy (by omega)).mono ?_
  rintro e w' ⟨rfl, rfl⟩
  rw [Hq3.out]
  obtain ⟨d0, d1, d2, d3, d4, d5⟩ := bD.d6
  go_wp2_with fail
  refine (toSuper_c g b p t A A2 c c2 w.heap.size xs ms _ (h.below hX (Nat.le_refl _)) (h2.below hX (Nat.le_refl _)) hX.size hn' hn2').mono ?_
  rintro e u2 ⟨A13, c13, A14, c14, rfl, hcc13, hS13, hM13, hu2⟩
  have zhu2 := hu2.size; replace bD := bD.nx hu2; replace hS5 := hS5.nx hu2; replace bx := bx.nx hu2; replace hS8b := hS8b.nx hu2; replace hX := hX.trans hu2
  clear d0 d1 d2 d3 d4 d5
  have HCc13 := Lib.hid hcc13
  clear hcc13
  go_wp2_with fail
  refine (implFree_c g b p t A13 A14 c13 c14 _ xs ms _ hS13.row hM13.row (Nat.le_refl _) hn' hn2' HCc13.out hm).mono ?_
  intro e u3 hR
  rw [Hy.out, Hc.out] at hR
  obtain ⟨A15, c15, rfl, hc15, hS15, hu3⟩ := hR
  clear hc15
  have zhu3 := hu3.size; replace bD := bD.nx hu3; replace hS5 := hS5.nx hu3; replace bx := bx.nx hu3; replace hS8b := hS8b.nx hu3; replace hX := hX.trans hu3
  go_wp2_with fail
  refine (eqIntS_c A15 A5 c15 c5 _ ys _ hS15.row hS5.sl.row (Nat.le_refl _) hy).mono ?_
  rintro e wg ⟨rfl, hxg⟩
  have zhxg := hxg.size; replace bD := bD.nx hxg; replace hS5 := hS5.nx hxg; replace bx := bx.nx hxg; replace hS8b := hS8b.nx hxg; replace hX := hX.trans hxg
  go_wp2_with fail
  refine (heldIntS_c A8 ys.length c8 1 _ _ hS8b.sl.row hy (by omega)).mono ?_
  rintro e w' ⟨rfl, rfl⟩
  rw [Hq3.out]
  go_wp2
  go_ret
  exact ⟨rfl, hX⟩
end Go.Proofs.Ytjefjngheolmkaa
/- Rows of marks of the call's own that grow by one; what rows of ints and rows of marks are behind a store into another block. Conditions: at most 1048576 elements. -/
namespace Go.Proofs.Ytjefjngheolmkaa
set_option linter.unusedVariables false
set_option maxRecDepth 100000
open Go.RowKit

def mV (ms : List Mrk) : List Value := ms.flatMap fun m => [.string m.1, .int .i64 m.2]
theorem mV_snoc (ms : List Mrk) (m : Mrk) : mV (ms ++ [m]) = mV ms ++ [.string m.1, .int .i64 m.2] := by
  unfold mV; rw [List.flatMap_append]; simp
theorem mV_get : ∀ (ms : List Mrk) (i : Nat), i < ms.length * 2 → (mV ms)[i]? = some (mrAt ms i)
  | [], i, h => by simp at h
  | m :: ms, i, h => by
    show ([_, _] ++ mV ms)[i]? = _
    by_cases hi : i < 2
    · rw [List.getElem?_append_left (by simpa using hi)]
      match i, hi with
      | 0, _ => rfl
      | 1, _ => rfl
    · rw [List.getElem?_append_right (by simpa using hi)]
      show (mV ms)[i - 2]? = _
      rw [mV_get ms (i - 2) (by simp at h; omega)]
      have e1 : (i - 2) % 2 = i % 2 := by omega
      have e2 : i / 2 = (i - 2) / 2 + 1 := by omega
      unfold mrAt
      rw [e1, e2, List.getD_cons_succ]
/-- A row of marks of the call's own, from block B on. -/
def RowM (w : World) (B : Nat) (v : Value) (ms : List Mrk) : Prop := w.ownsRow B 122 2 v ms.length (mV ms)
theorem RowM.new (w : World) {B : Nat} (hB : B ≤ w.heap.size) : RowM (w.alloc (.cells #[] 122)) B (.slice (some ⟨w.heap.size, 0, none⟩) 0 0) [] :=
  ⟨rfl, .inr ⟨_, 0, #[], rfl, hB, heap_alloc_new w _, by simp, by unfold maxLen; omega, rfl, rfl⟩⟩
theorem RowM.nil (w : World) (B : Nat) : RowM w B (.slice none 0 0) [] := World.ownsRow_nil w B _ 2
theorem RowM.slc {w : World} {B : Nat} {v : Value} {ms : List Mrk} (h : RowM w B v ms) : ∃ A c, v = .slice A ms.length c ∧ ms.length ≤ c ∧ SlM w B A ms := by
  rcases h.2 with ⟨rfl, h0⟩ | ⟨g, cap, cur, rfl, hb, hg, hnc, _, hcs, htk⟩
  · exact ⟨none, 0, by rw [h0], by omega, fun hn => by omega⟩
  · refine ⟨_, cap, rfl, by omega, Sl.own ⟨cur, hg, by have := Nat.mul_le_mul_right 2 hnc; omega, fun i hi => ?_⟩ hb⟩
    have h1 : (cur.toList.take (ms.length * 2))[i]? = some (mrAt ms i) := by rw [htk]; exact mV_get ms i hi
    rw [List.getElem?_take_of_lt hi] at h1
    simpa using h1
section
variable {w w' : World} {B : Nat} {v : Value} {ms : List Mrk} {xs : List Int}
theorem RowM.nx (h : RowM w B v ms) (hb : Nx w w') : RowM w' B v ms := by
  refine World.ownsRow.kept (row := none) h ⟨hb.os, hb.tape, hb.output, hb.size, fun i hi _ => hb.block i hi⟩ ?_
  cases hv : v.ownBlock with
  | none => exact .inl rfl
  | some g => exact .inr (by simp)
theorem RowM.rg {lo hi : Nat} (h : RowM w B v ms) (hr : Rg lo hi w w') (hh : hi ≤ B) : RowM w' B v ms := by
  rcases h.2 with ⟨rfl, h0⟩ | ⟨g, cap, cur, rfl, hb, hg, r⟩
  · exact ⟨h.1, .inl ⟨rfl, h0⟩⟩
  · have hlt := (World.ownsRow.lt h g rfl).2
    exact ⟨h.1, .inr ⟨g, cap, cur, rfl, hb, (hr.block g hlt (.inr (by omega))).trans hg, r⟩⟩
theorem RowM.ne {g : Nat} {t : TypeId} {ys : Array Value} (h : RowM w B v ms) (hb : Box w g t ys) (ht : t ≠ 122) : some g ≠ v.ownBlock := by
  intro he
  rcases h.2 with ⟨rfl, _⟩ | ⟨g', cap, cur, rfl, _, hg, _⟩
  · simp [Value.ownBlock] at he
  · obtain rfl : g = g' := by simpa [Value.ownBlock] using he
    unfold Box at hb
    rw [hg] at hb
    injection hb with hb
    injection hb with _ hb
    exact ht hb.symm
theorem RowM.far {p : Addr} {t : TypeId} {ys : Array Value} (h : RowM w B v ms) (hb : Box w p.block t ys) (ht : t ≠ 122) (u : Value) : RowM (w.setCell p u) B v ms := by
  have hne := h.ne hb ht
  rcases h.2 with ⟨rfl, h0⟩ | ⟨g, cap, cur, rfl, hb', hg, r⟩
  · exact ⟨h.1, .inl ⟨rfl, h0⟩⟩
  · exact ⟨h.1, .inr ⟨g, cap, cur, rfl, hb', (Below.heap_setCell w p u g (fun e => hne (by rw [e]; rfl))).trans hg, r⟩⟩
theorem RowI.far {p : Addr} {t : TypeId} {ys : Array Value} (h : RowI w B v xs) (hb : Box w p.block t ys) (ht : t ≠ 3) (u : Value) : RowI (w.setCell p u) B v xs := by
  have hne := h.ne hb ht
  rcases h.2 with ⟨rfl, h0⟩ | ⟨g, cap, cur, rfl, hb', hg, r⟩
  · exact ⟨h.1, .inl ⟨rfl, h0⟩⟩
  · exact ⟨h.1, .inr ⟨g, cap, cur, rfl, hb', (Below.heap_setCell w p u g (fun e => hne (by rw [e]; rfl))).trans hg, r⟩⟩
theorem RowM.grew {t : TypeId} {B' : Nat} (h : RowM w B v ms) (hg : GrewT t B' w w') (ht : t ≠ 122) : RowM w' B v ms := by
  rcases h.2 with ⟨rfl, h0⟩ | ⟨g, cap, cur, rfl, hb', hgc, r⟩
  · exact ⟨h.1, .inl ⟨rfl, h0⟩⟩
  · exact ⟨h.1, .inr ⟨g, cap, cur, rfl, hb', hg.box g _ cur (fun e => ht e.symm) hgc, r⟩⟩
theorem RowI.grew {t : TypeId} {B' : Nat} (h : RowI w B v xs) (hg : GrewT t B' w w') (ht : t ≠ 3) : RowI w' B v xs := by
  rcases h.2 with ⟨rfl, h0⟩ | ⟨g, cap, cur, rfl, hb', hgc, r⟩
  · exact ⟨h.1, .inl ⟨rfl, h0⟩⟩
  · exact ⟨h.1, .inr ⟨g, cap, cur, rfl, hb', hg.box g _ cur (fun e => ht e.symm) hgc, r⟩⟩
end
set_option maxHeartbeats 1000000 in
/-- append of one mark, at one operation of a drawn region. -/
theorem wp_addM {w : World} {o : Oper} {a : Act} {K : Act → World → Prop} {Q : Exit → Act → World → Prop}
    (s x : Operand) (ho : o.op = .call { callee := .builtin .append, args := #[s, x], argTypes := #[52, 52] })
    (B gd : Nat) (v : Value) (ms : List Mrk) (m : Mrk) (hs : a.eval s = v) (hx : a.eval x = .slice (some ⟨gd, 0, none⟩) 1 1) (hown : RowM w B v ms) (hbx : Box w gd 122 #[.string m.1, .int .i64 m.2])
    (hl : ms.length ≤ 1048576) (hB : B ≤ w.heap.size)
    (hK : ∀ A' k' w', RowM w' B (.slice A' (ms.length + 1) k') (ms ++ [m]) → GrewT 122 B w w' → K (a.put o.dst (.slice A' (ms.length + 1) k')) w') :
    o.wp Try.prog a w K Q := by
  obtain ⟨i0, hi0, hz0, hz1, hz2⟩ := info_parts info_mk
  refine wp_append_own w s x 52 ho B 122 i0 _ 2 24 Try.underlying52 hi0 hz0 hz1 hz2 rfl (by omega) v ms.length _ hs hown ⟨gd, 0, none⟩ 1 1 [.string m.1, .int .i64 m.2] hx rfl (fun j u hj => ?_) (fun u hu => by simp only [List.mem_cons, List.not_mem_nil, or_false] at hu; rcases hu with rfl | rfl <;> rfl) (by unfold maxLen; omega) (by omega) hB ?_
  · rw [addr_add', Nat.zero_add, hbx.cell j]
    rw [← hj]
    rcases j with _ | _ | j <;> simp
  · intro v' w' hw' hg' _
    have hr : RowM w' B v' (ms ++ [m]) := by
      unfold RowM
      rw [mV_snoc, List.length_append]
      exact hw'
    obtain ⟨A', k', rfl, _⟩ := hr.slc
    rw [List.length_append] at hr ⊢
    have hrow : ∀ k, Value.ownBlock v = some k → B ≤ k := fun k hk => (World.ownsRow.lt hown k hk).1
    refine hK A' k' w' hr ⟨fun b hb hbB => Below.grown hb hg' hb.size (fun k hk => Nat.le_trans hbB (hrow k hk)), fun lo hi b hb hbB => ?_, fun g t xs' ht hbg => hbg.grown hg' (hown.ne hbg ht), hg'.size⟩
    refine ⟨hg'.os.trans hb.os, hg'.tape.trans hb.tape, hg'.output.trans hb.output, Nat.le_trans hb.size hg'.size, fun k hk hr => (hg'.block k (Nat.lt_of_lt_of_le hk hb.size) fun e => ?_).trans (hb.block k hk hr)⟩
    have := hrow k e.symm
    omega
end Go.Proofs.Ytjefjngheolmkaa
/- Contracts of the model's source of choices: a byte, one of n, a chance; what it leaves is its own block alone. Conditions: the code can be read, and holds at most 1048576 bytes. -/
namespace Go.Proofs.Ytjefjngheolmkaa
set_option linter.unusedVariables false
set_option maxRecDepth 100000
open Go.ChangeShapes Go.WideShapes Go.RowKit Go.Deep

/-- A slice of bytes that is read. -/
def u8At (ys : List Nat) (i : Nat) : Value := .int .u8 ((ys.getD i 0 : Nat) : Int)
def U8s (w : World) (B : Nat) (A : Option Addr) (n : Nat) (ys : List Nat) : Prop := ys.length = n ∧ (∀ i, ys.getD i 0 < 256) ∧ Row w B A n (u8At ys)
section
variable {w w' : World} {B B' n : Nat} {A : Option Addr} {ys : List Nat}
theorem U8s.below (h : U8s w B A n ys) (hb : Below B' w w') (hB : B ≤ B') : U8s w' B A n ys := ⟨h.1, h.2.1, h.2.2.below hb hB⟩
theorem U8s.more (h : U8s w B A n ys) (hB : B ≤ B') : U8s w B' A n ys := ⟨h.1, h.2.1, h.2.2.more hB⟩
theorem U8s.rg {lo hi : Nat} (h : U8s w B A n ys) (hb : Rg lo hi w w') (hB : B ≤ lo) (hl : lo ≤ w.heap.size) : U8s w' B A n ys := h.below (hb.below hl) hB
theorem U8s.at_ {k : Nat} (h : U8s w B A n ys) (hk : k < n) : ∃ b off, A = some ⟨b, off, none⟩ ∧ b < B ∧ w.cell? ⟨b, off + k, none⟩ = some (.int .u8 ((ys.getD k 0 : Nat) : Int)) := by
  obtain ⟨b, off, e, hb, hc⟩ := h.2.2 (by omega)
  exact ⟨b, off, e, hb, hc k hk⟩
end
section
variable {w : World} {g : Nat} {t : TypeId} {v0 v1 v2 : Value}
theorem Box.d0 (h : Box w g t #[v0, v1, v2]) : w.cell? ⟨g, 0, none⟩ = some v0 := h.cell 0
theorem Box.d1 (h : Box w g t #[v0, v1, v2]) : w.cell? ⟨g, 1, none⟩ = some v1 := h.cell 1
theorem Box.d2 (h : Box w g t #[v0, v1, v2]) : w.cell? ⟨g, 2, none⟩ = some v2 := h.cell 2
theorem Box.put1 (h : Box w g t #[v0, v1, v2]) (u : Value) : Box (w.setCell ⟨g, 1, none⟩ u) g t #[v0, u, v2] := by
  unfold Box at h ⊢
  simp [World.setCell, Array.getElem?_modify, h]
theorem Box.put2 (h : Box w g t #[v0, v1, v2]) (u : Value) : Box (w.setCell ⟨g, 2, none⟩ u) g t #[v0, v1, u] := by
  unfold Box at h ⊢
  simp [World.setCell, Array.getElem?_modify, h]
end

/-- A byte of a source: what it is, and the source's state then. -/
def byteP (ys : List Nat) (a sd : Nat) : Nat × Nat × Nat :=
  if a + 1 ≤ ys.length then (ys.getD a 0, a + 1, (sd * 31 + ys.getD a 0 + 7) % 2147483648)
  else if 3000 < a + 1 then (0, a + 1, sd)
  else ((sd * 1103515245 + 12345) % 2147483648 / 65536 % 256, a + 1, (sd * 1103515245 + 12345) % 2147483648)
theorem byteP_lt {ys : List Nat} {a sd b a' sd' : Nat} (hy : ∀ i, ys.getD i 0 < 256) (hs : sd < 2147483648) (h : byteP ys a sd = (b, a', sd')) : b < 256 ∧ a' = a + 1 ∧ sd' < 2147483648 := by
  unfold byteP at h
  have := hy a
  split at h
  · cases h; omega
  · split at h <;> cases h <;> omega
def Src (w : World) (g : Nat) (A : Option Addr) (n c a sd : Nat) : Prop := Box w g 128 #[.slice A n c, .int .i64 a, .int .i64 sd]

set_option maxRecDepth 100000 in
set_option maxHeartbeats 1000000 in
theorem byte_c (g : Nat) (A : Option Addr) (n c a sd B : Nat) (ys : List Nat) (b a' sd' : Nat) (w : World) (hb : Src w g A n c a sd) (h : U8s w B A n ys) (hB : B ≤ g) (hn : n ≤ 1048576) (ha : a ≤ 1048576) (hs : sd < 2147483648)
    (HP : byteP ys a sd = (b, a', sd')) :
    Calls Try.prog 123 #[.pointer (some ⟨g, 0, none⟩)] w fun e w' => e = .returned (.int .i64 b) ∧ Src w' g A n c a' sd' ∧ Rg g (g + 1) w w' := by
  unfold Src at *
  have c0 := hb.d0
  have c1 := hb.d1
  have c2 := hb.d2
  have f1 := hb.frozen 1
  have f2 := hb.frozen 2
  have hr1 := (Rg.of_nx (lo := g) (hi := g + 1) (Nx.refl w)).setCell (p := ⟨g, 1, none⟩) (Nat.le_refl _) (Nat.lt_succ_self _) (.int .i64 ((a : Int) + 1))
  have hbs := hb.put1 (.int .i64 ((a : Int) + 1))
  have h1 := h.rg hr1 hB (Nat.le_of_lt hb.lt)
  go_enter Try.func123, Try.ntmps123
  go_wp2
  generalize w.setCell ⟨g, 1, none⟩ (.int .i64 ((a : Int) + 1)) = w1 at *
  clear c0 c1 c2 f1 f2 h
  have c0 := hbs.d0
  have c1 := hbs.d1
  have c2 := hbs.d2
  have f2 := hbs.frozen 2
  by_cases hlt : a < n
  · obtain ⟨b0, off, rfl, hb0, hc⟩ := h1.at_ hlt
    unfold byteP at HP
    rw [if_pos (by rw [h1.1]; omega)] at HP
    have hy := h1.2.1 a
    generalize ys.getD a 0 = y at *
    cases HP
    go_quiet (fail)
    have hr2 : Rg g (g + 1) w (w1.drewN nq) := hr1.trans (Rg.of_nx ((Nx.refl w1).drewN nq))
    have hb2 : Box (w1.drewN nq) g 128 #[.slice (some ⟨b0, off, none⟩) n c, .int .i64 ((a : Int) + 1), .int .i64 sd] := hbs
    have hc2 : (w1.drewN nq).cell? ⟨b0, off + a, none⟩ = some (.int .u8 (b : Int)) := hc
    clear c0 c1 c2 f2 hc hbs hr1 h1
    generalize w1.drewN nq = w2 at *
    have c0 := hb2.d0
    have c1 := hb2.d1
    have c2 := hb2.d2
    have f2 := hb2.frozen 2
    go_wp2_with fail
    go_still_tail 23, (by kernel_rfl)
    have e1 : IntKind.i64.wrap (a : Int) = a := IntWalk.i64_in _ (by omega)
    have e2 : IntKind.i64.wrap ((sd : Int) * 31) = (sd : Int) * 31 := IntWalk.i64_in _ (by omega)
    have e0 : IntKind.i64.wrap (b : Int) = b := IntWalk.i64_in _ (by omega)
    have e3 : IntKind.i64.wrap ((sd : Int) * 31 + b) = (sd : Int) * 31 + b := IntWalk.i64_in _ (by omega)
    have e4 : IntKind.i64.wrap ((sd : Int) * 31 + b + 7) = (sd : Int) * 31 + b + 7 := IntWalk.i64_in _ (by omega)
    have e6 : ((sd : Int) * 31 + b + 7).tmod 2147483648 = ((sd : Int) * 31 + b + 7) % 2147483648 := Int.tmod_eq_emod_of_nonneg (by omega)
    repeat (first | still_step | rw [e1] | rw [e2])
    try refine wpStill_nil ?_
    change wpList _ _ _ _ _ w2.drew
    have e5 : ((sd : Int) * 31 + b + 7) % 2147483648 = (((sd * 31 + b + 7) % 2147483648 : Nat) : Int) := by omega
    first | rw [e6, e5] | rw [e5]
    have hr3 : Rg g (g + 1) w w2.drew := hr2.trans (Rg.of_nx (Nx.refl w2).drew)
    have hb3 : Box w2.drew g 128 #[.slice (some ⟨b0, off, none⟩) n c, .int .i64 ((a : Int) + 1), .int .i64 sd] := hb2
    have hc3 : w2.drew.cell? ⟨b0, off + a, none⟩ = some (.int .u8 (b : Int)) := hc2
    clear c0 c1 c2 f2 hc2 hb2 hr2 e0 e2 e3 e4 e5 e6
    generalize w2.drew = w3 at *
    have c2 := hb3.d2
    have f2 := hb3.frozen 2
    generalize hs' : (sd * 31 + b + 7) % 2147483648 = s'
    have Hs := Lib.hid hs'
    clear hs'
    have hb4 := hb3.put2 (.int .i64 (s' : Int))
    have hc4 : (w3.setCell ⟨g, 2, none⟩ (.int .i64 (s' : Int))).cell? ⟨b0, off + a, none⟩ = some (.int .u8 (b : Int)) := by rw [World.cell?_setCell_far _ _ _ _ (by simp; omega)]; exact hc3
    have hr4 := hr3.setCell (p := ⟨g, 2, none⟩) (Nat.le_refl _) (Nat.lt_succ_self _) (.int .i64 (s' : Int))
    go_wp2_with fail
    clear c2 f2 hc3 hb3 hr3
    generalize w3.setCell ⟨g, 2, none⟩ (.int .i64 (s' : Int)) = w4 at *
    have c0 := hb4.d0
    have c1 := hb4.d1
    go_quiet (fail)
    go_wp2
    go_ret
    refine ⟨rfl, ?_, hr4.trans (Rg.of_nx ((Nx.refl w4).drewN nq))⟩
    rw [Hs.out]
    exact hb4
  · unfold byteP at HP
    rw [if_neg (by rw [h1.1]; omega)] at HP
    by_cases h3 : 3000 < a + 1
    · rw [if_pos h3] at HP
      cases HP
      have h3' : decide ((3000 : Int) < (a : Int) + 1) = true := by simp; omega
      clear h3
      go_quiet (fail)
      go_wp2
      go_ret
      exact ⟨rfl, hbs, hr1.trans (Rg.of_nx ((Nx.refl w1).drewN nq))⟩
    · rw [if_neg h3] at HP
      have H3 := (Prod.mk.inj (Prod.mk.inj HP).2).2
      have H2 := (Prod.mk.inj (Prod.mk.inj HP).2).1
      have H1 := (Prod.mk.inj HP).1
      clear HP
      rw [H3] at H1
      have e6 : ((sd : Int) * 1103515245 + 12345).tmod 2147483648 = (sd' : Int) := by rw [Int.tmod_eq_emod_of_nonneg (by omega)]; omega
      have hsd' : sd' < 2147483648 := by omega
      have K1 := Lib.hid H1
      clear H3 H1
      subst H2
      have h3' : decide ((3000 : Int) < (a : Int) + 1) = false := by simp; omega
      clear h3
      go_quiet (fail)
      have hr2 : Rg g (g + 1) w (w1.drewN nq) := hr1.trans (Rg.of_nx ((Nx.refl w1).drewN nq))
      have hb2 : Box (w1.drewN nq) g 128 #[.slice A n c, .int .i64 ((a : Int) + 1), .int .i64 sd] := hbs
      clear c0 c1 c2 f2 hbs hr1 h1
      generalize w1.drewN nq = w2 at *
      have c0 := hb2.d0
      have c1 := hb2.d1
      have c2 := hb2.d2
      have f2 := hb2.frozen 2
      go_wp2
      go_ret
      exact ⟨ret_int (by have := K1.out; omega), hb2.put2 _, hr2.setCell (p := ⟨g, 2, none⟩) (Nat.le_refl _) (Nat.lt_succ_self _) _⟩

set_option maxRecDepth 100000 in
set_option maxHeartbeats 1000000 in
theorem next_c (m g : Nat) (A : Option Addr) (n c a sd B : Nat) (ys : List Nat) (b a' sd' : Nat) (w : World) (hm : 2 ≤ m) (hm2 : m ≤ 256) (hb : Src w g A n c a sd) (h : U8s w B A n ys) (hB : B ≤ g) (hn : n ≤ 1048576) (ha : a ≤ 1048576) (hs : sd < 2147483648)
    (HP : byteP ys a sd = (b, a', sd')) :
    Calls Try.prog 111 #[.pointer (some ⟨g, 0, none⟩), .int .i64 m] w fun e w' => e = .returned (.int .i64 ((b % m : Nat) : Int)) ∧ Src w' g A n c a' sd' ∧ Rg g (g + 1) w w' := by
  have HH := Lib.hid HP
  have hb2 := (byteP_lt h.2.1 hs HP).1
  clear HP
  go_enter Try.func111, Try.ntmps111
  go_wp2_with fail
  refine (byte_c g A n c a sd B ys b a' sd' _ hb h hB hn ha hs HH.out).mono ?_
  rintro e w1 ⟨rfl, h1, hr⟩
  go_wp2
  go_ret
  exact ⟨ret_int (by omega), h1, hr⟩

set_option maxRecDepth 100000 in
set_option maxHeartbeats 1000000 in
theorem chance_c (m g : Nat) (A : Option Addr) (n c a sd B : Nat) (ys : List Nat) (b a' sd' : Nat) (w : World) (hm : 2 ≤ m) (hm2 : m ≤ 256) (hb : Src w g A n c a sd) (h : U8s w B A n ys) (hB : B ≤ g) (hn : n ≤ 1048576) (ha : a ≤ 1048576) (hs : sd < 2147483648)
    (HP : byteP ys a sd = (b, a', sd')) :
    Calls Try.prog 112 #[.pointer (some ⟨g, 0, none⟩), .int .i64 m] w fun e w' => e = .returned (.bool (decide (b % m = m - 1))) ∧ Src w' g A n c a' sd' ∧ Rg g (g + 1) w w' := by
  have HH := Lib.hid HP
  have hb2 := (byteP_lt h.2.1 hs HP).1
  clear HP
  go_enter Try.func112, Try.ntmps112
  go_wp2_with fail
  refine (next_c m g A n c a sd B ys b a' sd' _ hm hm2 hb h hB hn ha hs HH.out).mono ?_
  rintro e w1 ⟨rfl, h1, hr⟩
  go_wp2
  all_goals (go_ret; refine ⟨ret_bool ?_, h1, hr⟩; rw [Bool.eq_iff_iff]; simp; omega)

set_option maxRecDepth 100000 in
set_option maxHeartbeats 1000000 in
theorem l00Source_c (A : Option Addr) (n c : Nat) (w : World) (hn : n ≤ 1048576) :
    Calls Try.prog 72 #[.slice A n c] w fun e w' => e = .returned (.pointer (some ⟨w.heap.size, 0, none⟩)) ∧ Src w' w.heap.size A n c 0 (n % 1000) ∧ Nx w w' := by
  go_enter Try.func72, Try.ntmps72
  go_wp2
  go_ret
  refine ⟨rfl, ?_, (Nx.refl w).alloc _⟩
  unfold Src
  rw [show (((n % 1000 : Nat) : Int)) = (n : Int) % 1000 from by omega]
  exact Box.new w _ _
end Go.Proofs.Ytjefjngheolmkaa
/- A list of bytes that comes in, opened. Conditions: none. -/
namespace Go.Proofs.Ytjefjngheolmkaa
set_option linter.unusedVariables false
set_option maxRecDepth 100000
open Go.ChangeShapes Go.WideShapes Go.RowKit Go.Deep

theorem addr_plain8 {w : World} {a : Addr} {v : Value} (h : w.cell? (a.add 0) = some v) : ∃ b off, a = ⟨b, off, none⟩ ∧ b < w.heap.size := by
  have h' : w.cell? a = some v := by simpa [Addr.add] using h
  have hs := World.cell?_spot h'
  obtain ⟨b, off, sp⟩ := a
  simp only at hs
  subst hs
  exact ⟨b, off, rfl, World.block_lt_of_cell? w _ h'⟩
theorem addr_add8 (b off i : Nat) : (Addr.mk b off none).add i = ⟨b, off + i, none⟩ := by
  unfold Addr.add
  by_cases h : i = 0
  · subst h; simp
  · simp [h]
theorem c5_ : Try.prog.cellsOf 5 = 1 := by kernel_rfl
theorem u8_wf {n : Int} (h : (Lit.int .u8 n).wf = true) : 0 ≤ n ∧ n < 256 := by
  have h2 : IntKind.u8.min ≤ n ∧ n ≤ IntKind.u8.max := by simpa [Lit.wf] using h
  have e1 : IntKind.u8.min = 0 := by decide
  have e2 : IntKind.u8.max = 255 := by decide
  omega
set_option maxRecDepth 100000 in
theorem open_u8s_ {H : Type} {enc : TypeId × Value → H} {w : World} {base : Nat} {spare : Nat → Bool} {held : Bool} {r : Reach} {b0 : Nat} {v : Value} {d : DataW H} {p : List MemPlace}
    (hv : Value.okWide Try.prog w r b0 59 v) (h : DataW.Trod enc Try.prog w base spare held 59 v d p) :
    ∃ (A : Option Addr) (n c : Nat) (ys : List Nat), v = .slice A n c ∧ U8s w w.heap.size A n ys ∧ n ≤ 2 ^ 63 - 1 := by
  obtain ⟨a0, len0, cap0, rfl⟩ := okWide_slice Try.underlying59 hv
  obtain ⟨fuel, hf⟩ := h
  rcases open_slice Try.underlying59 hf with ⟨hcs, _⟩ | ⟨a, len, cap, m, n, D, Pl, hcs, _, hl, hm, hmm, _, hi⟩
  · simp [Value.cells] at hcs
    obtain ⟨rfl, rfl, rfl⟩ := hcs
    exact ⟨none, 0, 0, [], rfl, ⟨rfl, fun i => by simp, fun hn => absurd hn (by omega)⟩, by omega⟩
  · simp [Value.cells] at hcs
    obtain ⟨rfl, rfl, rfl⟩ := hcs
    have hle : len0 ≤ m := by rw [hmm]; split <;> omega
    unfold maxLen at hm
    have key : ∀ i, ∃ q : Nat, q < 256 ∧ (i < m → w.cell? (a.add i) = some (.int .u8 (q : Int))) := by
      intro i
      by_cases him : i < m
      · obtain ⟨cs', hc, ht⟩ := hi i him
        rw [c5_, Nat.mul_one] at hc
        obtain ⟨_, hcl, hat⟩ := World.cells?_some hc
        obtain ⟨q, e, _, hw⟩ := DataW.trod_int Try.underlying5 ht
        subst e
        obtain ⟨h1, h2⟩ := u8_wf hw
        refine ⟨q.toNat, by omega, fun _ => ?_⟩
        have := hat 0 (by omega)
        rw [show ((q.toNat : Nat) : Int) = q by omega]
        simpa [Addr.add] using this
      · exact ⟨0, by omega, fun h => absurd h him⟩
    obtain ⟨g, hg⟩ := Classical.skolem.1 key
    refine ⟨some a, len0, cap0, (List.range len0).map g, rfl, ⟨by simp, fun i => ?_, fun hn => ?_⟩, by omega⟩
    · rw [List.getD_eq_getElem?_getD, List.getElem?_map]
      by_cases hi' : i < len0
      · rw [List.getElem?_range hi']; exact (hg i).1
      · rw [List.getElem?_eq_none (by simpa using hi')]; simp
    · obtain ⟨b, off, rfl, hb⟩ := addr_plain8 ((hg 0).2 (by omega))
      refine ⟨b, off, rfl, hb, fun i hi => ?_⟩
      have h1 := (hg i).2 (by omega)
      rw [addr_add8] at h1
      rw [h1]
      unfold u8At
      rw [List.getD_eq_getElem?_getD, List.getElem?_map, List.getElem?_range hi]; rfl
end Go.Proofs.Ytjefjngheolmkaa
/- A source of choices of which only the reach is known; drawn frames. Conditions: the code can be read, and holds at most 1048576 bytes. -/
namespace Go.Proofs.Ytjefjngheolmkaa
set_option linter.unusedVariables false
set_option maxRecDepth 100000
open Go.RowKit

theorem Rg.setNew8 {lo hi : Nat} {a w : World} (h : Rg lo hi a w) {p : Addr} (h1 : a.heap.size ≤ p.block) (v : Value) : Rg lo hi a (w.setCell p v) := ⟨h.os, h.tape, h.output, by have := h.size; simp only [World.setCell, Array.size_modify]; exact this, fun k hk hr => (Below.heap_setCell _ _ _ _ (by omega)).trans (h.block k hk hr)⟩
/-- A source, at most k bytes on. -/
def SrcR (w : World) (g : Nat) (A : Option Addr) (n c k : Nat) : Prop := ∃ a sd, a ≤ k ∧ sd < 2147483648 ∧ Src w g A n c a sd
theorem SrcR.nx {w w' : World} {g n c k : Nat} {A : Option Addr} (h : SrcR w g A n c k) (hb : Nx w w') : SrcR w' g A n c k := by
  obtain ⟨a, sd, h1, h2, h3⟩ := h
  unfold Src at h3
  exact ⟨a, sd, h1, h2, h3.nx hb⟩
theorem SrcR.lt {w : World} {g n c k : Nat} {A : Option Addr} (h : SrcR w g A n c k) : g < w.heap.size := by
  obtain ⟨a, sd, h1, h2, h3⟩ := h
  unfold Src at h3
  exact h3.lt
theorem SrcR.more {w : World} {g n c k k' : Nat} {A : Option Addr} (h : SrcR w g A n c k) (hk : k ≤ k') : SrcR w g A n c k' := by
  obtain ⟨a, sd, h1, h2, h3⟩ := h
  exact ⟨a, sd, by omega, h2, h3⟩
def RetV (m : Nat) (g : Nat) (A : Option Addr) (n c k : Nat) (w : World) (e : Ending) (w' : World) : Prop :=
  ∃ v : Nat, e = .returned (.int .i64 (v : Int)) ∧ v < m ∧ SrcR w' g A n c (k + 3) ∧ Rg g (g + 1) w w'
set_option maxHeartbeats 1000000 in
theorem byteR_c (g : Nat) (A : Option Addr) (n c k B : Nat) (ys : List Nat) (w : World) (hb : SrcR w g A n c k) (h : U8s w B A n ys) (hB : B ≤ g) (hn : n ≤ 1048576) (hk : k ≤ 1048576) :
    Calls Try.prog 123 #[.pointer (some ⟨g, 0, none⟩)] w fun e w' => ∃ b : Nat, e = .returned (.int .i64 b) ∧ b < 256 ∧ SrcR w' g A n c (k + 1) ∧ Rg g (g + 1) w w' := by
  obtain ⟨a, sd, h1, h2, h3⟩ := hb
  obtain ⟨⟨b, a', sd'⟩, HP⟩ : ∃ x, byteP ys a sd = x := ⟨_, rfl⟩
  obtain ⟨k1, k2, k3⟩ := byteP_lt h.2.1 h2 HP
  exact (byte_c g A n c a sd B ys b a' sd' w h3 h hB hn (by omega) h2 HP).mono fun e w' ⟨he, hs, hr⟩ => ⟨b, he, k1, ⟨a', sd', by omega, k3, hs⟩, hr⟩
set_option maxRecDepth 100000 in
set_option maxHeartbeats 1000000 in
theorem nextR_c (m g : Nat) (A : Option Addr) (n c k B : Nat) (ys : List Nat) (w : World) (hm : 2 ≤ m) (hm2 : m ≤ 100000) (hb : SrcR w g A n c k) (h : U8s w B A n ys) (hB : B ≤ g) (hn : n ≤ 1048576) (hk : k + 3 ≤ 1048576) :
    Calls Try.prog 111 #[.pointer (some ⟨g, 0, none⟩), .int .i64 m] w (RetV m g A n c k w) := by
  by_cases h256 : m ≤ 256
  · obtain ⟨a, sd, h1, h2, h3⟩ := hb
    obtain ⟨⟨b, a', sd'⟩, HP⟩ : ∃ x, byteP ys a sd = x := ⟨_, rfl⟩
    obtain ⟨k1, k2, k3⟩ := byteP_lt h.2.1 h2 HP
    exact (next_c m g A n c a sd B ys b a' sd' w hm h256 h3 h hB hn (by omega) h2 HP).mono fun e w' ⟨he, hs, hr⟩ => ⟨b % m, he, Nat.mod_lt _ (by omega), ⟨a', sd', by omega, k3, hs⟩, hr⟩
  · go_enter Try.func111, Try.ntmps111
    go_wp2_with fail
    refine (byteR_c g A n c k B ys _ hb h hB hn (by omega)).mono ?_
    rintro e w1 ⟨x, rfl, hx, h1, hr1⟩
    have hu1 := h.rg hr1 hB (Nat.le_of_lt hb.lt)
    go_wp2_with fail
    refine (byteR_c g A n c (k + 1) B ys _ h1 hu1 hB hn (by omega)).mono ?_
    rintro e w2 ⟨y, rfl, hy, h2, hr2⟩
    have hu2 := hu1.rg hr2 hB (Nat.le_of_lt h1.lt)
    go_wp2_with fail
    refine (byteR_c g A n c (k + 1 + 1) B ys _ h2 hu2 hB hn (by omega)).mono ?_
    rintro e w3 ⟨z, rfl, hz, h3, hr3⟩
    go_wp2
    go_ret
    exact ⟨(x * 65536 + y * 256 + z) % m, ret_int (by rw [show (x : Int) * 65536 + (y : Int) * 256 + (z : Int) = ((x * 65536 + y * 256 + z : Nat) : Int) by omega, ← Int.natCast_emod]), Nat.mod_lt _ (by omega), h3, (hr1.trans hr2).trans hr3⟩
set_option maxRecDepth 100000 in
set_option maxHeartbeats 2000000 in
theorem frameN_c (g : Nat) (A : Option Addr) (n c B : Nat) (ys : List Nat) (w : World) (hb : SrcR w g A n c 0) (h : U8s w B A n ys) (hB : B ≤ g) (hn : n ≤ 1048576) :
    Calls Try.prog 86 #[.pointer (some ⟨g, 0, none⟩)] w fun e w' => ∃ q0 q1 q2 q3 : Nat, e = .returned (.agg #[.int .i64 q0, .int .i64 q1, .int .i64 q2, .int .i64 q3]) ∧ (1 ≤ q0 ∧ q0 ≤ 20 ∧ q1 < 8 ∧ q2 < 900 ∧ q3 < 200) ∧ Rg g (g + 1) w w' := by
  have hz0 := hb.lt
  have b0 := Box.new w 40 #[.int .i64 0, .int .i64 0, .int .i64 0, .int .i64 0]
  have hx0 := (Nx.refl w).alloc (.cells #[.int .i64 0, .int .i64 0, .int .i64 0, .int .i64 0] 40)
  have s0 := hb.nx hx0
  have u0 := h.below hx0 (by omega)
  have r0 : Rg g (g + 1) w (w.alloc (.cells #[.int .i64 0, .int .i64 0, .int .i64 0, .int .i64 0] 40)) := Rg.of_nx hx0
  clear hb h hx0
  go_enter Try.func86, Try.ntmps86
  go_wp2_with fail
  generalize w.alloc (.cells #[.int .i64 0, .int .i64 0, .int .i64 0, .int .i64 0] 40) = W at *
  refine (nextR_c 20 g A n c 0 B ys _ (by omega) (by omega) s0 u0 hB hn (by omega)).mono ?_
  rintro e w1 ⟨v0, rfl, hv0, s1, r1⟩
  have b1 := b0.rg r1 (.inr (by omega))
  have u1 := u0.rg r1 hB (Nat.le_of_lt s0.lt)
  have t1 := r0.trans r1
  clear b0 u0 r0 r1 s0
  go_wp2_with fail
  refine (nextR_c 8 g A n c (0 + 3) B ys _ (by omega) (by omega) s1 u1 hB hn (by omega)).mono ?_
  rintro e w2 ⟨v1, rfl, hv1, s2, r2⟩
  have b2 := b1.rg r2 (.inr (by omega))
  have u2 := u1.rg r2 hB (Nat.le_of_lt s1.lt)
  have t2 := t1.trans r2
  clear b1 u1 t1 r2 s1
  go_wp2_with fail
  refine (nextR_c 900 g A n c (0 + 3 + 3) B ys _ (by omega) (by omega) s2 u2 hB hn (by omega)).mono ?_
  rintro e w3 ⟨v2, rfl, hv2, s3, r3⟩
  have b3 := b2.rg r3 (.inr (by omega))
  have u3 := u2.rg r3 hB (Nat.le_of_lt s2.lt)
  have t3 := t2.trans r3
  clear b2 u2 t2 r3 s2
  go_wp2_with fail
  refine (nextR_c 200 g A n c (0 + 3 + 3 + 3) B ys _ (by omega) (by omega) s3 u3 hB hn (by omega)).mono ?_
  rintro e w4 ⟨v3, rfl, hv3, s4, r4⟩
  have b4 := b3.rg r4 (.inr (by omega))
  have t4 := t3.trans r4
  clear b3 u3 t3 r4 s3
  obtain ⟨c0, c1, c2, c3⟩ := b4.d4
  have f0 := b4.frozen 0
  have f1 := b4.frozen 1
  have f2 := b4.frozen 2
  have f3 := b4.frozen 3
  go_wp2
  have q := put4_box b4 (.int .i64 (1 + (v0 : Int))) (.int .i64 v1) (.int .i64 v2) (.int .i64 v3)
  have hnf := (((t4.setNew8 (p := ⟨w.heap.size, 0, none⟩) (Nat.le_refl _) (.int .i64 (1 + (v0 : Int)))).setNew8 (p := ⟨w.heap.size, 1, none⟩) (Nat.le_refl _) (.int .i64 v1)).setNew8 (p := ⟨w.heap.size, 2, none⟩) (Nat.le_refl _) (.int .i64 v2)).setNew8 (p := ⟨w.heap.size, 3, none⟩) (Nat.le_refl _) (.int .i64 v3)
  change Rg _ _ _ (put4 w4 w.heap.size (.int .i64 (1 + (v0 : Int))) (.int .i64 v1) (.int .i64 v2) (.int .i64 v3)) at hnf
  change bodyPost _ _ _ _ _ (put4 w4 w.heap.size (.int .i64 (1 + (v0 : Int))) (.int .i64 v1) (.int .i64 v2) (.int .i64 v3))
  generalize put4 w4 w.heap.size (.int .i64 (1 + (v0 : Int))) (.int .i64 v1) (.int .i64 v2) (.int .i64 v3) = Wf at *
  obtain ⟨g0, g1, g2, g3⟩ := q.d4
  refine bodyPost_ret (v := .agg #[.int .i64 (1 + (v0 : Int)), .int .i64 v1, .int .i64 v2, .int .i64 v3]) (by simp [results, Try.results86, go_sem, g0, g1, g2, g3]) rfl ⟨1 + v0, v1, v2, v3, ?_, by omega, hnf⟩
  rw [show (1 : Int) + (v0 : Int) = ((1 + v0 : Nat) : Int) by omega]
set_option maxRecDepth 100000 in
set_option maxHeartbeats 1000000 in
theorem frameDrawnN_c (A : Option Addr) (n c : Nat) (ys : List Nat) (w : World) (h : U8s w w.heap.size A n ys) (hn : n ≤ 1048576) :
    Calls Try.prog 41 #[.slice A n c] w fun e w' => ∃ q0 q1 q2 q3 : Nat, e = .returned (.agg #[.int .i64 q0, .int .i64 q1, .int .i64 q2, .int .i64 q3]) ∧ (1 ≤ q0 ∧ q0 ≤ 20 ∧ q1 < 8 ∧ q2 < 900 ∧ q3 < 200) ∧ Nx w w' := by
  go_enter Try.func41, Try.ntmps41
  go_wp2_with fail
  have b0 := Box.new w 40 #[.int .i64 0, .int .i64 0, .int .i64 0, .int .i64 0]
  have hx0 := (Nx.refl w).alloc (.cells #[.int .i64 0, .int .i64 0, .int .i64 0, .int .i64 0] 40)
  have u0 := h.below hx0 (Nat.le_refl _)
  generalize w.alloc (.cells #[.int .i64 0, .int .i64 0, .int .i64 0, .int .i64 0] 40) = W at *
  have hz := b0.lt
  refine (l00Source_c A n c _ hn).mono ?_
  rintro e w1 ⟨rfl, s1, hnx1⟩
  have u1 := u0.below hnx1 (by omega)
  go_wp2_with fail
  refine (frameN_c W.heap.size A n c w.heap.size ys _ ⟨0, n % 1000, by omega, by omega, s1⟩ u1 (by omega) hn).mono ?_
  rintro e w2 ⟨q0, q1, q2, q3, rfl, hf, r2⟩
  have HF := Lib.hid hf
  clear hf
  have b2 := (b0.nx hnx1).rg r2 (.inl hz)
  have hx2 := Rg.nx_of (hx0.trans hnx1) r2 (by omega)
  clear u0 u1 b0 hx0 hnx1 r2 s1
  obtain ⟨c0, c1, c2, c3⟩ := b2.d4
  have f0 := b2.frozen 0
  have f1 := b2.frozen 1
  have f2 := b2.frozen 2
  have f3 := b2.frozen 3
  go_wp2
  have q := put4_box b2 (.int .i64 q0) (.int .i64 q1) (.int .i64 q2) (.int .i64 q3)
  have hnf := put4_nx hx2 (Nat.le_refl w.heap.size) (.int .i64 q0) (.int .i64 q1) (.int .i64 q2) (.int .i64 q3)
  change bodyPost _ _ _ _ _ (put4 w2 w.heap.size (.int .i64 q0) (.int .i64 q1) (.int .i64 q2) (.int .i64 q3))
  generalize put4 w2 w.heap.size (.int .i64 q0) (.int .i64 q1) (.int .i64 q2) (.int .i64 q3) = Wf at *
  obtain ⟨g0, g1, g2, g3⟩ := q.d4
  exact bodyPost_ret (v := .agg #[.int .i64 q0, .int .i64 q1, .int .i64 q2, .int .i64 q3]) (by simp [results, Try.results41, go_sem, g0, g1, g2, g3]) rfl ⟨q0, q1, q2, q3, rfl, HF.out, hnf⟩
end Go.Proofs.Ytjefjngheolmkaa
/- What a source is behind a store into another block, and behind another row's growth. Conditions: none. -/
namespace Go.Proofs.Ytjefjngheolmkaa
set_option linter.unusedVariables false
set_option maxRecDepth 100000
open Go.RowKit

section
variable {w w' : World}
theorem SrcR.farU {g n c k : Nat} {A : Option Addr} (h : SrcR w g A n c k) {p : Addr} (hp : g ≠ p.block) (u : Value) : SrcR (w.setCell p u) g A n c k := by
  obtain ⟨a, sd, h1, h2, h3⟩ := h
  unfold Src at h3
  exact ⟨a, sd, h1, h2, h3.far hp u⟩
theorem SrcR.grew {t : TypeId} {B' g n c k : Nat} {A : Option Addr} (h : SrcR w g A n c k) (hg : GrewT t B' w w') (ht : t ≠ 128) : SrcR w' g A n c k := by
  obtain ⟨a, sd, h1, h2, h3⟩ := h
  unfold Src at h3
  exact ⟨a, sd, h1, h2, hg.box _ _ _ (fun e => ht e.symm) h3⟩
end
end Go.Proofs.Ytjefjngheolmkaa
