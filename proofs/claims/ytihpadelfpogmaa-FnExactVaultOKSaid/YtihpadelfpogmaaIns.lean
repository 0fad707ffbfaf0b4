/-
  Words on lists of ints in memory; contracts of the laws' functions on lists of ints, and of ContentOK, as the model and as the program have it.
  Conditions: what is read can be read, and holds at most 1048576 elements.
-/
import Derived.Test.YtihpadelfpogmaaFrm
import Derived.Deep.QuietTactic
import Derived.BigQuiet
namespace Go.Proofs.Ytihpadelfpogmaa
set_option linter.unusedVariables false
set_option maxRecDepth 100000
open Go.RowKit

def inAt (xs : List Int) (i : Nat) : Value := .int .i64 (xs.getD i 0)
/-- A list of ints that is read. -/
def Ins (w : World) (B : Nat) (A : Option Addr) (xs : List Int) : Prop := Row w B A xs.length (inAt xs)
theorem Ins.below {w w' : World} {B B' : Nat} {A : Option Addr} {xs : List Int} (h : Ins w B A xs) (hb : Below B' w w') (hB : B ≤ B') : Ins w' B A xs := Row.below h hb hB
theorem Ins.more {w : World} {B B' : Nat} {A : Option Addr} {xs : List Int} (h : Ins w B A xs) (hB : B ≤ B') : Ins w B' A xs := Row.more h hB
theorem Ins.at_ {w : World} {B k : Nat} {A : Option Addr} {xs : List Int} (h : Ins w B A xs) (hk : k < xs.length) :
    ∃ b off, A = some ⟨b, off, none⟩ ∧ b < B ∧ w.cell? ⟨b, off + k, none⟩ = some (.int .i64 (xs.getD k 0)) := by
  obtain ⟨b, off, e, hb, hc⟩ := h (by omega)
  exact ⟨b, off, e, hb, hc k hk⟩
/-- A list of ints in a block of the call's own. -/
abbrev SlI (w : World) (lo : Nat) (A : Option Addr) (xs : List Int) : Prop := Sl w lo A 3 xs.length (inAt xs)
def RetI (w : World) (xs : List Int) (e : Ending) (w' : World) : Prop := ∃ (A : Option Addr) (c : Nat), e = .returned (.slice A xs.length c) ∧ SlI w' w.heap.size A xs ∧ Nx w w'
theorem info_int : (Try.prog.info? 3).map (fun i => (i.zero, i.size, i.bytes)) = some (some (.int .i64 0), 1, 8) := by kernel_rfl

set_option maxHeartbeats 1000000 in
theorem toIntS_c (A : Option Addr) (c B : Nat) (xs : List Int) (w : World) (h : Ins w B A xs) (hB : B ≤ w.heap.size) (hn : xs.length ≤ 1048576) :
    Calls Try.prog 32 #[.slice A xs.length c] w (RetI w xs) := by
  obtain ⟨i0, hi0, hz0, hz1, hz2⟩ := info_parts info_int
  have hmk := fun W => run_make_rowN (P := Try.prog) 22 3 i0 _ Try.underlying22 hi0 hz0 .i64 .i64 xs.length xs.length (Nat.le_refl _) (by rw [hz2]; omega) (by omega) W
  rw [hz1] at hmk
  have hmade := Own.made w #[Value.int .i64 0] xs.length 3
  go_enter Try.func32, Try.ntmps32
  go_wp2
  go_loopw [4] (fun i wr => ∃ k : Nat, k ≤ xs.length ∧ i = .int .i64 k ∧ Fill wr w.heap.size 3 xs.length k (inAt xs) ∧ Nx w wr) (fun i _ => xs.length - (intOf i).toNat)
  case atStart => exact ⟨0, Nat.zero_le _, rfl, Fill.start hmade, (Nx.refl _).alloc _⟩
  case round =>
    obtain ⟨k, hk, rfl, hf, hnx⟩ := hrel
    by_cases hlt : k < xs.length
    · obtain ⟨b, off, rfl, hb, hc⟩ := (h.below hnx hB).at_ hlt
      obtain ⟨v, hv⟩ := hf.some_ hlt
      have hz := hf.frozen k
      clear hmk hmade
      obtain ⟨s, Hs⟩ : ∃ s, Hid (xs.getD k 0 = s) := ⟨_, rfl⟩
      rw [Hs.out] at hc
      go_wp2
      go_roundw
      case rel => exact ⟨k + 1, by omega, by go_num, hf.step hlt (by unfold inAt; rw [Hs.out]), hnx.setCell (Nat.le_refl _) _⟩
      case measure => simp [intOf]; omega
    · obtain rfl : k = xs.length := by omega
      go_wp2
      go_ret
      exact ⟨_, _, rfl, Sl.own hf.done (Nat.le_refl _), hnx⟩

set_option maxHeartbeats 1000000 in
theorem eqIntS_c (A A2 : Option Addr) (c c2 B : Nat) (xs : List Int) (w : World) (h : Ins w B A xs) (h2 : Ins w B A2 xs) (hB : B ≤ w.heap.size) (hn : xs.length ≤ 1048576) :
    Calls Try.prog 25 #[.slice A xs.length c, .slice A2 xs.length c2] w fun e w' => e = .returned (.bool true) ∧ Nx w w' := by
  go_enter Try.func25, Try.ntmps25
  go_wp2
  go_loopw [5] (fun i wr => ∃ k : Nat, k ≤ xs.length ∧ i = .int .i64 k ∧ Nx w wr) (fun i _ => xs.length - (intOf i).toNat)
  case atStart => exact ⟨0, Nat.zero_le _, rfl, Nx.refl _⟩
  case round =>
    obtain ⟨k, hk, rfl, hnx⟩ := hrel
    by_cases hlt : k < xs.length
    · obtain ⟨b, off, rfl, hb, hc⟩ := (h.below hnx hB).at_ hlt
      obtain ⟨b2, off2, rfl, hb2, hc2⟩ := (h2.below hnx hB).at_ hlt
      generalize xs.getD k 0 = s at hc hc2
      go_wp2
      go_quiet (fail)
      go_wp2
      go_roundw
      case rel => exact ⟨k + 1, by omega, by go_num, hnx.drewN _⟩
      case measure => simp [intOf]; omega
    · go_wp2
      go_ret
      exact ⟨rfl, hnx⟩

def mkAt (k i : Nat) : Value := .int .i64 ((k + i : Nat) : Int)
def FillI (w : World) (lo hi : Nat) (A : Option Addr) (n j k : Nat) : Prop := 0 < n → ∃ g, A = some ⟨g, 0, none⟩ ∧ lo ≤ g ∧ g < hi ∧ Fill w g 3 n j (mkAt k)
set_option maxHeartbeats 1000000 in
theorem markIntS_c (A : Option Addr) (n c k lo hi : Nat) (f : Nat → Value) (w : World) (h : Sr w lo hi A 3 n f) (hn : n ≤ 1048576) (hk : k ≤ 1048576) :
    Calls Try.prog 27 #[.slice A n c, .int .i64 k] w fun e w' => e = .returned (.int .i64 ((k + n : Nat) : Int)) ∧ Sr w' lo hi A 3 n (mkAt k) ∧ Rg lo hi w w' := by
  have HS : FillI w lo hi A n 0 k := fun hn0 => by
    obtain ⟨g, e, h1, h2, ho⟩ := h (by omega)
    exact ⟨g, e, h1, h2, Fill.start ho⟩
  go_enter Try.func27, Try.ntmps27
  go_wp2
  go_loopw [1, 5] (fun q i wr => ∃ j : Nat, j ≤ n ∧ i = .int .i64 j ∧ q = .int .i64 ((k + j : Nat) : Int) ∧ FillI wr lo hi A n j k ∧ Rg lo hi w wr) (fun _ i _ => n - (intOf i).toNat)
  case atStart => exact ⟨0, Nat.zero_le _, rfl, rfl, HS, Rg.of_nx (Nx.refl _)⟩
  case round =>
    obtain ⟨j, hj, rfl, rfl, hf, hrg⟩ := hrel
    clear HS
    by_cases hlt : j < n
    · obtain ⟨g, rfl, hg1, hg2, hfill⟩ := hf (by omega)
      obtain ⟨v0, hv0⟩ := hfill.some_ (i := j) (by omega)
      have hz0 := hfill.frozen j
      clear hf
      go_wp2
      go_roundw
      case rel => exact ⟨j + 1, by omega, by go_num, by go_num, fun _ => ⟨g, rfl, hg1, hg2, hfill.step hlt rfl⟩, hrg.setCell hg1 hg2 _⟩
      case measure => simp [intOf]; omega
    · obtain rfl : j = n := by omega
      go_wp2
      go_ret
      refine ⟨rfl, fun hn0 => ?_, hrg⟩
      obtain ⟨g, e, h1, h2, ho⟩ := hf (by omega)
      exact ⟨g, e, h1, h2, ho.done⟩
set_option maxHeartbeats 1000000 in
theorem heldIntS_c (A : Option Addr) (n c k B : Nat) (w : World) (h : Row w B A n (mkAt k)) (hn : n ≤ 1048576) (hk : k ≤ 1048576) :
    Calls Try.prog 28 #[.slice A n c, .int .i64 k] w fun e w' => e = .returned (.int .i64 ((k + n : Nat) : Int)) ∧ w = w' := by
  go_enter Try.func28, Try.ntmps28
  go_wp2
  go_loop [1, 5] (fun q i => ∃ j : Nat, j ≤ n ∧ i = .int .i64 j ∧ q = .int .i64 ((k + j : Nat) : Int)) (fun _ i => n - (intOf i).toNat)
  case atStart => exact ⟨0, Nat.zero_le _, rfl, rfl⟩
  case round =>
    obtain ⟨j, hj, rfl, rfl⟩ := hrel
    by_cases hlt : j < n
    · obtain ⟨b, off, rfl, hb, hc⟩ := h (by omega)
      have c0 : w.cell? ⟨b, off + j, none⟩ = some (.int .i64 ((k + j : Nat) : Int)) := hc j hlt
      obtain ⟨q, Hq⟩ : ∃ q, Hid (k + j = q) := ⟨_, rfl⟩
      have hq9 : q ≤ 8000000 := by have := Hq.out; omega
      rw [Hq.out] at c0 ⊢
      clear hc
      go_wp2
      go_round
      case rel => exact ⟨j + 1, by omega, by go_num, by rw [show k + (j + 1) = q + 1 by have := Hq.out; omega]; go_num⟩
      case measure => simp [intOf]; omega
    · obtain rfl : j = n := by omega
      go_wp2
      go_ret
      exact ⟨rfl, rfl⟩

/-- What a content is. -/
def contB (xs : List Int) : Bool := decide (xs.length = 8) && xs.all (inB 0 999999)
def InTo (xs : List Int) (k : Nat) : Prop := ∀ j, j < k → inB 0 999999 (xs.getD j 0) = true
theorem InTo.zero (xs : List Int) : InTo xs 0 := fun j h => absurd h (by omega)
theorem InTo.succ {xs : List Int} {k : Nat} (h : InTo xs k) (hk : inB 0 999999 (xs.getD k 0) = true) : InTo xs (k + 1) := fun j hj => by
  rcases Nat.lt_or_ge j k with hlt | hge
  · exact h j hlt
  · obtain rfl : j = k := by omega
    exact hk
theorem InTo.all {xs : List Int} (h : InTo xs xs.length) : xs.all (inB 0 999999) = true := List.all_eq_true.2 fun x hx => by
  obtain ⟨j, hj, rfl⟩ := List.mem_iff_getElem.1 hx
  have := h j hj
  rwa [List.getD_eq_getElem?_getD, List.getElem?_eq_getElem hj] at this
theorem contB_no {xs : List Int} {k : Nat} (hk : k < xs.length) (h : inB 0 999999 (xs.getD k 0) = false) : contB xs = false := by
  unfold contB
  rw [show xs.all (inB 0 999999) = false from List.all_eq_false.2 ⟨xs[k], List.getElem_mem _, by rw [List.getD_eq_getElem?_getD, List.getElem?_eq_getElem hk] at h; simp only [Option.getD_some] at h; simp [h]⟩]
  simp
theorem contB_len {xs : List Int} (h : xs.length ≠ 8) : contB xs = false := by unfold contB; rw [decide_eq_false h]; rfl
theorem contB_mk {xs : List Int} (h : xs.length = 8) (h2 : InTo xs xs.length) : contB xs = true := by unfold contB; rw [decide_eq_true h, h2.all]; rfl
theorem contB_yes {xs : List Int} (h : contB xs = true) : xs.length = 8 ∧ ∀ k, k < 8 → 0 ≤ xs.getD k 0 ∧ xs.getD k 0 ≤ 999999 := by
  unfold contB at h
  simp only [Bool.and_eq_true, decide_eq_true_eq, List.all_eq_true] at h
  refine ⟨h.1, fun k hk => inB_yes ?_⟩
  have hk' : k < xs.length := by omega
  rw [List.getD_eq_getElem?_getD, List.getElem?_eq_getElem hk']
  exact h.2 _ (List.getElem_mem _)
end Go.Proofs.Ytihpadelfpogmaa
