/-
  Contracts of the laws' functions on lists of bools, and a list of bools that comes in, opened.
  Conditions: what is read can be read, and holds at most 1048576 elements.
-/
import Derived.Test.YtnjhbikppfgccaaBase
import Derived.Deep.QuietTactic
import Derived.BigQuiet
import Derived.Deep.Slices
import Derived.ChangeSame
import Derived.Outline
namespace Go.Proofs.Ytnjhbikppfgccaa
set_option linter.unusedVariables false
open Go.ChangeShapes Go.WideShapes Go.RowKit Go.Deep

theorem info_bool : (Try.prog.info? 4).map (fun i => (i.zero, i.size, i.bytes)) = some (some (.bool false), 1, 1) := by kernel_rfl
def OwnB (w : World) (g : Nat) (bs : List Bool) : Prop := Own w g 4 bs.length (blAt bs)
def SrB (w : World) (lo hi : Nat) (A : Option Addr) (n : Nat) (bs : List Bool) : Prop := bs.length = n ∧ (0 < n → ∃ g, A = some ⟨g, 0, none⟩ ∧ lo ≤ g ∧ g < hi ∧ OwnB w g bs)
section
variable {w w' : World} {lo hi n a b : Nat} {A : Option Addr} {bs : List Bool}
theorem SrB.nx (h : SrB w lo hi A n bs) (hb : Nx w w') : SrB w' lo hi A n bs := ⟨h.1, fun hn => by obtain ⟨g, e, hl, hh, ho⟩ := h.2 hn; exact ⟨g, e, hl, hh, Own.nx ho hb⟩⟩
theorem SrB.rg (h : SrB w lo hi A n bs) (hb : Rg a b w w') (hd : hi ≤ a ∨ b ≤ lo) : SrB w' lo hi A n bs := ⟨h.1, fun hn => by obtain ⟨g, e, hl, hh, ho⟩ := h.2 hn; exact ⟨g, e, hl, hh, Own.rg ho hb (by omega)⟩⟩
theorem SrB.bls (h : SrB w lo hi A n bs) : Bls w w.heap.size A n bs := ⟨h.1, fun hn => by
  obtain ⟨g, e, hl, hh, ho⟩ := h.2 hn
  subst e
  have := Own.row ho (Own.lt ho)
  rw [h.1] at this
  exact this hn⟩
end
def RetB (w : World) (bs : List Bool) (e : Ending) (w' : World) : Prop := ∃ (A : Option Addr) (n c : Nat), e = .returned (.slice A n c) ∧ SrB w' w.heap.size w'.heap.size A n bs ∧ Nx w w'

set_option maxHeartbeats 1000000 in
theorem toBoolS_c (A : Option Addr) (n c B : Nat) (bs : List Bool) (w : World) (h : Bls w B A n bs) (hB : B ≤ w.heap.size) (hn : n ≤ 1048576) :
    Calls Try.prog 39 #[.slice A n c] w (RetB w bs) := by
  obtain ⟨i0, hi0, hz0, hz1, hz2⟩ := info_parts info_bool
  have hmk := fun W => run_make_rowN (P := Try.prog) 36 4 i0 _ Try.underlying36 hi0 hz0 .i64 .i64 n n (Nat.le_refl _) (by rw [hz2]; omega) (by omega) W
  rw [hz1] at hmk
  have hmade := Own.made w #[Value.bool false] n 4
  go_enter Try.func39, Try.ntmps39
  go_wp2
  go_loopw [4] (fun i wr => ∃ k : Nat, k ≤ n ∧ i = .int .i64 k ∧ Fill wr w.heap.size 4 n k (blAt bs) ∧ Nx w wr) (fun i _ => n - (intOf i).toNat)
  case atStart => exact ⟨0, Nat.zero_le _, rfl, Fill.start hmade, (Nx.refl _).alloc _⟩
  case round =>
    obtain ⟨k, hk, rfl, hf, hnx⟩ := hrel
    by_cases hlt : k < n
    · obtain ⟨b, off, rfl, hb, hc⟩ := (h.below hnx hB).at_ hlt
      obtain ⟨v, hv⟩ := hf.some_ hlt
      have hz := hf.frozen k
      clear hmk hmade
      obtain ⟨s, Hs⟩ : ∃ s, Hid (bs.getD k false = s) := ⟨_, rfl⟩
      rw [Hs.out] at hc
      go_wp2
      go_roundw
      case rel => exact ⟨k + 1, by omega, by go_num, hf.step hlt (by unfold blAt; rw [Hs.out]), hnx.setCell (Nat.le_refl _) _⟩
      case measure => simp [intOf]; omega
    · obtain rfl : k = n := by omega
      go_wp2
      go_ret
      refine ⟨_, k, k, rfl, ⟨h.1, fun _ => ⟨_, rfl, Nat.le_refl _, hf.lt, ?_⟩⟩, hnx⟩
      unfold OwnB
      rw [h.1]
      exact hf.done

set_option maxHeartbeats 1000000 in
theorem eqBoolS_c (A A2 : Option Addr) (n c c2 B : Nat) (bs : List Bool) (w : World) (h : Bls w B A n bs) (h2 : Bls w B A2 n bs) (hB : B ≤ w.heap.size) (hn : n ≤ 1048576) :
    Calls Try.prog 40 #[.slice A n c, .slice A2 n c2] w fun e w' => e = .returned (.bool true) ∧ Nx w w' := by
  go_enter Try.func40, Try.ntmps40
  go_wp2
  go_loopw [5] (fun i wr => ∃ k : Nat, k ≤ n ∧ i = .int .i64 k ∧ Nx w wr) (fun i _ => n - (intOf i).toNat)
  case atStart => exact ⟨0, Nat.zero_le _, rfl, Nx.refl _⟩
  case round =>
    obtain ⟨k, hk, rfl, hnx⟩ := hrel
    by_cases hlt : k < n
    · obtain ⟨b, off, rfl, hb, hc⟩ := (h.below hnx hB).at_ hlt
      obtain ⟨b2, off2, rfl, hb2, hc2⟩ := (h2.below hnx hB).at_ hlt
      generalize bs.getD k false = s at hc hc2
      go_wp2
      go_quiet (fail)
      go_wp2
      go_roundw
      case rel => exact ⟨k + 1, by omega, by go_num, hnx.drewN _⟩
      case measure => simp [intOf]; omega
    · go_wp2
      go_ret
      exact ⟨rfl, hnx⟩

set_option maxHeartbeats 1000000 in
theorem markBoolS_c (A : Option Addr) (n c k lo hi : Nat) (bs : List Bool) (w : World) (h : SrB w lo hi A n bs) (hi' : hi ≤ w.heap.size) (hn : n ≤ 1048576) (hk : k ≤ 1099500000000) :
    Calls Try.prog 41 #[.slice A n c, .int .i64 k] w fun e w' => e = .returned (.int .i64 ((k + n : Nat) : Int)) ∧ Rg lo hi w w' := by
  go_enter Try.func41, Try.ntmps41
  go_wp2
  go_loopw [1, 5] (fun q i wr => ∃ j : Nat, j ≤ n ∧ i = .int .i64 j ∧ q = .int .i64 ((k + j : Nat) : Int) ∧ (0 < n → ∃ g f, A = some ⟨g, 0, none⟩ ∧ lo ≤ g ∧ g < hi ∧ Own wr g 4 n f) ∧ Rg lo hi w wr) (fun _ i _ => n - (intOf i).toNat)
  case atStart =>
    refine ⟨0, Nat.zero_le _, rfl, rfl, fun hn0 => ?_, Rg.of_nx (Nx.refl _)⟩
    obtain ⟨g, e, h1, h2, ho⟩ := h.2 hn0
    unfold OwnB at ho
    rw [h.1] at ho
    exact ⟨g, _, e, h1, h2, ho⟩
  case round =>
    obtain ⟨j, hj, rfl, rfl, hf, hrg⟩ := hrel
    by_cases hlt : j < n
    · obtain ⟨g, f, rfl, hg1, hg2, ho⟩ := hf (by omega)
      obtain ⟨v, hv⟩ : ∃ v, wr.cell? ⟨g, j, none⟩ = some v := ⟨_, ho.cell hlt⟩
      have hz := ho.frozen j
      clear hf
      go_wp2
      go_roundw
      case rel => exact ⟨j + 1, by omega, by go_num, by go_num, fun _ => ⟨g, _, rfl, hg1, hg2, ho.set hlt _⟩, hrg.setCell hg1 hg2 _⟩
      case measure => simp [intOf]; omega
    · obtain rfl : j = n := by omega
      clear hf
      go_wp2
      go_ret
      exact ⟨rfl, hrg⟩

theorem c4_ : Try.prog.cellsOf 4 = 1 := by kernel_rfl
theorem addr_plain_ {w : World} {a : Addr} {v : Value} (h : w.cell? (a.add 0) = some v) : ∃ b off, a = ⟨b, off, none⟩ ∧ b < w.heap.size := by
  have h' : w.cell? a = some v := by simpa [Addr.add] using h
  have hs := World.cell?_spot h'
  obtain ⟨b, off, sp⟩ := a
  simp only at hs
  subst hs
  exact ⟨b, off, rfl, World.block_lt_of_cell? w _ h'⟩
theorem addr_add_ (b off i : Nat) : (Addr.mk b off none).add i = ⟨b, off + i, none⟩ := by
  unfold Addr.add
  by_cases h : i = 0
  · subst h; simp
  · simp [h]
theorem open_bools_ {H : Type} {enc : TypeId × Value → H} {w : World} {base : Nat} {spare : Nat → Bool} {held : Bool} {r : Reach} {b0 : Nat} {v : Value} {d : DataW H} {p : List MemPlace}
    (hv : Value.okWide Try.prog w r b0 36 v) (h : DataW.Trod enc Try.prog w base spare held 36 v d p) :
    ∃ (A : Option Addr) (n c : Nat) (bs : List Bool), v = .slice A n c ∧ Bls w w.heap.size A n bs ∧ n ≤ 2 ^ 63 - 1 := by
  obtain ⟨a0, len0, cap0, rfl⟩ := okWide_slice Try.underlying36 hv
  obtain ⟨fuel, hf⟩ := h
  rcases open_slice Try.underlying36 hf with ⟨hcs, _⟩ | ⟨a, len, cap, m, n, D, Pl, hcs, _, hl, hm, hmm, _, hi⟩
  · simp [Value.cells] at hcs
    obtain ⟨rfl, rfl, rfl⟩ := hcs
    exact ⟨none, 0, 0, [], rfl, ⟨rfl, fun hn => absurd hn (by omega)⟩, by omega⟩
  · simp [Value.cells] at hcs
    obtain ⟨rfl, rfl, rfl⟩ := hcs
    have hle : len0 ≤ m := by rw [hmm]; split <;> omega
    unfold maxLen at hm
    have key : ∀ i, ∃ q : Bool, i < m → w.cell? (a.add i) = some (.bool q) := by
      intro i
      by_cases him : i < m
      · obtain ⟨cs', hc, ht⟩ := hi i him
        rw [c4_, Nat.mul_one] at hc
        obtain ⟨_, hcl, hat⟩ := World.cells?_some hc
        obtain ⟨q, e, _⟩ := DataW.trod_bool Try.underlying4 ht
        subst e
        refine ⟨q, fun _ => ?_⟩
        have := hat 0 (by omega)
        simpa [Addr.add] using this
      · exact ⟨false, fun h => absurd h him⟩
    obtain ⟨g, hg⟩ := Classical.skolem.1 key
    refine ⟨some a, len0, cap0, (List.range len0).map g, rfl, ⟨by simp, fun hn => ?_⟩, by omega⟩
    obtain ⟨b, off, rfl, hb⟩ := addr_plain_ (hg 0 (by omega))
    refine ⟨b, off, rfl, hb, fun i hi => ?_⟩
    have h1 := hg i (by omega)
    rw [addr_add_] at h1
    rw [h1]
    unfold blAt
    rw [List.getD_eq_getElem?_getD, List.getElem?_map, List.getElem?_range hi]; rfl
end Go.Proofs.Ytnjhbikppfgccaa
