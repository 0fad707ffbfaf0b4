/-
  Contract of the program's padded: a number's digits, just so many.
  Conditions: the number is from 0 to 999999, and at most six digits are asked for.
-/
import Derived.Test.YteckhdkghfidiaaDoorSix
namespace Go.Proofs.YteckhdkghfidiaaDoor
set_option linter.unusedVariables false
open Go.RowKit

def padAt (k n i : Nat) : Nat := 48 + n / 10 ^ (k - 1 - i) % 10
theorem pad_get (k : Nat) : ∀ n i, i < k → (pad k n)[i]? = some (UInt8.ofNat (padAt k n i)) := by
  induction k with
  | zero => intro n i h; omega
  | succ k ih =>
    intro n i h
    show (pad k (n / 10) ++ [UInt8.ofNat (48 + n % 10)])[i]? = _
    by_cases hi : i < k
    · rw [List.getElem?_append_left (by rw [pad_len]; exact hi), ih _ _ hi]
      unfold padAt
      rw [Nat.div_div_eq_div_mul, show k + 1 - 1 - i = (k - 1 - i) + 1 by omega, Nat.pow_succ, Nat.mul_comm]
    · obtain rfl : i = k := by omega
      rw [List.getElem?_append_right (by rw [pad_len]; omega), pad_len, Nat.sub_self]
      unfold padAt
      simp
def digAt (k n i : Nat) : Value := .int .u8 ((padAt k n i : Nat) : Int)
theorem info_u8 : (Tryd.prog.info? 5).map (fun i => (i.zero, i.size, i.bytes)) = some (some (.int .u8 0), 1, 1) := by kernel_rfl
/-- A row that is filled from its end. -/
def Back (w : World) (g : Nat) (t : TypeId) (m r : Nat) (F : Nat → Value) : Prop := ∃ f, Own w g t m f ∧ ∀ i, r ≤ i → i < m → f i = F i
theorem Back.step {w : World} {g : Nat} {t : TypeId} {m k : Nat} {F : Nat → Value} (h : Back w g t m (k + 1) F) (hk : k < m) {v : Value} (hv : v = F k) : Back (w.setCell ⟨g, k, none⟩ v) g t m k F := by
  obtain ⟨f, h, hf⟩ := h
  refine ⟨_, h.set hk v, fun i hi hm => ?_⟩
  by_cases e : i = k
  · subst e; simp [hv]
  · simp only [if_neg e]; exact hf i (by omega) hm
theorem back_conv {W : World} {g k n : Nat} (h : Back W g 5 k 0 (digAt k n)) :
    (convert 91 9 (.slice (some ⟨g, 0, none⟩) k k)).run Tryd.prog W = .ok (.string ⟨(pad k n).toArray⟩) W := by
  obtain ⟨f, h, hf⟩ := h
  have := run_convert_bytes_back (P := Tryd.prog) W 91 9 5 ⟨g, 0, none⟩ k (pad k n) Tryd.underlying91 Tryd.underlying5 Tryd.underlying9 (fun j hj => by
    rw [pad_len] at hj
    have e : ((Addr.mk g 0 none).add j) = ⟨g, j, none⟩ := by
      unfold Addr.add
      by_cases h : j = 0
      · subst h; simp
      · simp [h]
    rw [e, h.cell hj, hf j (by omega) hj]
    have e2 := pad_get k n j hj
    rw [List.getElem?_eq_getElem (by rw [pad_len]; exact hj)] at e2
    injection e2 with e2
    rw [e2]
    unfold digAt
    have h3 : padAt k n j < 58 := by unfold padAt; omega
    have e3 : (UInt8.ofNat (padAt k n j)).toNat = padAt k n j := by
      rw [UInt8.toNat_ofNat']
      omega
    rw [e3])
  rw [pad_len] at this
  exact this

set_option maxHeartbeats 1000000 in
theorem padded_c (n k : Nat) (w : World) (hn : n ≤ 999999) (hk1 : 1 ≤ k) (hk6 : k ≤ 6) :
    Calls Tryd.prog 63 #[.int .i64 n, .int .i64 k] w fun e w' => e = .returned (.string ⟨(pad k n).toArray⟩) ∧ Nx w w' := by
  obtain ⟨i0, hi0, hz0, hz1, hz2⟩ := info_parts info_u8
  have hmk := fun W => run_make_rowN (P := Tryd.prog) 91 5 i0 _ Tryd.underlying91 hi0 hz0 .i64 .i64 k k (Nat.le_refl _) (by rw [hz2]; omega) (by omega) W
  rw [hz1] at hmk
  have hmade := Own.made w #[Value.int .u8 0] k 5
  go_enter Tryd.func63, Tryd.ntmps63
  go_wp2
  go_loopw [0, 6] (fun v i wr => ∃ r : Nat, r ≤ k ∧ i = .int .i64 ((r : Int) - 1) ∧ v = .int .i64 ((n / 10 ^ (k - r) : Nat) : Int) ∧ Back wr w.heap.size 5 k r (digAt k n) ∧ Nx w wr) (fun _ i _ => (intOf i + 1).toNat)
  case atStart => exact ⟨k, Nat.le_refl _, rfl, by simp, ⟨_, hmade, fun i h1 h2 => by omega⟩, (Nx.refl _).alloc _⟩
  case round =>
    obtain ⟨r, hr, rfl, rfl, hb, hnx⟩ := hrel
    clear hmk hmade
    rcases Nat.eq_zero_or_pos r with h0 | hp
    · subst h0
      have hcv := back_conv hb
      go_wp2
      go_ret
      exact ⟨rfl, hnx⟩
    · obtain ⟨j, rfl⟩ : ∃ j, r = j + 1 := ⟨r - 1, by omega⟩
      rw [show ((j + 1 : Nat) : Int) - 1 = (j : Int) by omega]
      obtain ⟨m, Hm⟩ : ∃ m, Hid (n / 10 ^ (k - (j + 1)) = m) := ⟨_, rfl⟩
      rw [Hm.out]
      have hm : m ≤ 999999 := by rw [← Hm.out]; exact Nat.le_trans (Nat.div_le_self _ _) hn
      have hm1 : (m : Int) % 10 ≤ 9 := by omega
      have hm2 : 0 ≤ (m : Int) % 10 := by omega
      have hjk : j < k := by omega
      have hjk' : (j : Int) < (k : Int) := by omega
      obtain ⟨v, hv⟩ : ∃ v, wr.cell? ⟨w.heap.size, j, none⟩ = some v := by obtain ⟨f, h, _⟩ := hb; exact ⟨_, h.cell hjk⟩
      have hz : wr.frozen? ⟨w.heap.size, j, none⟩ = false := by obtain ⟨f, h, _⟩ := hb; exact h.frozen j
      go_wp2
      go_roundw
      case rel =>
        refine ⟨j, by omega, rfl, ?_, hb.step hjk ?_, hnx.setCell (Nat.le_refl _) _⟩
        · rw [show k - j = (k - (j + 1)) + 1 by omega, Nat.pow_succ, ← Nat.div_div_eq_div_mul, Hm.out]; go_num
        · unfold digAt padAt; rw [show k - 1 - j = k - (j + 1) by omega, Hm.out]; go_num
      case measure => simp [intOf]
end Go.Proofs.YteckhdkghfidiaaDoor
