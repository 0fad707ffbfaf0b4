/-
  Numbers' digits: what they are, and the contract of the model's l00Digits.
  Conditions: the number is from 0 to 999999.
-/
import Derived.Test.YteckhdkghfidiaaDoorCore
import Derived.Deep.RegionWith
import Derived.Laws.IdiomStrings
import Derived.Laws.Concat
import Derived.IntWalk
namespace Go.Proofs.YteckhdkghfidiaaDoor
set_option linter.unusedVariables false
open Go.RowKit

/-- The digits of a number. -/
def digs (n : Nat) : List UInt8 := if n < 10 then [UInt8.ofNat (48 + n)] else digs (n / 10) ++ [UInt8.ofNat (48 + n % 10)]
/-- .. just so many. -/
def pad : Nat → Nat → List UInt8
  | 0, _ => []
  | k + 1, n => pad k (n / 10) ++ [UInt8.ofNat (48 + n % 10)]
theorem pad_len (k n : Nat) : (pad k n).length = k := by
  induction k generalizing n with
  | zero => rfl
  | succ k ih => simp [pad, ih]
theorem pad_zero (k : Nat) : pad k 0 = List.replicate k 48 := by
  induction k with
  | zero => rfl
  | succ k ih =>
    show pad k 0 ++ [48] = _
    rw [ih, List.replicate_succ']
theorem digs_lt {n : Nat} (h : n < 10) : digs n = [UInt8.ofNat (48 + n)] := by rw [digs, if_pos h]
theorem digs_ge {n : Nat} (h : ¬ n < 10) : digs n = digs (n / 10) ++ [UInt8.ofNat (48 + n % 10)] := by rw [digs, if_neg h]
theorem digs_pad (k : Nat) : ∀ n, n < 10 ^ (k + 1) → (digs n).length ≤ k + 1 ∧ List.replicate (k + 1 - (digs n).length) 48 ++ digs n = pad (k + 1) n := by
  induction k with
  | zero =>
    intro n h
    have h' : n < 10 := by simpa using h
    rw [digs_lt h']
    refine ⟨by simp, ?_⟩
    show _ = [] ++ [UInt8.ofNat (48 + n % 10)]
    rw [Nat.mod_eq_of_lt h']; simp
  | succ k ih =>
    intro n h
    by_cases h' : n < 10
    · rw [digs_lt h']
      refine ⟨by simp, ?_⟩
      show _ = pad (k + 1) (n / 10) ++ [UInt8.ofNat (48 + n % 10)]
      rw [Nat.mod_eq_of_lt h', Nat.div_eq_of_lt h', pad_zero]; simp
    · have h2 : n / 10 < 10 ^ (k + 1) := by
        rw [Nat.pow_succ] at h
        omega
      obtain ⟨hl, he⟩ := ih (n / 10) h2
      rw [digs_ge h']
      refine ⟨by simp; omega, ?_⟩
      show _ = pad (k + 1) (n / 10) ++ [UInt8.ofNat (48 + n % 10)]
      rw [← he, ← List.append_assoc]
      congr 2
      simp
theorem digs_len {n : Nat} (h : n ≤ 999999) : 1 ≤ (digs n).length ∧ (digs n).length ≤ 6 := by
  refine ⟨?_, (digs_pad 5 n (by omega)).1⟩
  by_cases h' : n < 10
  · rw [digs_lt h']; simp
  · rw [digs_ge h']; simp

theorem cv_one (y : Int) (hy : 0 ≤ y) (hy2 : y < 256) (W : World) (b : Nat) (h : W.cell? ⟨b, 0, none⟩ = some (.int .u8 y)) :
    (convert 91 9 (.slice (some ⟨b, 0, none⟩) 1 1)).run Tryd.prog W = .ok (.string ⟨#[UInt8.ofNat y.toNat]⟩) W := by
  have := run_convert_bytes_back (P := Tryd.prog) W 91 9 5 ⟨b, 0, none⟩ 1 [UInt8.ofNat y.toNat] Tryd.underlying91 Tryd.underlying5 Tryd.underlying9 (fun j hj => by
    obtain rfl : j = 0 := by simpa using hj
    have e : ((UInt8.ofNat y.toNat).toNat : Int) = y := by
      rw [UInt8.toNat_ofNat']
      omega
    simp only [List.getElem_cons_zero, e]
    simpa [Addr.add] using h)
  simpa using this
theorem Nx.cells {a w : World} (h : Nx a w) : ∀ b o, b < a.heap.size → w.cell? ⟨b, o, none⟩ = a.cell? ⟨b, o, none⟩ := fun b o hb => h.cell (p := ⟨b, o, none⟩) hb
theorem ret_str {a b : ByteArray} (h : a = b) : Ending.returned (.string a) = .returned (.string b) := by rw [h]

set_option maxRecDepth 100000 in
set_option maxHeartbeats 1000000 in
theorem l00Digits_c : ∀ (n : Nat) (w : World), n ≤ 999999 → Calls Tryd.prog 35 #[.int .i64 n] w fun e w' => e = .returned (.string ⟨(digs n).toArray⟩) ∧ Nx w w' := by
  intro n
  induction n using Nat.strongRecOn with
  | ind n ih =>
    intro w hn
    by_cases h' : n < 10
    · have hd : decide ((n : Int) < 10) = true := by simp; omega
      have hz : ((n : Int) == -9223372036854775808) = false := beq_eq_false_iff_ne.2 (by omega)
      have HD := Lib.hid (digs_lt h')
      have hcv := cv_one (48 + n) (by omega) (by omega)
      go_enter Tryd.func35, Tryd.ntmps35
      go_wp2
      go_ret
      refine ⟨ret_str ?_, (Nx.refl _).alloc _⟩
      rw [HD.out]
    · have hd : decide ((n : Int) < 10) = false := by simp; omega
      have hz : ((n : Int) == -9223372036854775808) = false := beq_eq_false_iff_ne.2 (by omega)
      have HD := Lib.hid (digs_ge h')
      obtain ⟨q, hq⟩ : ∃ q, n / 10 = q := ⟨_, rfl⟩
      obtain ⟨d, hd'⟩ : ∃ d, n % 10 = d := ⟨_, rfl⟩
      rw [hq, hd'] at HD
      have hd10 : d < 10 := by omega
      have ihq := ih q (by omega)
      have hq6 : q ≤ 999999 := by omega
      obtain ⟨hl1, hl2⟩ := digs_len hq6
      have hcv := cv_one (48 + d) (by omega) (by omega)
      have e1 : IntKind.i64.wrap ((n : Int) / 10) = (q : Int) := by
        rw [show (n : Int) / 10 = (q : Int) by omega]; exact IntWalk.i64_in _ (by omega)
      have e3 : (n : Int).tmod 10 = (d : Int) := by rw [Int.tmod_eq_emod_of_nonneg (by omega)]; omega
      have e4 : IntKind.i64.wrap (48 + (d : Int)) = 48 + d := IntWalk.i64_in _ (by omega)
      have e5 : IntKind.u8.wrap (48 + (d : Int)) = 48 + d := IntWalk.u8_in _ (by omega)
      clear hq hd' ih
      go_enter Tryd.func35, Tryd.ntmps35
      go_wp2_with fail
      go_region_with (go_at_call 35; refine (ihq _ hq6).mono ?_; rintro e w1 ⟨rfl, hnx1⟩; have hcl := hnx1.cells)
      all_goals
        clear e1 e3 e4 e5 hcv ihq hcl
        go_wp2
        go_ret
        refine ⟨ret_str ?_, ?_⟩
        · rw [HD.out, ByteArray.mk_append_mk]; simp
        · first
            | exact (Nx.drew_r hnx1).alloc _
            | exact ((Nx.refl w).alloc _).drew.trans hnx1
            | exact (((Nx.refl w).alloc _).drew.trans hnx1).drew
end Go.Proofs.YteckhdkghfidiaaDoor
