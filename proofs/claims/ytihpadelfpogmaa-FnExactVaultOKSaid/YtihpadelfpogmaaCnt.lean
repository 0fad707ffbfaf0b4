/-
  Contracts of ContentOK, as the model and as the program have it: both answer the same bool.
  Conditions: the list can be read, and holds at most 1048576 elements.
-/
import Derived.Test.YtihpadelfpogmaaIns
namespace Go.Proofs.Ytihpadelfpogmaa
set_option linter.unusedVariables false
set_option maxRecDepth 100000
open Go.RowKit

set_option maxHeartbeats 1000000 in
theorem specContentOK_c (A : Option Addr) (c B : Nat) (xs : List Int) (w : World) (h : Ins w B A xs) (hB : B ≤ w.heap.size) (hn : xs.length ≤ 1048576) :
    Calls Try.prog 72 #[.slice A xs.length c] w fun e w' => e = .returned (.bool (contB xs)) ∧ Nx w w' := by
  by_cases hl : 4096 < xs.length
  · have hd : decide (4096 < (xs.length : Int)) = true := by simp; omega
    have HR := Lib.hid (contB_len (xs := xs) (by omega)).symm
    go_enter Try.func72, Try.ntmps72
    go_wp2
    go_ret
    exact ⟨ret_bool HR.out, Nx.refl _⟩
  have hd : decide (4096 < (xs.length : Int)) = false := by simp; omega
  go_enter Try.func72, Try.ntmps72
  go_wp2
  go_loopw [3] (fun i wr => ∃ k : Nat, k ≤ xs.length ∧ i = .int .i64 k ∧ InTo xs k ∧ Nx w wr) (fun i _ => xs.length - (intOf i).toNat)
  case atStart => exact ⟨0, Nat.zero_le _, rfl, InTo.zero _, Nx.refl _⟩
  case round =>
    obtain ⟨k, hk, rfl, hto, hnx⟩ := hrel
    by_cases hlt : k < xs.length
    · obtain ⟨b, off, rfl, hb, hc⟩ := (h.below hnx hB).at_ hlt
      obtain ⟨s, Hs⟩ : ∃ s, Hid (xs.getD k 0 = s) := ⟨_, rfl⟩
      rw [Hs.out] at hc
      cases hx : inB 0 999999 s with
      | false =>
        have HX := Lib.hid hx
        have HR := Lib.hid (contB_no hlt (by rw [Hs.out]; exact hx)).symm
        clear hx
        go_wp2_with (go_at_call 122; refine (l01In_c _ _ _ _).mono ?_; rintro e w' ⟨rfl, rfl⟩; rw [HX.out])
        go_ret
        exact ⟨ret_bool HR.out, hnx⟩
      | true =>
        have HX := Lib.hid hx
        clear hx
        go_wp2_with (go_at_call 122; refine (l01In_c _ _ _ _).mono ?_; rintro e w' ⟨rfl, rfl⟩; rw [HX.out])
        go_roundw
        case rel => exact ⟨k + 1, by omega, by go_num, hto.succ (by rw [Hs.out]; exact HX.out), hnx⟩
        case measure => simp [intOf]; omega
    · obtain rfl : k = xs.length := by omega
      by_cases h8 : xs.length = 8
      · have HR := Lib.hid (contB_mk h8 hto).symm
        have he : ((xs.length : Int) == 8) = true := by rw [h8]; rfl
        go_wp2
        go_ret
        exact ⟨ret_bool HR.out, hnx⟩
      · have HR := Lib.hid (contB_len h8).symm
        have he : ((xs.length : Int) == 8) = false := by simp; omega
        go_wp2
        go_ret
        exact ⟨ret_bool HR.out, hnx⟩

set_option maxHeartbeats 1000000 in
theorem implContentOK_c (A : Option Addr) (c B : Nat) (xs : List Int) (w : World) (h : Ins w B A xs) (hB : B ≤ w.heap.size) (hn : xs.length ≤ 1048576) :
    Calls Try.prog 53 #[.slice A xs.length c] w fun e w' => e = .returned (.bool (contB xs)) ∧ Nx w w' := by
  by_cases h8 : xs.length = 8
  case neg =>
    have hd : ((xs.length : Int) != 8) = true := by simp; omega
    have HR := Lib.hid (contB_len (xs := xs) h8).symm
    go_enter Try.func53, Try.ntmps53
    go_wp2
    go_ret
    exact ⟨ret_bool HR.out, Nx.refl _⟩
  have hd : ((xs.length : Int) != 8) = false := by simp; omega
  have H8 := Lib.hid h8
  clear h8
  go_enter Try.func53, Try.ntmps53
  go_wp2
  go_loopw [4, 10] (fun v i wr => ∃ k : Nat, k ≤ xs.length ∧ i = .int .i64 k ∧ InTo xs k ∧ Nx w wr) (fun _ i _ => xs.length - (intOf i).toNat)
  case atStart => exact ⟨0, Nat.zero_le _, rfl, InTo.zero _, Nx.refl _⟩
  case round =>
    obtain ⟨k, hk, rfl, hto, hnx⟩ := hrel
    by_cases hlt : k < xs.length
    · obtain ⟨b, off, rfl, hb, hc⟩ := (h.below hnx hB).at_ hlt
      obtain ⟨s, Hs⟩ : ∃ s, Hid (xs.getD k 0 = s) := ⟨_, rfl⟩
      rw [Hs.out] at hc
      cases hx : inB 0 999999 s with
      | false =>
        have HX := Lib.hid hx
        have HR := Lib.hid (contB_no hlt (by rw [Hs.out]; exact hx)).symm
        clear hx
        go_wp2_with (go_at_call 113; refine (isValue_c _ _).mono ?_; rintro e w' ⟨rfl, rfl⟩; rw [HX.out])
        go_ret
        exact ⟨ret_bool HR.out, hnx⟩
      | true =>
        have HX := Lib.hid hx
        clear hx
        go_wp2_with (go_at_call 113; refine (isValue_c _ _).mono ?_; rintro e w' ⟨rfl, rfl⟩; rw [HX.out])
        go_roundw
        case rel => exact ⟨k + 1, by omega, by go_num, hto.succ (by rw [Hs.out]; exact HX.out), hnx⟩
        case measure => simp [intOf]; omega
    · obtain rfl : k = xs.length := by omega
      have HR := Lib.hid (contB_mk H8.out hto).symm
      go_wp2
      go_ret
      exact ⟨ret_bool HR.out, hnx⟩
end Go.Proofs.Ytihpadelfpogmaa
