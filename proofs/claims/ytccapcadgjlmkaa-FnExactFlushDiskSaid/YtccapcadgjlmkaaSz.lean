/-
  Contracts of the laws' functions that count the sizes of disks.
  Conditions: what is counted can be read.
-/
import Derived.Test.YtccapcadgjlmkaaBase
import Derived.Outline
namespace Go.Proofs.Ytccapcadgjlmkaa
set_option linter.unusedVariables false
open Go.RowKit

def AllS (ss : List ByteArray) : Prop := ∀ k, (ss.getD k ByteArray.empty).size ≤ 2 ^ 63 - 1
def AllW (ws : List (Int × ByteArray)) : Prop := ∀ k, (ws.getD k (0, ByteArray.empty)).2.size ≤ 2 ^ 63 - 1

set_option maxHeartbeats 1000000 in
theorem szStringS_c (A : Option Addr) (n c B : Nat) (ss : List ByteArray) (left : Int) (w : World) (h : Strs w B A n ss) (hm : AllS ss) (hn : n ≤ 2 ^ 63 - 1) (h0 : 0 ≤ left) (h1 : left ≤ 1048576) :
    Calls Try.prog 60 #[.slice A n c, .int .i64 left] w fun e w' => e = .returned (.int .i64 (szR left (n + lenS ss))) ∧ w = w' := by
  by_cases hle : (n : Int) ≤ left
  case neg =>
    have HF := Lib.hid (szR_no (left := left) (cost := n + lenS ss) (by omega))
    have hd : decide (left - (n : Int) < 0) = true := by simp; omega
    go_enter Try.func60, Try.ntmps60
    go_wp2
    go_ret
    exact ⟨ret_int HF.out, rfl⟩
  have hd : decide (left - (n : Int) < 0) = false := by simp; omega
  go_enter Try.func60, Try.ntmps60
  go_wp2
  go_loop [1, 5] (fun l i => ∃ k : Nat, k ≤ n ∧ i = .int .i64 k ∧ (n : Int) + lenSTo ss k ≤ left ∧ l = .int .i64 (left - (n + lenSTo ss k))) (fun _ i => n - (intOf i).toNat)
  case atStart => exact ⟨0, Nat.zero_le _, rfl, by rw [lenSTo_zero]; omega, by rw [lenSTo_zero]; go_num⟩
  case round =>
    obtain ⟨k, hk, rfl, hle2, rfl⟩ := hrel
    by_cases hlt : k < n
    · obtain ⟨b, off, rfl, hb, hc⟩ := h.at_ hlt
      have hmk := hm k
      have hsu := Lib.hid (lenSTo_succ ss k (by rw [h.1]; exact hlt))
      have hle3 := Lib.hid (lenSTo_le ss (k + 1))
      generalize ss.getD k ByteArray.empty = s at *
      by_cases hg : (n : Int) + (lenSTo ss k + s.size) ≤ left
      · have hd2 : decide (left - (n + lenSTo ss k) - (s.size : Int) < 0) = false := by simp; omega
        go_wp2
        go_round
        case rel => exact ⟨k + 1, by omega, by go_num, by rw [hsu.out]; omega, by rw [hsu.out]; go_num⟩
        case measure => simp [intOf]; omega
      · have hd2 : decide (left - (n + lenSTo ss k) - (s.size : Int) < 0) = true := by simp; omega
        go_wp2
        go_ret
        exact ⟨ret_int (szR_no (by have := hsu.out; have := hle3.out; omega)), rfl⟩
    · obtain rfl : k = n := by omega
      go_wp2
      go_ret
      refine ⟨ret_int ?_, rfl⟩
      have := lenSTo_all ss
      rw [h.1] at this
      rw [this] at hle2 ⊢
      exact szR_yes hle2

set_option maxHeartbeats 1000000 in
theorem szWrite_c (a : Int) (s : ByteArray) (left : Int) (w : World) (hm : s.size ≤ 2 ^ 63 - 1) (h0 : 0 ≤ left) (h1 : left ≤ 1048576) :
    Calls Try.prog 93 #[.agg #[.int .i64 a, .string s], .int .i64 left] w fun e w' => e = .returned (.int .i64 (szR left s.size)) ∧ Nx w w' := by
  by_cases hle : (s.size : Int) ≤ left
  · have HF := Lib.hid (szR_yes hle)
    have hd : decide (left - (s.size : Int) < 0) = false := by simp; omega
    go_enter Try.func93, Try.ntmps93
    go_wp2
    go_ret
    exact ⟨ret_int HF.out, (Nx.refl _).alloc _⟩
  · have HF := Lib.hid (szR_no (left := left) (cost := s.size) (by omega))
    have hd : decide (left - (s.size : Int) < 0) = true := by simp; omega
    go_enter Try.func93, Try.ntmps93
    go_wp2
    go_ret
    exact ⟨ret_int HF.out, (Nx.refl _).alloc _⟩

set_option maxHeartbeats 1000000 in
theorem szWriteS_c (A : Option Addr) (n c B : Nat) (ws : List (Int × ByteArray)) (left : Int) (w : World) (h : Wrs w B A n ws) (hB : B ≤ w.heap.size) (hm : AllW ws) (hn : n ≤ 2 ^ 63 - 1) (h0 : 0 ≤ left) (h1 : left ≤ 1048576) :
    Calls Try.prog 61 #[.slice A n c, .int .i64 left] w fun e w' => e = .returned (.int .i64 (szR left (n + lenW ws))) ∧ Nx w w' := by
  by_cases hle : (n : Int) ≤ left
  case neg =>
    have HF := Lib.hid (szR_no (left := left) (cost := n + lenW ws) (by omega))
    have hd : decide (left - (n : Int) < 0) = true := by simp; omega
    go_enter Try.func61, Try.ntmps61
    go_wp2
    go_ret
    exact ⟨ret_int HF.out, Nx.refl _⟩
  have hd : decide (left - (n : Int) < 0) = false := by simp; omega
  go_enter Try.func61, Try.ntmps61
  go_wp2
  go_loopw [1, 5] (fun l i wr => ∃ k : Nat, k ≤ n ∧ i = .int .i64 k ∧ (n : Int) + lenWTo ws k ≤ left ∧ l = .int .i64 (left - (n + lenWTo ws k)) ∧ Nx w wr) (fun _ i _ => n - (intOf i).toNat)
  case atStart => exact ⟨0, Nat.zero_le _, rfl, by rw [lenWTo_zero]; omega, by rw [lenWTo_zero]; go_num, Nx.refl _⟩
  case round =>
    obtain ⟨k, hk, rfl, hle2, rfl, hnx⟩ := hrel
    by_cases hlt : k < n
    · obtain ⟨b, off, rfl, hb, hc0, hc1⟩ := (h.below hnx hB).at_ hlt
      have hmk := hm k
      have hsu := Lib.hid (lenWTo_succ ws k (by rw [h.1]; exact hlt))
      have hle3 := Lib.hid (lenWTo_le ws (k + 1))
      have hl0 := Lib.hid h.1
      generalize ws.getD k (0, ByteArray.empty) = s at *
      obtain ⟨a, s⟩ := s
      by_cases hg : (n : Int) + (lenWTo ws k + s.size) ≤ left
      · have hd2 : decide (left - (n + lenWTo ws k) - (s.size : Int) < 0) = false := by simp; omega
        go_wp2_with fail
        refine (szWrite_c a s _ _ hmk (by omega) (by omega)).mono ?_
        rintro e w1 ⟨rfl, hnx1⟩
        rw [← szR_yes (by omega)]
        go_wp2
        go_roundw
        case rel => exact ⟨k + 1, by omega, by go_num, by rw [hsu.out]; omega, by rw [hsu.out]; go_num, hnx.trans hnx1⟩
        case measure => simp [intOf]; omega
      · go_wp2_with fail
        refine (szWrite_c a s _ _ hmk (by omega) (by omega)).mono ?_
        rintro e w1 ⟨rfl, hnx1⟩
        rw [← szR_no (by omega)]
        go_wp2
        go_ret
        exact ⟨ret_int (szR_no (by have := hsu.out; have := hle3.out; omega)), hnx.trans hnx1⟩
    · obtain rfl : k = n := by omega
      go_wp2
      go_ret
      refine ⟨ret_int ?_, hnx⟩
      have := lenWTo_all ws
      rw [h.1] at this
      rw [this] at hle2 ⊢
      exact szR_yes hle2

def costD (n n2 : Nat) (ss : List ByteArray) (ws : List (Int × ByteArray)) : Int := (n + lenS ss) + (n2 + lenW ws)
set_option maxHeartbeats 1000000 in
theorem szDisk_c (A A2 : Option Addr) (n c n2 c2 B : Nat) (ss : List ByteArray) (ws : List (Int × ByteArray)) (left : Int) (w : World) (h : Strs w B A n ss) (h2 : Wrs w B A2 n2 ws) (hB : B ≤ w.heap.size)
    (hm : AllS ss) (hm2 : AllW ws) (hn : n ≤ 2 ^ 63 - 1) (hn2 : n2 ≤ 2 ^ 63 - 1) (h0 : 0 ≤ left) (h1 : left ≤ 1048576) :
    Calls Try.prog 27 #[.agg #[.slice A n c, .slice A2 n2 c2], .int .i64 left] w fun e w' => e = .returned (.int .i64 (szR left (costD n n2 ss ws))) ∧ Nx w w' := by
  by_cases hle : (n : Int) + lenS ss ≤ left
  case neg =>
    have HF := Lib.hid (szR_no (left := left) (cost := costD n n2 ss ws) (by unfold costD; omega))
    go_enter Try.func27, Try.ntmps27
    go_wp2_with fail
    refine (szStringS_c A n c B ss left _ (h.below ((Nx.refl w).alloc _) hB) hm hn h0 h1).mono ?_
    rintro e w1 ⟨rfl, rfl⟩
    rw [← szR_no (by omega)]
    go_wp2
    go_ret
    exact ⟨ret_int HF.out, (Nx.refl _).alloc _⟩
  go_enter Try.func27, Try.ntmps27
  go_wp2_with fail
  refine (szStringS_c A n c B ss left _ (h.below ((Nx.refl w).alloc _) hB) hm hn h0 h1).mono ?_
  rintro e w1 ⟨rfl, rfl⟩
  rw [← szR_yes hle]
  have hd : decide (left - (n + lenS ss) < 0) = false := by simp; omega
  go_wp2_with fail
  refine (szWriteS_c A2 n2 c2 B ws _ _ (h2.below ((Nx.refl w).alloc _) hB) (Nat.le_trans hB (by simp)) hm2 hn2 (by omega) (by omega)).mono ?_
  rintro e w1 ⟨rfl, hnx⟩
  by_cases hle2 : (n2 : Int) + lenW ws ≤ left - (n + lenS ss)
  · rw [← szR_yes hle2]
    have hd : decide (left - (n + lenS ss) - (n2 + lenW ws) < 0) = false := by simp; omega
    go_wp2
    go_ret
    refine ⟨ret_int ?_, ((Nx.refl _).alloc _).trans hnx⟩
    rw [← szR_yes (by unfold costD; omega)]
    unfold costD
    omega
  · rw [← szR_no (by omega)]
    go_wp2
    go_ret
    exact ⟨ret_int (szR_no (by unfold costD; omega)), ((Nx.refl _).alloc _).trans hnx⟩
end Go.Proofs.Ytccapcadgjlmkaa
