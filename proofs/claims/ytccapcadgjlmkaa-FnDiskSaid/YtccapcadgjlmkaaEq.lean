/-
  Contracts of the laws' functions that compare disks, where both sides hold the same.
  Conditions: both sides can be read and are alike.
-/
import Derived.Test.YtccapcadgjlmkaaBase
import Derived.Deep.QuietTactic
import Derived.BigQuiet
import Derived.StillTailTactics
import Derived.Outline
namespace Go.Proofs.Ytccapcadgjlmkaa
set_option linter.unusedVariables false
open Go.RowKit

set_option maxRecDepth 100000 in
set_option maxHeartbeats 1000000 in
theorem eqStringS_c (A A2 : Option Addr) (n c c2 B : Nat) (ss : List ByteArray) (w : World) (h : Strs w B A n ss) (h2 : Strs w B A2 n ss) (hB : B ≤ w.heap.size) (hn : n ≤ 1048576) :
    Calls Try.prog 65 #[.slice A n c, .slice A2 n c2] w fun e w' => e = .returned (.bool true) ∧ Nx w w' := by
  go_enter Try.func65, Try.ntmps65
  go_wp2
  go_loopw [5] (fun i wr => ∃ k : Nat, k ≤ n ∧ i = .int .i64 k ∧ Nx w wr) (fun i _ => n - (intOf i).toNat)
  case atStart => exact ⟨0, Nat.zero_le _, rfl, Nx.refl _⟩
  case round =>
    obtain ⟨k, hk, rfl, hnx⟩ := hrel
    by_cases hlt : k < n
    · obtain ⟨b, off, rfl, hb, hc⟩ := (h.below hnx hB).at_ hlt
      obtain ⟨b2, off2, rfl, hb2, hc2⟩ := (h2.below hnx hB).at_ hlt
      generalize ss.getD k ByteArray.empty = s at hc hc2
      go_wp2
      go_quiet (fail)
      go_wp2
      go_roundw
      case rel => exact ⟨k + 1, by omega, by go_num, hnx.drewN _⟩
      case measure => simp [intOf]; omega
    · go_wp2
      go_ret
      exact ⟨rfl, hnx⟩

set_option maxRecDepth 100000 in
set_option maxHeartbeats 1000000 in
theorem eqWrite_c (a : Int) (s : ByteArray) (w : World) :
    Calls Try.prog 95 #[.agg #[.int .i64 a, .string s], .agg #[.int .i64 a, .string s]] w fun e w' => e = .returned (.bool true) ∧ Nx w w' := by
  go_enter Try.func95, Try.ntmps95
  go_wp2
  go_ret
  exact ⟨rfl, (((Nx.refl _).alloc _).alloc _)⟩

set_option maxRecDepth 100000 in
set_option maxHeartbeats 1000000 in
theorem eqWriteS_c (A A2 : Option Addr) (n c c2 B : Nat) (ws : List (Int × ByteArray)) (w : World) (h : Wrs w B A n ws) (h2 : Wrs w B A2 n ws) (hB : B ≤ w.heap.size) (hn : n ≤ 1048576) :
    Calls Try.prog 66 #[.slice A n c, .slice A2 n c2] w fun e w' => e = .returned (.bool true) ∧ Nx w w' := by
  go_enter Try.func66, Try.ntmps66
  go_wp2
  go_loopw [5] (fun i wr => ∃ k : Nat, k ≤ n ∧ i = .int .i64 k ∧ Nx w wr) (fun i _ => n - (intOf i).toNat)
  case atStart => exact ⟨0, Nat.zero_le _, rfl, Nx.refl _⟩
  case round =>
    obtain ⟨k, hk, rfl, hnx⟩ := hrel
    by_cases hlt : k < n
    · obtain ⟨b, off, rfl, hb, hc, hd⟩ := (h.below hnx hB).at_ hlt
      obtain ⟨b2, off2, rfl, hb2, hc2, hd2⟩ := (h2.below hnx hB).at_ hlt
      generalize ws.getD k (0, ByteArray.empty) = s at hc hc2 hd hd2
      obtain ⟨a, s⟩ := s
      go_wp2_with fail
      go_still_tail 8, (by kernel_rfl)
      change wpList _ _ _ _ _ wr.drew
      have hnx1 : Nx w wr.drew := Below.drew hnx
      generalize wr.drew = wd at *
      go_wp2_with fail
      refine (eqWrite_c a s _).mono ?_
      rintro e w1 ⟨rfl, hnx2⟩
      go_wp2
      go_roundw
      case rel => exact ⟨k + 1, by omega, by go_num, hnx1.trans hnx2⟩
      case measure => simp [intOf]; omega
    · go_wp2
      go_ret
      exact ⟨rfl, hnx⟩

set_option maxRecDepth 100000 in
set_option maxHeartbeats 1000000 in
theorem eqDisk_c (A A2 A3 A4 : Option Addr) (n c c3 n2 c2 c4 B : Nat) (ss : List ByteArray) (ws : List (Int × ByteArray)) (w : World) (h : Strs w B A n ss) (h3 : Strs w B A3 n ss) (h2 : Wrs w B A2 n2 ws) (h4 : Wrs w B A4 n2 ws)
    (hB : B ≤ w.heap.size) (hn : n ≤ 1048576) (hn2 : n2 ≤ 1048576) :
    Calls Try.prog 30 #[.agg #[.slice A n c, .slice A2 n2 c2], .agg #[.slice A3 n c3, .slice A4 n2 c4]] w fun e w' => e = .returned (.bool true) ∧ Nx w w' := by
  go_enter Try.func30, Try.ntmps30
  go_wp2_with fail
  have b0 := (Box.new w 26 #[.slice A n c, .slice A2 n2 c2]).alloc (.cells #[.slice A3 n c3, .slice A4 n2 c4] 26)
  have b1 := Box.new (w.alloc (.cells #[.slice A n c, .slice A2 n2 c2] 26)) 26 #[.slice A3 n c3, .slice A4 n2 c4]
  have hnx0 := ((Nx.refl w).alloc (.cells #[.slice A n c, .slice A2 n2 c2] 26)).alloc (.cells #[.slice A3 n c3, .slice A4 n2 c4] 26)
  simp only [World.size_alloc] at b1
  generalize ((w.alloc (.cells #[.slice A n c, .slice A2 n2 c2] 26)).alloc (.cells #[.slice A3 n c3, .slice A4 n2 c4] 26)) = W at *
  refine (eqStringS_c A A3 n c c3 B ss _ (h.below hnx0 hB) (h3.below hnx0 hB) (Nat.le_trans hB hnx0.size) hn).mono ?_
  rintro e w1 ⟨rfl, hnx1⟩
  have b0' := b0.nx hnx1
  have b1' := b1.nx hnx1
  have c00 := b0'.c0
  have c01 := b0'.c1
  have c10 := b1'.c0
  have c11 := b1'.c1
  have hnx2 := hnx0.trans hnx1
  go_wp2_with fail
  refine (eqWriteS_c A2 A4 n2 c2 c4 B ws _ (h2.below hnx2 hB) (h4.below hnx2 hB) (Nat.le_trans hB hnx2.size) hn2).mono ?_
  rintro e w2 ⟨rfl, hnx3⟩
  go_wp2
  go_ret
  exact ⟨rfl, hnx2.trans hnx3⟩
end Go.Proofs.Ytccapcadgjlmkaa
