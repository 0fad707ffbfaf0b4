/-
  Contracts of the laws' functions that draw a number and that compare disks with nothing cached; the model's drawn disk of a code.
  Conditions: what is read can be read.
-/
import Derived.Test.YtccapcadgjlmkaaPd
import Derived.Test.YtccapcadgjlmkaaSame
namespace Go.Proofs.Ytccapcadgjlmkaa
set_option linter.unusedVariables false
open Go.RowKit

set_option maxRecDepth 100000 in
set_option maxHeartbeats 1000000 in
theorem plainDiskOf_c (A : Option Addr) (n c B : Nat) (ys : List Nat) (w : World) (h : U8s w B A n ys) (hB : B ≤ w.heap.size) (hn : n ≤ 1048576) :
    Calls Try.prog 8 #[.slice A n c] w fun e w' => ∃ (A1 : Option Addr) (n1 c1 : Nat) (A2 : Option Addr) (n2 c2 : Nat) (ss : List ByteArray) (ws : List (Int × ByteArray)),
      e = .returned (.agg #[.slice A1 n1 c1, .slice A2 n2 c2]) ∧ SlS w' w.heap.size A1 n1 ss ∧ SlW w' w.heap.size A2 n2 ws ∧ diskB ss ws = true ∧ n2 ≤ 8 ∧ Nx w w' := by
  go_enter Try.func8, Try.ntmps8
  go_wp2_with fail
  have r0 := Box.new w 26 #[.slice none 0 0, .slice none 0 0]
  have hnx0 := (Nx.refl w).alloc (.cells #[.slice none 0 0, .slice none 0 0] 26)
  generalize w.alloc (.cells #[.slice none 0 0, .slice none 0 0] 26) = W at *
  have hlt := r0.lt
  refine (l00Source_c A n c _ hn).mono ?_
  rintro e w1 ⟨rfl, hs, hx⟩
  go_wp2_with fail
  refine (plainDisk_c W.heap.size A n c B ys _ hs (h.below (hnx0.trans hx) hB) (by omega) hn).mono ?_
  rintro e w2 ⟨A5, n5, c5, A6, n6, c6, ss, ws, rfl, oS, oW, hok, hn8, hr⟩
  have hx2 := Rg.nx_of hx hr (Nat.le_refl _)
  have er := r0.nx hx2
  have hz := (hnx0.trans hx).size
  have HO := Lib.hid hok
  have eS := (oS.low hz).put er (i := 0) (.slice A5 n5 c5)
  have eW := (oW.low hz).put er (i := 0) (.slice A5 n5 c5)
  have er1 := er.set0 (.slice A5 n5 c5)
  have fS := eS.put er1 (i := 1) (.slice A6 n6 c6)
  have fW := eW.put er1 (i := 1) (.slice A6 n6 c6)
  have er2 := er1.set1 (.slice A6 n6 c6)
  have frg := ((hnx0.trans hx2).setCell (p := ⟨w.heap.size, 0, none⟩) (Nat.le_refl _) (.slice A5 n5 c5)).setCell (p := ⟨w.heap.size, 1, none⟩) (Nat.le_refl _) (.slice A6 n6 c6)
  have s0 := er.c0
  have s1 := er.c1
  have f0 := er.frozen 0
  have f1 := er.frozen 1
  have q0 := er2.c0
  have q1 := er2.c1
  clear oS oW eS eW er1 r0 hs hx hr hok
  go_wp2
  generalize (w2.setCell ⟨w.heap.size, 0, none⟩ (.slice A5 n5 c5)).setCell ⟨w.heap.size, 1, none⟩ (.slice A6 n6 c6) = Wf at *
  exact bodyPost_ret (v := .agg #[.slice A5 n5 c5, .slice A6 n6 c6]) (by simp [results, Try.results8, go_sem, q0, q1]) rfl ⟨A5, n5, c5, A6, n6, c6, ss, ws, rfl, fS, fW, HO.out, by omega, frg⟩

set_option maxRecDepth 100000 in
set_option maxHeartbeats 1000000 in
theorem sameTexts_c (A A2 : Option Addr) (n c c2 B : Nat) (ss : List ByteArray) (w : World) (h : Strs w B A n ss) (h2 : Strs w B A2 n ss) (hB : B ≤ w.heap.size) (hn : n ≤ 1048576) :
    Calls Try.prog 17 #[.slice A n c, .slice A2 n c2] w fun e w' => e = .returned (.bool true) ∧ Nx w w' := by
  go_enter Try.func17, Try.ntmps17
  go_wp2
  go_loopw [5] (fun i wr => ∃ k : Nat, k ≤ n ∧ i = .int .i64 k ∧ Nx w wr) (fun i _ => n - (intOf i).toNat)
  case atStart => exact ⟨0, Nat.zero_le _, rfl, Nx.refl _⟩
  case round =>
    obtain ⟨k, hk, rfl, hnx⟩ := hrel
    by_cases hlt : k < n
    · obtain ⟨b, off, rfl, hb, hc⟩ := (h.below hnx hB).at_ hlt
      obtain ⟨b2, off2, rfl, hb2, hc2⟩ := (h2.below hnx hB).at_ hlt
      generalize ss.getD k ByteArray.empty = s at hc hc2
      go_wp2
      go_quiet (fail)
      go_wp2
      go_roundw
      case rel => exact ⟨k + 1, by omega, by go_num, hnx.drewN _⟩
      case measure => simp [intOf]; omega
    · go_wp2
      go_ret
      exact ⟨rfl, hnx⟩

set_option maxRecDepth 100000 in
set_option maxHeartbeats 1000000 in
theorem at_c (i N : Nat) (A : Option Addr) (n c B : Nat) (ys : List Nat) (w : World) (h : U8s w B A n ys) (hB : B ≤ w.heap.size) (hn : n ≤ 1048576) (hi : i ≤ 1) (hN : 2 ≤ N) (hN2 : N ≤ 100) :
    Calls Try.prog 9 #[.slice A n c, .int .i64 i, .int .i64 N] w fun e w' => ∃ v : Nat, e = .returned (.int .i64 v) ∧ v < N ∧ Nx w w' := by
  rcases Nat.eq_zero_or_pos n with hz | hp
  · subst hz
    go_enter Try.func9, Try.ntmps9
    go_wp2
    go_ret
    exact ⟨i * 7 % N, ret_int (by rw [Int.natCast_emod]; simp), Nat.mod_lt _ (by omega), Nx.refl _⟩
  · obtain ⟨x, hx⟩ : ∃ x, i % n = x := ⟨_, rfl⟩
    obtain ⟨y, hy⟩ : ∃ y, (i + 1) % n = y := ⟨_, rfl⟩
    obtain ⟨z, hz⟩ : ∃ z, i / n = z := ⟨_, rfl⟩
    have hxl : x < n := by rw [← hx]; exact Nat.mod_lt _ hp
    have hyl : y < n := by rw [← hy]; exact Nat.mod_lt _ hp
    have hzl : z ≤ 1 := by rw [← hz]; exact Nat.le_trans (Nat.div_le_self _ _) hi
    have e1 : ((i : Int)) % n = (x : Int) := by rw [← hx]; rfl
    have e2 : ((i : Int) + 1) % n = (y : Int) := by rw [← hy]; rfl
    have e3 : ((i : Int)) / n = (z : Int) := by rw [← hz]; rfl
    have hnz : ¬ ((n : Int) = 0) := by omega
    clear hx hy hz
    obtain ⟨b, off, rfl, hb, hc⟩ := h.at_ hxl
    obtain ⟨b', off', e', hb', hc'⟩ := h.at_ hyl
    obtain ⟨rfl, rfl⟩ : b' = b ∧ off' = off := by cases e'; exact ⟨rfl, rfl⟩
    clear e'
    have hv1 := h.2.1 x
    have hv2 := h.2.1 y
    generalize ys.getD x 0 = u1 at *
    generalize ys.getD y 0 = u2 at *
    go_enter Try.func9, Try.ntmps9
    go_wp2
    go_quiet (fail)
    go_wp2
    go_ret
    exact ⟨(u1 * 31 + u2 + z) % N, ret_int (by rw [Int.natCast_emod]; simp), Nat.mod_lt _ (by omega), (Nx.refl w).drewN nq⟩

set_option maxRecDepth 100000 in
set_option maxHeartbeats 1000000 in
theorem sameDisk_c (A A2 A3 A4 : Option Addr) (n c c3 c2 c4 B : Nat) (ss : List ByteArray) (w : World) (h : Strs w B A n ss) (h3 : Strs w B A3 n ss)
    (hB : B ≤ w.heap.size) (hn : n ≤ 1048576) :
    Calls Try.prog 18 #[.agg #[.slice A n c, .slice A2 0 c2], .agg #[.slice A3 n c3, .slice A4 0 c4]] w fun e w' => e = .returned (.bool true) ∧ Nx w w' := by
  go_enter Try.func18, Try.ntmps18
  go_wp2_with fail
  have b0 := (Box.new w 26 #[.slice A n c, .slice A2 0 c2]).alloc (.cells #[.slice A3 n c3, .slice A4 0 c4] 26)
  have b1 := Box.new (w.alloc (.cells #[.slice A n c, .slice A2 0 c2] 26)) 26 #[.slice A3 n c3, .slice A4 0 c4]
  have hnx0 := ((Nx.refl w).alloc (.cells #[.slice A n c, .slice A2 0 c2] 26)).alloc (.cells #[.slice A3 n c3, .slice A4 0 c4] 26)
  simp only [World.size_alloc] at b1
  generalize ((w.alloc (.cells #[.slice A n c, .slice A2 0 c2] 26)).alloc (.cells #[.slice A3 n c3, .slice A4 0 c4] 26)) = W at *
  refine (sameTexts_c A A3 n c c3 B ss _ (h.below hnx0 hB) (h3.below hnx0 hB) (Nat.le_trans hB hnx0.size) hn).mono ?_
  rintro e w1 ⟨rfl, hnx1⟩
  have b0' := b0.nx hnx1
  have b1' := b1.nx hnx1
  have c00 := b0'.c0
  have c01 := b0'.c1
  have c10 := b1'.c0
  have c11 := b1'.c1
  have hnx2 := hnx0.trans hnx1
  go_wp2
  go_loopw [5] (fun i wr => i = .int .i64 0 ∧ wr = w1) (fun i _ => 0)
  case atStart => exact ⟨rfl, rfl⟩
  case round =>
    obtain ⟨rfl, rfl⟩ := hrel
    go_wp2
    go_ret
    exact ⟨rfl, hnx2⟩
end Go.Proofs.Ytccapcadgjlmkaa
