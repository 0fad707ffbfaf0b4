/-
  Contracts of the laws' functions sameSeg, at, sameInts, and of the model's ContentDrawn.
  Conditions: what is read can be read, and has at most 1048576 elements.
-/
import Derived.Test.YtihpadelfpogmaaCne
import Derived.Test.YtihpadelfpogmaaPln
namespace Go.Proofs.Ytihpadelfpogmaa
set_option linter.unusedVariables false
set_option maxRecDepth 100000
open Go.RowKit

set_option maxRecDepth 100000 in
set_option maxHeartbeats 1000000 in
theorem sameSegP_c (f t m : Int) (A A2 : Option Addr) (c c2 B : Nat) (cs : List Chg) (w : World) (h : Chs w B A cs) (h2 : Chs w B A2 cs) (hB : B ≤ w.heap.size) (hn : cs.length ≤ 1048576) :
    Calls Try.prog 58 #[.agg #[.int .i64 f, .int .i64 t, .int .i64 m, .slice A cs.length c], .agg #[.int .i64 f, .int .i64 t, .int .i64 m, .slice A2 cs.length c2]] w fun e w' => e = .returned (.bool true) ∧ Nx w w' := by
  have b0 := (Box.new w 54 #[.int .i64 f, .int .i64 t, .int .i64 m, .slice A cs.length c]).alloc (.cells #[.int .i64 f, .int .i64 t, .int .i64 m, .slice A2 cs.length c2] 54)
  have b2 := Box.new (w.alloc (.cells #[.int .i64 f, .int .i64 t, .int .i64 m, .slice A cs.length c] 54)) 54 #[.int .i64 f, .int .i64 t, .int .i64 m, .slice A2 cs.length c2]
  simp only [World.size_alloc] at b2
  have hx0 := ((Nx.refl w).alloc (.cells #[.int .i64 f, .int .i64 t, .int .i64 m, .slice A cs.length c] 54)).alloc (.cells #[.int .i64 f, .int .i64 t, .int .i64 m, .slice A2 cs.length c2] 54)
  go_enter Try.func58, Try.ntmps58
  go_wp2
  generalize (w.alloc (.cells #[.int .i64 f, .int .i64 t, .int .i64 m, .slice A cs.length c] 54)).alloc (.cells #[.int .i64 f, .int .i64 t, .int .i64 m, .slice A2 cs.length c2] 54) = W at *
  have k1 := h.below hx0 hB
  have k2 := h2.below hx0 hB
  have hB' : B ≤ W.heap.size := Nat.le_trans hB hx0.size
  clear h h2
  go_loopw [5] (fun i wr => ∃ k : Nat, k ≤ cs.length ∧ i = .int .i64 k ∧ Nx W wr) (fun i _ => cs.length - (intOf i).toNat)
  case atStart => exact ⟨0, Nat.zero_le _, rfl, Nx.refl _⟩
  case round =>
    obtain ⟨k, hk, rfl, hnx⟩ := hrel
    obtain ⟨_, _, _, c3⟩ := (b0.nx hnx).d4
    obtain ⟨_, _, _, d3⟩ := (b2.nx hnx).d4
    by_cases hlt : k < cs.length
    · obtain ⟨b, off, rfl, hb, p0, p1, p2⟩ := (k1.below hnx hB').at_ hlt
      obtain ⟨b2, off2, rfl, hb2, q0, q1, q2⟩ := (k2.below hnx hB').at_ hlt
      generalize cs.getD k chZ = s at p0 p1 p2 q0 q1 q2
      obtain ⟨x, y, z⟩ := s
      go_wp2_with fail
      go_still_tail 10, (by kernel_rfl)
      change wpList _ _ _ _ _ wr.drew
      have hnx1 : Nx W wr.drew := Below.drew hnx
      generalize wr.drew = wd at *
      go_wp2
      go_roundw
      case rel => exact ⟨k + 1, by omega, by go_num, hnx1⟩
      case measure => simp [intOf]; omega
    · go_wp2
      go_ret
      exact ⟨rfl, hx0.trans hnx⟩
/-- at: which number. -/
def atP (ys : List Nat) (n i m : Nat) : Nat := if n = 0 then i * 7 % m else (ys.getD (i % n) 0 * 31 + ys.getD ((i + 1) % n) 0 + i / n) % m
theorem atP_lt (ys : List Nat) (n i : Nat) {m : Nat} (hm : 0 < m) : atP ys n i m < m := by
  unfold atP; split <;> exact Nat.mod_lt _ hm
set_option maxRecDepth 100000 in
set_option maxHeartbeats 1000000 in
theorem atP_c (A : Option Addr) (n c i m B : Nat) (ys : List Nat) (w : World) (h : U8s w B A n ys) (hB : B ≤ w.heap.size) (hn : n ≤ 1048576) (hi : i ≤ 1000) (hm : 2 ≤ m) (hm2 : m ≤ 100000) :
    Calls Try.prog 59 #[.slice A n c, .int .i64 i, .int .i64 m] w fun e w' => e = .returned (.int .i64 ((atP ys n i m : Nat) : Int)) ∧ Nx w w' := by
  by_cases h0 : n = 0
  · subst h0
    go_enter Try.func59, Try.ntmps59
    go_wp2
    go_ret
    exact ⟨ret_int (by rw [show atP ys 0 i m = i * 7 % m from rfl, show (i : Int) * 7 = ((i * 7 : Nat) : Int) by omega, ← Int.natCast_emod]), Nx.refl _⟩
  · have hj : i % n < n := Nat.mod_lt _ (by omega)
    have hj2 : (i + 1) % n < n := Nat.mod_lt _ (by omega)
    have e1 : (i : Int).tmod (n : Int) = ((i % n : Nat) : Int) := by rw [Int.tmod_eq_emod_of_nonneg (by omega), ← Int.natCast_emod]
    have e2 : ((i : Int) + 1).tmod (n : Int) = (((i + 1) % n : Nat) : Int) := by rw [show (i : Int) + 1 = ((i + 1 : Nat) : Int) by omega, Int.tmod_eq_emod_of_nonneg (by omega), ← Int.natCast_emod]
    have e3 : (i : Int).tdiv (n : Int) = ((i / n : Nat) : Int) := by rw [Int.tdiv_eq_ediv_of_nonneg (by omega), ← Int.natCast_ediv]
    have hd : i / n ≤ 1000 := Nat.le_trans (Nat.div_le_self _ _) hi
    obtain ⟨b, off, rfl, hb, p0⟩ := h.at_ hj
    obtain ⟨b2, off2, hE, hb2, q0⟩ := h.at_ hj2
    injection hE with hE
    injection hE with hE1 hE2
    subst hE1 hE2
    have HA : Hid (atP ys n i m = (ys.getD (i % n) 0 * 31 + ys.getD ((i + 1) % n) 0 + i / n) % m) := Lib.hid (by unfold atP; rw [if_neg h0])
    obtain ⟨aa, Haa⟩ : ∃ a, Hid (atP ys n i m = a) := ⟨_, rfl⟩
    rw [Haa.out] at HA
    have hy := h.2.1 (i % n)
    have hy2 := h.2.1 ((i + 1) % n)
    generalize ys.getD (i % n) 0 = y at *
    generalize ys.getD ((i + 1) % n) 0 = y2 at *
    generalize i % n = j at *
    generalize (i + 1) % n = j2 at *
    generalize i / n = d at *
    have e4 : ((y : Int) * 31 + (y2 : Int) + (d : Int)).tmod (m : Int) = (((y * 31 + y2 + d) % m : Nat) : Int) := by rw [Int.tmod_eq_emod_of_nonneg (by omega), show (y : Int) * 31 + (y2 : Int) + (d : Int) = ((y * 31 + y2 + d : Nat) : Int) by omega, ← Int.natCast_emod]
    have e5 : ((y : Int) * 31 + (y2 : Int) + (d : Int)) % (m : Int) = (((y * 31 + y2 + d) % m : Nat) : Int) := by rw [show (y : Int) * 31 + (y2 : Int) + (d : Int) = ((y * 31 + y2 + d : Nat) : Int) by omega, ← Int.natCast_emod]
    obtain ⟨z, Hz⟩ : ∃ z, Hid ((y * 31 + y2 + d) % m = z) := ⟨_, rfl⟩
    have hz : z < m := by rw [← Hz.out]; exact Nat.mod_lt _ (by omega)
    rw [Hz.out] at e4 e5 HA
    have k1 : IntKind.i64.wrap (j : Int) = j := IntWalk.i64_in _ (by omega)
    have k2 : IntKind.i64.wrap (j2 : Int) = j2 := IntWalk.i64_in _ (by omega)
    have k3 : IntKind.i64.wrap (d : Int) = d := IntWalk.i64_in _ (by omega)
    have k4 : IntKind.i64.wrap (z : Int) = z := IntWalk.i64_in _ (by omega)
    have k5 : IntKind.i64.wrap (y : Int) = y := IntWalk.i64_in _ (by omega)
    have k6 : IntKind.i64.wrap (y2 : Int) = y2 := IntWalk.i64_in _ (by omega)
    have k7 : IntKind.i64.wrap ((y : Int) * 31) = (y : Int) * 31 := IntWalk.i64_in _ (by omega)
    have k8 : IntKind.i64.wrap ((y : Int) * 31 + (y2 : Int)) = (y : Int) * 31 + (y2 : Int) := IntWalk.i64_in _ (by omega)
    have k9 : IntKind.i64.wrap ((y : Int) * 31 + (y2 : Int) + (d : Int)) = (y : Int) * 31 + (y2 : Int) + (d : Int) := IntWalk.i64_in _ (by omega)
    have k0 : IntKind.i64.wrap ((i : Int) + 1) = (i : Int) + 1 := IntWalk.i64_in _ (by omega)
    have n0 : ((n : Int) == 0) = false := by rw [beq_eq_false_iff_ne]; omega
    have m0 : ((m : Int) == 0) = false := by rw [beq_eq_false_iff_ne]; omega
    have n1 : ¬ (n : Int) = 0 := by omega
    have m1 : ¬ (m : Int) = 0 := by omega
    have m2 : ¬ m = 0 := by omega
    have l1 : (j : Int) < (n : Int) := by omega
    have l2 : (j2 : Int) < (n : Int) := by omega
    go_enter Try.func59, Try.ntmps59
    go_wp2
    refine wp_region_lex [false, false, false, false, false, false, false, false, false, false, false, false, false, false, false, false, false, false, false, false, false, false, false, false, false, false, false] (fun w' => w'.cell? ⟨b, off + j, none⟩ = some (.int .u8 (y : Int)) ∧ w'.cell? ⟨b, off + j2, none⟩ = some (.int .u8 (y2 : Int))) (by kernel_rfl) (by kernel_rfl) rfl (by kernel_rfl) (fun _ _ d _ _ h => by cases d <;> exact h) (by exact ⟨p0, q0⟩) ?_
    repeat (first | (refine HL.take (v := ?_) (by rfl) ?_ ?_; rotate_left; (· (intro w hSw; (try dsimp only at hSw); go_simp; try with_reducible rfl)); (try simp only [Act.put, List.setIfInBounds_toArray, List.set_cons_zero, List.set_cons_succ])) | (refine HL.skip (by rfl) ?_; (try simp only [Act.put, List.setIfInBounds_toArray, List.set_cons_zero, List.set_cons_succ])))
    refine HL.done ?_
    go_wp2
    go_ret
    exact ⟨ret_int (by rw [Haa.out, HA.out]), Below.drew (Nx.refl w)⟩

set_option maxHeartbeats 1000000 in
theorem sameInts_c (A A2 : Option Addr) (c c2 B : Nat) (xs : List Int) (w : World) (h : Ins w B A xs) (h2 : Ins w B A2 xs) (hB : B ≤ w.heap.size) (hn : xs.length ≤ 1048576) :
    Calls Try.prog 45 #[.slice A xs.length c, .slice A2 xs.length c2] w fun e w' => e = .returned (.bool true) ∧ Nx w w' := by
  go_enter Try.func45, Try.ntmps45
  go_wp2
  go_loopw [5] (fun i wr => ∃ k : Nat, k ≤ xs.length ∧ i = .int .i64 k ∧ Nx w wr) (fun i _ => xs.length - (intOf i).toNat)
  case atStart => exact ⟨0, Nat.zero_le _, rfl, Nx.refl _⟩
  case round =>
    obtain ⟨k, hk, rfl, hnx⟩ := hrel
    by_cases hlt : k < xs.length
    · obtain ⟨b, off, rfl, hb, hc⟩ := (h.below hnx hB).at_ hlt
      obtain ⟨b2, off2, rfl, hb2, hc2⟩ := (h2.below hnx hB).at_ hlt
      generalize xs.getD k 0 = s at hc hc2
      go_wp2
      go_quiet (fail)
      go_wp2
      go_roundw
      case rel => exact ⟨k + 1, by omega, by go_num, hnx.drewN _⟩
      case measure => simp [intOf]; omega
    · go_wp2
      go_ret
      exact ⟨rfl, hnx⟩
set_option maxHeartbeats 1000000 in
theorem contentDrawn_c (A : Option Addr) (n c : Nat) (ys : List Nat) (w : World) (h : U8s w w.heap.size A n ys) (hn : n ≤ 1048576) :
    Calls Try.prog 48 #[.slice A n c] w fun e w' => ∃ A' c' xs, e = .returned (.slice A' 8 c') ∧ xs.length = 8 ∧ Sm xs ∧ SlI w' w.heap.size A' xs ∧ Nx w w' := by
  go_enter Try.func48, Try.ntmps48
  go_wp2_with fail
  refine (l00Source_c A n c _ hn).mono ?_
  rintro e w1 ⟨rfl, s1, hnx1⟩
  have u1 := h.below hnx1 (Nat.le_refl _)
  go_wp2_with fail
  refine (content_c w.heap.size A n c w.heap.size 0 ys _ ⟨0, n % 1000, by omega, by omega, s1⟩ u1 (Nat.le_refl _) hn (by omega)).mono ?_
  rintro e w2 ⟨A', c', xs, rfl, hl, hsm, hS, _, hr⟩
  have HL := Lib.hid hl
  have HS := Lib.hid hS
  clear hl hS
  go_wp2
  go_ret
  exact ⟨A', c', xs, rfl, HL.out, hsm, HS.out.low hnx1.size, Rg.nx_of hnx1 hr (Nat.le_refl _)⟩
end Go.Proofs.Ytihpadelfpogmaa
