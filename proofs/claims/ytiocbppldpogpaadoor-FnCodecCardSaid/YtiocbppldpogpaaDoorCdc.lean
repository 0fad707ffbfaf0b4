/-
  Contracts of the laws' functions that FnCodec calls: at, sameSeg.
  Conditions: what is read can be read, and has at most 1048576 elements.
-/
import Derived.Test.YtiocbppldpogpaaDoorDrw
import Derived.Test.YtiocbppldpogpaaDoorRbk
namespace Go.Proofs.YtiocbppldpogpaaDoor
set_option linter.unusedVariables false
open Go.RowKit

set_option maxRecDepth 100000 in
set_option maxHeartbeats 1000000 in
theorem sameSeg_c (f t m : Int) (A A2 : Option Addr) (c c2 B : Nat) (cs : List Chg) (w : World) (h : Chs w B A cs) (h2 : Chs w B A2 cs) (hB : B ≤ w.heap.size) (hn : cs.length ≤ 1048576) :
    Calls Tryd.prog 14 #[.agg #[.int .i64 f, .int .i64 t, .int .i64 m, .slice A cs.length c], .agg #[.int .i64 f, .int .i64 t, .int .i64 m, .slice A2 cs.length c2]] w fun e w' => e = .returned (.bool true) ∧ Nx w w' := by
  have b0 := (Box.new w 25 #[.int .i64 f, .int .i64 t, .int .i64 m, .slice A cs.length c]).alloc (.cells #[.int .i64 f, .int .i64 t, .int .i64 m, .slice A2 cs.length c2] 25)
  have b2 := Box.new (w.alloc (.cells #[.int .i64 f, .int .i64 t, .int .i64 m, .slice A cs.length c] 25)) 25 #[.int .i64 f, .int .i64 t, .int .i64 m, .slice A2 cs.length c2]
  simp only [World.size_alloc] at b2
  have hx0 := ((Nx.refl w).alloc (.cells #[.int .i64 f, .int .i64 t, .int .i64 m, .slice A cs.length c] 25)).alloc (.cells #[.int .i64 f, .int .i64 t, .int .i64 m, .slice A2 cs.length c2] 25)
  go_enter Tryd.func14, Tryd.ntmps14
  go_wp2
  generalize (w.alloc (.cells #[.int .i64 f, .int .i64 t, .int .i64 m, .slice A cs.length c] 25)).alloc (.cells #[.int .i64 f, .int .i64 t, .int .i64 m, .slice A2 cs.length c2] 25) = W at *
  have k1 := h.below hx0 hB
  have k2 := h2.below hx0 hB
  have hB' : B ≤ W.heap.size := Nat.le_trans hB hx0.size
  clear h h2
  go_loopw [5] (fun i wr => ∃ k : Nat, k ≤ cs.length ∧ i = .int .i64 k ∧ Nx W wr) (fun i _ => cs.length - (intOf i).toNat)
  case atStart => exact ⟨0, Nat.zero_le _, rfl, Nx.refl _⟩
  case round =>
    obtain ⟨k, hk, rfl, hnx⟩ := hrel
    obtain ⟨_, _, _, c3⟩ := (b0.nx hnx).d4
    obtain ⟨_, _, _, d3⟩ := (b2.nx hnx).d4
    by_cases hlt : k < cs.length
    · obtain ⟨b, off, rfl, hb, p0, p1, p2⟩ := (k1.below hnx hB').at_ hlt
      obtain ⟨b2, off2, rfl, hb2, q0, q1, q2⟩ := (k2.below hnx hB').at_ hlt
      generalize cs.getD k chZ = s at p0 p1 p2 q0 q1 q2
      obtain ⟨x, y, z⟩ := s
      go_wp2_with fail
      go_still_tail 10, (by kernel_rfl)
      change wpList _ _ _ _ _ wr.drew
      have hnx1 : Nx W wr.drew := Below.drew hnx
      generalize wr.drew = wd at *
      go_wp2
      go_roundw
      case rel => exact ⟨k + 1, by omega, by go_num, hnx1⟩
      case measure => simp [intOf]; omega
    · go_wp2
      go_ret
      exact ⟨rfl, hx0.trans hnx⟩
/-- at: some number below n. -/
def RetAt (n : Nat) (w : World) (e : Ending) (w' : World) : Prop := ∃ v : Nat, e = .returned (.int .i64 (v : Int)) ∧ v < n ∧ Nx w w'
set_option maxRecDepth 100000 in
set_option maxHeartbeats 1000000 in
theorem at_c (A : Option Addr) (n c i m B : Nat) (ys : List Nat) (w : World) (h : U8s w B A n ys) (hB : B ≤ w.heap.size) (hn : n ≤ 1048576) (hi : i ≤ 1000) (hm : 2 ≤ m) (hm2 : m ≤ 100000) :
    Calls Tryd.prog 17 #[.slice A n c, .int .i64 i, .int .i64 m] w (RetAt m w) := by
  by_cases h0 : n = 0
  · subst h0
    go_enter Tryd.func17, Tryd.ntmps17
    go_wp2
    go_ret
    exact ⟨i * 7 % m, ret_int (by rw [show (i : Int) * 7 = ((i * 7 : Nat) : Int) by omega, ← Int.natCast_emod]), Nat.mod_lt _ (by omega), Nx.refl _⟩
  · have hj : i % n < n := Nat.mod_lt _ (by omega)
    have hj2 : (i + 1) % n < n := Nat.mod_lt _ (by omega)
    have e1 : (i : Int).tmod (n : Int) = ((i % n : Nat) : Int) := by rw [Int.tmod_eq_emod_of_nonneg (by omega), ← Int.natCast_emod]
    have e2 : ((i : Int) + 1).tmod (n : Int) = (((i + 1) % n : Nat) : Int) := by rw [show (i : Int) + 1 = ((i + 1 : Nat) : Int) by omega, Int.tmod_eq_emod_of_nonneg (by omega), ← Int.natCast_emod]
    have e3 : (i : Int).tdiv (n : Int) = ((i / n : Nat) : Int) := by rw [Int.tdiv_eq_ediv_of_nonneg (by omega), ← Int.natCast_ediv]
    have hd : i / n ≤ 1000 := Nat.le_trans (Nat.div_le_self _ _) hi
    obtain ⟨b, off, rfl, hb, p0⟩ := h.at_ hj
    obtain ⟨b2, off2, hE, hb2, q0⟩ := h.at_ hj2
    injection hE with hE
    injection hE with hE1 hE2
    subst hE1 hE2
    have hy := h.2.1 (i % n)
    have hy2 := h.2.1 ((i + 1) % n)
    generalize ys.getD (i % n) 0 = y at *
    generalize ys.getD ((i + 1) % n) 0 = y2 at *
    generalize i % n = j at *
    generalize (i + 1) % n = j2 at *
    generalize i / n = d at *
    have e4 : ((y : Int) * 31 + (y2 : Int) + (d : Int)).tmod (m : Int) = (((y * 31 + y2 + d) % m : Nat) : Int) := by rw [Int.tmod_eq_emod_of_nonneg (by omega), show (y : Int) * 31 + (y2 : Int) + (d : Int) = ((y * 31 + y2 + d : Nat) : Int) by omega, ← Int.natCast_emod]
    have e5 : ((y : Int) * 31 + (y2 : Int) + (d : Int)) % (m : Int) = (((y * 31 + y2 + d) % m : Nat) : Int) := by rw [show (y : Int) * 31 + (y2 : Int) + (d : Int) = ((y * 31 + y2 + d : Nat) : Int) by omega, ← Int.natCast_emod]
    obtain ⟨z, Hz⟩ : ∃ z, Hid ((y * 31 + y2 + d) % m = z) := ⟨_, rfl⟩
    have hz : z < m := by rw [← Hz.out]; exact Nat.mod_lt _ (by omega)
    rw [Hz.out] at e4 e5
    have k1 : IntKind.i64.wrap (j : Int) = j := IntWalk.i64_in _ (by omega)
    have k2 : IntKind.i64.wrap (j2 : Int) = j2 := IntWalk.i64_in _ (by omega)
    have k3 : IntKind.i64.wrap (d : Int) = d := IntWalk.i64_in _ (by omega)
    have k4 : IntKind.i64.wrap (z : Int) = z := IntWalk.i64_in _ (by omega)
    have k5 : IntKind.i64.wrap (y : Int) = y := IntWalk.i64_in _ (by omega)
    have k6 : IntKind.i64.wrap (y2 : Int) = y2 := IntWalk.i64_in _ (by omega)
    have k7 : IntKind.i64.wrap ((y : Int) * 31) = (y : Int) * 31 := IntWalk.i64_in _ (by omega)
    have k8 : IntKind.i64.wrap ((y : Int) * 31 + (y2 : Int)) = (y : Int) * 31 + (y2 : Int) := IntWalk.i64_in _ (by omega)
    have k9 : IntKind.i64.wrap ((y : Int) * 31 + (y2 : Int) + (d : Int)) = (y : Int) * 31 + (y2 : Int) + (d : Int) := IntWalk.i64_in _ (by omega)
    have k0 : IntKind.i64.wrap ((i : Int) + 1) = (i : Int) + 1 := IntWalk.i64_in _ (by omega)
    have n0 : ((n : Int) == 0) = false := by rw [beq_eq_false_iff_ne]; omega
    have m0 : ((m : Int) == 0) = false := by rw [beq_eq_false_iff_ne]; omega
    have n1 : ¬ (n : Int) = 0 := by omega
    have m1 : ¬ (m : Int) = 0 := by omega
    have m2 : ¬ m = 0 := by omega
    have l1 : (j : Int) < (n : Int) := by omega
    have l2 : (j2 : Int) < (n : Int) := by omega
    go_enter Tryd.func17, Tryd.ntmps17
    go_wp2
    refine wp_region_lex [false, false, false, false, false, false, false, false, false, false, false, false, false, false, false, false, false, false, false, false, false, false, false, false, false, false, false] (fun w' => w'.cell? ⟨b, off + j, none⟩ = some (.int .u8 (y : Int)) ∧ w'.cell? ⟨b, off + j2, none⟩ = some (.int .u8 (y2 : Int))) (by kernel_rfl) (by kernel_rfl) rfl (by kernel_rfl) (fun _ _ d _ _ h => by cases d <;> exact h) (by exact ⟨p0, q0⟩) ?_
    repeat (first | (refine HL.take (v := ?_) (by rfl) ?_ ?_; rotate_left; (· (intro w hSw; (try dsimp only at hSw); go_simp; try with_reducible rfl)); (try simp only [Act.put, List.setIfInBounds_toArray, List.set_cons_zero, List.set_cons_succ])) | (refine HL.skip (by rfl) ?_; (try simp only [Act.put, List.setIfInBounds_toArray, List.set_cons_zero, List.set_cons_succ])))
    refine HL.done ?_
    go_wp2
    go_ret
    exact ⟨z, rfl, hz, Below.drew (Nx.refl w)⟩
end Go.Proofs.YtiocbppldpogpaaDoor
