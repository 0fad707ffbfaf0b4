/-
  Contracts of the program's ReadFrame, and the walk of the law FnExactReadFrame.
  Conditions: the package's errors are known.
-/
import Derived.Test.YtiocbppldpogpaaDoorRff
namespace Go.Proofs.YtiocbppldpogpaaDoor
set_option linter.unusedVariables false
open Go.RowKit

set_option maxHeartbeats 1000000 in
theorem textCode_nil (w : World) : Calls Tryd.prog 38 #[.nilIface] w fun e w' => e = .returned (.int .i64 0) ∧ w = w' := by
  go_enter Tryd.func38, Tryd.ntmps38
  go_wp2
  go_ret
  exact ⟨rfl, rfl⟩
set_option maxHeartbeats 1000000 in
theorem textCode_form (w : World) (a0 a1 : Addr) (hE : Er w a0 a1) : Calls Tryd.prog 38 #[.iface 118 (.pointer (some a0))] w fun e w' => e = .returned (.int .i64 3) ∧ w = w' := by
  obtain ⟨_, c1, hne, ⟨ca, ta, h0⟩, cb, tb, h1⟩ := hE
  have HE := Lib.hid (And.intro hne (And.intro h0 h1))
  clear hne h0 h1
  go_enter Tryd.func38, Tryd.ntmps38
  go_wp2_with fail
  refine (is_other a0 a1 ca cb ta tb _ HE.out.1 HE.out.2.1 HE.out.2.2).mono ?_
  rintro e w' ⟨rfl, rfl⟩
  go_wp2
  go_ret
  exact ⟨rfl, rfl⟩
set_option maxHeartbeats 1000000 in
theorem textCode_long (w : World) (a0 a1 : Addr) (hE : Er w a0 a1) : Calls Tryd.prog 38 #[.iface 118 (.pointer (some a1))] w fun e w' => e = .returned (.int .i64 2) ∧ w = w' := by
  obtain ⟨_, c1, _⟩ := hE
  go_enter Tryd.func38, Tryd.ntmps38
  go_wp2_with fail
  refine (is_same a1 _).mono ?_
  rintro e w' ⟨rfl, rfl⟩
  go_wp2
  go_ret
  exact ⟨rfl, rfl⟩
set_option maxRecDepth 100000 in
set_option maxHeartbeats 4000000 in
theorem frameOfTextLong_c (t : ByteArray) (w : World) (a0 a1 : Addr) (ht : 65536 < t.size) (hE : Er w a0 a1) :
    Calls Tryd.prog 41 #[.string t] w fun e w' => e = .returned (.tuple #[.agg #[.int .i64 0, .int .i64 0, .int .i64 0, .int .i64 0], .iface 118 (.pointer (some a1))]) ∧ Nx w w' := by
  have b0 := Box.new w 28 #[.int .i64 0, .int .i64 0, .int .i64 0, .int .i64 0]
  have hx0 := (Nx.refl w).alloc (.cells #[.int .i64 0, .int .i64 0, .int .i64 0, .int .i64 0] 28)
  go_enter Tryd.func41, Tryd.ntmps41
  go_wp2_with fail
  generalize w.alloc (.cells #[.int .i64 0, .int .i64 0, .int .i64 0, .int .i64 0] 28) = W at *
  refine (sealedNumbersLong_c t _ a0 a1 ht (hE.nx hx0)).mono ?_
  rintro e w1 ⟨rfl, hnx1⟩
  have b1 := b0.nx hnx1
  have hx1 := hx0.trans hnx1
  clear b0 hx0 hnx1
  obtain ⟨c0, c1, c2, c3⟩ := b1.d4
  have f0 := b1.frozen 0
  have f1 := b1.frozen 1
  have f2 := b1.frozen 2
  have f3 := b1.frozen 3
  go_wp2
  have q := (put4_box b1 (.int .i64 0) (.int .i64 0) (.int .i64 0) (.int .i64 0))
  have hnf := (put4_nx hx1 (Nat.le_refl w.heap.size) (.int .i64 0) (.int .i64 0) (.int .i64 0) (.int .i64 0))
  change bodyPost _ _ _ _ _ (put4 w1 w.heap.size (.int .i64 0) (.int .i64 0) (.int .i64 0) (.int .i64 0))
  change Box (put4 w1 w.heap.size (.int .i64 0) (.int .i64 0) (.int .i64 0) (.int .i64 0)) _ _ _ at q
  generalize put4 w1 w.heap.size (.int .i64 0) (.int .i64 0) (.int .i64 0) (.int .i64 0) = Wf at *
  obtain ⟨g0, g1, g2, g3⟩ := q.d4
  exact bodyPost_ret (v := .tuple #[.agg #[.int .i64 0, .int .i64 0, .int .i64 0, .int .i64 0], .iface 118 (.pointer (some a1))]) (by simp [results, Tryd.results41, go_sem, g0, g1, g2, g3]) rfl ⟨rfl, hnf⟩

/-- What frameOfText answers, in one form: a frame, an error, and the code that it has. -/
theorem frameText_any (t : ByteArray) (w : World) (a0 a1 : Addr) (hE : Er w a0 a1) :
    ∃ (q : F4) (ev : Value) (cd : Int), Ending.returned (.tuple #[vF q, .int .i64 cd]) = .returned (.tuple #[vF (frA t), .int .i64 (frC t)]) ∧
      (∀ w', Er w' a0 a1 → Calls Tryd.prog 38 #[ev] w' fun e w'' => e = .returned (.int .i64 cd) ∧ w' = w'') ∧
      ∀ w', Er w' a0 a1 → Calls Tryd.prog 41 #[.string t] w' fun e w'' => e = .returned (.tuple #[vF q, ev]) ∧ Nx w' w'' := by
  by_cases hl : t.size ≤ 65536
  case neg =>
    exact ⟨zF, _, 2, frA_long hl, fun w' h => textCode_long w' a0 a1 h, fun w' h => frameOfTextLong_c t w' a0 a1 (by omega) h⟩
  cases hr : rdF t with
  | none => exact ⟨zF, _, 3, frA_none hl hr, fun w' h => textCode_form w' a0 a1 h, fun w' h => (frameOfText_c t w' a0 a1 hl h).mono fun e w'' ⟨he, hn⟩ => ⟨by rw [he, hr]; rfl, hn⟩⟩
  | some q => exact ⟨q, _, 0, frA_some hl hr, fun w' h => textCode_nil w', fun w' h => (frameOfText_c t w' a0 a1 hl h).mono fun e w'' ⟨he, hn⟩ => ⟨by rw [he, hr]; rfl, hn⟩⟩
set_option maxRecDepth 100000 in
set_option maxHeartbeats 4000000 in
theorem implReadFrame_c (t : ByteArray) (w : World) (a0 a1 : Addr) (hE : Er w a0 a1) : Calls Tryd.prog 13 #[.string t] w (RetRF w t) := by
  obtain ⟨q, ev, cd, hA, hTC, hFT⟩ := frameText_any t w a0 a1 hE
  have HA := Lib.hid hA
  have HTC := Lib.hid hTC
  have HFT := Lib.hid hFT
  clear hA hTC hFT
  have b0 := Box.new w 28 #[.int .i64 0, .int .i64 0, .int .i64 0, .int .i64 0]
  have hx0 := (Nx.refl w).alloc (.cells #[.int .i64 0, .int .i64 0, .int .i64 0, .int .i64 0] 28)
  obtain ⟨q0, q1, q2, q3⟩ := q
  go_enter Tryd.func13, Tryd.ntmps13
  go_wp2_with fail
  generalize w.alloc (.cells #[.int .i64 0, .int .i64 0, .int .i64 0, .int .i64 0] 28) = W at *
  refine (HFT.out _ (hE.nx hx0)).mono ?_
  rintro e w1 ⟨rfl, hnx1⟩
  rw [show vF (q0, q1, q2, q3) = .agg #[.int .i64 q0, .int .i64 q1, .int .i64 q2, .int .i64 q3] from rfl]
  go_wp2_with fail
  have b2 := (b0.nx hnx1).alloc (.cells #[.int .i64 q0, .int .i64 q1, .int .i64 q2, .int .i64 q3] 28)
  have bx := Box.new w1 28 #[.int .i64 q0, .int .i64 q1, .int .i64 q2, .int .i64 q3]
  have hgx : w1.heap.size ≠ w.heap.size := by have := (b0.nx hnx1).lt; omega
  have hx2 := (hx0.trans hnx1).alloc (.cells #[.int .i64 q0, .int .i64 q1, .int .i64 q2, .int .i64 q3] 28)
  have hE2 := hE.nx hx2
  generalize w1.alloc (.cells #[.int .i64 q0, .int .i64 q1, .int .i64 q2, .int .i64 q3] 28) = w2 at *
  obtain ⟨c0, c1, c2, c3⟩ := b2.d4
  have f0 := b2.frozen 0
  have f1 := b2.frozen 1
  have f2 := b2.frozen 2
  have f3 := b2.frozen 3
  refine wp_region_lex [false, false, true, true, false] (fun w' => w'.cell? ⟨w1.heap.size, 0, none⟩ = some (.int .i64 q0) ∧ w'.cell? ⟨w1.heap.size, 1, none⟩ = some (.int .i64 q1) ∧ w'.cell? ⟨w1.heap.size, 2, none⟩ = some (.int .i64 q2) ∧ w'.cell? ⟨w1.heap.size, 3, none⟩ = some (.int .i64 q3)) (by kernel_rfl) (by kernel_rfl) rfl (by kernel_rfl) (fun _ _ d _ _ h => by cases d <;> exact h) (by exact bx.d4) ?_
  repeat (first | (refine HL.take (v := ?_) (by rfl) ?_ ?_; rotate_left; (· (intro w hSw; (try dsimp only at hSw); go_simp; try with_reducible rfl)); (try simp only [Act.put, List.setIfInBounds_toArray, List.set_cons_zero, List.set_cons_succ])) | (refine HL.skip (by rfl) ?_; (try simp only [Act.put, List.setIfInBounds_toArray, List.set_cons_zero, List.set_cons_succ])))
  refine HL.call (by rfl) (fun K hK => ?_)
  go_simp
  refine (HTC.out _ (hE2.nx (Nx.refl _).drew)).mono ?_; rintro e w' ⟨rfl, rfl⟩
  go_wp2_with fail
  refine hK.out _ _ (by exact bx.d4) ?_
  clear hK K
  try simp only [Act.put, List.setIfInBounds_toArray, List.set_cons_zero, List.set_cons_succ]
  refine HL.call (by rfl) (fun K hK => ?_)
  go_simp
  refine hK.out _ _ (by exact (bx.far4 hgx (.int .i64 q0) (.int .i64 q1) (.int .i64 q2) (.int .i64 q3)).d4) ?_
  clear hK K
  try simp only [Act.put, List.setIfInBounds_toArray, List.set_cons_zero, List.set_cons_succ]
  repeat (first | (refine HL.take (v := ?_) (by rfl) ?_ ?_; rotate_left; (· (intro w hSw; (try dsimp only at hSw); go_simp; try with_reducible rfl)); (try simp only [Act.put, List.setIfInBounds_toArray, List.set_cons_zero, List.set_cons_succ])) | (refine HL.skip (by rfl) ?_; (try simp only [Act.put, List.setIfInBounds_toArray, List.set_cons_zero, List.set_cons_succ])))
  refine HL.done ?_
  clear c0 c1 c2 c3 f0 f1 f2 f3
  go_wp2
  have q := (put4_box b2 (.int .i64 q0) (.int .i64 q1) (.int .i64 q2) (.int .i64 q3))
  have hnf := (put4_nx hx2 (Nat.le_refl w.heap.size) (.int .i64 q0) (.int .i64 q1) (.int .i64 q2) (.int .i64 q3)).drew
  change bodyPost _ _ _ _ _ (World.drew (put4 w2 w.heap.size (.int .i64 q0) (.int .i64 q1) (.int .i64 q2) (.int .i64 q3)))
  change Box (World.drew (put4 w2 w.heap.size (.int .i64 q0) (.int .i64 q1) (.int .i64 q2) (.int .i64 q3))) _ _ _ at q
  generalize World.drew (put4 w2 w.heap.size (.int .i64 q0) (.int .i64 q1) (.int .i64 q2) (.int .i64 q3)) = Wf at *
  obtain ⟨g0, g1, g2, g3⟩ := q.d4
  exact bodyPost_ret (v := .tuple #[.agg #[.int .i64 q0, .int .i64 q1, .int .i64 q2, .int .i64 q3], .int .i64 cd]) (by simp [results, Tryd.results13, go_sem, g0, g1, g2, g3]) rfl ⟨HA.out, hnf⟩

set_option maxHeartbeats 1000000 in
theorem eqFrame_c (a b c d : Int) (w : World) :
    Calls Tryd.prog 27 #[.agg #[.int .i64 a, .int .i64 b, .int .i64 c, .int .i64 d], .agg #[.int .i64 a, .int .i64 b, .int .i64 c, .int .i64 d]] w fun e w' => e = .returned (.bool true) ∧ Nx w w' := by
  go_enter Tryd.func27, Tryd.ntmps27
  go_wp2
  go_ret
  exact ⟨rfl, (((Nx.refl _).alloc _).alloc _)⟩
set_option maxRecDepth 100000 in
set_option maxHeartbeats 2000000 in
theorem lawReadFrame (t : ByteArray) (w : World) (a0 a1 : Addr) (hE : Er w a0 a1) (_hs : t.size ≤ maxLen) : Calls Tryd.prog 5 #[.string t] w fun e w' => e = .returned (.bool true) ∧ Nx w w' := by
  by_cases hb : t.size ≤ 1048576
  case neg =>
    have hb' : decide (1048576 < (t.size : Int)) = true := by simp; omega
    go_enter Tryd.func5, Tryd.ntmps5
    go_wp2
    go_ret
    exact ⟨rfl, Nx.refl _⟩
  have hb' : decide (1048576 < (t.size : Int)) = false := by simp; omega
  obtain ⟨⟨q0, q1, q2, q3⟩, Hq⟩ : ∃ q, Hid (frA t = q) := ⟨_, rfl⟩
  obtain ⟨cd, Hc⟩ : ∃ cd, Hid (frC t = cd) := ⟨_, rfl⟩
  have hv : vF (q0, q1, q2, q3) = .agg #[.int .i64 q0, .int .i64 q1, .int .i64 q2, .int .i64 q3] := rfl
  have HV := Lib.hid hv
  clear hv
  go_enter Tryd.func5, Tryd.ntmps5
  go_wp2_with fail
  refine (specReadFrame_c t _ hb).mono ?_
  rintro e w1 ⟨rfl, hnx1⟩
  rw [Hq.out, Hc.out, HV.out]
  go_wp2_with fail
  have b1 := Box.new w1 28 #[.int .i64 q0, .int .i64 q1, .int .i64 q2, .int .i64 q3]
  have hx1 := hnx1.alloc (.cells #[.int .i64 q0, .int .i64 q1, .int .i64 q2, .int .i64 q3] 28)
  generalize w1.alloc (.cells #[.int .i64 q0, .int .i64 q1, .int .i64 q2, .int .i64 q3] 28) = W1 at *
  refine (implReadFrame_c t _ a0 a1 (hE.nx hx1)).mono ?_
  rintro e w2 ⟨rfl, hnx2⟩
  rw [Hq.out, Hc.out, HV.out]
  obtain ⟨c0, c1, c2, c3⟩ := (b1.nx hnx2).d4
  have hlt := (b1.nx hnx2).lt
  go_wp2_with fail
  refine (eqFrame_c q0 q1 q2 q3 _).mono ?_
  rintro e w3 ⟨rfl, hnx3⟩
  go_wp2
  go_ret
  exact ⟨rfl, ((hx1.trans hnx2).alloc _).trans hnx3⟩
end Go.Proofs.YtiocbppldpogpaaDoor
