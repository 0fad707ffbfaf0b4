/-
  Contracts of ReadFrame, as the model and as the program have it: both answer the same frame and code.
  Conditions: texts of at most 1048576 bytes; the package's errors are known.
-/
import Derived.Test.YtiocbppldpogpaaDoorRdf
namespace Go.Proofs.YtiocbppldpogpaaDoor
set_option linter.unusedVariables false
open Go.RowKit

theorem Box.far4 {w : World} {g g' : Nat} {t : TypeId} {cs : Array Value} (h : Box w g t cs) (hg : g ≠ g') (v0 v1 v2 v3 : Value) : Box (put4 w g' v0 v1 v2 v3) g t cs :=
  (((h.far (p := ⟨g', 0, none⟩) hg v0).far (p := ⟨g', 1, none⟩) hg v1).far (p := ⟨g', 2, none⟩) hg v2).far (p := ⟨g', 3, none⟩) hg v3

/-- The frame and the code that a text has. -/
def frA (t : ByteArray) : F4 := if t.size ≤ 65536 then (rdF t).getD zF else zF
def frC (t : ByteArray) : Int := if t.size ≤ 65536 then (if (rdF t).isSome then 0 else 3) else 2
theorem frA_long {t : ByteArray} (h : ¬ t.size ≤ 65536) : Ending.returned (.tuple #[vF zF, .int .i64 2]) = .returned (.tuple #[vF (frA t), .int .i64 (frC t)]) := by unfold frA frC; rw [if_neg h, if_neg h]
theorem frA_none {t : ByteArray} (h : t.size ≤ 65536) (hr : rdF t = none) : Ending.returned (.tuple #[vF zF, .int .i64 3]) = .returned (.tuple #[vF (frA t), .int .i64 (frC t)]) := by unfold frA frC; rw [if_pos h, if_pos h, hr]; rfl
theorem frA_some {t : ByteArray} {q : F4} (h : t.size ≤ 65536) (hr : rdF t = some q) : Ending.returned (.tuple #[vF q, .int .i64 0]) = .returned (.tuple #[vF (frA t), .int .i64 (frC t)]) := by unfold frA frC; rw [if_pos h, if_pos h, hr]; rfl
def RetRF (w : World) (t : ByteArray) (e : Ending) (w' : World) : Prop := e = .returned (.tuple #[vF (frA t), .int .i64 (frC t)]) ∧ Nx w w'

set_option maxRecDepth 100000 in
set_option maxHeartbeats 2000000 in
theorem specReadFrame_c (t : ByteArray) (w : World) (ht : t.size ≤ 1048576) : Calls Tryd.prog 26 #[.string t] w (RetRF w t) := by
  have b0 := Box.new w 28 #[.int .i64 0, .int .i64 0, .int .i64 0, .int .i64 0]
  have hx0 := (Nx.refl w).alloc (.cells #[.int .i64 0, .int .i64 0, .int .i64 0, .int .i64 0] 28)
  by_cases hl : t.size ≤ 65536
  case neg =>
    have hd : decide (65536 < (t.size : Int)) = true := by simp; omega
    have HA := Lib.hid (frA_long hl)
    go_enter Tryd.func26, Tryd.ntmps26
    go_wp2
    refine bodyPost_ret (v := .tuple #[.agg #[.int .i64 0, .int .i64 0, .int .i64 0, .int .i64 0], .int .i64 2]) (by simp [results, Tryd.results26, go_sem]) rfl ⟨HA.out, hx0⟩
  have hd : decide (65536 < (t.size : Int)) = false := by simp; omega
  obtain ⟨o, Ho⟩ : ∃ o, Hid (rdF t = o) := ⟨_, rfl⟩
  go_enter Tryd.func26, Tryd.ntmps26
  go_wp2_with fail
  generalize w.alloc (.cells #[.int .i64 0, .int .i64 0, .int .i64 0, .int .i64 0] 28) = W at *
  refine (l02ToFrame_c t _ hl).mono ?_
  rintro e w1 ⟨rfl, hnx1⟩
  rw [Ho.out]
  have b1 := b0.nx hnx1
  have hx1 := hx0.trans hnx1
  clear b0 hx0 hnx1
  obtain ⟨c0, c1, c2, c3⟩ := b1.d4
  have f0 := b1.frozen 0
  have f1 := b1.frozen 1
  have f2 := b1.frozen 2
  have f3 := b1.frozen 3
  have hlt := b1.lt
  cases o with
  | none =>
    have HA := Lib.hid (frA_none hl Ho.out)
    rw [show vF (Option.getD none zF) = .agg #[.int .i64 0, .int .i64 0, .int .i64 0, .int .i64 0] from rfl]
    simp only [Option.isSome_none]
    go_wp2
    have q := ((put4_box b1 (.int .i64 0) (.int .i64 0) (.int .i64 0) (.int .i64 0)).alloc (.cells #[.int .i64 0, .int .i64 0, .int .i64 0, .int .i64 0] 28))
    have hnf := ((put4_nx hx1 (Nat.le_refl w.heap.size) (.int .i64 0) (.int .i64 0) (.int .i64 0) (.int .i64 0)).alloc (.cells #[.int .i64 0, .int .i64 0, .int .i64 0, .int .i64 0] 28))
    change bodyPost _ _ _ _ _ (World.alloc (put4 w1 w.heap.size (.int .i64 0) (.int .i64 0) (.int .i64 0) (.int .i64 0)) (.cells #[.int .i64 0, .int .i64 0, .int .i64 0, .int .i64 0] 28))
    change Box (World.alloc (put4 w1 w.heap.size (.int .i64 0) (.int .i64 0) (.int .i64 0) (.int .i64 0)) (.cells #[.int .i64 0, .int .i64 0, .int .i64 0, .int .i64 0] 28)) _ _ _ at q
    generalize World.alloc (put4 w1 w.heap.size (.int .i64 0) (.int .i64 0) (.int .i64 0) (.int .i64 0)) (.cells #[.int .i64 0, .int .i64 0, .int .i64 0, .int .i64 0] 28) = Wf at *
    obtain ⟨g0, g1, g2, g3⟩ := q.d4
    exact bodyPost_ret (v := .tuple #[.agg #[.int .i64 0, .int .i64 0, .int .i64 0, .int .i64 0], .int .i64 3]) (by simp [results, Tryd.results26, go_sem, g0, g1, g2, g3]) rfl ⟨HA.out, hnf⟩
  | some q =>
    have HA := Lib.hid (frA_some hl Ho.out)
    obtain ⟨q0, q1, q2, q3⟩ := q
    rw [show vF (Option.getD (some (q0, q1, q2, q3)) zF) = .agg #[.int .i64 q0, .int .i64 q1, .int .i64 q2, .int .i64 q3] from rfl]
    simp only [Option.isSome_some]
    go_wp2
    have q := ((put4_box b1 (.int .i64 q0) (.int .i64 q1) (.int .i64 q2) (.int .i64 q3)).alloc (.cells #[.int .i64 q0, .int .i64 q1, .int .i64 q2, .int .i64 q3] 28))
    have hnf := ((put4_nx hx1 (Nat.le_refl w.heap.size) (.int .i64 q0) (.int .i64 q1) (.int .i64 q2) (.int .i64 q3)).alloc (.cells #[.int .i64 q0, .int .i64 q1, .int .i64 q2, .int .i64 q3] 28))
    change bodyPost _ _ _ _ _ (World.alloc (put4 w1 w.heap.size (.int .i64 q0) (.int .i64 q1) (.int .i64 q2) (.int .i64 q3)) (.cells #[.int .i64 q0, .int .i64 q1, .int .i64 q2, .int .i64 q3] 28))
    change Box (World.alloc (put4 w1 w.heap.size (.int .i64 q0) (.int .i64 q1) (.int .i64 q2) (.int .i64 q3)) (.cells #[.int .i64 q0, .int .i64 q1, .int .i64 q2, .int .i64 q3] 28)) _ _ _ at q
    generalize World.alloc (put4 w1 w.heap.size (.int .i64 q0) (.int .i64 q1) (.int .i64 q2) (.int .i64 q3)) (.cells #[.int .i64 q0, .int .i64 q1, .int .i64 q2, .int .i64 q3] 28) = Wf at *
    obtain ⟨g0, g1, g2, g3⟩ := q.d4
    exact bodyPost_ret (v := .tuple #[.agg #[.int .i64 q0, .int .i64 q1, .int .i64 q2, .int .i64 q3], .int .i64 0]) (by simp [results, Tryd.results26, go_sem, g0, g1, g2, g3]) rfl ⟨HA.out, hnf⟩

def erV (a0 : Addr) (o : Option F4) : Value := if o.isSome then .nilIface else .iface 118 (.pointer (some a0))
def RetFT (w : World) (o : Option F4) (a0 : Addr) (e : Ending) (w' : World) : Prop := e = .returned (.tuple #[vF (o.getD zF), erV a0 o]) ∧ Nx w w'
set_option maxRecDepth 100000 in
set_option maxHeartbeats 4000000 in
theorem frameOfText_c (t : ByteArray) (w : World) (a0 a1 : Addr) (ht : t.size ≤ 65536) (hE : Er w a0 a1) : Calls Tryd.prog 41 #[.string t] w (RetFT w (rdF t) a0) := by
  have e0 := hE.1
  have hg0 : 0 < w.heap.size := World.block_lt_of_cell? w _ e0
  have b0 := Box.new w 28 #[.int .i64 0, .int .i64 0, .int .i64 0, .int .i64 0]
  have hx0 := (Nx.refl w).alloc (.cells #[.int .i64 0, .int .i64 0, .int .i64 0, .int .i64 0] 28)
  go_enter Tryd.func41, Tryd.ntmps41
  go_wp2_with fail
  generalize w.alloc (.cells #[.int .i64 0, .int .i64 0, .int .i64 0, .int .i64 0] 28) = W at *
  refine (sealedNumbers_c t _ a0 a1 ht (hE.nx hx0)).mono ?_
  rintro e w1 ⟨hnx1, h1, h2⟩
  have b1 := b0.nx hnx1
  have hx1 := hx0.trans hnx1
  clear b0 hx0 hnx1
  cases hr : rdN t with
  | none =>
    obtain rfl := h1 hr
    have HF := Lib.hid (rdF_none hr)
    clear h1 h2 hr
    obtain ⟨c0, c1, c2, c3⟩ := b1.d4
    have f0 := b1.frozen 0
    have f1 := b1.frozen 1
    have f2 := b1.frozen 2
    have f3 := b1.frozen 3
    go_wp2
    have q := (put4_box b1 (.int .i64 0) (.int .i64 0) (.int .i64 0) (.int .i64 0))
    have hnf := (put4_nx hx1 (Nat.le_refl w.heap.size) (.int .i64 0) (.int .i64 0) (.int .i64 0) (.int .i64 0))
    change bodyPost _ _ _ _ _ (put4 w1 w.heap.size (.int .i64 0) (.int .i64 0) (.int .i64 0) (.int .i64 0))
    change Box (put4 w1 w.heap.size (.int .i64 0) (.int .i64 0) (.int .i64 0) (.int .i64 0)) _ _ _ at q
    generalize put4 w1 w.heap.size (.int .i64 0) (.int .i64 0) (.int .i64 0) (.int .i64 0) = Wf at *
    obtain ⟨g0, g1, g2, g3⟩ := q.d4
    exact bodyPost_ret (v := .tuple #[.agg #[.int .i64 0, .int .i64 0, .int .i64 0, .int .i64 0], .iface 118 (.pointer (some a0))]) (by simp [results, Tryd.results41, go_sem, g0, g1, g2, g3]) rfl ⟨by rw [HF.out]; rfl, hnf⟩
  | some ns =>
    obtain ⟨A, c, rfl, hrow⟩ := h2 ns hr
    have HN := Lib.hid hr
    clear h1 h2 hr
    by_cases hl : ns.length = 4
    case neg =>
      have hl' : ((ns.length : Int) != 4) = true := by rw [bne_iff_ne]; omega
      have HF := Lib.hid (rdF_len HN.out hl)
      obtain ⟨c0, c1, c2, c3⟩ := b1.d4
      have f0 := b1.frozen 0
      have f1 := b1.frozen 1
      have f2 := b1.frozen 2
      have f3 := b1.frozen 3
      have hlt := b1.lt
      go_wp2_with fail
      refine wp_region_lex [false, false, true, false] (fun w' => w'.cell? ⟨0, 0, none⟩ = some (.iface 118 (.pointer (some a0)))) (by kernel_rfl) (by kernel_rfl) rfl (by kernel_rfl) (fun _ _ d _ _ h => by cases d <;> exact h) (by exact ((hx1.drew).cell (p := ⟨0, 0, none⟩) hg0).trans e0) ?_
      repeat (first | (refine HL.take (v := ?_) (by rfl) ?_ ?_; rotate_left; (· (intro w hSw; (try dsimp only at hSw); go_simp; try with_reducible rfl)); (try simp only [Act.put, List.setIfInBounds_toArray, List.set_cons_zero, List.set_cons_succ])) | (refine HL.skip (by rfl) ?_; (try simp only [Act.put, List.setIfInBounds_toArray, List.set_cons_zero, List.set_cons_succ])))
      refine HL.call (by rfl) (fun K hK => ?_)
      go_simp
      refine hK.out _ _ (by exact (put4_nx hx1.drew (Nat.le_refl w.heap.size) (.int .i64 0) (.int .i64 0) (.int .i64 0) (.int .i64 0)).cell (p := ⟨0, 0, none⟩) hg0 |>.trans e0) ?_
      clear hK K
      try simp only [Act.put, List.setIfInBounds_toArray, List.set_cons_zero, List.set_cons_succ]
      repeat (first | (refine HL.take (v := ?_) (by rfl) ?_ ?_; rotate_left; (· (intro w hSw; (try dsimp only at hSw); go_simp; try with_reducible rfl)); (try simp only [Act.put, List.setIfInBounds_toArray, List.set_cons_zero, List.set_cons_succ])) | (refine HL.skip (by rfl) ?_; (try simp only [Act.put, List.setIfInBounds_toArray, List.set_cons_zero, List.set_cons_succ])))
      refine HL.done ?_
      clear c0 c1 c2 c3 f0 f1 f2 f3
      go_wp2
      have q := (put4_box b1 (.int .i64 0) (.int .i64 0) (.int .i64 0) (.int .i64 0))
      have hnf := (put4_nx hx1 (Nat.le_refl w.heap.size) (.int .i64 0) (.int .i64 0) (.int .i64 0) (.int .i64 0)).drew
      change bodyPost _ _ _ _ _ (World.drew (put4 w1 w.heap.size (.int .i64 0) (.int .i64 0) (.int .i64 0) (.int .i64 0)))
      change Box (World.drew (put4 w1 w.heap.size (.int .i64 0) (.int .i64 0) (.int .i64 0) (.int .i64 0))) _ _ _ at q
      generalize World.drew (put4 w1 w.heap.size (.int .i64 0) (.int .i64 0) (.int .i64 0) (.int .i64 0)) = Wf at *
      obtain ⟨g0, g1, g2, g3⟩ := q.d4
      exact bodyPost_ret (v := .tuple #[.agg #[.int .i64 0, .int .i64 0, .int .i64 0, .int .i64 0], .iface 118 (.pointer (some a0))]) (by simp [results, Tryd.results41, go_sem, g0, g1, g2, g3]) rfl ⟨by rw [HF.out]; rfl, hnf⟩
    case pos =>
      obtain ⟨n0, n1, n2, n3, rfl⟩ := four hl
      clear hl
      simp only [List.length_cons, List.length_nil] at hrow ⊢
      obtain ⟨b, off, rfl, hb, k0, k1, k2, k3⟩ := Row.four hrow
      have HF := Lib.hid (rdF_four HN.out)
      go_wp2_with fail
      refine wp_region_lex [false, false, false, false, false, false, false, false, false, false, false, false, false, true, true] (fun w' => w'.cell? ⟨b, off, none⟩ = some (.int .i64 n0) ∧ w'.cell? ⟨b, off + 1, none⟩ = some (.int .i64 n1) ∧ w'.cell? ⟨b, off + 2, none⟩ = some (.int .i64 n2) ∧ w'.cell? ⟨b, off + 3, none⟩ = some (.int .i64 n3)) (by kernel_rfl) (by kernel_rfl) rfl (by kernel_rfl) (fun _ _ d _ _ h => by cases d <;> exact h) (by exact ⟨k0, k1, k2, k3⟩) ?_
      repeat (first | (refine HL.take (v := ?_) (by rfl) ?_ ?_; rotate_left; (· (intro w hSw; (try dsimp only at hSw); go_simp; try with_reducible rfl)); (try simp only [Act.put, List.setIfInBounds_toArray, List.set_cons_zero, List.set_cons_succ])) | (refine HL.skip (by rfl) ?_; (try simp only [Act.put, List.setIfInBounds_toArray, List.set_cons_zero, List.set_cons_succ])))
      refine HL.call (by rfl) (fun K hK => ?_)
      go_simp
      refine hK.out _ _ (by exact ⟨(((Nx.refl w1).alloc _).cell (p := ⟨b, off, none⟩) hb).trans k0, (((Nx.refl w1).alloc _).cell (p := ⟨b, off + 1, none⟩) hb).trans k1, (((Nx.refl w1).alloc _).cell (p := ⟨b, off + 2, none⟩) hb).trans k2, (((Nx.refl w1).alloc _).cell (p := ⟨b, off + 3, none⟩) hb).trans k3⟩) ?_
      clear hK K
      try simp only [Act.put, List.setIfInBounds_toArray, List.set_cons_zero, List.set_cons_succ]
      refine HL.call (by rfl) (fun K hK => ?_)
      go_simp
      refine hK.out _ _ (by exact ⟨(((Nx.refl w1).alloc _).cell (p := ⟨b, off, none⟩) hb).trans k0, (((Nx.refl w1).alloc _).cell (p := ⟨b, off + 1, none⟩) hb).trans k1, (((Nx.refl w1).alloc _).cell (p := ⟨b, off + 2, none⟩) hb).trans k2, (((Nx.refl w1).alloc _).cell (p := ⟨b, off + 3, none⟩) hb).trans k3⟩) ?_
      clear hK K
      try simp only [Act.put, List.setIfInBounds_toArray, List.set_cons_zero, List.set_cons_succ]
      refine HL.done ?_
      clear k0 k1 k2 k3
      have b3 := b1.alloc (.cells #[.int .i64 n0, .int .i64 n1, .int .i64 n2, .int .i64 n3] 28)
      have bx := Box.new w1 28 #[.int .i64 n0, .int .i64 n1, .int .i64 n2, .int .i64 n3]
      have hx3 := (hx1.alloc (.cells #[.int .i64 n0, .int .i64 n1, .int .i64 n2, .int .i64 n3] 28)).drew
      change Exit.then _ _ _ _ (World.drew (w1.alloc (.cells #[.int .i64 n0, .int .i64 n1, .int .i64 n2, .int .i64 n3] 28)))
      change Box (World.drew (w1.alloc (.cells #[.int .i64 n0, .int .i64 n1, .int .i64 n2, .int .i64 n3] 28))) _ _ _ at b3 bx
      generalize World.drew (w1.alloc (.cells #[.int .i64 n0, .int .i64 n1, .int .i64 n2, .int .i64 n3] 28)) = w3 at *
      obtain ⟨x0, x1, x2, x3⟩ := bx.d4
      go_wp2_with fail
      refine (frameRight_c n0 n1 n2 n3 _).mono ?_
      rintro e w4 ⟨rfl, hnx4⟩
      have b4 := b3.nx hnx4
      have bx4 := bx.nx hnx4
      have hx4 := hx3.trans hnx4
      clear x0 x1 x2 x3
      obtain ⟨x0, x1, x2, x3⟩ := bx4.d4
      cases hf : frameB n0 n1 n2 n3 with
      | false =>
        rw [hf] at HF
        clear hf
        obtain ⟨c0, c1, c2, c3⟩ := b4.d4
        have f0 := b4.frozen 0
        have f1 := b4.frozen 1
        have f2 := b4.frozen 2
        have f3 := b4.frozen 3
        have hlt := b4.lt
        go_wp2_with fail
        refine wp_region_lex [false, false, true, false] (fun w' => w'.cell? ⟨0, 0, none⟩ = some (.iface 118 (.pointer (some a0)))) (by kernel_rfl) (by kernel_rfl) rfl (by kernel_rfl) (fun _ _ d _ _ h => by cases d <;> exact h) (by exact ((hx4.drew).cell (p := ⟨0, 0, none⟩) hg0).trans e0) ?_
        repeat (first | (refine HL.take (v := ?_) (by rfl) ?_ ?_; rotate_left; (· (intro w hSw; (try dsimp only at hSw); go_simp; try with_reducible rfl)); (try simp only [Act.put, List.setIfInBounds_toArray, List.set_cons_zero, List.set_cons_succ])) | (refine HL.skip (by rfl) ?_; (try simp only [Act.put, List.setIfInBounds_toArray, List.set_cons_zero, List.set_cons_succ])))
        refine HL.call (by rfl) (fun K hK => ?_)
        go_simp
        refine hK.out _ _ (by exact (put4_nx hx4.drew (Nat.le_refl w.heap.size) (.int .i64 0) (.int .i64 0) (.int .i64 0) (.int .i64 0)).cell (p := ⟨0, 0, none⟩) hg0 |>.trans e0) ?_
        clear hK K
        try simp only [Act.put, List.setIfInBounds_toArray, List.set_cons_zero, List.set_cons_succ]
        repeat (first | (refine HL.take (v := ?_) (by rfl) ?_ ?_; rotate_left; (· (intro w hSw; (try dsimp only at hSw); go_simp; try with_reducible rfl)); (try simp only [Act.put, List.setIfInBounds_toArray, List.set_cons_zero, List.set_cons_succ])) | (refine HL.skip (by rfl) ?_; (try simp only [Act.put, List.setIfInBounds_toArray, List.set_cons_zero, List.set_cons_succ])))
        refine HL.done ?_
        clear c0 c1 c2 c3 f0 f1 f2 f3
        go_wp2
        have q := (put4_box b4 (.int .i64 0) (.int .i64 0) (.int .i64 0) (.int .i64 0))
        have hnf := (put4_nx hx4 (Nat.le_refl w.heap.size) (.int .i64 0) (.int .i64 0) (.int .i64 0) (.int .i64 0)).drew
        change bodyPost _ _ _ _ _ (World.drew (put4 w4 w.heap.size (.int .i64 0) (.int .i64 0) (.int .i64 0) (.int .i64 0)))
        change Box (World.drew (put4 w4 w.heap.size (.int .i64 0) (.int .i64 0) (.int .i64 0) (.int .i64 0))) _ _ _ at q
        generalize World.drew (put4 w4 w.heap.size (.int .i64 0) (.int .i64 0) (.int .i64 0) (.int .i64 0)) = Wf at *
        obtain ⟨g0, g1, g2, g3⟩ := q.d4
        exact bodyPost_ret (v := .tuple #[.agg #[.int .i64 0, .int .i64 0, .int .i64 0, .int .i64 0], .iface 118 (.pointer (some a0))]) (by simp [results, Tryd.results41, go_sem, g0, g1, g2, g3]) rfl ⟨by rw [HF.out]; rfl, hnf⟩
      | true =>
        rw [hf] at HF
        clear hf
        obtain ⟨c0, c1, c2, c3⟩ := b4.d4
        have f0 := b4.frozen 0
        have f1 := b4.frozen 1
        have f2 := b4.frozen 2
        have f3 := b4.frozen 3
        go_wp2
        have q := (put4_box b4 (.int .i64 n0) (.int .i64 n1) (.int .i64 n2) (.int .i64 n3))
        have hnf := (put4_nx hx4 (Nat.le_refl w.heap.size) (.int .i64 n0) (.int .i64 n1) (.int .i64 n2) (.int .i64 n3))
        change bodyPost _ _ _ _ _ (put4 w4 w.heap.size (.int .i64 n0) (.int .i64 n1) (.int .i64 n2) (.int .i64 n3))
        change Box (put4 w4 w.heap.size (.int .i64 n0) (.int .i64 n1) (.int .i64 n2) (.int .i64 n3)) _ _ _ at q
        generalize put4 w4 w.heap.size (.int .i64 n0) (.int .i64 n1) (.int .i64 n2) (.int .i64 n3) = Wf at *
        obtain ⟨g0, g1, g2, g3⟩ := q.d4
        exact bodyPost_ret (v := .tuple #[.agg #[.int .i64 n0, .int .i64 n1, .int .i64 n2, .int .i64 n3], .nilIface]) (by simp [results, Tryd.results41, go_sem, g0, g1, g2, g3]) rfl ⟨by rw [HF.out]; rfl, hnf⟩

end Go.Proofs.YtiocbppldpogpaaDoor
