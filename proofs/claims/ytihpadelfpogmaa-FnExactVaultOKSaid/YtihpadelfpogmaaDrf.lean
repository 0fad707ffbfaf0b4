/-
  A source of choices of which only the reach is known; drawn frames.
  Conditions: the code can be read, and holds at most 1048576 bytes.
-/
import Derived.Test.YtihpadelfpogmaaOp8
import Derived.Test.YtihpadelfpogmaaFrm
namespace Go.Proofs.Ytihpadelfpogmaa
set_option linter.unusedVariables false
set_option maxRecDepth 100000
open Go.RowKit

theorem Rg.setNew8 {lo hi : Nat} {a w : World} (h : Rg lo hi a w) {p : Addr} (h1 : a.heap.size ≤ p.block) (v : Value) : Rg lo hi a (w.setCell p v) := ⟨h.os, h.tape, h.output, by have := h.size; simp only [World.setCell, Array.size_modify]; exact this, fun k hk hr => (Below.heap_setCell _ _ _ _ (by omega)).trans (h.block k hk hr)⟩
/-- A source, at most k bytes on. -/
def SrcR (w : World) (g : Nat) (A : Option Addr) (n c k : Nat) : Prop := ∃ a sd, a ≤ k ∧ sd < 2147483648 ∧ Src w g A n c a sd
theorem SrcR.nx {w w' : World} {g n c k : Nat} {A : Option Addr} (h : SrcR w g A n c k) (hb : Nx w w') : SrcR w' g A n c k := by
  obtain ⟨a, sd, h1, h2, h3⟩ := h
  unfold Src at h3
  exact ⟨a, sd, h1, h2, h3.nx hb⟩
theorem SrcR.lt {w : World} {g n c k : Nat} {A : Option Addr} (h : SrcR w g A n c k) : g < w.heap.size := by
  obtain ⟨a, sd, h1, h2, h3⟩ := h
  unfold Src at h3
  exact h3.lt
theorem SrcR.more {w : World} {g n c k k' : Nat} {A : Option Addr} (h : SrcR w g A n c k) (hk : k ≤ k') : SrcR w g A n c k' := by
  obtain ⟨a, sd, h1, h2, h3⟩ := h
  exact ⟨a, sd, by omega, h2, h3⟩
def RetV (m : Nat) (g : Nat) (A : Option Addr) (n c k : Nat) (w : World) (e : Ending) (w' : World) : Prop :=
  ∃ v : Nat, e = .returned (.int .i64 (v : Int)) ∧ v < m ∧ SrcR w' g A n c (k + 3) ∧ Rg g (g + 1) w w'
set_option maxHeartbeats 1000000 in
theorem byteR_c (g : Nat) (A : Option Addr) (n c k B : Nat) (ys : List Nat) (w : World) (hb : SrcR w g A n c k) (h : U8s w B A n ys) (hB : B ≤ g) (hn : n ≤ 1048576) (hk : k ≤ 1048576) :
    Calls Try.prog 162 #[.pointer (some ⟨g, 0, none⟩)] w fun e w' => ∃ b : Nat, e = .returned (.int .i64 b) ∧ b < 256 ∧ SrcR w' g A n c (k + 1) ∧ Rg g (g + 1) w w' := by
  obtain ⟨a, sd, h1, h2, h3⟩ := hb
  obtain ⟨⟨b, a', sd'⟩, HP⟩ : ∃ x, byteP ys a sd = x := ⟨_, rfl⟩
  obtain ⟨k1, k2, k3⟩ := byteP_lt h.2.1 h2 HP
  exact (byte_c g A n c a sd B ys b a' sd' w h3 h hB hn (by omega) h2 HP).mono fun e w' ⟨he, hs, hr⟩ => ⟨b, he, k1, ⟨a', sd', by omega, k3, hs⟩, hr⟩
set_option maxRecDepth 100000 in
set_option maxHeartbeats 1000000 in
theorem nextR_c (m g : Nat) (A : Option Addr) (n c k B : Nat) (ys : List Nat) (w : World) (hm : 2 ≤ m) (hm2 : m ≤ 100000) (hb : SrcR w g A n c k) (h : U8s w B A n ys) (hB : B ≤ g) (hn : n ≤ 1048576) (hk : k + 3 ≤ 1048576) :
    Calls Try.prog 149 #[.pointer (some ⟨g, 0, none⟩), .int .i64 m] w (RetV m g A n c k w) := by
  by_cases h256 : m ≤ 256
  · obtain ⟨a, sd, h1, h2, h3⟩ := hb
    obtain ⟨⟨b, a', sd'⟩, HP⟩ : ∃ x, byteP ys a sd = x := ⟨_, rfl⟩
    obtain ⟨k1, k2, k3⟩ := byteP_lt h.2.1 h2 HP
    exact (next_c m g A n c a sd B ys b a' sd' w hm h256 h3 h hB hn (by omega) h2 HP).mono fun e w' ⟨he, hs, hr⟩ => ⟨b % m, he, Nat.mod_lt _ (by omega), ⟨a', sd', by omega, k3, hs⟩, hr⟩
  · go_enter Try.func149, Try.ntmps149
    go_wp2_with fail
    refine (byteR_c g A n c k B ys _ hb h hB hn (by omega)).mono ?_
    rintro e w1 ⟨x, rfl, hx, h1, hr1⟩
    have hu1 := h.rg hr1 hB (Nat.le_of_lt hb.lt)
    go_wp2_with fail
    refine (byteR_c g A n c (k + 1) B ys _ h1 hu1 hB hn (by omega)).mono ?_
    rintro e w2 ⟨y, rfl, hy, h2, hr2⟩
    have hu2 := hu1.rg hr2 hB (Nat.le_of_lt h1.lt)
    go_wp2_with fail
    refine (byteR_c g A n c (k + 1 + 1) B ys _ h2 hu2 hB hn (by omega)).mono ?_
    rintro e w3 ⟨z, rfl, hz, h3, hr3⟩
    go_wp2
    go_ret
    exact ⟨(x * 65536 + y * 256 + z) % m, ret_int (by rw [show (x : Int) * 65536 + (y : Int) * 256 + (z : Int) = ((x * 65536 + y * 256 + z : Nat) : Int) by omega, ← Int.natCast_emod]), Nat.mod_lt _ (by omega), h3, (hr1.trans hr2).trans hr3⟩
set_option maxRecDepth 100000 in
set_option maxHeartbeats 2000000 in
theorem frameN_c (g : Nat) (A : Option Addr) (n c B : Nat) (ys : List Nat) (w : World) (hb : SrcR w g A n c 0) (h : U8s w B A n ys) (hB : B ≤ g) (hn : n ≤ 1048576) :
    Calls Try.prog 118 #[.pointer (some ⟨g, 0, none⟩)] w fun e w' => ∃ q0 q1 q2 q3 : Nat, e = .returned (.agg #[.int .i64 q0, .int .i64 q1, .int .i64 q2, .int .i64 q3]) ∧ (1 ≤ q0 ∧ q0 ≤ 20 ∧ q1 < 8 ∧ q2 < 900 ∧ q3 < 200) ∧ Rg g (g + 1) w w' := by
  have hz0 := hb.lt
  have b0 := Box.new w 58 #[.int .i64 0, .int .i64 0, .int .i64 0, .int .i64 0]
  have hx0 := (Nx.refl w).alloc (.cells #[.int .i64 0, .int .i64 0, .int .i64 0, .int .i64 0] 58)
  have s0 := hb.nx hx0
  have u0 := h.below hx0 (by omega)
  have r0 : Rg g (g + 1) w (w.alloc (.cells #[.int .i64 0, .int .i64 0, .int .i64 0, .int .i64 0] 58)) := Rg.of_nx hx0
  clear hb h hx0
  go_enter Try.func118, Try.ntmps118
  go_wp2_with fail
  generalize w.alloc (.cells #[.int .i64 0, .int .i64 0, .int .i64 0, .int .i64 0] 58) = W at *
  refine (nextR_c 20 g A n c 0 B ys _ (by omega) (by omega) s0 u0 hB hn (by omega)).mono ?_
  rintro e w1 ⟨v0, rfl, hv0, s1, r1⟩
  have b1 := b0.rg r1 (.inr (by omega))
  have u1 := u0.rg r1 hB (Nat.le_of_lt s0.lt)
  have t1 := r0.trans r1
  clear b0 u0 r0 r1 s0
  go_wp2_with fail
  refine (nextR_c 8 g A n c (0 + 3) B ys _ (by omega) (by omega) s1 u1 hB hn (by omega)).mono ?_
  rintro e w2 ⟨v1, rfl, hv1, s2, r2⟩
  have b2 := b1.rg r2 (.inr (by omega))
  have u2 := u1.rg r2 hB (Nat.le_of_lt s1.lt)
  have t2 := t1.trans r2
  clear b1 u1 t1 r2 s1
  go_wp2_with fail
  refine (nextR_c 900 g A n c (0 + 3 + 3) B ys _ (by omega) (by omega) s2 u2 hB hn (by omega)).mono ?_
  rintro e w3 ⟨v2, rfl, hv2, s3, r3⟩
  have b3 := b2.rg r3 (.inr (by omega))
  have u3 := u2.rg r3 hB (Nat.le_of_lt s2.lt)
  have t3 := t2.trans r3
  clear b2 u2 t2 r3 s2
  go_wp2_with fail
  refine (nextR_c 200 g A n c (0 + 3 + 3 + 3) B ys _ (by omega) (by omega) s3 u3 hB hn (by omega)).mono ?_
  rintro e w4 ⟨v3, rfl, hv3, s4, r4⟩
  have b4 := b3.rg r4 (.inr (by omega))
  have t4 := t3.trans r4
  clear b3 u3 t3 r4 s3
  obtain ⟨c0, c1, c2, c3⟩ := b4.d4
  have f0 := b4.frozen 0
  have f1 := b4.frozen 1
  have f2 := b4.frozen 2
  have f3 := b4.frozen 3
  go_wp2
  have q := put4_box b4 (.int .i64 (1 + (v0 : Int))) (.int .i64 v1) (.int .i64 v2) (.int .i64 v3)
  have hnf := (((t4.setNew8 (p := ⟨w.heap.size, 0, none⟩) (Nat.le_refl _) (.int .i64 (1 + (v0 : Int)))).setNew8 (p := ⟨w.heap.size, 1, none⟩) (Nat.le_refl _) (.int .i64 v1)).setNew8 (p := ⟨w.heap.size, 2, none⟩) (Nat.le_refl _) (.int .i64 v2)).setNew8 (p := ⟨w.heap.size, 3, none⟩) (Nat.le_refl _) (.int .i64 v3)
  change Rg _ _ _ (put4 w4 w.heap.size (.int .i64 (1 + (v0 : Int))) (.int .i64 v1) (.int .i64 v2) (.int .i64 v3)) at hnf
  change bodyPost _ _ _ _ _ (put4 w4 w.heap.size (.int .i64 (1 + (v0 : Int))) (.int .i64 v1) (.int .i64 v2) (.int .i64 v3))
  generalize put4 w4 w.heap.size (.int .i64 (1 + (v0 : Int))) (.int .i64 v1) (.int .i64 v2) (.int .i64 v3) = Wf at *
  obtain ⟨g0, g1, g2, g3⟩ := q.d4
  refine bodyPost_ret (v := .agg #[.int .i64 (1 + (v0 : Int)), .int .i64 v1, .int .i64 v2, .int .i64 v3]) (by simp [results, Try.results118, go_sem, g0, g1, g2, g3]) rfl ⟨1 + v0, v1, v2, v3, ?_, by omega, hnf⟩
  rw [show (1 : Int) + (v0 : Int) = ((1 + v0 : Nat) : Int) by omega]
set_option maxRecDepth 100000 in
set_option maxHeartbeats 1000000 in
theorem frameDrawnN_c (A : Option Addr) (n c : Nat) (ys : List Nat) (w : World) (h : U8s w w.heap.size A n ys) (hn : n ≤ 1048576) :
    Calls Try.prog 55 #[.slice A n c] w fun e w' => ∃ q0 q1 q2 q3 : Nat, e = .returned (.agg #[.int .i64 q0, .int .i64 q1, .int .i64 q2, .int .i64 q3]) ∧ (1 ≤ q0 ∧ q0 ≤ 20 ∧ q1 < 8 ∧ q2 < 900 ∧ q3 < 200) ∧ Nx w w' := by
  go_enter Try.func55, Try.ntmps55
  go_wp2_with fail
  have b0 := Box.new w 58 #[.int .i64 0, .int .i64 0, .int .i64 0, .int .i64 0]
  have hx0 := (Nx.refl w).alloc (.cells #[.int .i64 0, .int .i64 0, .int .i64 0, .int .i64 0] 58)
  have u0 := h.below hx0 (Nat.le_refl _)
  generalize w.alloc (.cells #[.int .i64 0, .int .i64 0, .int .i64 0, .int .i64 0] 58) = W at *
  have hz := b0.lt
  refine (l00Source_c A n c _ hn).mono ?_
  rintro e w1 ⟨rfl, s1, hnx1⟩
  have u1 := u0.below hnx1 (by omega)
  go_wp2_with fail
  refine (frameN_c W.heap.size A n c w.heap.size ys _ ⟨0, n % 1000, by omega, by omega, s1⟩ u1 (by omega) hn).mono ?_
  rintro e w2 ⟨q0, q1, q2, q3, rfl, hf, r2⟩
  have HF := Lib.hid hf
  clear hf
  have b2 := (b0.nx hnx1).rg r2 (.inl hz)
  have hx2 := Rg.nx_of (hx0.trans hnx1) r2 (by omega)
  clear u0 u1 b0 hx0 hnx1 r2 s1
  obtain ⟨c0, c1, c2, c3⟩ := b2.d4
  have f0 := b2.frozen 0
  have f1 := b2.frozen 1
  have f2 := b2.frozen 2
  have f3 := b2.frozen 3
  go_wp2
  have q := put4_box b2 (.int .i64 q0) (.int .i64 q1) (.int .i64 q2) (.int .i64 q3)
  have hnf := put4_nx hx2 (Nat.le_refl w.heap.size) (.int .i64 q0) (.int .i64 q1) (.int .i64 q2) (.int .i64 q3)
  change bodyPost _ _ _ _ _ (put4 w2 w.heap.size (.int .i64 q0) (.int .i64 q1) (.int .i64 q2) (.int .i64 q3))
  generalize put4 w2 w.heap.size (.int .i64 q0) (.int .i64 q1) (.int .i64 q2) (.int .i64 q3) = Wf at *
  obtain ⟨g0, g1, g2, g3⟩ := q.d4
  exact bodyPost_ret (v := .agg #[.int .i64 q0, .int .i64 q1, .int .i64 q2, .int .i64 q3]) (by simp [results, Try.results55, go_sem, g0, g1, g2, g3]) rfl ⟨q0, q1, q2, q3, rfl, HF.out, hnf⟩
end Go.Proofs.Ytihpadelfpogmaa
