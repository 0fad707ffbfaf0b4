/-
  A source of choices of which only the reach is known; drawn frames.
  Conditions: the code can be read, and holds at most 1048576 bytes.
-/
import Derived.Test.YtccapcadgjlmkaaOp8
import Derived.Test.YtccapcadgjlmkaaFrm
namespace Go.Proofs.Ytccapcadgjlmkaa
set_option linter.unusedVariables false
open Go.RowKit

theorem Rg.setNew8 {lo hi : Nat} {a w : World} (h : Rg lo hi a w) {p : Addr} (h1 : a.heap.size ≤ p.block) (v : Value) : Rg lo hi a (w.setCell p v) := ⟨h.os, h.tape, h.output, by have := h.size; simp only [World.setCell, Array.size_modify]; exact this, fun k hk hr => (Below.heap_setCell _ _ _ _ (by omega)).trans (h.block k hk hr)⟩
/-- A source, at most k bytes on. -/
def SrcR (w : World) (g : Nat) (A : Option Addr) (n c k : Nat) : Prop := ∃ a sd, a ≤ k ∧ sd < 2147483648 ∧ Src w g A n c a sd
theorem SrcR.nx {w w' : World} {g n c k : Nat} {A : Option Addr} (h : SrcR w g A n c k) (hb : Nx w w') : SrcR w' g A n c k := by
  obtain ⟨a, sd, h1, h2, h3⟩ := h
  unfold Src at h3
  exact ⟨a, sd, h1, h2, h3.nx hb⟩
theorem SrcR.lt {w : World} {g n c k : Nat} {A : Option Addr} (h : SrcR w g A n c k) : g < w.heap.size := by
  obtain ⟨a, sd, h1, h2, h3⟩ := h
  unfold Src at h3
  exact h3.lt
theorem SrcR.more {w : World} {g n c k k' : Nat} {A : Option Addr} (h : SrcR w g A n c k) (hk : k ≤ k') : SrcR w g A n c k' := by
  obtain ⟨a, sd, h1, h2, h3⟩ := h
  exact ⟨a, sd, by omega, h2, h3⟩
def RetV (m : Nat) (g : Nat) (A : Option Addr) (n c k : Nat) (w : World) (e : Ending) (w' : World) : Prop :=
  ∃ v : Nat, e = .returned (.int .i64 (v : Int)) ∧ v < m ∧ SrcR w' g A n c (k + 3) ∧ Rg g (g + 1) w w'
set_option maxHeartbeats 1000000 in
theorem byteR_c (g : Nat) (A : Option Addr) (n c k B : Nat) (ys : List Nat) (w : World) (hb : SrcR w g A n c k) (h : U8s w B A n ys) (hB : B ≤ g) (hn : n ≤ 1048576) (hk : k ≤ 1048576) :
    Calls Try.prog 100 #[.pointer (some ⟨g, 0, none⟩)] w fun e w' => ∃ b : Nat, e = .returned (.int .i64 b) ∧ b < 256 ∧ SrcR w' g A n c (k + 1) ∧ Rg g (g + 1) w w' := by
  obtain ⟨a, sd, h1, h2, h3⟩ := hb
  obtain ⟨⟨b, a', sd'⟩, HP⟩ : ∃ x, byteP ys a sd = x := ⟨_, rfl⟩
  obtain ⟨k1, k2, k3⟩ := byteP_lt h.2.1 h2 HP
  exact (byte_c g A n c a sd B ys b a' sd' w h3 h hB hn (by omega) h2 HP).mono fun e w' ⟨he, hs, hr⟩ => ⟨b, he, k1, ⟨a', sd', by omega, k3, hs⟩, hr⟩
set_option maxRecDepth 100000 in
set_option maxHeartbeats 1000000 in
theorem nextR_c (m g : Nat) (A : Option Addr) (n c k B : Nat) (ys : List Nat) (w : World) (hm : 2 ≤ m) (hm2 : m ≤ 100000) (hb : SrcR w g A n c k) (h : U8s w B A n ys) (hB : B ≤ g) (hn : n ≤ 1048576) (hk : k + 3 ≤ 1048576) :
    Calls Try.prog 81 #[.pointer (some ⟨g, 0, none⟩), .int .i64 m] w (RetV m g A n c k w) := by
  by_cases h256 : m ≤ 256
  · obtain ⟨a, sd, h1, h2, h3⟩ := hb
    obtain ⟨⟨b, a', sd'⟩, HP⟩ : ∃ x, byteP ys a sd = x := ⟨_, rfl⟩
    obtain ⟨k1, k2, k3⟩ := byteP_lt h.2.1 h2 HP
    exact (next_c m g A n c a sd B ys b a' sd' w hm h256 h3 h hB hn (by omega) h2 HP).mono fun e w' ⟨he, hs, hr⟩ => ⟨b % m, he, Nat.mod_lt _ (by omega), ⟨a', sd', by omega, k3, hs⟩, hr⟩
  · go_enter Try.func81, Try.ntmps81
    go_wp2_with fail
    refine (byteR_c g A n c k B ys _ hb h hB hn (by omega)).mono ?_
    rintro e w1 ⟨x, rfl, hx, h1, hr1⟩
    have hu1 := h.rg hr1 hB (Nat.le_of_lt hb.lt)
    go_wp2_with fail
    refine (byteR_c g A n c (k + 1) B ys _ h1 hu1 hB hn (by omega)).mono ?_
    rintro e w2 ⟨y, rfl, hy, h2, hr2⟩
    have hu2 := hu1.rg hr2 hB (Nat.le_of_lt h1.lt)
    go_wp2_with fail
    refine (byteR_c g A n c (k + 1 + 1) B ys _ h2 hu2 hB hn (by omega)).mono ?_
    rintro e w3 ⟨z, rfl, hz, h3, hr3⟩
    go_wp2
    go_ret
    exact ⟨(x * 65536 + y * 256 + z) % m, ret_int (by rw [show (x : Int) * 65536 + (y : Int) * 256 + (z : Int) = ((x * 65536 + y * 256 + z : Nat) : Int) by omega, ← Int.natCast_emod]), Nat.mod_lt _ (by omega), h3, (hr1.trans hr2).trans hr3⟩
end Go.Proofs.Ytccapcadgjlmkaa
