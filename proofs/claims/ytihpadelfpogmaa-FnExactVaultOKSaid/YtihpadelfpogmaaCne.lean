/-
  Drawn contents: eight values below 90.
  Conditions: the code can be read, and holds at most 1048576 bytes.
-/
import Derived.Test.YtihpadelfpogmaaCnd
namespace Go.Proofs.Ytihpadelfpogmaa
set_option linter.unusedVariables false
set_option maxRecDepth 100000
open Go.RowKit

def Sm (xs : List Int) : Prop := ∀ x ∈ xs, 0 ≤ x ∧ x < 90
theorem Sm.add {xs : List Int} (h : Sm xs) {v : Nat} (hv : v < 90) : Sm (xs ++ [(v : Int)]) := fun x hx => by
  rcases List.mem_append.1 hx with hx | hx
  · exact h x hx
  · simp only [List.mem_singleton] at hx
    subst hx
    omega
theorem Sm.cont {xs : List Int} (h : Sm xs) (hl : xs.length = 8) : contB xs = true := by
  unfold contB
  rw [decide_eq_true hl, List.all_eq_true.2 fun x hx => by have := h x hx; unfold inB; simp; omega]; rfl
theorem SrcR.rgO {w w' : World} {B : Nat} {g n c k : Nat} {A : Option Addr} (h : SrcR w g A n c k) (hb : GrewT 3 B w w') : SrcR w' g A n c k := by
  obtain ⟨a, sd, h1, h2, h3⟩ := h
  unfold Src at h3
  exact ⟨a, sd, h1, h2, hb.box _ _ _ (by decide) h3⟩
set_option maxRecDepth 100000 in
set_option maxHeartbeats 2000000 in
theorem content_c (g : Nat) (A : Option Addr) (n c B k0 : Nat) (ys : List Nat) (w : World) (hb : SrcR w g A n c k0) (h : U8s w B A n ys) (hB : B ≤ g) (hn : n ≤ 1048576) (hk0 : k0 ≤ 1000000) :
    Calls Try.prog 107 #[.pointer (some ⟨g, 0, none⟩)] w fun e w' => ∃ A' c' xs, e = .returned (.slice A' 8 c') ∧ xs.length = 8 ∧ Sm xs ∧ SlI w' w.heap.size A' xs ∧ SrcR w' g A n c (k0 + 24) ∧ Rg g (g + 1) w w' := by
  have hz0 := hb.lt
  have hrow0 := RowI.new w (Nat.le_refl _)
  have hx0 := (Nx.refl w).alloc (.cells #[] 3)
  go_enter Try.func107, Try.ntmps107
  go_wp2_with fail
  go_loopw [3, 4] (fun v i wr => ∃ (k : Nat) (xs : List Int), k ≤ 8 ∧ i = .int .i64 k ∧ xs.length = k ∧ Sm xs ∧ (∃ u, u = v ∧ RowI wr w.heap.size u xs) ∧ SrcR wr g A n c (k0 + 3 * k) ∧ Rg g (g + 1) w wr) (fun _ i _ => 8 - (intOf i).toNat)
  case atStart => exact ⟨0, [], by omega, rfl, rfl, (fun x hx => by cases hx), ⟨_, rfl, hrow0⟩, (hb.nx hx0).more (by omega), Rg.of_nx hx0⟩
  case round =>
    obtain ⟨k, xs, hk, rfl, hl, hsm, ⟨u, rfl, hrow⟩, hs, hrg⟩ := hrel
    clear hrow0 hx0
    by_cases hlt : k < 8
    case neg =>
      obtain rfl : k = 8 := by omega
      obtain ⟨A', c', rfl, hS⟩ := hrow.sl
      rw [hl]
      go_wp2
      go_ret
      exact ⟨A', c', xs, rfl, hl, hsm, hS, hs.more (by omega), hrg⟩
    have hu := h.rg hrg hB (Nat.le_of_lt hz0)
    go_wp2_with fail
    refine (nextR_c 90 g A n c (k0 + 3 * k) B ys _ (by omega) (by omega) hs hu hB hn (by omega)).mono ?_
    rintro e w1 ⟨v, rfl, hv, hs1, hr1⟩
    have hx1 := (Nx.refl w1).alloc (.cells #[.int .i64 (v : Int)] 3)
    have hbx := Box.new w1 3 #[.int .i64 (v : Int)]
    have hrow1 := (hrow.rg hr1 (by omega)).nx hx1
    have hs2 := hs1.nx hx1
    have hr2 := (hrg.trans hr1).trans (Rg.of_nx (lo := g) (hi := g + 1) hx1)
    have hsz := Nat.le_trans hr2.size (Nat.le_refl _)
    have HR := Lib.hid hrow1
    have HB := Lib.hid hbx
    have HL := Lib.hid hl
    clear hrow hrow1 hbx hs hs1 hu hl hrg hr1
    go_wp2_with (at_builtin; refine wpList_addI rfl _ _ rfl w.heap.size w1.heap.size _ xs (v : Int) rfl rfl HR.out HB.out (by have := HL.out; omega) hsz ?_)
    intro A' k' w2 hrow2 hgr
    go_wp2
    go_roundw
    case rel => exact ⟨k + 1, xs ++ [(v : Int)], by omega, by go_num, by rw [List.length_append, HL.out]; rfl, hsm.add hv, ⟨_, rfl, hrow2⟩, (hs2.rgO hgr).more (by omega), hgr.rg _ _ _ hr2 (Nat.le_refl _)⟩
    case measure => simp [intOf]; omega
end Go.Proofs.Ytihpadelfpogmaa
