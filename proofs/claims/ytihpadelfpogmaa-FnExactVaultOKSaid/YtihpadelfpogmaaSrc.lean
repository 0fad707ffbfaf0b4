/-
  Contracts of the model's source of choices: a byte, one of n, a chance; what it leaves is its own block alone.
  Conditions: the code can be read, and holds at most 1048576 bytes.
-/
import Derived.Test.YtihpadelfpogmaaCore
import Derived.Deep.QuietTactic
import Derived.BigQuiet
import Derived.Deep.Slices
import Derived.ChangeSame
import Derived.StillTailTactics
import Derived.IntWalk
import Derived.Deep.RegionHeld
namespace Go.Proofs.Ytihpadelfpogmaa
set_option linter.unusedVariables false
set_option maxRecDepth 100000
open Go.ChangeShapes Go.WideShapes Go.RowKit Go.Deep

/-- A slice of bytes that is read. -/
def u8At (ys : List Nat) (i : Nat) : Value := .int .u8 ((ys.getD i 0 : Nat) : Int)
def U8s (w : World) (B : Nat) (A : Option Addr) (n : Nat) (ys : List Nat) : Prop := ys.length = n ∧ (∀ i, ys.getD i 0 < 256) ∧ Row w B A n (u8At ys)
section
variable {w w' : World} {B B' n : Nat} {A : Option Addr} {ys : List Nat}
theorem U8s.below (h : U8s w B A n ys) (hb : Below B' w w') (hB : B ≤ B') : U8s w' B A n ys := ⟨h.1, h.2.1, h.2.2.below hb hB⟩
theorem U8s.more (h : U8s w B A n ys) (hB : B ≤ B') : U8s w B' A n ys := ⟨h.1, h.2.1, h.2.2.more hB⟩
theorem U8s.rg {lo hi : Nat} (h : U8s w B A n ys) (hb : Rg lo hi w w') (hB : B ≤ lo) (hl : lo ≤ w.heap.size) : U8s w' B A n ys := h.below (hb.below hl) hB
theorem U8s.at_ {k : Nat} (h : U8s w B A n ys) (hk : k < n) : ∃ b off, A = some ⟨b, off, none⟩ ∧ b < B ∧ w.cell? ⟨b, off + k, none⟩ = some (.int .u8 ((ys.getD k 0 : Nat) : Int)) := by
  obtain ⟨b, off, e, hb, hc⟩ := h.2.2 (by omega)
  exact ⟨b, off, e, hb, hc k hk⟩
end
section
variable {w : World} {g : Nat} {t : TypeId} {v0 v1 v2 : Value}
theorem Box.d0 (h : Box w g t #[v0, v1, v2]) : w.cell? ⟨g, 0, none⟩ = some v0 := h.cell 0
theorem Box.d1 (h : Box w g t #[v0, v1, v2]) : w.cell? ⟨g, 1, none⟩ = some v1 := h.cell 1
theorem Box.d2 (h : Box w g t #[v0, v1, v2]) : w.cell? ⟨g, 2, none⟩ = some v2 := h.cell 2
theorem Box.put1 (h : Box w g t #[v0, v1, v2]) (u : Value) : Box (w.setCell ⟨g, 1, none⟩ u) g t #[v0, u, v2] := by
  unfold Box at h ⊢
  simp [World.setCell, Array.getElem?_modify, h]
theorem Box.put2 (h : Box w g t #[v0, v1, v2]) (u : Value) : Box (w.setCell ⟨g, 2, none⟩ u) g t #[v0, v1, u] := by
  unfold Box at h ⊢
  simp [World.setCell, Array.getElem?_modify, h]
end

/-- A byte of a source: what it is, and the source's state then. -/
def byteP (ys : List Nat) (a sd : Nat) : Nat × Nat × Nat :=
  if a + 1 ≤ ys.length then (ys.getD a 0, a + 1, (sd * 31 + ys.getD a 0 + 7) % 2147483648)
  else if 3000 < a + 1 then (0, a + 1, sd)
  else ((sd * 1103515245 + 12345) % 2147483648 / 65536 % 256, a + 1, (sd * 1103515245 + 12345) % 2147483648)
theorem byteP_lt {ys : List Nat} {a sd b a' sd' : Nat} (hy : ∀ i, ys.getD i 0 < 256) (hs : sd < 2147483648) (h : byteP ys a sd = (b, a', sd')) : b < 256 ∧ a' = a + 1 ∧ sd' < 2147483648 := by
  unfold byteP at h
  have := hy a
  split at h
  · cases h; omega
  · split at h <;> cases h <;> omega
def Src (w : World) (g : Nat) (A : Option Addr) (n c a sd : Nat) : Prop := Box w g 156 #[.slice A n c, .int .i64 a, .int .i64 sd]

set_option maxRecDepth 100000 in
set_option maxHeartbeats 1000000 in
theorem byte_c (g : Nat) (A : Option Addr) (n c a sd B : Nat) (ys : List Nat) (b a' sd' : Nat) (w : World) (hb : Src w g A n c a sd) (h : U8s w B A n ys) (hB : B ≤ g) (hn : n ≤ 1048576) (ha : a ≤ 1048576) (hs : sd < 2147483648)
    (HP : byteP ys a sd = (b, a', sd')) :
    Calls Try.prog 162 #[.pointer (some ⟨g, 0, none⟩)] w fun e w' => e = .returned (.int .i64 b) ∧ Src w' g A n c a' sd' ∧ Rg g (g + 1) w w' := by
  unfold Src at *
  have c0 := hb.d0
  have c1 := hb.d1
  have c2 := hb.d2
  have f1 := hb.frozen 1
  have f2 := hb.frozen 2
  have hr1 := (Rg.of_nx (lo := g) (hi := g + 1) (Nx.refl w)).setCell (p := ⟨g, 1, none⟩) (Nat.le_refl _) (Nat.lt_succ_self _) (.int .i64 ((a : Int) + 1))
  have hbs := hb.put1 (.int .i64 ((a : Int) + 1))
  have h1 := h.rg hr1 hB (Nat.le_of_lt hb.lt)
  go_enter Try.func162, Try.ntmps162
  go_wp2
  generalize w.setCell ⟨g, 1, none⟩ (.int .i64 ((a : Int) + 1)) = w1 at *
  clear c0 c1 c2 f1 f2 h
  have c0 := hbs.d0
  have c1 := hbs.d1
  have c2 := hbs.d2
  have f2 := hbs.frozen 2
  by_cases hlt : a < n
  · obtain ⟨b0, off, rfl, hb0, hc⟩ := h1.at_ hlt
    unfold byteP at HP
    rw [if_pos (by rw [h1.1]; omega)] at HP
    have hy := h1.2.1 a
    generalize ys.getD a 0 = y at *
    cases HP
    go_quiet (fail)
    have hr2 : Rg g (g + 1) w (w1.drewN nq) := hr1.trans (Rg.of_nx ((Nx.refl w1).drewN nq))
    have hb2 : Box (w1.drewN nq) g 156 #[.slice (some ⟨b0, off, none⟩) n c, .int .i64 ((a : Int) + 1), .int .i64 sd] := hbs
    have hc2 : (w1.drewN nq).cell? ⟨b0, off + a, none⟩ = some (.int .u8 (b : Int)) := hc
    clear c0 c1 c2 f2 hc hbs hr1 h1
    generalize w1.drewN nq = w2 at *
    have c0 := hb2.d0
    have c1 := hb2.d1
    have c2 := hb2.d2
    have f2 := hb2.frozen 2
    go_wp2_with fail
    go_still_tail 23, (by kernel_rfl)
    have e1 : IntKind.i64.wrap (a : Int) = a := IntWalk.i64_in _ (by omega)
    have e2 : IntKind.i64.wrap ((sd : Int) * 31) = (sd : Int) * 31 := IntWalk.i64_in _ (by omega)
    have e0 : IntKind.i64.wrap (b : Int) = b := IntWalk.i64_in _ (by omega)
    have e3 : IntKind.i64.wrap ((sd : Int) * 31 + b) = (sd : Int) * 31 + b := IntWalk.i64_in _ (by omega)
    have e4 : IntKind.i64.wrap ((sd : Int) * 31 + b + 7) = (sd : Int) * 31 + b + 7 := IntWalk.i64_in _ (by omega)
    have e6 : ((sd : Int) * 31 + b + 7).tmod 2147483648 = ((sd : Int) * 31 + b + 7) % 2147483648 := Int.tmod_eq_emod_of_nonneg (by omega)
    repeat (first | still_step | rw [e1] | rw [e2])
    try refine wpStill_nil ?_
    change wpList _ _ _ _ _ w2.drew
    have e5 : ((sd : Int) * 31 + b + 7) % 2147483648 = (((sd * 31 + b + 7) % 2147483648 : Nat) : Int) := by omega
    first | rw [e6, e5] | rw [e5]
    have hr3 : Rg g (g + 1) w w2.drew := hr2.trans (Rg.of_nx (Nx.refl w2).drew)
    have hb3 : Box w2.drew g 156 #[.slice (some ⟨b0, off, none⟩) n c, .int .i64 ((a : Int) + 1), .int .i64 sd] := hb2
    have hc3 : w2.drew.cell? ⟨b0, off + a, none⟩ = some (.int .u8 (b : Int)) := hc2
    clear c0 c1 c2 f2 hc2 hb2 hr2 e0 e2 e3 e4 e5 e6
    generalize w2.drew = w3 at *
    have c2 := hb3.d2
    have f2 := hb3.frozen 2
    generalize hs' : (sd * 31 + b + 7) % 2147483648 = s'
    have Hs := Lib.hid hs'
    clear hs'
    have hb4 := hb3.put2 (.int .i64 (s' : Int))
    have hc4 : (w3.setCell ⟨g, 2, none⟩ (.int .i64 (s' : Int))).cell? ⟨b0, off + a, none⟩ = some (.int .u8 (b : Int)) := by rw [World.cell?_setCell_far _ _ _ _ (by simp; omega)]; exact hc3
    have hr4 := hr3.setCell (p := ⟨g, 2, none⟩) (Nat.le_refl _) (Nat.lt_succ_self _) (.int .i64 (s' : Int))
    go_wp2_with fail
    clear c2 f2 hc3 hb3 hr3
    generalize w3.setCell ⟨g, 2, none⟩ (.int .i64 (s' : Int)) = w4 at *
    have c0 := hb4.d0
    have c1 := hb4.d1
    go_quiet (fail)
    go_wp2
    go_ret
    refine ⟨rfl, ?_, hr4.trans (Rg.of_nx ((Nx.refl w4).drewN nq))⟩
    rw [Hs.out]
    exact hb4
  · unfold byteP at HP
    rw [if_neg (by rw [h1.1]; omega)] at HP
    by_cases h3 : 3000 < a + 1
    · rw [if_pos h3] at HP
      cases HP
      have h3' : decide ((3000 : Int) < (a : Int) + 1) = true := by simp; omega
      clear h3
      go_quiet (fail)
      go_wp2
      go_ret
      exact ⟨rfl, hbs, hr1.trans (Rg.of_nx ((Nx.refl w1).drewN nq))⟩
    · rw [if_neg h3] at HP
      have H3 := (Prod.mk.inj (Prod.mk.inj HP).2).2
      have H2 := (Prod.mk.inj (Prod.mk.inj HP).2).1
      have H1 := (Prod.mk.inj HP).1
      clear HP
      rw [H3] at H1
      have e6 : ((sd : Int) * 1103515245 + 12345).tmod 2147483648 = (sd' : Int) := by rw [Int.tmod_eq_emod_of_nonneg (by omega)]; omega
      have hsd' : sd' < 2147483648 := by omega
      have K1 := Lib.hid H1
      clear H3 H1
      subst H2
      have h3' : decide ((3000 : Int) < (a : Int) + 1) = false := by simp; omega
      clear h3
      go_quiet (fail)
      have hr2 : Rg g (g + 1) w (w1.drewN nq) := hr1.trans (Rg.of_nx ((Nx.refl w1).drewN nq))
      have hb2 : Box (w1.drewN nq) g 156 #[.slice A n c, .int .i64 ((a : Int) + 1), .int .i64 sd] := hbs
      clear c0 c1 c2 f2 hbs hr1 h1
      generalize w1.drewN nq = w2 at *
      have c0 := hb2.d0
      have c1 := hb2.d1
      have c2 := hb2.d2
      have f2 := hb2.frozen 2
      go_wp2
      go_ret
      exact ⟨ret_int (by have := K1.out; omega), hb2.put2 _, hr2.setCell (p := ⟨g, 2, none⟩) (Nat.le_refl _) (Nat.lt_succ_self _) _⟩

set_option maxRecDepth 100000 in
set_option maxHeartbeats 1000000 in
theorem next_c (m g : Nat) (A : Option Addr) (n c a sd B : Nat) (ys : List Nat) (b a' sd' : Nat) (w : World) (hm : 2 ≤ m) (hm2 : m ≤ 256) (hb : Src w g A n c a sd) (h : U8s w B A n ys) (hB : B ≤ g) (hn : n ≤ 1048576) (ha : a ≤ 1048576) (hs : sd < 2147483648)
    (HP : byteP ys a sd = (b, a', sd')) :
    Calls Try.prog 149 #[.pointer (some ⟨g, 0, none⟩), .int .i64 m] w fun e w' => e = .returned (.int .i64 ((b % m : Nat) : Int)) ∧ Src w' g A n c a' sd' ∧ Rg g (g + 1) w w' := by
  have HH := Lib.hid HP
  have hb2 := (byteP_lt h.2.1 hs HP).1
  clear HP
  go_enter Try.func149, Try.ntmps149
  go_wp2_with fail
  refine (byte_c g A n c a sd B ys b a' sd' _ hb h hB hn ha hs HH.out).mono ?_
  rintro e w1 ⟨rfl, h1, hr⟩
  go_wp2
  go_ret
  exact ⟨ret_int (by omega), h1, hr⟩

set_option maxRecDepth 100000 in
set_option maxHeartbeats 1000000 in
theorem chance_c (m g : Nat) (A : Option Addr) (n c a sd B : Nat) (ys : List Nat) (b a' sd' : Nat) (w : World) (hm : 2 ≤ m) (hm2 : m ≤ 256) (hb : Src w g A n c a sd) (h : U8s w B A n ys) (hB : B ≤ g) (hn : n ≤ 1048576) (ha : a ≤ 1048576) (hs : sd < 2147483648)
    (HP : byteP ys a sd = (b, a', sd')) :
    Calls Try.prog 150 #[.pointer (some ⟨g, 0, none⟩), .int .i64 m] w fun e w' => e = .returned (.bool (decide (b % m = m - 1))) ∧ Src w' g A n c a' sd' ∧ Rg g (g + 1) w w' := by
  have HH := Lib.hid HP
  have hb2 := (byteP_lt h.2.1 hs HP).1
  clear HP
  go_enter Try.func150, Try.ntmps150
  go_wp2_with fail
  refine (next_c m g A n c a sd B ys b a' sd' _ hm hm2 hb h hB hn ha hs HH.out).mono ?_
  rintro e w1 ⟨rfl, h1, hr⟩
  go_wp2
  all_goals (go_ret; refine ⟨ret_bool ?_, h1, hr⟩; rw [Bool.eq_iff_iff]; simp; omega)

set_option maxRecDepth 100000 in
set_option maxHeartbeats 1000000 in
theorem l00Source_c (A : Option Addr) (n c : Nat) (w : World) (hn : n ≤ 1048576) :
    Calls Try.prog 105 #[.slice A n c] w fun e w' => e = .returned (.pointer (some ⟨w.heap.size, 0, none⟩)) ∧ Src w' w.heap.size A n c 0 (n % 1000) ∧ Nx w w' := by
  go_enter Try.func105, Try.ntmps105
  go_wp2
  go_ret
  refine ⟨rfl, ?_, (Nx.refl w).alloc _⟩
  unfold Src
  rw [show (((n % 1000 : Nat) : Int)) = (n : Int) % 1000 from by omega]
  exact Box.new w _ _
end Go.Proofs.Ytihpadelfpogmaa
