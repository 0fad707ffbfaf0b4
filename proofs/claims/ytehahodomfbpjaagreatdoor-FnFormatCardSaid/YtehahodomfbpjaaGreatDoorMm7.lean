/-
  Texts of the proof, put together in their order: Lso, Src, Op8, Drf, Cnd, Cne, Atp, Mgv, Sgl, Sgm, Chn, Chi, Chs.
  Conditions: those of each.
-/
import Derived.Test.YtehahodomfbpjaaGreatDoorMm6
import Derived.Deep.QuietTactic
import Derived.BigQuiet
import Derived.Deep.Slices
import Derived.ChangeSame
import Derived.StillTailTactics
import Derived.IntWalk
import Derived.Deep.RegionHeld
import Derived.Outline
/- The walk of the law FnExactSegOf. Conditions: the list that comes in can be read. -/
namespace Go.Proofs.YtehahodomfbpjaaGreatDoor
set_option linter.unusedVariables false
set_option maxRecDepth 100000
open Go.RowKit
theorem RetSC.un {w w' : World} {q : Sg4} {cd cd' : Int} {e : Ending} {q0 q1 q2 : Int} {qs : List Chg} (h : RetSC w q cd e w') (hq : q = (q0, q1, q2, qs)) (hc : cd = cd') :
    ∃ (A : Option Addr) (c : Nat), e = .returned (.tuple #[.agg #[.int .i64 q0, .int .i64 q1, .int .i64 q2, .slice A qs.length c], .int .i64 cd']) ∧ Sl w' w.heap.size A 202 (qs.length * 3) (chAt qs) ∧ Nx w w' := by
  subst hq hc
  exact h
end Go.Proofs.YtehahodomfbpjaaGreatDoor
/- Contracts of the model's source of choices: a byte, one of n, a chance; what it leaves is its own block alone. Conditions: the code can be read, and holds at most 1048576 bytes. -/
namespace Go.Proofs.YtehahodomfbpjaaGreatDoor
set_option linter.unusedVariables false
set_option maxRecDepth 100000
open Go.ChangeShapes Go.WideShapes Go.RowKit Go.Deep

/-- A slice of bytes that is read. -/
def u8At (ys : List Nat) (i : Nat) : Value := .int .u8 ((ys.getD i 0 : Nat) : Int)
def U8s (w : World) (B : Nat) (A : Option Addr) (n : Nat) (ys : List Nat) : Prop := ys.length = n ∧ (∀ i, ys.getD i 0 < 256) ∧ Row w B A n (u8At ys)
section
variable {w w' : World} {B B' n : Nat} {A : Option Addr} {ys : List Nat}
theorem U8s.below (h : U8s w B A n ys) (hb : Below B' w w') (hB : B ≤ B') : U8s w' B A n ys := ⟨h.1, h.2.1, h.2.2.below hb hB⟩
theorem U8s.more (h : U8s w B A n ys) (hB : B ≤ B') : U8s w B' A n ys := ⟨h.1, h.2.1, h.2.2.more hB⟩
theorem U8s.rg {lo hi : Nat} (h : U8s w B A n ys) (hb : Rg lo hi w w') (hB : B ≤ lo) (hl : lo ≤ w.heap.size) : U8s w' B A n ys := h.below (hb.below hl) hB
theorem U8s.at_ {k : Nat} (h : U8s w B A n ys) (hk : k < n) : ∃ b off, A = some ⟨b, off, none⟩ ∧ b < B ∧ w.cell? ⟨b, off + k, none⟩ = some (.int .u8 ((ys.getD k 0 : Nat) : Int)) := by
  obtain ⟨b, off, e, hb, hc⟩ := h.2.2 (by omega)
  exact ⟨b, off, e, hb, hc k hk⟩
end
section
variable {w : World} {g : Nat} {t : TypeId} {v0 v1 v2 : Value}
theorem Box.d0 (h : Box w g t #[v0, v1, v2]) : w.cell? ⟨g, 0, none⟩ = some v0 := h.cell 0
theorem Box.d1 (h : Box w g t #[v0, v1, v2]) : w.cell? ⟨g, 1, none⟩ = some v1 := h.cell 1
theorem Box.d2 (h : Box w g t #[v0, v1, v2]) : w.cell? ⟨g, 2, none⟩ = some v2 := h.cell 2
theorem Box.put1 (h : Box w g t #[v0, v1, v2]) (u : Value) : Box (w.setCell ⟨g, 1, none⟩ u) g t #[v0, u, v2] := by
  unfold Box at h ⊢
  simp [World.setCell, Array.getElem?_modify, h]
theorem Box.put2 (h : Box w g t #[v0, v1, v2]) (u : Value) : Box (w.setCell ⟨g, 2, none⟩ u) g t #[v0, v1, u] := by
  unfold Box at h ⊢
  simp [World.setCell, Array.getElem?_modify, h]
end

/-- A byte of a source: what it is, and the source's state then. -/
def byteP (ys : List Nat) (a sd : Nat) : Nat × Nat × Nat :=
  if a + 1 ≤ ys.length then (ys.getD a 0, a + 1, (sd * 31 + ys.getD a 0 + 7) % 2147483648)
  else if 3000 < a + 1 then (0, a + 1, sd)
  else ((sd * 1103515245 + 12345) % 2147483648 / 65536 % 256, a + 1, (sd * 1103515245 + 12345) % 2147483648)
theorem byteP_lt {ys : List Nat} {a sd b a' sd' : Nat} (hy : ∀ i, ys.getD i 0 < 256) (hs : sd < 2147483648) (h : byteP ys a sd = (b, a', sd')) : b < 256 ∧ a' = a + 1 ∧ sd' < 2147483648 := by
  unfold byteP at h
  have := hy a
  split at h
  · cases h; omega
  · split at h <;> cases h <;> omega
def Src (w : World) (g : Nat) (A : Option Addr) (n c a sd : Nat) : Prop := Box w g 179 #[.slice A n c, .int .i64 a, .int .i64 sd]

set_option maxRecDepth 100000 in
set_option maxHeartbeats 1000000 in
theorem byte_c (g : Nat) (A : Option Addr) (n c a sd B : Nat) (ys : List Nat) (b a' sd' : Nat) (w : World) (hb : Src w g A n c a sd) (h : U8s w B A n ys) (hB : B ≤ g) (hn : n ≤ 1048576) (ha : a ≤ 1048576) (hs : sd < 2147483648)
    (HP : byteP ys a sd = (b, a', sd')) :
    Calls Tryz.prog 223 #[.pointer (some ⟨g, 0, none⟩)] w fun e w' => e = .returned (.int .i64 b) ∧ Src w' g A n c a' sd' ∧ Rg g (g + 1) w w' := by
  unfold Src at *
  have c0 := hb.d0
  have c1 := hb.d1
  have c2 := hb.d2
  have f1 := hb.frozen 1
  have f2 := hb.frozen 2
  have hr1 := (Rg.of_nx (lo := g) (hi := g + 1) (Nx.refl w)).setCell (p := ⟨g, 1, none⟩) (Nat.le_refl _) (Nat.lt_succ_self _) (.int .i64 ((a : Int) + 1))
  have hbs := hb.put1 (.int .i64 ((a : Int) + 1))
  have h1 := h.rg hr1 hB (Nat.le_of_lt hb.lt)
  go_enter Tryz.func223, Tryz.ntmps223
  go_wp2
  generalize w.setCell ⟨g, 1, none⟩ (.int .i64 ((a : Int) + 1)) = w1 at *
  clear c0 c1 c2 f1 f2 h
  have c0 := hbs.d0
  have c1 := hbs.d1
  have c2 := hbs.d2
  have f2 := hbs.frozen 2
  by_cases hlt : a < n
  · obtain ⟨b0, off, rfl, hb0, hc⟩ := h1.at_ hlt
    unfold byteP at HP
    rw [if_pos (by rw [h1.1]; omega)] at HP
    have hy := h1.2.1 a
    generalize ys.getD a 0 = y at *
    cases HP
    go_quiet (fail)
    have hr2 : Rg g (g + 1) w (w1.drewN nq) := hr1.trans (Rg.of_nx ((Nx.refl w1).drewN nq))
    have hb2 : Box (w1.drewN nq) g 179 #[.slice (some ⟨b0, off, none⟩) n c, .int .i64 ((a : Int) + 1), .int .i64 sd] := hbs
    have hc2 : (w1.drewN nq).cell? ⟨b0, off + a, none⟩ = some (.int .u8 (b : Int)) := hc
    clear c0 c1 c2 f2 hc hbs hr1 h1
    generalize w1.drewN nq = w2 at *
    have c0 := hb2.d0
    have c1 := hb2.d1
    have c2 := hb2.d2
    have f2 := hb2.frozen 2
    go_wp2_with fail
    go_still_tail 23, (by kernel_rfl)
    have e1 : IntKind.i64.wrap (a : Int) = a := IntWalk.i64_in _ (by omega)
    have e2 : IntKind.i64.wrap ((sd : Int) * 31) = (sd : Int) * 31 := IntWalk.i64_in _ (by omega)
    have e0 : IntKind.i64.wrap (b : Int) = b := IntWalk.i64_in _ (by omega)
    have e3 : IntKind.i64.wrap ((sd : Int) * 31 + b) = (sd : Int) * 31 + b := IntWalk.i64_in _ (by omega)
    have e4 : IntKind.i64.wrap ((sd : Int) * 31 + b + 7) = (sd : Int) * 31 + b + 7 := IntWalk.i64_in _ (by omega)
    have e6 : ((sd : Int) * 31 + b + 7).tmod 2147483648 = ((sd : Int) * 31 + b + 7) % 2147483648 := Int.tmod_eq_emod_of_nonneg (by omega)
    repeat (first | still_step | rw [e1] | rw [e2])
    try refine wpStill_nil ?_
    change wpList _ _ _ _ _ w2.drew
    have e5 : ((sd : Int) * 31 + b + 7) % 2147483648 = (((sd * 31 + b + 7) % 2147483648 : Nat) : Int) := by omega
    first | rw [e6, e5] | rw [e5]
    have hr3 : Rg g (g + 1) w w2.drew := hr2.trans (Rg.of_nx (Nx.refl w2).drew)
    have hb3 : Box w2.drew g 179 #[.slice (some ⟨b0, off, none⟩) n c, .int .i64 ((a : Int) + 1), .int .i64 sd] := hb2
    have hc3 : w2.drew.cell? ⟨b0, off + a, none⟩ = some (.int .u8 (b : Int)) := hc2
    clear c0 c1 c2 f2 hc2 hb2 hr2 e0 e2 e3 e4 e5 e6
    generalize w2.drew = w3 at *
    have c2 := hb3.d2
    have f2 := hb3.frozen 2
    generalize hs' : (sd * 31 + b + 7) % 2147483648 = s'
    have Hs := Lib.hid hs'
    clear hs'
    have hb4 := hb3.put2 (.int .i64 (s' : Int))
    have hc4 : (w3.setCell ⟨g, 2, none⟩ (.int .i64 (s' : Int))).cell? ⟨b0, off + a, none⟩ = some (.int .u8 (b : Int)) := by rw [World.cell?_setCell_far _ _ _ _ (by simp; omega)]; exact hc3
    have hr4 := hr3.setCell (p := ⟨g, 2, none⟩) (Nat.le_refl _) (Nat.lt_succ_self _) (.int .i64 (s' : Int))
    go_wp2_with fail
    clear c2 f2 hc3 hb3 hr3
    generalize w3.setCell ⟨g, 2, none⟩ (.int .i64 (s' : Int)) = w4 at *
    have c0 := hb4.d0
    have c1 := hb4.d1
    go_quiet (fail)
    go_wp2
    go_ret
    refine ⟨rfl, ?_, hr4.trans (Rg.of_nx ((Nx.refl w4).drewN nq))⟩
    rw [Hs.out]
    exact hb4
  · unfold byteP at HP
    rw [if_neg (by rw [h1.1]; omega)] at HP
    by_cases h3 : 3000 < a + 1
    · rw [if_pos h3] at HP
      cases HP
      have h3' : decide ((3000 : Int) < (a : Int) + 1) = true := by simp; omega
      clear h3
      go_quiet (fail)
      go_wp2
      go_ret
      exact ⟨rfl, hbs, hr1.trans (Rg.of_nx ((Nx.refl w1).drewN nq))⟩
    · rw [if_neg h3] at HP
      have H3 := (Prod.mk.inj (Prod.mk.inj HP).2).2
      have H2 := (Prod.mk.inj (Prod.mk.inj HP).2).1
      have H1 := (Prod.mk.inj HP).1
      clear HP
      rw [H3] at H1
      have e6 : ((sd : Int) * 1103515245 + 12345).tmod 2147483648 = (sd' : Int) := by rw [Int.tmod_eq_emod_of_nonneg (by omega)]; omega
      have hsd' : sd' < 2147483648 := by omega
      have K1 := Lib.hid H1
      clear H3 H1
      subst H2
      have h3' : decide ((3000 : Int) < (a : Int) + 1) = false := by simp; omega
      clear h3
      go_quiet (fail)
      have hr2 : Rg g (g + 1) w (w1.drewN nq) := hr1.trans (Rg.of_nx ((Nx.refl w1).drewN nq))
      have hb2 : Box (w1.drewN nq) g 179 #[.slice A n c, .int .i64 ((a : Int) + 1), .int .i64 sd] := hbs
      clear c0 c1 c2 f2 hbs hr1 h1
      generalize w1.drewN nq = w2 at *
      have c0 := hb2.d0
      have c1 := hb2.d1
      have c2 := hb2.d2
      have f2 := hb2.frozen 2
      go_wp2
      go_ret
      exact ⟨ret_int (by have := K1.out; omega), hb2.put2 _, hr2.setCell (p := ⟨g, 2, none⟩) (Nat.le_refl _) (Nat.lt_succ_self _) _⟩

set_option maxRecDepth 100000 in
set_option maxHeartbeats 1000000 in
theorem next_c (m g : Nat) (A : Option Addr) (n c a sd B : Nat) (ys : List Nat) (b a' sd' : Nat) (w : World) (hm : 2 ≤ m) (hm2 : m ≤ 256) (hb : Src w g A n c a sd) (h : U8s w B A n ys) (hB : B ≤ g) (hn : n ≤ 1048576) (ha : a ≤ 1048576) (hs : sd < 2147483648)
    (HP : byteP ys a sd = (b, a', sd')) :
    Calls Tryz.prog 160 #[.pointer (some ⟨g, 0, none⟩), .int .i64 m] w fun e w' => e = .returned (.int .i64 ((b % m : Nat) : Int)) ∧ Src w' g A n c a' sd' ∧ Rg g (g + 1) w w' := by
  have HH := Lib.hid HP
  have hb2 := (byteP_lt h.2.1 hs HP).1
  clear HP
  go_enter Tryz.func160, Tryz.ntmps160
  go_wp2_with fail
  refine (byte_c g A n c a sd B ys b a' sd' _ hb h hB hn ha hs HH.out).mono ?_
  rintro e w1 ⟨rfl, h1, hr⟩
  go_wp2
  go_ret
  exact ⟨ret_int (by omega), h1, hr⟩

set_option maxRecDepth 100000 in
set_option maxHeartbeats 1000000 in
theorem l00Source_c (A : Option Addr) (n c : Nat) (w : World) (hn : n ≤ 1048576) :
    Calls Tryz.prog 85 #[.slice A n c] w fun e w' => e = .returned (.pointer (some ⟨w.heap.size, 0, none⟩)) ∧ Src w' w.heap.size A n c 0 (n % 1000) ∧ Nx w w' := by
  go_enter Tryz.func85, Tryz.ntmps85
  go_wp2
  go_ret
  refine ⟨rfl, ?_, (Nx.refl w).alloc _⟩
  unfold Src
  rw [show (((n % 1000 : Nat) : Int)) = (n : Int) % 1000 from by omega]
  exact Box.new w _ _
end Go.Proofs.YtehahodomfbpjaaGreatDoor
/- A list of bytes that comes in, opened. Conditions: none. -/
namespace Go.Proofs.YtehahodomfbpjaaGreatDoor
set_option linter.unusedVariables false
set_option maxRecDepth 100000
open Go.ChangeShapes Go.WideShapes Go.RowKit Go.Deep

theorem addr_plain8 {w : World} {a : Addr} {v : Value} (h : w.cell? (a.add 0) = some v) : ∃ b off, a = ⟨b, off, none⟩ ∧ b < w.heap.size := by
  have h' : w.cell? a = some v := by simpa [Addr.add] using h
  have hs := World.cell?_spot h'
  obtain ⟨b, off, sp⟩ := a
  simp only at hs
  subst hs
  exact ⟨b, off, rfl, World.block_lt_of_cell? w _ h'⟩
theorem addr_add8 (b off i : Nat) : (Addr.mk b off none).add i = ⟨b, off + i, none⟩ := by
  unfold Addr.add
  by_cases h : i = 0
  · subst h; simp
  · simp [h]
theorem c5_ : Tryz.prog.cellsOf 5 = 1 := by kernel_rfl
theorem u8_wf {n : Int} (h : (Lit.int .u8 n).wf = true) : 0 ≤ n ∧ n < 256 := by
  have h2 : IntKind.u8.min ≤ n ∧ n ≤ IntKind.u8.max := by simpa [Lit.wf] using h
  have e1 : IntKind.u8.min = 0 := by decide
  have e2 : IntKind.u8.max = 255 := by decide
  omega
set_option maxRecDepth 100000 in
theorem open_u8s_ {H : Type} {enc : TypeId × Value → H} {w : World} {base : Nat} {spare : Nat → Bool} {held : Bool} {r : Reach} {b0 : Nat} {v : Value} {d : DataW H} {p : List MemPlace}
    (hv : Value.okWide Tryz.prog w r b0 58 v) (h : DataW.Trod enc Tryz.prog w base spare held 58 v d p) :
    ∃ (A : Option Addr) (n c : Nat) (ys : List Nat), v = .slice A n c ∧ U8s w w.heap.size A n ys ∧ n ≤ 2 ^ 63 - 1 := by
  obtain ⟨a0, len0, cap0, rfl⟩ := okWide_slice Tryz.underlying58 hv
  obtain ⟨fuel, hf⟩ := h
  rcases open_slice Tryz.underlying58 hf with ⟨hcs, _⟩ | ⟨a, len, cap, m, n, D, Pl, hcs, _, hl, hm, hmm, _, hi⟩
  · simp [Value.cells] at hcs
    obtain ⟨rfl, rfl, rfl⟩ := hcs
    exact ⟨none, 0, 0, [], rfl, ⟨rfl, fun i => by simp, fun hn => absurd hn (by omega)⟩, by omega⟩
  · simp [Value.cells] at hcs
    obtain ⟨rfl, rfl, rfl⟩ := hcs
    have hle : len0 ≤ m := by rw [hmm]; split <;> omega
    unfold maxLen at hm
    have key : ∀ i, ∃ q : Nat, q < 256 ∧ (i < m → w.cell? (a.add i) = some (.int .u8 (q : Int))) := by
      intro i
      by_cases him : i < m
      · obtain ⟨cs', hc, ht⟩ := hi i him
        rw [c5_, Nat.mul_one] at hc
        obtain ⟨_, hcl, hat⟩ := World.cells?_some hc
        obtain ⟨q, e, _, hw⟩ := DataW.trod_int Tryz.underlying5 ht
        subst e
        obtain ⟨h1, h2⟩ := u8_wf hw
        refine ⟨q.toNat, by omega, fun _ => ?_⟩
        have := hat 0 (by omega)
        rw [show ((q.toNat : Nat) : Int) = q by omega]
        simpa [Addr.add] using this
      · exact ⟨0, by omega, fun h => absurd h him⟩
    obtain ⟨g, hg⟩ := Classical.skolem.1 key
    refine ⟨some a, len0, cap0, (List.range len0).map g, rfl, ⟨by simp, fun i => ?_, fun hn => ?_⟩, by omega⟩
    · rw [List.getD_eq_getElem?_getD, List.getElem?_map]
      by_cases hi' : i < len0
      · rw [List.getElem?_range hi']; exact (hg i).1
      · rw [List.getElem?_eq_none (by simpa using hi')]; simp
    · obtain ⟨b, off, rfl, hb⟩ := addr_plain8 ((hg 0).2 (by omega))
      refine ⟨b, off, rfl, hb, fun i hi => ?_⟩
      have h1 := (hg i).2 (by omega)
      rw [addr_add8] at h1
      rw [h1]
      unfold u8At
      rw [List.getD_eq_getElem?_getD, List.getElem?_map, List.getElem?_range hi]; rfl
end Go.Proofs.YtehahodomfbpjaaGreatDoor
/- A source of choices of which only the reach is known; drawn frames. Conditions: the code can be read, and holds at most 1048576 bytes. -/
namespace Go.Proofs.YtehahodomfbpjaaGreatDoor
set_option linter.unusedVariables false
set_option maxRecDepth 100000
open Go.RowKit

/-- A source, at most k bytes on. -/
def SrcR (w : World) (g : Nat) (A : Option Addr) (n c k : Nat) : Prop := ∃ a sd, a ≤ k ∧ sd < 2147483648 ∧ Src w g A n c a sd
theorem SrcR.nx {w w' : World} {g n c k : Nat} {A : Option Addr} (h : SrcR w g A n c k) (hb : Nx w w') : SrcR w' g A n c k := by
  obtain ⟨a, sd, h1, h2, h3⟩ := h
  unfold Src at h3
  exact ⟨a, sd, h1, h2, h3.nx hb⟩
theorem SrcR.lt {w : World} {g n c k : Nat} {A : Option Addr} (h : SrcR w g A n c k) : g < w.heap.size := by
  obtain ⟨a, sd, h1, h2, h3⟩ := h
  unfold Src at h3
  exact h3.lt
theorem SrcR.more {w : World} {g n c k k' : Nat} {A : Option Addr} (h : SrcR w g A n c k) (hk : k ≤ k') : SrcR w g A n c k' := by
  obtain ⟨a, sd, h1, h2, h3⟩ := h
  exact ⟨a, sd, by omega, h2, h3⟩
def RetV (m : Nat) (g : Nat) (A : Option Addr) (n c k : Nat) (w : World) (e : Ending) (w' : World) : Prop :=
  ∃ v : Nat, e = .returned (.int .i64 (v : Int)) ∧ v < m ∧ SrcR w' g A n c (k + 3) ∧ Rg g (g + 1) w w'
set_option maxHeartbeats 1000000 in
theorem byteR_c (g : Nat) (A : Option Addr) (n c k B : Nat) (ys : List Nat) (w : World) (hb : SrcR w g A n c k) (h : U8s w B A n ys) (hB : B ≤ g) (hn : n ≤ 1048576) (hk : k ≤ 1048576) :
    Calls Tryz.prog 223 #[.pointer (some ⟨g, 0, none⟩)] w fun e w' => ∃ b : Nat, e = .returned (.int .i64 b) ∧ b < 256 ∧ SrcR w' g A n c (k + 1) ∧ Rg g (g + 1) w w' := by
  obtain ⟨a, sd, h1, h2, h3⟩ := hb
  obtain ⟨⟨b, a', sd'⟩, HP⟩ : ∃ x, byteP ys a sd = x := ⟨_, rfl⟩
  obtain ⟨k1, k2, k3⟩ := byteP_lt h.2.1 h2 HP
  exact (byte_c g A n c a sd B ys b a' sd' w h3 h hB hn (by omega) h2 HP).mono fun e w' ⟨he, hs, hr⟩ => ⟨b, he, k1, ⟨a', sd', by omega, k3, hs⟩, hr⟩
set_option maxRecDepth 100000 in
set_option maxHeartbeats 1000000 in
theorem nextR_c (m g : Nat) (A : Option Addr) (n c k B : Nat) (ys : List Nat) (w : World) (hm : 2 ≤ m) (hm2 : m ≤ 100000) (hb : SrcR w g A n c k) (h : U8s w B A n ys) (hB : B ≤ g) (hn : n ≤ 1048576) (hk : k + 3 ≤ 1048576) :
    Calls Tryz.prog 160 #[.pointer (some ⟨g, 0, none⟩), .int .i64 m] w (RetV m g A n c k w) := by
  by_cases h256 : m ≤ 256
  · obtain ⟨a, sd, h1, h2, h3⟩ := hb
    obtain ⟨⟨b, a', sd'⟩, HP⟩ : ∃ x, byteP ys a sd = x := ⟨_, rfl⟩
    obtain ⟨k1, k2, k3⟩ := byteP_lt h.2.1 h2 HP
    exact (next_c m g A n c a sd B ys b a' sd' w hm h256 h3 h hB hn (by omega) h2 HP).mono fun e w' ⟨he, hs, hr⟩ => ⟨b % m, he, Nat.mod_lt _ (by omega), ⟨a', sd', by omega, k3, hs⟩, hr⟩
  · go_enter Tryz.func160, Tryz.ntmps160
    go_wp2_with fail
    refine (byteR_c g A n c k B ys _ hb h hB hn (by omega)).mono ?_
    rintro e w1 ⟨x, rfl, hx, h1, hr1⟩
    have hu1 := h.rg hr1 hB (Nat.le_of_lt hb.lt)
    go_wp2_with fail
    refine (byteR_c g A n c (k + 1) B ys _ h1 hu1 hB hn (by omega)).mono ?_
    rintro e w2 ⟨y, rfl, hy, h2, hr2⟩
    have hu2 := hu1.rg hr2 hB (Nat.le_of_lt h1.lt)
    go_wp2_with fail
    refine (byteR_c g A n c (k + 1 + 1) B ys _ h2 hu2 hB hn (by omega)).mono ?_
    rintro e w3 ⟨z, rfl, hz, h3, hr3⟩
    go_wp2
    go_ret
    exact ⟨(x * 65536 + y * 256 + z) % m, ret_int (by rw [show (x : Int) * 65536 + (y : Int) * 256 + (z : Int) = ((x * 65536 + y * 256 + z : Nat) : Int) by omega, ← Int.natCast_emod]), Nat.mod_lt _ (by omega), h3, (hr1.trans hr2).trans hr3⟩
end Go.Proofs.YtehahodomfbpjaaGreatDoor
/- Rows of ints of the call's own that grow by one; drawn contents. Conditions: the code can be read, and holds at most 1048576 bytes. -/
namespace Go.Proofs.YtehahodomfbpjaaGreatDoor
set_option linter.unusedVariables false
set_option maxRecDepth 100000
open Go.RowKit

end Go.Proofs.YtehahodomfbpjaaGreatDoor
/- Drawn contents: eight values below 90. Conditions: the code can be read, and holds at most 1048576 bytes. -/
namespace Go.Proofs.YtehahodomfbpjaaGreatDoor
set_option linter.unusedVariables false
set_option maxRecDepth 100000
open Go.RowKit

def Sm (xs : List Int) : Prop := ∀ x ∈ xs, 0 ≤ x ∧ x < 90
theorem Sm.add {xs : List Int} (h : Sm xs) {v : Nat} (hv : v < 90) : Sm (xs ++ [(v : Int)]) := fun x hx => by
  rcases List.mem_append.1 hx with hx | hx
  · exact h x hx
  · simp only [List.mem_singleton] at hx
    subst hx
    omega
theorem Sm.cont {xs : List Int} (h : Sm xs) (hl : xs.length = 8) : contB xs = true := by
  unfold contB
  rw [decide_eq_true hl, List.all_eq_true.2 fun x hx => by have := h x hx; unfold inB; simp; omega]; rfl
theorem SrcR.rgO {w w' : World} {B : Nat} {g n c k : Nat} {A : Option Addr} (h : SrcR w g A n c k) (hb : GrewT 3 B w w') : SrcR w' g A n c k := by
  obtain ⟨a, sd, h1, h2, h3⟩ := h
  unfold Src at h3
  exact ⟨a, sd, h1, h2, hb.box _ _ _ (by decide) h3⟩
set_option maxRecDepth 100000 in
set_option maxHeartbeats 2000000 in
theorem content_c (g : Nat) (A : Option Addr) (n c B k0 : Nat) (ys : List Nat) (w : World) (hb : SrcR w g A n c k0) (h : U8s w B A n ys) (hB : B ≤ g) (hn : n ≤ 1048576) (hk0 : k0 ≤ 1000000) :
    Calls Tryz.prog 86 #[.pointer (some ⟨g, 0, none⟩)] w fun e w' => ∃ A' c' xs, e = .returned (.slice A' 8 c') ∧ xs.length = 8 ∧ Sm xs ∧ SlI w' w.heap.size A' xs ∧ SrcR w' g A n c (k0 + 24) ∧ Rg g (g + 1) w w' := by
  have hz0 := hb.lt
  have hrow0 := RowI.new w (Nat.le_refl _)
  have hx0 := (Nx.refl w).alloc (.cells #[] 3)
  go_enter Tryz.func86, Tryz.ntmps86
  go_wp2_with fail
  go_loopw [3, 4] (fun v i wr => ∃ (k : Nat) (xs : List Int), k ≤ 8 ∧ i = .int .i64 k ∧ xs.length = k ∧ Sm xs ∧ (∃ u, u = v ∧ RowI wr w.heap.size u xs) ∧ SrcR wr g A n c (k0 + 3 * k) ∧ Rg g (g + 1) w wr) (fun _ i _ => 8 - (intOf i).toNat)
  case atStart => exact ⟨0, [], by omega, rfl, rfl, (fun x hx => by cases hx), ⟨_, rfl, hrow0⟩, (hb.nx hx0).more (by omega), Rg.of_nx hx0⟩
  case round =>
    obtain ⟨k, xs, hk, rfl, hl, hsm, ⟨u, rfl, hrow⟩, hs, hrg⟩ := hrel
    clear hrow0 hx0
    by_cases hlt : k < 8
    case neg =>
      obtain rfl : k = 8 := by omega
      obtain ⟨A', c', rfl, hS⟩ := hrow.sl
      rw [hl]
      go_wp2
      go_ret
      exact ⟨A', c', xs, rfl, hl, hsm, hS, hs.more (by omega), hrg⟩
    have hu := h.rg hrg hB (Nat.le_of_lt hz0)
    go_wp2_with fail
    refine (nextR_c 90 g A n c (k0 + 3 * k) B ys _ (by omega) (by omega) hs hu hB hn (by omega)).mono ?_
    rintro e w1 ⟨v, rfl, hv, hs1, hr1⟩
    have hx1 := (Nx.refl w1).alloc (.cells #[.int .i64 (v : Int)] 3)
    have hbx := Box.new w1 3 #[.int .i64 (v : Int)]
    have hrow1 := (hrow.rg hr1 (by omega)).nx hx1
    have hs2 := hs1.nx hx1
    have hr2 := (hrg.trans hr1).trans (Rg.of_nx (lo := g) (hi := g + 1) hx1)
    have hsz := Nat.le_trans hr2.size (Nat.le_refl _)
    have HR := Lib.hid hrow1
    have HB := Lib.hid hbx
    have HL := Lib.hid hl
    clear hrow hrow1 hbx hs hs1 hu hl hrg hr1
    go_wp2_with (at_builtin; refine wpList_addI rfl _ _ rfl w.heap.size w1.heap.size _ xs (v : Int) rfl rfl HR.out HB.out (by have := HL.out; omega) hsz ?_)
    intro A' k' w2 hrow2 hgr
    go_wp2
    go_roundw
    case rel => exact ⟨k + 1, xs ++ [(v : Int)], by omega, by go_num, by rw [List.length_append, HL.out]; rfl, hsm.add hv, ⟨_, rfl, hrow2⟩, (hs2.rgO hgr).more (by omega), hgr.rg _ _ _ hr2 (Nat.le_refl _)⟩
    case measure => simp [intOf]; omega
end Go.Proofs.YtehahodomfbpjaaGreatDoor
/- Contracts of the laws' functions sameSeg, at, sameInts, and of the model's ContentDrawn. Conditions: what is read can be read, and has at most 1048576 elements. -/
namespace Go.Proofs.YtehahodomfbpjaaGreatDoor
set_option linter.unusedVariables false
set_option maxRecDepth 100000
open Go.RowKit

set_option maxHeartbeats 1000000 in
theorem sameInts_c (A A2 : Option Addr) (c c2 B : Nat) (xs : List Int) (w : World) (h : Ins w B A xs) (h2 : Ins w B A2 xs) (hB : B ≤ w.heap.size) (hn : xs.length ≤ 1048576) :
    Calls Tryz.prog 34 #[.slice A xs.length c, .slice A2 xs.length c2] w fun e w' => e = .returned (.bool true) ∧ Nx w w' := by
  go_enter Tryz.func34, Tryz.ntmps34
  go_wp2
  go_loopw [5] (fun i wr => ∃ k : Nat, k ≤ xs.length ∧ i = .int .i64 k ∧ Nx w wr) (fun i _ => xs.length - (intOf i).toNat)
  case atStart => exact ⟨0, Nat.zero_le _, rfl, Nx.refl _⟩
  case round =>
    obtain ⟨k, hk, rfl, hnx⟩ := hrel
    by_cases hlt : k < xs.length
    · obtain ⟨b, off, rfl, hb, hc⟩ := (h.below hnx hB).at_ hlt
      obtain ⟨b2, off2, rfl, hb2, hc2⟩ := (h2.below hnx hB).at_ hlt
      generalize xs.getD k 0 = s at hc hc2
      go_wp2
      go_quiet (fail)
      go_wp2
      go_roundw
      case rel => exact ⟨k + 1, by omega, by go_num, hnx.drewN _⟩
      case measure => simp [intOf]; omega
    · go_wp2
      go_ret
      exact ⟨rfl, hnx⟩
set_option maxHeartbeats 1000000 in
theorem contentDrawn_c (A : Option Addr) (n c : Nat) (ys : List Nat) (w : World) (h : U8s w w.heap.size A n ys) (hn : n ≤ 1048576) :
    Calls Tryz.prog 28 #[.slice A n c] w fun e w' => ∃ A' c' xs, e = .returned (.slice A' 8 c') ∧ xs.length = 8 ∧ Sm xs ∧ SlI w' w.heap.size A' xs ∧ Nx w w' := by
  go_enter Tryz.func28, Tryz.ntmps28
  go_wp2_with fail
  refine (l00Source_c A n c _ hn).mono ?_
  rintro e w1 ⟨rfl, s1, hnx1⟩
  have u1 := h.below hnx1 (Nat.le_refl _)
  go_wp2_with fail
  refine (content_c w.heap.size A n c w.heap.size 0 ys _ ⟨0, n % 1000, by omega, by omega, s1⟩ u1 (Nat.le_refl _) hn (by omega)).mono ?_
  rintro e w2 ⟨A', c', xs, rfl, hl, hsm, hS, _, hr⟩
  have HL := Lib.hid hl
  have HS := Lib.hid hS
  clear hl hS
  go_wp2
  go_ret
  exact ⟨A', c', xs, rfl, HL.out, hsm, HS.out.low hnx1.size, Rg.nx_of hnx1 hr (Nat.le_refl _)⟩
end Go.Proofs.YtehahodomfbpjaaGreatDoor
/- What SegOf, Forward, Backward and MergeSegs answer of what is right; two writes put together. Conditions: those of each theorem. -/
namespace Go.Proofs.YtehahodomfbpjaaGreatDoor
set_option linter.unusedVariables false
set_option maxRecDepth 100000
open Go.RowKit

theorem getD_set_self {xs : List Int} {b : Nat} (h : b < xs.length) (v : Int) : (xs.set b v).getD b 0 = v := by
  rw [List.getD_eq_getElem?_getD, List.getElem?_set]; simp [h]
theorem getD_set_ne {xs : List Int} {b b2 : Nat} (h : b ≠ b2) (v : Int) : (xs.set b v).getD b2 0 = xs.getD b2 0 := by
  rw [List.getD_eq_getElem?_getD, List.getD_eq_getElem?_getD, List.getElem?_set_ne h]
end Go.Proofs.YtehahodomfbpjaaGreatDoor
/- Words on lists of segments in memory; contracts of the laws' functions that count, copy and compare such lists; a list that comes in, opened. Conditions: what is read can be read; copied or compared: at most 1048576 of each. -/
namespace Go.Proofs.YtehahodomfbpjaaGreatDoor
set_option linter.unusedVariables false
set_option maxRecDepth 100000
open Go.Joins Go.ChangeShapes Go.WideShapes Go.RowKit Go.Deep

/-- A segment in memory: from, to, time, where its changes lie, their capacity, the changes. -/
structure SgR where
  f : Int
  t : Int
  m : Int
  A : Option Addr
  c : Nat
  cs : List Chg
def sgZ : SgR := ⟨0, 0, 0, none, 0, []⟩
def SgR.v (g : SgR) : Sg4 := (g.f, g.t, g.m, g.cs)
def sgAt (gs : List SgR) (i : Nat) : Value :=
  if i % 4 = 0 then .int .i64 (gs.getD (i / 4) sgZ).f else if i % 4 = 1 then .int .i64 (gs.getD (i / 4) sgZ).t else if i % 4 = 2 then .int .i64 (gs.getD (i / 4) sgZ).m else .slice (gs.getD (i / 4) sgZ).A (gs.getD (i / 4) sgZ).cs.length (gs.getD (i / 4) sgZ).c
theorem sgAt0 (gs : List SgR) (k : Nat) : sgAt gs (k * 4) = .int .i64 (gs.getD k sgZ).f := by
  unfold sgAt; rw [if_pos (by omega), show k * 4 / 4 = k by omega]
theorem sgAt1 (gs : List SgR) (k : Nat) : sgAt gs (k * 4 + 1) = .int .i64 (gs.getD k sgZ).t := by
  unfold sgAt; rw [if_neg (by omega), if_pos (by omega), show (k * 4 + 1) / 4 = k by omega]
theorem sgAt2 (gs : List SgR) (k : Nat) : sgAt gs (k * 4 + 2) = .int .i64 (gs.getD k sgZ).m := by
  unfold sgAt; rw [if_neg (by omega), if_neg (by omega), if_pos (by omega), show (k * 4 + 2) / 4 = k by omega]
theorem sgAt3 (gs : List SgR) (k : Nat) : sgAt gs (k * 4 + 3) = .slice (gs.getD k sgZ).A (gs.getD k sgZ).cs.length (gs.getD k sgZ).c := by
  unfold sgAt; rw [if_neg (by omega), if_neg (by omega), if_neg (by omega), show (k * 4 + 3) / 4 = k by omega]
theorem sgAt_app (gs hs : List SgR) (i : Nat) (h : i < gs.length * 4) : sgAt (gs ++ hs) i = sgAt gs i := by
  have e : (gs ++ hs).getD (i / 4) sgZ = gs.getD (i / 4) sgZ := by
    rw [List.getD_eq_getElem?_getD, List.getD_eq_getElem?_getD, List.getElem?_append_left (by omega)]
  unfold sgAt; rw [e]
theorem getD_app (gs : List SgR) (g : SgR) : (gs ++ [g]).getD gs.length sgZ = g := by
  rw [List.getD_eq_getElem?_getD, List.getElem?_append_right (Nat.le_refl _)]; simp
theorem getD_app_lt (gs : List SgR) (g : SgR) {k : Nat} (h : k < gs.length) : (gs ++ [g]).getD k sgZ = gs.getD k sgZ := by
  rw [List.getD_eq_getElem?_getD, List.getD_eq_getElem?_getD, List.getElem?_append_left h]
theorem v_at {gs hs : List SgR} (h : gs.map SgR.v = hs.map SgR.v) (k : Nat) : (gs.getD k sgZ).v = (hs.getD k sgZ).v := by
  have e : (gs.map SgR.v)[k]? = (hs.map SgR.v)[k]? := by rw [h]
  rw [List.getElem?_map, List.getElem?_map] at e
  rw [List.getD_eq_getElem?_getD, List.getD_eq_getElem?_getD]
  cases h1 : gs[k]? <;> cases h2 : hs[k]? <;> rw [h1, h2] at e <;> simp at e
  · exact e
theorem v_len {gs hs : List SgR} (h : gs.map SgR.v = hs.map SgR.v) : gs.length = hs.length := by
  have := congrArg List.length h
  simpa using this
/-- A list of segments that is read. -/
structure Sgs (w : World) (B : Nat) (A : Option Addr) (gs : List SgR) : Prop where
  row : Row w B A (gs.length * 4) (sgAt gs)
  chs : ∀ k, k < gs.length → Chs w B (gs.getD k sgZ).A (gs.getD k sgZ).cs
theorem Sgs.below {w w' : World} {B B' : Nat} {A : Option Addr} {gs : List SgR} (h : Sgs w B A gs) (hb : Below B' w w') (hB : B ≤ B') : Sgs w' B A gs := ⟨h.row.below hb hB, fun k hk => (h.chs k hk).below hb hB⟩
theorem Row.at4 {w : World} {B k : Nat} {A : Option Addr} {gs : List SgR} (h : Row w B A (gs.length * 4) (sgAt gs)) (hk : k < gs.length) :
    ∃ b off, A = some ⟨b, off, none⟩ ∧ b < B ∧ w.cell? ⟨b, off + k * 4, none⟩ = some (.int .i64 (gs.getD k sgZ).f) ∧ w.cell? ⟨b, off + k * 4 + 1, none⟩ = some (.int .i64 (gs.getD k sgZ).t) ∧ w.cell? ⟨b, off + k * 4 + 2, none⟩ = some (.int .i64 (gs.getD k sgZ).m)
      ∧ w.cell? ⟨b, off + k * 4 + 3, none⟩ = some (.slice (gs.getD k sgZ).A (gs.getD k sgZ).cs.length (gs.getD k sgZ).c) := by
  obtain ⟨b, off, e, hb, hc⟩ := h (by omega)
  have h0 := hc (k * 4) (by omega)
  have h1 := hc (k * 4 + 1) (by omega)
  have h2 := hc (k * 4 + 2) (by omega)
  have h3 := hc (k * 4 + 3) (by omega)
  rw [sgAt0] at h0
  rw [sgAt1] at h1
  rw [sgAt2] at h2
  rw [sgAt3] at h3
  exact ⟨b, off, e, hb, h0, h1, h2, h3⟩
/-- A list of segments in blocks of the call's own. -/
structure SgO (w : World) (lo : Nat) (A : Option Addr) (gs : List SgR) : Prop where
  row : Sl w lo A 130 (gs.length * 4) (sgAt gs)
  chs : ∀ k, k < gs.length → Sl w lo (gs.getD k sgZ).A 202 ((gs.getD k sgZ).cs.length * 3) (chAt (gs.getD k sgZ).cs)
theorem SgO.nx {w w' : World} {lo : Nat} {A : Option Addr} {gs : List SgR} (h : SgO w lo A gs) (hb : Nx w w') : SgO w' lo A gs := ⟨h.row.nx hb, fun k hk => (h.chs k hk).nx hb⟩
theorem SgO.low {w : World} {lo lo' : Nat} {A : Option Addr} {gs : List SgR} (h : SgO w lo A gs) (hl : lo' ≤ lo) : SgO w lo' A gs := ⟨h.row.low hl, fun k hk => (h.chs k hk).low hl⟩
theorem SgO.sgs {w : World} {lo : Nat} {A : Option Addr} {gs : List SgR} (h : SgO w lo A gs) : Sgs w w.heap.size A gs := ⟨h.row.row, fun k hk => (h.chs k hk).row⟩
/-- How many changes the first k have. -/
def ssum (gs : List SgR) (k : Nat) : Nat := ((gs.take k).map fun g => g.cs.length).sum
theorem ssum_zero (gs : List SgR) : ssum gs 0 = 0 := rfl
theorem ssum_succ {gs : List SgR} {k : Nat} (hk : k < gs.length) : ssum gs (k + 1) = ssum gs k + (gs.getD k sgZ).cs.length := by
  unfold ssum
  rw [List.take_succ_eq_append_getElem hk, List.map_append, List.sum_append, List.getD_eq_getElem?_getD, List.getElem?_eq_getElem hk]
  simp
end Go.Proofs.YtehahodomfbpjaaGreatDoor
/- Contracts of the laws' functions that copy and compare lists of segments; a list of segments that comes in, opened. Conditions: what is read can be read; copied or compared: at most 1048576 of each. -/
namespace Go.Proofs.YtehahodomfbpjaaGreatDoor
set_option linter.unusedVariables false
set_option maxRecDepth 100000
open Go.Joins Go.ChangeShapes Go.WideShapes Go.RowKit Go.Deep

theorem info_sg : (Tryz.prog.info? 130).map (fun i => (i.zero, i.size, i.bytes)) = some (some (.agg #[.int .i64 0, .int .i64 0, .int .i64 0, .slice none 0 0]), 4, 48) := by kernel_rfl
theorem Fill.congr {w : World} {g : Nat} {t : TypeId} {m k : Nat} {F F' : Nat → Value} (h : Fill w g t m k F) (hf : ∀ i, i < k → F i = F' i) : Fill w g t m k F' := by
  obtain ⟨f, h, hF⟩ := h
  exact ⟨f, h, fun i hi => (hF i hi).trans (hf i hi)⟩
end Go.Proofs.YtehahodomfbpjaaGreatDoor
/- What a chain of segments is; contract of the program's goesOnFrom. Conditions: the changes can be read; their blocks are blocks. -/
namespace Go.Proofs.YtehahodomfbpjaaGreatDoor
set_option linter.unusedVariables false
set_option maxRecDepth 100000
open Go.RowKit

/-- Where the first k lead to; the time of the last of them; what they noted of each block. -/
def atK (base : Int) (gs : List SgR) : Nat → Int
  | 0 => base
  | k + 1 => (gs.getD k sgZ).t
def tmK (gs : List SgR) : Nat → Int
  | 0 => 0
  | k + 1 => (gs.getD k sgZ).m
def mpK (gs : List SgR) : Nat → Int → Option Chg
  | 0 => noM
  | k + 1 => noteM (mpK gs k) (gs.getD k sgZ).cs
/-- What was old is what was new ahead of it, where that is known. -/
def onC (M : Int → Option Chg) (c : Chg) : Bool := match M c.1 with
  | some a => decide (a.2.1 = c.2.2)
  | none => true
def onB (M : Int → Option Chg) (cs : List Chg) : Bool := cs.all (onC M)
def sgB (g : SgR) : Bool := segB g.f g.t g.m g.cs
def lnk (base : Int) (gs : List SgR) (k : Nat) : Bool := sgB (gs.getD k sgZ) && decide ((gs.getD k sgZ).f = atK base gs k) && decide (tmK gs k ≤ (gs.getD k sgZ).m) && onB (mpK gs k) (gs.getD k sgZ).cs
def chainB (base : Int) (gs : List SgR) : Bool := decide (gs.length ≤ 4096) && inB 0 999999 base && (List.range gs.length).all (lnk base gs)
def LnTo (base : Int) (gs : List SgR) (k : Nat) : Prop := ∀ j, j < k → lnk base gs j = true
theorem LnTo.zero (base : Int) (gs : List SgR) : LnTo base gs 0 := fun j h => absurd h (by omega)
theorem LnTo.succ {base : Int} {gs : List SgR} {k : Nat} (h : LnTo base gs k) (hk : lnk base gs k = true) : LnTo base gs (k + 1) := fun j hj => by
  rcases Nat.lt_or_ge j k with hlt | hge
  · exact h j hlt
  · obtain rfl : j = k := by omega
    exact hk
theorem LnTo.all {base : Int} {gs : List SgR} (h : LnTo base gs gs.length) (hl : gs.length ≤ 4096) (hb : inB 0 999999 base = true) : chainB base gs = true := by
  unfold chainB
  rw [decide_eq_true hl, hb, List.all_eq_true.2 fun j hj => h j (by simpa using hj)]; rfl
theorem chainB_no {base : Int} {gs : List SgR} {k : Nat} (hk : k < gs.length) (h : lnk base gs k = false) : chainB base gs = false := by
  unfold chainB
  rw [List.all_eq_false.2 ⟨k, by simpa using hk, by rw [h]; simp⟩]; simp
theorem chainB_long {base : Int} {gs : List SgR} (h : ¬ gs.length ≤ 4096) : chainB base gs = false := by
  unfold chainB; rw [decide_eq_false h]; rfl
theorem chainB_base {base : Int} {gs : List SgR} (h : inB 0 999999 base = false) : chainB base gs = false := by
  unfold chainB; rw [h]; simp
theorem lnk_parts {base : Int} {gs : List SgR} {k : Nat} {g : SgR} (hg : gs.getD k sgZ = g) : lnk base gs k = (segB g.f g.t g.m g.cs && decide (g.f = atK base gs k) && decide (tmK gs k ≤ g.m) && onB (mpK gs k) g.cs) := by
  unfold lnk sgB; rw [hg]
theorem onB_no {M : Int → Option Chg} {cs : List Chg} {k : Nat} (hk : k < cs.length) (h : onC M (cs.getD k chZ) = false) : onB M cs = false := by
  unfold onB
  rw [List.all_eq_false]
  rw [List.getD_eq_getElem?_getD, List.getElem?_eq_getElem hk] at h
  exact ⟨cs[k], List.getElem_mem _, by simp only [Option.getD_some] at h; rw [h]; simp⟩
def OnTo (M : Int → Option Chg) (cs : List Chg) (k : Nat) : Prop := ∀ j, j < k → onC M (cs.getD j chZ) = true
theorem OnTo.zero (M : Int → Option Chg) (cs : List Chg) : OnTo M cs 0 := fun j h => absurd h (by omega)
theorem OnTo.succ {M : Int → Option Chg} {cs : List Chg} {k : Nat} (h : OnTo M cs k) (hk : onC M (cs.getD k chZ) = true) : OnTo M cs (k + 1) := fun j hj => by
  rcases Nat.lt_or_ge j k with hlt | hge
  · exact h j hlt
  · obtain rfl : j = k := by omega
    exact hk
theorem OnTo.all {M : Int → Option Chg} {cs : List Chg} (h : OnTo M cs cs.length) : onB M cs = true := List.all_eq_true.2 fun x hx => by
  obtain ⟨j, hj, rfl⟩ := List.mem_iff_getElem.1 hx
  have := h j hj
  rwa [List.getD_eq_getElem?_getD, List.getElem?_eq_getElem hj] at this

set_option maxRecDepth 100000 in
set_option maxHeartbeats 2000000 in
theorem goesOnFrom_c (f t m : Int) (A : Option Addr) (c B b : Nat) (cs : List Chg) (M : Int → Option Chg) (w : World) (h : Chs w B A cs) (hm : MapC w b M) (hB : B ≤ w.heap.size) (hok : chsB cs = true) :
    Calls Tryz.prog 229 #[.agg #[.int .i64 f, .int .i64 t, .int .i64 m, .slice A cs.length c], .map (some b)] w fun e w' => e = .returned (.bool (onB M cs)) ∧ Nx w w' := by
  have hl8 := chsB_len hok
  have hto := chsB_to hok
  have hbw := hm.lt
  clear hok
  go_enter Tryz.func229, Tryz.ntmps229
  go_wp2_with fail
  have hr0 : Nx w (w.alloc (.cells #[.int .i64 f, .int .i64 t, .int .i64 m, .slice A cs.length c] 130)) := (Nx.refl w).alloc _
  generalize w.alloc (.cells #[.int .i64 f, .int .i64 t, .int .i64 m, .slice A cs.length c] 130) = W at *
  go_loopw [12] (fun i wr => ∃ k : Nat, k ≤ cs.length ∧ i = .int .i64 k ∧ OnTo M cs k ∧ Nx w wr) (fun i _ => cs.length - (intOf i).toNat)
  case atStart => exact ⟨0, Nat.zero_le _, rfl, OnTo.zero _ _, hr0⟩
  case round =>
    obtain ⟨k, hk, rfl, hon, hnx⟩ := hrel
    clear hr0
    by_cases hlt : k < cs.length
    · obtain ⟨b', off, rfl, hb, k0, k1, k2⟩ := (h.below hnx hB).at_ hlt
      obtain ⟨hr0, hr1⟩ := hto.rise k hlt
      have HN := Lib.hid (fun (hh : onC M (cs.getD k chZ) = false) => onB_no hlt hh)
      have HY := Lib.hid (fun (hh : onC M (cs.getD k chZ) = true) => hon.succ hh)
      obtain ⟨⟨q0, q1, q2⟩, Hq⟩ : ∃ q, Hid (cs.getD k chZ = q) := ⟨_, rfl⟩
      rw [Hq.out] at k0 k1 k2 hr0 hr1 HN HY
      have hwf := wf_small (q := q0) (by simp only at hr0; omega) hr1
      have hma := (hm.nx hnx).alloc (.cells #[.int .i64 q0, .int .i64 q1, .int .i64 q2] 202)
      have hlk := hma.look hwf
      clear hon
      cases hMk : M q0 with
      | none =>
        rw [hMk] at hlk
        have hlk' : (Instr.lookup 231 (.map (some b)) (.int .i64 q0) true).run Tryz.prog (wr.alloc (.cells #[.int .i64 q0, .int .i64 q1, .int .i64 q2] 202)) = .ok (.tuple #[.agg #[.int .i64 0, .int .i64 0, .int .i64 0], .bool false]) (wr.alloc (.cells #[.int .i64 q0, .int .i64 q1, .int .i64 q2] 202)) := hlk
        have HM := Lib.hid (HY.out (by unfold onC; rw [hMk]))
        clear hlk hMk HN HY
        go_wp2
        go_roundw
        case rel => exact ⟨k + 1, by omega, by go_num, HM.out, (hnx.alloc _).alloc _⟩
        case measure => simp [intOf]; omega
      | some p =>
        obtain ⟨p0, p1, p2⟩ := p
        rw [hMk] at hlk
        have hlk' : (Instr.lookup 231 (.map (some b)) (.int .i64 q0) true).run Tryz.prog (wr.alloc (.cells #[.int .i64 q0, .int .i64 q1, .int .i64 q2] 202)) = .ok (.tuple #[.agg #[.int .i64 p0, .int .i64 p1, .int .i64 p2], .bool true]) (wr.alloc (.cells #[.int .i64 q0, .int .i64 q1, .int .i64 q2] 202)) := hlk
        clear hlk
        by_cases hpq : p1 = q2
        · have hd : (p1 != q2) = false := by simp [hpq]
          have HM := Lib.hid (HY.out (by unfold onC; rw [hMk]; simp [hpq]))
          clear hMk HN HY hpq
          go_wp2
          go_roundw
          case rel => exact ⟨k + 1, by omega, by go_num, HM.out, (hnx.alloc _).alloc _⟩
          case measure => simp [intOf]; omega
        · have hd : (p1 != q2) = true := by simp [hpq]
          have HM := Lib.hid (HN.out (by unfold onC; rw [hMk]; simp [hpq]))
          clear hMk HN HY hpq
          go_wp2
          go_ret
          exact ⟨by rw [HM.out]; rfl, (hnx.alloc _).alloc _⟩
    · obtain rfl : k = cs.length := by omega
      have HM := Lib.hid hon.all
      go_wp2
      go_ret
      exact ⟨by rw [HM.out]; rfl, hnx⟩
end Go.Proofs.YtehahodomfbpjaaGreatDoor
/- Contract of ChainOK, as the program has it. Conditions: the segments can be read, and have at most 1048576 changes each. -/
namespace Go.Proofs.YtehahodomfbpjaaGreatDoor
set_option linter.unusedVariables false
set_option maxRecDepth 100000
open Go.RowKit

theorem lnk_bad {base : Int} {gs : List SgR} {k : Nat} {f t m : Int} {A : Option Addr} {c : Nat} {cs : List Chg} (hg : gs.getD k sgZ = ⟨f, t, m, A, c, cs⟩)
    (h : segB f t m cs = false ∨ ¬ f = atK base gs k ∨ ¬ tmK gs k ≤ m ∨ onB (mpK gs k) cs = false) : lnk base gs k = false := by
  rw [lnk_parts hg]
  rcases h with h | h | h | h
  · simp only; rw [h]; rfl
  · simp only; rw [decide_eq_false h]; simp
  · simp only; rw [decide_eq_false h]; simp
  · simp only; rw [h]; simp
theorem lnk_yes {base : Int} {gs : List SgR} {k : Nat} {f t m : Int} {A : Option Addr} {c : Nat} {cs : List Chg} (hg : gs.getD k sgZ = ⟨f, t, m, A, c, cs⟩)
    (h1 : segB f t m cs = true) (h2 : f = atK base gs k) (h3 : tmK gs k ≤ m) (h4 : onB (mpK gs k) cs = true) : lnk base gs k = true := by
  rw [lnk_parts hg]
  simp only
  rw [h1, decide_eq_true h2, decide_eq_true h3, h4]; rfl
set_option maxRecDepth 100000 in
set_option maxHeartbeats 4000000 in
theorem implChainOK_c (base : Int) (A : Option Addr) (c B : Nat) (gs : List SgR) (w : World) (h : Sgs w B A gs) (hB : B ≤ w.heap.size) (hn : gs.length ≤ 1048576) (hm : ∀ k, k < gs.length → (gs.getD k sgZ).cs.length ≤ 1048576) :
    Calls Tryz.prog 170 #[.int .i64 base, .slice A gs.length c] w fun e w' => e = .returned (.bool (chainB base gs)) ∧ Nx w w' := by
  obtain ⟨n, Hn⟩ : ∃ n, Hid (gs.length = n) := ⟨_, rfl⟩
  rw [Hn.out] at hn ⊢
  by_cases hl : n ≤ 4096
  case neg =>
    have HR := Lib.hid (chainB_long (base := base) (gs := gs) (by rw [Hn.out]; exact hl))
    have hd : decide (4096 < (n : Int)) = true := by simp; omega
    go_enter Tryz.func170, Tryz.ntmps170
    go_wp2
    go_ret
    exact ⟨by rw [HR.out]; rfl, Nx.refl _⟩
  have hd : decide (4096 < (n : Int)) = false := by simp; omega
  cases hb : inB 0 999999 base
  · have HR := Lib.hid (chainB_base (base := base) (gs := gs) hb)
    have HB := Lib.hid hb
    clear hb
    go_enter Tryz.func170, Tryz.ntmps170
    go_wp2_with fail
    refine (isPosition_c base _).mono ?_
    rintro e w1 ⟨rfl, rfl⟩
    rw [HB.out]
    go_wp2
    go_ret
    exact ⟨by rw [HR.out]; rfl, Nx.refl _⟩
  have HB := Lib.hid hb
  clear hb
  have hmm := @run_makeMap Tryz.prog
  have hmap := MapC.made w
  have hx0 := (Nx.refl w).alloc (.map #[] 0)
  go_enter Tryz.func170, Tryz.ntmps170
  go_wp2_with fail
  refine (isPosition_c base _).mono ?_
  rintro e w1 ⟨rfl, rfl⟩
  rw [HB.out]
  go_wp2_with fail
  clear hmm
  generalize w.alloc (.map #[] 0) = W at *
  go_loopw [5, 6, 22] (fun a0 t0 i wr => ∃ k : Nat, k ≤ n ∧ i = .int .i64 k ∧ a0 = .int .i64 (atK base gs k) ∧ t0 = .int .i64 (tmK gs k) ∧ MapC wr w.heap.size (mpK gs k) ∧ LnTo base gs k ∧ Nx w wr) (fun _ _ i _ => n - (intOf i).toNat)
  case atStart => exact ⟨0, Nat.zero_le _, rfl, rfl, rfl, hmap, LnTo.zero _ _, hx0⟩
  case round =>
    obtain ⟨k, hk, rfl, rfl, rfl, hmk, hln, hnx⟩ := hrel
    clear hmap hx0
    by_cases hlt : k < n
    · have hlk : k < gs.length := by rw [Hn.out]; exact hlt
      obtain ⟨b, off, rfl, hb, p0, p1, p2, p3⟩ := (h.below hnx hB).row.at4 hlk
      have hch := (h.below hnx hB).chs k hlk
      have hmk' := hm k hlk
      have HNo := Lib.hid (fun (hh : lnk base gs k = false) => chainB_no hlk hh)
      have HYes := Lib.hid (fun (hh : lnk base gs k = true) => hln.succ hh)
      have HA := Lib.hid (show atK base gs (k + 1) = (gs.getD k sgZ).t from rfl)
      have HT := Lib.hid (show tmK gs (k + 1) = (gs.getD k sgZ).m from rfl)
      have HM := Lib.hid (show mpK gs (k + 1) = noteM (mpK gs k) (gs.getD k sgZ).cs from rfl)
      clear hln
      obtain ⟨⟨f, t, m, A2, cc, cs⟩, Hs⟩ : ∃ s, Hid (gs.getD k sgZ = s) := ⟨_, rfl⟩
      rw [Hs.out] at p0 p1 p2 p3 hch hmk' HA HT HM
      simp only at p0 p1 p2 p3 hch hmk'
      have bG := Box.new wr 130 #[.int .i64 f, .int .i64 t, .int .i64 m, .slice A2 cs.length cc]
      have hxa := (Nx.refl wr).alloc (.cells #[.int .i64 f, .int .i64 t, .int .i64 m, .slice A2 cs.length cc] 130)
      have hmka := hmk.nx hxa
      have hltm := hmk.lt
      obtain ⟨a0, Ha⟩ : ∃ q, Hid (atK base gs k = q) := ⟨_, rfl⟩
      obtain ⟨t0, Ht⟩ : ∃ q, Hid (tmK gs k = q) := ⟨_, rfl⟩
      obtain ⟨M, HMk⟩ : ∃ q, Hid (mpK gs k = q) := ⟨_, rfl⟩
      rw [Ha.out, Ht.out]
      rw [HMk.out] at hmka HM
      have HBad := Lib.hid (fun hh => HNo.out (lnk_bad (base := base) Hs.out hh))
      have HGood := Lib.hid (fun h1 h2 h3 h4 => HYes.out (lnk_yes (base := base) Hs.out h1 h2 h3 h4))
      rw [Ha.out, Ht.out, HMk.out] at HBad HGood
      clear HNo HYes hm
      go_wp2_with fail
      generalize hWa : wr.alloc (.cells #[.int .i64 f, .int .i64 t, .int .i64 m, .slice A2 cs.length cc] 130) = wa at *
      clear hWa p0 p1 p2 p3
      have hnxa := hnx.trans hxa
      have hszB := Nat.le_trans hB hnxa.size
      refine (segRight_c f t m A2 cc B cs _ (hch.below hxa (Nat.le_trans hB hnx.size)) hszB hmk').mono ?_
      rintro e w1 ⟨rfl, hx1⟩
      replace bG := bG.nx hx1
      replace hmka := hmka.nx hx1
      have hch1 := (hch.below hxa (Nat.le_trans hB hnx.size)).below hx1 hszB
      have hX1 := hnxa.trans hx1
      have hszB1 := Nat.le_trans hB hX1.size
      clear hxa hx1 hch hmk
      cases hsb : segB f t m cs
      · have HR := Lib.hid (HBad.out (.inl hsb))
        clear hsb HBad HGood
        go_wp2
        go_ret
        exact ⟨by rw [HR.out]; rfl, hX1⟩
      have hok : chsB cs = true := segB_chs hsb
      have HSB := Lib.hid hsb
      obtain ⟨c0, c1, c2, c3⟩ := bG.d4
      clear hsb
      by_cases hfa : f = a0
      case neg =>
        have HR := Lib.hid (HBad.out (.inr (.inl hfa)))
        have hd1 : (f != a0) = true := by simp [hfa]
        clear HBad HGood hfa
        go_wp2
        go_ret
        exact ⟨by rw [HR.out]; rfl, hX1⟩
      have hd1 : (f != a0) = false := by simp [hfa]
      have HFA := Lib.hid hfa
      clear hfa
      by_cases htm : t0 ≤ m
      case neg =>
        have HR := Lib.hid (HBad.out (.inr (.inr (.inl (by omega)))))
        have hd2 : decide (m < t0) = true := by simp; omega
        clear HBad HGood htm
        go_wp2
        go_ret
        exact ⟨by rw [HR.out]; rfl, hX1⟩
      have hd2 : decide (m < t0) = false := by simp; omega
      have HTM := Lib.hid htm
      clear htm
      go_wp2_with fail
      refine (goesOnFrom_c f t m A2 cc B w.heap.size cs M _ hch1 hmka hszB1 hok).mono ?_
      rintro e w2 ⟨rfl, hx2⟩
      clear c0 c1 c2 c3
      replace bG := bG.nx hx2
      replace hmka := hmka.nx hx2
      have hch2 := hch1.below hx2 hszB1
      have hX2 := hX1.trans hx2
      clear hx2 hch1
      cases hon : onB M cs
      · have HR := Lib.hid (HBad.out (.inr (.inr (.inr hon))))
        clear hon HBad HGood
        go_wp2
        go_ret
        exact ⟨by rw [HR.out]; rfl, hX2⟩
      have HLn := Lib.hid (HGood.out HSB.out HFA.out HTM.out hon)
      clear hon HBad HGood
      obtain ⟨c0, c1, c2, c3⟩ := bG.d4
      go_wp2_with fail
      refine (noteIn_c f t m A2 cc B w.heap.size cs M _ hch2 hmka hB hok).mono ?_
      rintro e w3 ⟨rfl, hm3, hr3⟩
      have bG3 := bG.rg hr3 (by omega)
      have hX3 := Rg.nx_of hX2 hr3 (Nat.le_refl _)
      clear c0 c1 c2 c3
      obtain ⟨c0, c1, c2, c3⟩ := bG3.d4
      go_wp2_with fail
      -- region
      refine wp_region_lex [false, false, false, false, false, false] (fun w' => w'.cell? ⟨wr.heap.size, 1, none⟩ = some (.int .i64 t) ∧ w'.cell? ⟨wr.heap.size, 2, none⟩ = some (.int .i64 m)) (by kernel_rfl) (by kernel_rfl) rfl (by kernel_rfl) (fun _ _ d _ _ h => by cases d <;> exact h) (by exact ⟨c1, c2⟩) ?_
      repeat (first | (refine HL.take (v := ?_) (by rfl) ?_ ?_; rotate_left; (· (intro w hSw; (try dsimp only at hSw); go_simp; try with_reducible rfl)); (try simp only [Act.put, List.setIfInBounds_toArray, List.set_cons_zero, List.set_cons_succ])) | (refine HL.skip (by rfl) ?_; (try simp only [Act.put, List.setIfInBounds_toArray, List.set_cons_zero, List.set_cons_succ])))
      refine HL.done ?_
      -- end
      go_wp2
      go_roundw
      case rel => exact ⟨k + 1, by omega, by go_num, by rw [HA.out], by rw [HT.out], by rw [HM.out]; exact hm3, HLn.out, hX3.drew⟩
      case measure => simp [intOf]; omega
    · obtain rfl : k = n := by omega
      have HR := Lib.hid (LnTo.all (base := base) (gs := gs) (by rw [Hn.out]; exact hln) (by rw [Hn.out]; exact hl) HB.out)
      go_wp2
      go_ret
      exact ⟨by rw [HR.out]; rfl, hnx⟩
end Go.Proofs.YtehahodomfbpjaaGreatDoor
/- Contract of ChainOK, as the model has it. Conditions: the segments can be read, and have at most 1048576 changes each. -/
namespace Go.Proofs.YtehahodomfbpjaaGreatDoor
set_option linter.unusedVariables false
set_option maxRecDepth 100000
open Go.RowKit

def NonN (M : Int → Option Chg) : Prop := ∀ j c, M j = some c → 0 ≤ c.2.1
theorem OkTo.lt {cs : List Chg} {n : Nat} (h : OkTo cs n) : ∀ j, j < n → ∀ i, i < j → (cs.getD i chZ).1 < (cs.getD j chZ).1 := by
  intro j
  induction j with
  | zero => intro _ i hi; omega
  | succ j ih =>
    intro hj i hi
    have h0 := h (j + 1) hj
    unfold okCh at h0
    simp only [Bool.and_eq_true, Bool.or_eq_true, decide_eq_true_eq, Nat.add_sub_cancel] at h0
    have hlt : (cs.getD j chZ).1 < (cs.getD (j + 1) chZ).1 := by
      rcases h0.2 with h2 | h2
      · simp at h2
      · exact h2
    by_cases e : i = j
    · rw [e]; exact hlt
    · have := ih (by omega) i (by omega)
      omega
theorem NonN.note {M : Int → Option Chg} (h : NonN M) {cs : List Chg} (hok : OkTo cs cs.length) : ∀ k, k ≤ cs.length → NonN (noteM M (cs.take k)) := by
  intro k
  induction k with
  | zero => intro _; exact h
  | succ k ih =>
    intro hk j c hj
    rw [noteM_succ M cs (by omega)] at hj
    simp only at hj
    by_cases e : j = (cs.getD k chZ).1
    · rw [if_pos e] at hj
      obtain rfl := Option.some.inj hj
      have := hok k (by omega)
      unfold okCh chB at this
      simp only [Bool.and_eq_true] at this
      exact (inB_yes this.1.1.2).1
    · rw [if_neg e] at hj
      exact ih (by omega) j c hj
theorem LnTo.chain {base : Int} {gs : List SgR} (h : LnTo base gs gs.length) (hl : gs.length ≤ 4096) : chainB base gs = inB 0 999999 base := by
  unfold chainB
  rw [decide_eq_true hl, List.all_eq_true.2 fun j hj => h j (by simpa using hj)]; simp
end Go.Proofs.YtehahodomfbpjaaGreatDoor
