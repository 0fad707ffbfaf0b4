/-
  Texts of the proof, put together in their order: Nwb.
  Conditions: those of each.
-/
import Derived.Test.YtehahodomfbpjaaGreatDoorMm10
/- Contract of the program's bothSupers. Conditions: those of superIn, of both slots. -/
namespace Go.Proofs.YtehahodomfbpjaaGreatDoor
set_option linter.unusedVariables false
set_option maxRecDepth 100000
open Go.RowKit

/-- A super as a value. -/
def vU (u : U6) (A : Option Addr) (c : Nat) (A2 : Option Addr) (c2 : Nat) : Value := .agg #[.int .i64 u.1, .int .i64 u.2.1, .int .i64 u.2.2.1, .int .i64 u.2.2.2.1, .slice A u.2.2.2.2.1.length c, .slice A2 u.2.2.2.2.2.length c2]
def FitU (w : World) (lo : Nat) (u : U6) (A : Option Addr) (c : Nat) (A2 : Option Addr) : Prop := u.2.2.2.2.1.length ≤ c ∧ SlI w lo A u.2.2.2.2.1 ∧ SlM w lo A2 u.2.2.2.2.2
def slE (a k : Int) : Value := .iface 217 (.agg #[.int .i64 a, .int .i64 k])
def RetB2 (w : World) (o0 o1 : Option U6) (e : Ending) (w' : World) : Prop :=
  Nx w w' ∧ (o0 = none → e = .returned (.tuple #[.agg #[.int .i64 0, .int .i64 0, .int .i64 0, .int .i64 0, .slice none 0 0, .slice none 0 0], .agg #[.int .i64 0, .int .i64 0, .int .i64 0, .int .i64 0, .slice none 0 0, .slice none 0 0], slE 0 19])) ∧ (∀ q, o0 = some q → o1 = none → e = .returned (.tuple #[.agg #[.int .i64 0, .int .i64 0, .int .i64 0, .int .i64 0, .slice none 0 0, .slice none 0 0], .agg #[.int .i64 0, .int .i64 0, .int .i64 0, .int .i64 0, .slice none 0 0, .slice none 0 0], slE 1 19])) ∧
  ∀ q r, o0 = some q → o1 = some r → ∃ A c A2 c2 A3 c3 A4 c4, e = .returned (.tuple #[vU q A c A2 c2, vU r A3 c3 A4 c4, .nilIface]) ∧ FitU w' w.heap.size q A c A2 ∧ FitU w' w.heap.size r A3 c3 A4
set_option maxHeartbeats 1600000 in
theorem bothSupers_c (A A2 : Option Addr) (n c n2 c2 B : Nat) (ss : List ByteArray) (ws : List (Int × ByteArray)) (w : World) (a0 a1 : Addr) (h : Strs w B A n ss) (h2 : Wrs w B A2 n2 ws) (hB : B ≤ w.heap.size) (ha : 1 < n) (hn : n ≤ 1048576) (hn2 : n2 ≤ 1048576) (hr0 : (readP ss ws 0).size ≤ 65536) (hr1 : (readP ss ws 1).size ≤ 65536) (hE : Er w a0 a1) (hM : Mx w) :
    Calls Tryz.prog 201 #[.agg #[.slice A n c, .slice A2 n2 c2]] w (RetB2 w (rdU (readP ss ws 0)) (rdU (readP ss ws 1))) := by
  have b0 : Box (((w.alloc (.cells #[.slice A n c, .slice A2 n2 c2] 38)).alloc (.cells #[.int .i64 0, .int .i64 0, .int .i64 0, .int .i64 0, .slice none 0 0, .slice none 0 0] 30)).alloc (.cells #[.int .i64 0, .int .i64 0, .int .i64 0, .int .i64 0, .slice none 0 0, .slice none 0 0] 30)) (w.heap.size + 1) 30 #[.int .i64 0, .int .i64 0, .int .i64 0, .int .i64 0, .slice none 0 0, .slice none 0 0] := by have := Box.new (w.alloc (.cells #[.slice A n c, .slice A2 n2 c2] 38)) 30 #[.int .i64 0, .int .i64 0, .int .i64 0, .int .i64 0, .slice none 0 0, .slice none 0 0]; rw [World.size_alloc] at this; exact this.alloc _
  have d0 : Box (((w.alloc (.cells #[.slice A n c, .slice A2 n2 c2] 38)).alloc (.cells #[.int .i64 0, .int .i64 0, .int .i64 0, .int .i64 0, .slice none 0 0, .slice none 0 0] 30)).alloc (.cells #[.int .i64 0, .int .i64 0, .int .i64 0, .int .i64 0, .slice none 0 0, .slice none 0 0] 30)) (w.heap.size + 1 + 1) 30 #[.int .i64 0, .int .i64 0, .int .i64 0, .int .i64 0, .slice none 0 0, .slice none 0 0] := by have := Box.new ((w.alloc (.cells #[.slice A n c, .slice A2 n2 c2] 38)).alloc (.cells #[.int .i64 0, .int .i64 0, .int .i64 0, .int .i64 0, .slice none 0 0, .slice none 0 0] 30)) 30 #[.int .i64 0, .int .i64 0, .int .i64 0, .int .i64 0, .slice none 0 0, .slice none 0 0]; rwa [World.size_alloc, World.size_alloc] at this
  have e0 : Box (((w.alloc (.cells #[.slice A n c, .slice A2 n2 c2] 38)).alloc (.cells #[.int .i64 0, .int .i64 0, .int .i64 0, .int .i64 0, .slice none 0 0, .slice none 0 0] 30)).alloc (.cells #[.int .i64 0, .int .i64 0, .int .i64 0, .int .i64 0, .slice none 0 0, .slice none 0 0] 30)) w.heap.size 38 #[.slice A n c, .slice A2 n2 c2] := ((Box.new w _ _).alloc _).alloc _
  have hx0 := (((Nx.refl w).alloc (.cells #[.slice A n c, .slice A2 n2 c2] 38)).alloc (.cells #[.int .i64 0, .int .i64 0, .int .i64 0, .int .i64 0, .slice none 0 0, .slice none 0 0] 30)).alloc (.cells #[.int .i64 0, .int .i64 0, .int .i64 0, .int .i64 0, .slice none 0 0, .slice none 0 0] 30)
  go_enter Tryz.func201, Tryz.ntmps201
  go_wp2_with fail
  generalize ((w.alloc (.cells #[.slice A n c, .slice A2 n2 c2] 38)).alloc (.cells #[.int .i64 0, .int .i64 0, .int .i64 0, .int .i64 0, .slice none 0 0, .slice none 0 0] 30)).alloc (.cells #[.int .i64 0, .int .i64 0, .int .i64 0, .int .i64 0, .slice none 0 0, .slice none 0 0] 30) = W at *
  obtain ⟨gR, Hg⟩ : ∃ g, Hid (w.heap.size + 1 = g) := ⟨_, rfl⟩
  obtain ⟨gS, HgS⟩ : ∃ g, Hid (w.heap.size + 1 + 1 = g) := ⟨_, rfl⟩
  have hgR : w.heap.size ≤ gR := by have := Hg.out; omega
  have hgS : w.heap.size ≤ gS := by have := HgS.out; omega
  have hne : gR ≠ gS := by have := Hg.out; have := HgS.out; omega
  have hneD : w.heap.size ≠ gR := by have := Hg.out; omega
  rw [HgS.out, Hg.out]
  rw [HgS.out] at d0
  rw [Hg.out] at b0
  have hltR := b0.lt
  have hltS := d0.lt
  refine (superIn_c A A2 n c n2 c2 B 0 ss ws _ a0 a1 (h.below hx0 hB) (h2.below hx0 hB) (Nat.le_trans hB hx0.size) (by omega) hn hn2 hr0 (hE.nx hx0) (hM.nx hx0)).mono ?_
  rintro e w1 ⟨hnx1, h1, h2'⟩
  have b1 := b0.nx hnx1
  have d1 := d0.nx hnx1
  have e1 := e0.nx hnx1
  have hx1 := hx0.trans hnx1
  have hsz1 := hnx1.size
  have hlt := b1.lt
  have hlt2 := d1.lt
  clear b0 d0 e0 hx0 hnx1
  cases hu : rdU (readP ss ws 0) with
  | none =>
    obtain rfl := h1 hu
    have HU0 := Lib.hid hu
    clear h1 h2' hu
    obtain ⟨u0, u1, u2, u3, u4, u5⟩ := b1.d6
    have f0 := b1.frozen 0
    have f1 := b1.frozen 1
    have f2 := b1.frozen 2
    have f3 := b1.frozen 3
    have f4 := b1.frozen 4
    have f5 := b1.frozen 5
    obtain ⟨y0, y1, y2, y3, y4, y5⟩ := d1.d6
    have l0 := d1.frozen 0
    have l1 := d1.frozen 1
    have l2 := d1.frozen 2
    have l3 := d1.frozen 3
    have l4 := d1.frozen 4
    have l5 := d1.frozen 5
    go_wp2
    have qx := ((put6_box (put6_box b1 (.int .i64 0) (.int .i64 0) (.int .i64 0) (.int .i64 0) (.slice none 0 0) (.slice none 0 0)) (.int .i64 0) (.int .i64 0) (.int .i64 0) (.int .i64 0) (.slice none 0 0) (.slice none 0 0)).far6 hne (.int .i64 0) (.int .i64 0) (.int .i64 0) (.int .i64 0) (.slice none 0 0) (.slice none 0 0))
    have qy := (put6_box ((d1.far6 hne.symm (.int .i64 0) (.int .i64 0) (.int .i64 0) (.int .i64 0) (.slice none 0 0) (.slice none 0 0)).far6 hne.symm (.int .i64 0) (.int .i64 0) (.int .i64 0) (.int .i64 0) (.slice none 0 0) (.slice none 0 0)) (.int .i64 0) (.int .i64 0) (.int .i64 0) (.int .i64 0) (.slice none 0 0) (.slice none 0 0))
    have hnf := (put6_nx (put6_nx (put6_nx hx1 hgR (.int .i64 0) (.int .i64 0) (.int .i64 0) (.int .i64 0) (.slice none 0 0) (.slice none 0 0)) hgR (.int .i64 0) (.int .i64 0) (.int .i64 0) (.int .i64 0) (.slice none 0 0) (.slice none 0 0)) hgS (.int .i64 0) (.int .i64 0) (.int .i64 0) (.int .i64 0) (.slice none 0 0) (.slice none 0 0))
    change bodyPost _ _ _ _ _ (put6 (put6 (put6 w1 gR (.int .i64 0) (.int .i64 0) (.int .i64 0) (.int .i64 0) (.slice none 0 0) (.slice none 0 0)) gR (.int .i64 0) (.int .i64 0) (.int .i64 0) (.int .i64 0) (.slice none 0 0) (.slice none 0 0)) gS (.int .i64 0) (.int .i64 0) (.int .i64 0) (.int .i64 0) (.slice none 0 0) (.slice none 0 0))
    change Box (put6 (put6 (put6 w1 gR (.int .i64 0) (.int .i64 0) (.int .i64 0) (.int .i64 0) (.slice none 0 0) (.slice none 0 0)) gR (.int .i64 0) (.int .i64 0) (.int .i64 0) (.int .i64 0) (.slice none 0 0) (.slice none 0 0)) gS (.int .i64 0) (.int .i64 0) (.int .i64 0) (.int .i64 0) (.slice none 0 0) (.slice none 0 0)) _ _ _ at qx
    change Box (put6 (put6 (put6 w1 gR (.int .i64 0) (.int .i64 0) (.int .i64 0) (.int .i64 0) (.slice none 0 0) (.slice none 0 0)) gR (.int .i64 0) (.int .i64 0) (.int .i64 0) (.int .i64 0) (.slice none 0 0) (.slice none 0 0)) gS (.int .i64 0) (.int .i64 0) (.int .i64 0) (.int .i64 0) (.slice none 0 0) (.slice none 0 0)) _ _ _ at qy
    generalize (put6 (put6 (put6 w1 gR (.int .i64 0) (.int .i64 0) (.int .i64 0) (.int .i64 0) (.slice none 0 0) (.slice none 0 0)) gR (.int .i64 0) (.int .i64 0) (.int .i64 0) (.int .i64 0) (.slice none 0 0) (.slice none 0 0)) gS (.int .i64 0) (.int .i64 0) (.int .i64 0) (.int .i64 0) (.slice none 0 0) (.slice none 0 0)) = Wf at *
    obtain ⟨k0, k1, k2, k3, k4, k5⟩ := qx.d6
    obtain ⟨j0, j1, j2, j3, j4, j5⟩ := qy.d6
    exact bodyPost_ret (v := .tuple #[.agg #[.int .i64 0, .int .i64 0, .int .i64 0, .int .i64 0, .slice none 0 0, .slice none 0 0], .agg #[.int .i64 0, .int .i64 0, .int .i64 0, .int .i64 0, .slice none 0 0, .slice none 0 0], .iface 217 (.agg #[.int .i64 0, .int .i64 19])]) (by simp [results, Tryz.results201, go_sem, k0, k1, k2, k3, k4, k5, j0, j1, j2, j3, j4, j5]) rfl ⟨hnf, (fun _ => rfl), (fun q h => by rw [HU0.out] at h; cases h), fun q r h => by rw [HU0.out] at h; cases h⟩
  | some u =>
    obtain ⟨g0, b0, p0, q0, xs0, ms0⟩ := u
    obtain ⟨Ax0, cx0, Am0, cm0, he, hcc, hS1, hM1⟩ := h2' _ hu
    replace he : e = .returned (.tuple #[.agg #[.int .i64 g0, .int .i64 b0, .int .i64 p0, .int .i64 q0, .slice Ax0 xs0.length cx0, .slice Am0 ms0.length cm0], .nilIface]) := he
    replace hS1 : SlI w1 W.heap.size Ax0 xs0 := hS1
    replace hM1 : SlM w1 W.heap.size Am0 ms0 := hM1
    replace hcc : xs0.length ≤ cx0 := hcc
    have HCC0 := Lib.hid hcc
    have HU0 := Lib.hid hu
    subst he
    clear h1 h2' hu hcc
    obtain ⟨z0, z1⟩ : w1.cell? ⟨w.heap.size, 0, none⟩ = some (.slice A n c) ∧ w1.cell? ⟨w.heap.size, 1, none⟩ = some (.slice A2 n2 c2) := ⟨e1.c0, e1.c1⟩
    obtain ⟨u0, u1, u2, u3, u4, u5⟩ := b1.d6
    have f0 := b1.frozen 0
    have f1 := b1.frozen 1
    have f2 := b1.frozen 2
    have f3 := b1.frozen 3
    have f4 := b1.frozen 4
    have f5 := b1.frozen 5
    go_wp2_with fail
    have b2 := put6_box b1 (.int .i64 g0) (.int .i64 b0) (.int .i64 p0) (.int .i64 q0) (.slice Ax0 xs0.length cx0) (.slice Am0 ms0.length cm0)
    have d2 := d1.far6 hne.symm (.int .i64 g0) (.int .i64 b0) (.int .i64 p0) (.int .i64 q0) (.slice Ax0 xs0.length cx0) (.slice Am0 ms0.length cm0)
    have e2 := e1.far6 hneD (.int .i64 g0) (.int .i64 b0) (.int .i64 p0) (.int .i64 q0) (.slice Ax0 xs0.length cx0) (.slice Am0 ms0.length cm0)
    have hx2 := put6_nx hx1 hgR (.int .i64 g0) (.int .i64 b0) (.int .i64 p0) (.int .i64 q0) (.slice Ax0 xs0.length cx0) (.slice Am0 ms0.length cm0)
    have hS2 := hS1.pt6 hltR (.int .i64 g0) (.int .i64 b0) (.int .i64 p0) (.int .i64 q0) (.slice Ax0 xs0.length cx0) (.slice Am0 ms0.length cm0)
    have hM2 := hM1.pt6 hltR (.int .i64 g0) (.int .i64 b0) (.int .i64 p0) (.int .i64 q0) (.slice Ax0 xs0.length cx0) (.slice Am0 ms0.length cm0)
    have hsz2 : W.heap.size ≤ (put6 w1 gR (.int .i64 g0) (.int .i64 b0) (.int .i64 p0) (.int .i64 q0) (.slice Ax0 xs0.length cx0) (.slice Am0 ms0.length cm0)).heap.size := by simp [put6, World.setCell]; exact hsz1
    clear b1 d1 e1 hx1 hS1 hM1 z0 z1
    clear u0 u1 u2 u3 u4 u5 f0 f1 f2 f3 f4 f5
    change Calls _ _ _ (put6 w1 gR (.int .i64 g0) (.int .i64 b0) (.int .i64 p0) (.int .i64 q0) (.slice Ax0 xs0.length cx0) (.slice Am0 ms0.length cm0)) _
    generalize put6 w1 gR (.int .i64 g0) (.int .i64 b0) (.int .i64 p0) (.int .i64 q0) (.slice Ax0 xs0.length cx0) (.slice Am0 ms0.length cm0) = w2 at *
    refine (superIn_c A A2 n c n2 c2 B 1 ss ws _ a0 a1 (h.below hx2 hB) (h2.below hx2 hB) (Nat.le_trans hB hx2.size) (by omega) hn hn2 hr1 (hE.nx hx2) (hM.nx hx2)).mono ?_
    rintro e w3 ⟨hnx3, h1, h2'⟩
    have b3 := b2.nx hnx3
    have d3 := d2.nx hnx3
    have hx3 := hx2.trans hnx3
    have hS3 := hS2.nx hnx3
    have hM3 := hM2.nx hnx3
    have hltR2 := b2.lt
    have hltS2 := d2.lt
    clear b2 d2 e2 hx2 hS2 hM2
    cases hv : rdU (readP ss ws 1) with
    | none =>
      obtain rfl := h1 hv
      have HU1 := Lib.hid hv
      clear h1 h2' hv
      obtain ⟨u0, u1, u2, u3, u4, u5⟩ := b3.d6
      have f0 := b3.frozen 0
      have f1 := b3.frozen 1
      have f2 := b3.frozen 2
      have f3 := b3.frozen 3
      have f4 := b3.frozen 4
      have f5 := b3.frozen 5
      obtain ⟨y0, y1, y2, y3, y4, y5⟩ := d3.d6
      have l0 := d3.frozen 0
      have l1 := d3.frozen 1
      have l2 := d3.frozen 2
      have l3 := d3.frozen 3
      have l4 := d3.frozen 4
      have l5 := d3.frozen 5
      go_wp2
      have qx := ((put6_box (b3.far6 hne (.int .i64 0) (.int .i64 0) (.int .i64 0) (.int .i64 0) (.slice none 0 0) (.slice none 0 0)) (.int .i64 0) (.int .i64 0) (.int .i64 0) (.int .i64 0) (.slice none 0 0) (.slice none 0 0)).far6 hne (.int .i64 0) (.int .i64 0) (.int .i64 0) (.int .i64 0) (.slice none 0 0) (.slice none 0 0))
      have qy := (put6_box ((put6_box d3 (.int .i64 0) (.int .i64 0) (.int .i64 0) (.int .i64 0) (.slice none 0 0) (.slice none 0 0)).far6 hne.symm (.int .i64 0) (.int .i64 0) (.int .i64 0) (.int .i64 0) (.slice none 0 0) (.slice none 0 0)) (.int .i64 0) (.int .i64 0) (.int .i64 0) (.int .i64 0) (.slice none 0 0) (.slice none 0 0))
      have hnf := (put6_nx (put6_nx (put6_nx hx3 hgS (.int .i64 0) (.int .i64 0) (.int .i64 0) (.int .i64 0) (.slice none 0 0) (.slice none 0 0)) hgR (.int .i64 0) (.int .i64 0) (.int .i64 0) (.int .i64 0) (.slice none 0 0) (.slice none 0 0)) hgS (.int .i64 0) (.int .i64 0) (.int .i64 0) (.int .i64 0) (.slice none 0 0) (.slice none 0 0))
      change bodyPost _ _ _ _ _ (put6 (put6 (put6 w3 gS (.int .i64 0) (.int .i64 0) (.int .i64 0) (.int .i64 0) (.slice none 0 0) (.slice none 0 0)) gR (.int .i64 0) (.int .i64 0) (.int .i64 0) (.int .i64 0) (.slice none 0 0) (.slice none 0 0)) gS (.int .i64 0) (.int .i64 0) (.int .i64 0) (.int .i64 0) (.slice none 0 0) (.slice none 0 0))
      change Box (put6 (put6 (put6 w3 gS (.int .i64 0) (.int .i64 0) (.int .i64 0) (.int .i64 0) (.slice none 0 0) (.slice none 0 0)) gR (.int .i64 0) (.int .i64 0) (.int .i64 0) (.int .i64 0) (.slice none 0 0) (.slice none 0 0)) gS (.int .i64 0) (.int .i64 0) (.int .i64 0) (.int .i64 0) (.slice none 0 0) (.slice none 0 0)) _ _ _ at qx
      change Box (put6 (put6 (put6 w3 gS (.int .i64 0) (.int .i64 0) (.int .i64 0) (.int .i64 0) (.slice none 0 0) (.slice none 0 0)) gR (.int .i64 0) (.int .i64 0) (.int .i64 0) (.int .i64 0) (.slice none 0 0) (.slice none 0 0)) gS (.int .i64 0) (.int .i64 0) (.int .i64 0) (.int .i64 0) (.slice none 0 0) (.slice none 0 0)) _ _ _ at qy
      generalize (put6 (put6 (put6 w3 gS (.int .i64 0) (.int .i64 0) (.int .i64 0) (.int .i64 0) (.slice none 0 0) (.slice none 0 0)) gR (.int .i64 0) (.int .i64 0) (.int .i64 0) (.int .i64 0) (.slice none 0 0) (.slice none 0 0)) gS (.int .i64 0) (.int .i64 0) (.int .i64 0) (.int .i64 0) (.slice none 0 0) (.slice none 0 0)) = Wf at *
      obtain ⟨k0, k1, k2, k3, k4, k5⟩ := qx.d6
      obtain ⟨j0, j1, j2, j3, j4, j5⟩ := qy.d6
      exact bodyPost_ret (v := .tuple #[.agg #[.int .i64 0, .int .i64 0, .int .i64 0, .int .i64 0, .slice none 0 0, .slice none 0 0], .agg #[.int .i64 0, .int .i64 0, .int .i64 0, .int .i64 0, .slice none 0 0, .slice none 0 0], .iface 217 (.agg #[.int .i64 1, .int .i64 19])]) (by simp [results, Tryz.results201, go_sem, k0, k1, k2, k3, k4, k5, j0, j1, j2, j3, j4, j5]) rfl ⟨hnf, (fun h => by rw [HU0.out] at h; cases h), (fun q _ _ => rfl), fun q r _ h => by rw [HU1.out] at h; cases h⟩
    | some u =>
      obtain ⟨g1, b1, p1, q1, xs1, ms1⟩ := u
      obtain ⟨Ax1, cx1, Am1, cm1, he, hcc, hS1, hM1⟩ := h2' _ hv
      replace he : e = .returned (.tuple #[.agg #[.int .i64 g1, .int .i64 b1, .int .i64 p1, .int .i64 q1, .slice Ax1 xs1.length cx1, .slice Am1 ms1.length cm1], .nilIface]) := he
      replace hS1 : SlI w3 w2.heap.size Ax1 xs1 := hS1
      replace hM1 : SlM w3 w2.heap.size Am1 ms1 := hM1
      replace hcc : xs1.length ≤ cx1 := hcc
      have HCC1 := Lib.hid hcc
      have HU1 := Lib.hid hv
      subst he
      clear h1 h2' hv hcc
      obtain ⟨y0, y1, y2, y3, y4, y5⟩ := d3.d6
      have l0 := d3.frozen 0
      have l1 := d3.frozen 1
      have l2 := d3.frozen 2
      have l3 := d3.frozen 3
      have l4 := d3.frozen 4
      have l5 := d3.frozen 5
      go_wp2_with fail
      have b4 := b3.far6 hne (.int .i64 g1) (.int .i64 b1) (.int .i64 p1) (.int .i64 q1) (.slice Ax1 xs1.length cx1) (.slice Am1 ms1.length cm1)
      have d4 := put6_box d3 (.int .i64 g1) (.int .i64 b1) (.int .i64 p1) (.int .i64 q1) (.slice Ax1 xs1.length cx1) (.slice Am1 ms1.length cm1)
      have hx4 := put6_nx hx3 hgS (.int .i64 g1) (.int .i64 b1) (.int .i64 p1) (.int .i64 q1) (.slice Ax1 xs1.length cx1) (.slice Am1 ms1.length cm1)
      have hS4 := hS3.pt6 hltS (.int .i64 g1) (.int .i64 b1) (.int .i64 p1) (.int .i64 q1) (.slice Ax1 xs1.length cx1) (.slice Am1 ms1.length cm1)
      have hM4 := hM3.pt6 hltS (.int .i64 g1) (.int .i64 b1) (.int .i64 p1) (.int .i64 q1) (.slice Ax1 xs1.length cx1) (.slice Am1 ms1.length cm1)
      have hT4 := hS1.pt6 hltS2 (.int .i64 g1) (.int .i64 b1) (.int .i64 p1) (.int .i64 q1) (.slice Ax1 xs1.length cx1) (.slice Am1 ms1.length cm1)
      have hN4 := hM1.pt6 hltS2 (.int .i64 g1) (.int .i64 b1) (.int .i64 p1) (.int .i64 q1) (.slice Ax1 xs1.length cx1) (.slice Am1 ms1.length cm1)
      clear b3 d3 hx3 hS3 hM3 hS1 hM1
      clear y0 y1 y2 y3 y4 y5 l0 l1 l2 l3 l4 l5
      change Code.wp _ _ _ _ (put6 w3 gS (.int .i64 g1) (.int .i64 b1) (.int .i64 p1) (.int .i64 q1) (.slice Ax1 xs1.length cx1) (.slice Am1 ms1.length cm1))
      generalize put6 w3 gS (.int .i64 g1) (.int .i64 b1) (.int .i64 p1) (.int .i64 q1) (.slice Ax1 xs1.length cx1) (.slice Am1 ms1.length cm1) = w4 at *
      obtain ⟨u0, u1, u2, u3, u4, u5⟩ := b4.d6
      have f0 := b4.frozen 0
      have f1 := b4.frozen 1
      have f2 := b4.frozen 2
      have f3 := b4.frozen 3
      have f4 := b4.frozen 4
      have f5 := b4.frozen 5
      obtain ⟨y0, y1, y2, y3, y4, y5⟩ := d4.d6
      have l0 := d4.frozen 0
      have l1 := d4.frozen 1
      have l2 := d4.frozen 2
      have l3 := d4.frozen 3
      have l4 := d4.frozen 4
      have l5 := d4.frozen 5
      have hlt4 := b4.lt
      have hlt5 := d4.lt
      refine wp_region_lex [false, false, true, true, false] (fun w' => (w'.cell? ⟨gR, 0, none⟩ = some (.int .i64 g0) ∧ w'.cell? ⟨gR, 1, none⟩ = some (.int .i64 b0) ∧ w'.cell? ⟨gR, 2, none⟩ = some (.int .i64 p0) ∧ w'.cell? ⟨gR, 3, none⟩ = some (.int .i64 q0) ∧ w'.cell? ⟨gR, 4, none⟩ = some (.slice Ax0 xs0.length cx0) ∧ w'.cell? ⟨gR, 5, none⟩ = some (.slice Am0 ms0.length cm0)) ∧ (w'.cell? ⟨gS, 0, none⟩ = some (.int .i64 g1) ∧ w'.cell? ⟨gS, 1, none⟩ = some (.int .i64 b1) ∧ w'.cell? ⟨gS, 2, none⟩ = some (.int .i64 p1) ∧ w'.cell? ⟨gS, 3, none⟩ = some (.int .i64 q1) ∧ w'.cell? ⟨gS, 4, none⟩ = some (.slice Ax1 xs1.length cx1) ∧ w'.cell? ⟨gS, 5, none⟩ = some (.slice Am1 ms1.length cm1))) (by kernel_rfl) (by kernel_rfl) rfl (by kernel_rfl) (fun _ _ d _ _ h => by cases d <;> exact h) (by exact ⟨b4.d6, d4.d6⟩) ?_
      repeat (first | (refine HL.take (v := ?_) (by rfl) ?_ ?_; rotate_left; (· (intro w hSw; (try dsimp only at hSw); go_simp; try with_reducible rfl)); (try simp only [Act.put, List.setIfInBounds_toArray, List.set_cons_zero, List.set_cons_succ])) | (refine HL.skip (by rfl) ?_; (try simp only [Act.put, List.setIfInBounds_toArray, List.set_cons_zero, List.set_cons_succ])))
      refine HL.call (by rfl) (fun K hK => ?_)
      go_simp
      refine hK.out _ _ (by exact ⟨((put6_box b4 (.int .i64 g0) (.int .i64 b0) (.int .i64 p0) (.int .i64 q0) (.slice Ax0 xs0.length cx0) (.slice Am0 ms0.length cm0)).drew).d6, ((d4.far6 hne.symm (.int .i64 g0) (.int .i64 b0) (.int .i64 p0) (.int .i64 q0) (.slice Ax0 xs0.length cx0) (.slice Am0 ms0.length cm0)).drew).d6⟩) ?_
      clear hK K
      try simp only [Act.put, List.setIfInBounds_toArray, List.set_cons_zero, List.set_cons_succ]
      refine HL.call (by rfl) (fun K hK => ?_)
      go_simp
      refine hK.out _ _ (by exact ⟨(((put6_box b4 (.int .i64 g0) (.int .i64 b0) (.int .i64 p0) (.int .i64 q0) (.slice Ax0 xs0.length cx0) (.slice Am0 ms0.length cm0)).far6 hne (.int .i64 g1) (.int .i64 b1) (.int .i64 p1) (.int .i64 q1) (.slice Ax1 xs1.length cx1) (.slice Am1 ms1.length cm1)).drew).d6, ((put6_box (d4.far6 hne.symm (.int .i64 g0) (.int .i64 b0) (.int .i64 p0) (.int .i64 q0) (.slice Ax0 xs0.length cx0) (.slice Am0 ms0.length cm0)) (.int .i64 g1) (.int .i64 b1) (.int .i64 p1) (.int .i64 q1) (.slice Ax1 xs1.length cx1) (.slice Am1 ms1.length cm1)).drew).d6⟩) ?_
      clear hK K
      try simp only [Act.put, List.setIfInBounds_toArray, List.set_cons_zero, List.set_cons_succ]
      repeat (first | (refine HL.take (v := ?_) (by rfl) ?_ ?_; rotate_left; (· (intro w hSw; (try dsimp only at hSw); go_simp; try with_reducible rfl)); (try simp only [Act.put, List.setIfInBounds_toArray, List.set_cons_zero, List.set_cons_succ])) | (refine HL.skip (by rfl) ?_; (try simp only [Act.put, List.setIfInBounds_toArray, List.set_cons_zero, List.set_cons_succ])))
      refine HL.done ?_
      clear u0 u1 u2 u3 u4 u5 f0 f1 f2 f3 f4 f5
      clear y0 y1 y2 y3 y4 y5 l0 l1 l2 l3 l4 l5
      go_wp2
      have qx := ((put6_box b4 (.int .i64 g0) (.int .i64 b0) (.int .i64 p0) (.int .i64 q0) (.slice Ax0 xs0.length cx0) (.slice Am0 ms0.length cm0)).far6 hne (.int .i64 g1) (.int .i64 b1) (.int .i64 p1) (.int .i64 q1) (.slice Ax1 xs1.length cx1) (.slice Am1 ms1.length cm1)).drew
      have qy := (put6_box (d4.far6 hne.symm (.int .i64 g0) (.int .i64 b0) (.int .i64 p0) (.int .i64 q0) (.slice Ax0 xs0.length cx0) (.slice Am0 ms0.length cm0)) (.int .i64 g1) (.int .i64 b1) (.int .i64 p1) (.int .i64 q1) (.slice Ax1 xs1.length cx1) (.slice Am1 ms1.length cm1)).drew
      have hnf := (put6_nx (put6_nx hx4 hgR (.int .i64 g0) (.int .i64 b0) (.int .i64 p0) (.int .i64 q0) (.slice Ax0 xs0.length cx0) (.slice Am0 ms0.length cm0)) hgS (.int .i64 g1) (.int .i64 b1) (.int .i64 p1) (.int .i64 q1) (.slice Ax1 xs1.length cx1) (.slice Am1 ms1.length cm1)).drew
      have hsA := (((hS4.pt6 hltR (.int .i64 g0) (.int .i64 b0) (.int .i64 p0) (.int .i64 q0) (.slice Ax0 xs0.length cx0) (.slice Am0 ms0.length cm0)).pt6 hltS (.int .i64 g1) (.int .i64 b1) (.int .i64 p1) (.int .i64 q1) (.slice Ax1 xs1.length cx1) (.slice Am1 ms1.length cm1)).nx (Nx.refl _).drew)
      change Sl (World.drew (put6 (put6 w4 gR (.int .i64 g0) (.int .i64 b0) (.int .i64 p0) (.int .i64 q0) (.slice Ax0 xs0.length cx0) (.slice Am0 ms0.length cm0)) gS (.int .i64 g1) (.int .i64 b1) (.int .i64 p1) (.int .i64 q1) (.slice Ax1 xs1.length cx1) (.slice Am1 ms1.length cm1))) _ _ _ _ _ at hsA
      have hsB := (((hM4.pt6 hltR (.int .i64 g0) (.int .i64 b0) (.int .i64 p0) (.int .i64 q0) (.slice Ax0 xs0.length cx0) (.slice Am0 ms0.length cm0)).pt6 hltS (.int .i64 g1) (.int .i64 b1) (.int .i64 p1) (.int .i64 q1) (.slice Ax1 xs1.length cx1) (.slice Am1 ms1.length cm1)).nx (Nx.refl _).drew)
      change Sl (World.drew (put6 (put6 w4 gR (.int .i64 g0) (.int .i64 b0) (.int .i64 p0) (.int .i64 q0) (.slice Ax0 xs0.length cx0) (.slice Am0 ms0.length cm0)) gS (.int .i64 g1) (.int .i64 b1) (.int .i64 p1) (.int .i64 q1) (.slice Ax1 xs1.length cx1) (.slice Am1 ms1.length cm1))) _ _ _ _ _ at hsB
      have hsC := (((hT4.pt6 hltR2 (.int .i64 g0) (.int .i64 b0) (.int .i64 p0) (.int .i64 q0) (.slice Ax0 xs0.length cx0) (.slice Am0 ms0.length cm0)).pt6 hltS2 (.int .i64 g1) (.int .i64 b1) (.int .i64 p1) (.int .i64 q1) (.slice Ax1 xs1.length cx1) (.slice Am1 ms1.length cm1)).nx (Nx.refl _).drew)
      change Sl (World.drew (put6 (put6 w4 gR (.int .i64 g0) (.int .i64 b0) (.int .i64 p0) (.int .i64 q0) (.slice Ax0 xs0.length cx0) (.slice Am0 ms0.length cm0)) gS (.int .i64 g1) (.int .i64 b1) (.int .i64 p1) (.int .i64 q1) (.slice Ax1 xs1.length cx1) (.slice Am1 ms1.length cm1))) _ _ _ _ _ at hsC
      have hsD := (((hN4.pt6 hltR2 (.int .i64 g0) (.int .i64 b0) (.int .i64 p0) (.int .i64 q0) (.slice Ax0 xs0.length cx0) (.slice Am0 ms0.length cm0)).pt6 hltS2 (.int .i64 g1) (.int .i64 b1) (.int .i64 p1) (.int .i64 q1) (.slice Ax1 xs1.length cx1) (.slice Am1 ms1.length cm1)).nx (Nx.refl _).drew)
      change Sl (World.drew (put6 (put6 w4 gR (.int .i64 g0) (.int .i64 b0) (.int .i64 p0) (.int .i64 q0) (.slice Ax0 xs0.length cx0) (.slice Am0 ms0.length cm0)) gS (.int .i64 g1) (.int .i64 b1) (.int .i64 p1) (.int .i64 q1) (.slice Ax1 xs1.length cx1) (.slice Am1 ms1.length cm1))) _ _ _ _ _ at hsD
      change bodyPost _ _ _ _ _ (World.drew (put6 (put6 w4 gR (.int .i64 g0) (.int .i64 b0) (.int .i64 p0) (.int .i64 q0) (.slice Ax0 xs0.length cx0) (.slice Am0 ms0.length cm0)) gS (.int .i64 g1) (.int .i64 b1) (.int .i64 p1) (.int .i64 q1) (.slice Ax1 xs1.length cx1) (.slice Am1 ms1.length cm1)))
      change Box (World.drew (put6 (put6 w4 gR (.int .i64 g0) (.int .i64 b0) (.int .i64 p0) (.int .i64 q0) (.slice Ax0 xs0.length cx0) (.slice Am0 ms0.length cm0)) gS (.int .i64 g1) (.int .i64 b1) (.int .i64 p1) (.int .i64 q1) (.slice Ax1 xs1.length cx1) (.slice Am1 ms1.length cm1))) _ _ _ at qx
      change Box (World.drew (put6 (put6 w4 gR (.int .i64 g0) (.int .i64 b0) (.int .i64 p0) (.int .i64 q0) (.slice Ax0 xs0.length cx0) (.slice Am0 ms0.length cm0)) gS (.int .i64 g1) (.int .i64 b1) (.int .i64 p1) (.int .i64 q1) (.slice Ax1 xs1.length cx1) (.slice Am1 ms1.length cm1))) _ _ _ at qy
      generalize (World.drew (put6 (put6 w4 gR (.int .i64 g0) (.int .i64 b0) (.int .i64 p0) (.int .i64 q0) (.slice Ax0 xs0.length cx0) (.slice Am0 ms0.length cm0)) gS (.int .i64 g1) (.int .i64 b1) (.int .i64 p1) (.int .i64 q1) (.slice Ax1 xs1.length cx1) (.slice Am1 ms1.length cm1))) = Wf at *
      obtain ⟨k0, k1, k2, k3, k4, k5⟩ := qx.d6
      obtain ⟨j0, j1, j2, j3, j4, j5⟩ := qy.d6
      exact bodyPost_ret (v := .tuple #[.agg #[.int .i64 g0, .int .i64 b0, .int .i64 p0, .int .i64 q0, .slice Ax0 xs0.length cx0, .slice Am0 ms0.length cm0], .agg #[.int .i64 g1, .int .i64 b1, .int .i64 p1, .int .i64 q1, .slice Ax1 xs1.length cx1, .slice Am1 ms1.length cm1], .nilIface]) (by simp [results, Tryz.results201, go_sem, k0, k1, k2, k3, k4, k5, j0, j1, j2, j3, j4, j5]) rfl ⟨hnf, (fun h => by rw [HU0.out] at h; cases h), (fun q _ h => by rw [HU1.out] at h; cases h), fun q r hq hr => by rw [HU0.out] at hq; rw [HU1.out] at hr; cases hq; cases hr; exact ⟨_, _, _, _, _, _, _, _, rfl, ⟨HCC0.out, hsA.low (by have := HgS.out; omega), hsB.low (by have := HgS.out; omega)⟩, ⟨HCC1.out, hsC.low (by have := HgS.out; omega), hsD.low (by have := HgS.out; omega)⟩⟩⟩
end Go.Proofs.YtehahodomfbpjaaGreatDoor
