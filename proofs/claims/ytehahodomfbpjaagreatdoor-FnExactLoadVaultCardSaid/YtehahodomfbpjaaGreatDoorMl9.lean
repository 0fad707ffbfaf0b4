/-
  Texts of the proof, put together in their order: Nwb, Nwn, Nwl, Nwx, Sgx.
  Conditions: those of each.
-/
import Derived.Test.YtehahodomfbpjaaGreatDoorMl8
import Derived.Deep.AppendLies
/- Contract of the program's bothSupers. Conditions: those of superIn, of both slots. -/
namespace Go.Proofs.YtehahodomfbpjaaGreatDoor
set_option linter.unusedVariables false
set_option maxRecDepth 100000
open Go.RowKit

/-- A super as a value. -/
def vU (u : U6) (A : Option Addr) (c : Nat) (A2 : Option Addr) (c2 : Nat) : Value := .agg #[.int .i64 u.1, .int .i64 u.2.1, .int .i64 u.2.2.1, .int .i64 u.2.2.2.1, .slice A u.2.2.2.2.1.length c, .slice A2 u.2.2.2.2.2.length c2]
def FitU (w : World) (lo : Nat) (u : U6) (A : Option Addr) (c : Nat) (A2 : Option Addr) : Prop := u.2.2.2.2.1.length ≤ c ∧ SlI w lo A u.2.2.2.2.1 ∧ SlM w lo A2 u.2.2.2.2.2
def slE (a k : Int) : Value := .iface 217 (.agg #[.int .i64 a, .int .i64 k])
def RetB2 (w : World) (o0 o1 : Option U6) (e : Ending) (w' : World) : Prop :=
  Nx w w' ∧ (o0 = none → e = .returned (.tuple #[.agg #[.int .i64 0, .int .i64 0, .int .i64 0, .int .i64 0, .slice none 0 0, .slice none 0 0], .agg #[.int .i64 0, .int .i64 0, .int .i64 0, .int .i64 0, .slice none 0 0, .slice none 0 0], slE 0 19])) ∧ (∀ q, o0 = some q → o1 = none → e = .returned (.tuple #[.agg #[.int .i64 0, .int .i64 0, .int .i64 0, .int .i64 0, .slice none 0 0, .slice none 0 0], .agg #[.int .i64 0, .int .i64 0, .int .i64 0, .int .i64 0, .slice none 0 0, .slice none 0 0], slE 1 19])) ∧
  ∀ q r, o0 = some q → o1 = some r → ∃ A c A2 c2 A3 c3 A4 c4, e = .returned (.tuple #[vU q A c A2 c2, vU r A3 c3 A4 c4, .nilIface]) ∧ FitU w' w.heap.size q A c A2 ∧ FitU w' w.heap.size r A3 c3 A4
set_option maxHeartbeats 1600000 in
theorem bothSupers_c (A A2 : Option Addr) (n c n2 c2 B : Nat) (ss : List ByteArray) (ws : List (Int × ByteArray)) (w : World) (a0 a1 : Addr) (h : Strs w B A n ss) (h2 : Wrs w B A2 n2 ws) (hB : B ≤ w.heap.size) (ha : 1 < n) (hn : n ≤ 1048576) (hn2 : n2 ≤ 1048576) (hr0 : (readP ss ws 0).size ≤ 65536) (hr1 : (readP ss ws 1).size ≤ 65536) (hE : Er w a0 a1) (hM : Mx w) :
    Calls Tryz.prog 201 #[.agg #[.slice A n c, .slice A2 n2 c2]] w (RetB2 w (rdU (readP ss ws 0)) (rdU (readP ss ws 1))) := by
  have b0 : Box (((w.alloc (.cells #[.slice A n c, .slice A2 n2 c2] 38)).alloc (.cells #[.int .i64 0, .int .i64 0, .int .i64 0, .int .i64 0, .slice none 0 0, .slice none 0 0] 30)).alloc (.cells #[.int .i64 0, .int .i64 0, .int .i64 0, .int .i64 0, .slice none 0 0, .slice none 0 0] 30)) (w.heap.size + 1) 30 #[.int .i64 0, .int .i64 0, .int .i64 0, .int .i64 0, .slice none 0 0, .slice none 0 0] := by have := Box.new (w.alloc (.cells #[.slice A n c, .slice A2 n2 c2] 38)) 30 #[.int .i64 0, .int .i64 0, .int .i64 0, .int .i64 0, .slice none 0 0, .slice none 0 0]; rw [World.size_alloc] at this; exact this.alloc _
  have d0 : Box (((w.alloc (.cells #[.slice A n c, .slice A2 n2 c2] 38)).alloc (.cells #[.int .i64 0, .int .i64 0, .int .i64 0, .int .i64 0, .slice none 0 0, .slice none 0 0] 30)).alloc (.cells #[.int .i64 0, .int .i64 0, .int .i64 0, .int .i64 0, .slice none 0 0, .slice none 0 0] 30)) (w.heap.size + 1 + 1) 30 #[.int .i64 0, .int .i64 0, .int .i64 0, .int .i64 0, .slice none 0 0, .slice none 0 0] := by have := Box.new ((w.alloc (.cells #[.slice A n c, .slice A2 n2 c2] 38)).alloc (.cells #[.int .i64 0, .int .i64 0, .int .i64 0, .int .i64 0, .slice none 0 0, .slice none 0 0] 30)) 30 #[.int .i64 0, .int .i64 0, .int .i64 0, .int .i64 0, .slice none 0 0, .slice none 0 0]; rwa [World.size_alloc, World.size_alloc] at this
  have e0 : Box (((w.alloc (.cells #[.slice A n c, .slice A2 n2 c2] 38)).alloc (.cells #[.int .i64 0, .int .i64 0, .int .i64 0, .int .i64 0, .slice none 0 0, .slice none 0 0] 30)).alloc (.cells #[.int .i64 0, .int .i64 0, .int .i64 0, .int .i64 0, .slice none 0 0, .slice none 0 0] 30)) w.heap.size 38 #[.slice A n c, .slice A2 n2 c2] := ((Box.new w _ _).alloc _).alloc _
  have hx0 := (((Nx.refl w).alloc (.cells #[.slice A n c, .slice A2 n2 c2] 38)).alloc (.cells #[.int .i64 0, .int .i64 0, .int .i64 0, .int .i64 0, .slice none 0 0, .slice none 0 0] 30)).alloc (.cells #[.int .i64 0, .int .i64 0, .int .i64 0, .int .i64 0, .slice none 0 0, .slice none 0 0] 30)
  go_enter Tryz.func201, Tryz.ntmps201
  go_wp2_with fail
  generalize ((w.alloc (.cells #[.slice A n c, .slice A2 n2 c2] 38)).alloc (.cells #[.int .i64 0, .int .i64 0, .int .i64 0, .int .i64 0, .slice none 0 0, .slice none 0 0] 30)).alloc (.cells #[.int .i64 0, .int .i64 0, .int .i64 0, .int .i64 0, .slice none 0 0, .slice none 0 0] 30) = W at *
  obtain ⟨gR, Hg⟩ : ∃ g, Hid (w.heap.size + 1 = g) := ⟨_, rfl⟩
  obtain ⟨gS, HgS⟩ : ∃ g, Hid (w.heap.size + 1 + 1 = g) := ⟨_, rfl⟩
  have hgR : w.heap.size ≤ gR := by have := Hg.out; omega
  have hgS : w.heap.size ≤ gS := by have := HgS.out; omega
  have hne : gR ≠ gS := by have := Hg.out; have := HgS.out; omega
  have hneD : w.heap.size ≠ gR := by have := Hg.out; omega
  rw [HgS.out, Hg.out]
  rw [HgS.out] at d0
  rw [Hg.out] at b0
  have hltR := b0.lt
  have hltS := d0.lt
  refine (superIn_c A A2 n c n2 c2 B 0 ss ws _ a0 a1 (h.below hx0 hB) (h2.below hx0 hB) (Nat.le_trans hB hx0.size) (by omega) hn hn2 hr0 (hE.nx hx0) (hM.nx hx0)).mono ?_
  rintro e w1 ⟨hnx1, h1, h2'⟩
  have b1 := b0.nx hnx1
  have d1 := d0.nx hnx1
  have e1 := e0.nx hnx1
  have hx1 := hx0.trans hnx1
  have hsz1 := hnx1.size
  have hlt := b1.lt
  have hlt2 := d1.lt
  clear b0 d0 e0 hx0 hnx1
  cases hu : rdU (readP ss ws 0) with
  | none =>
    obtain rfl := h1 hu
    have HU0 := Lib.hid hu
    clear h1 h2' hu
    obtain ⟨u0, u1, u2, u3, u4, u5⟩ := b1.d6
    have f0 := b1.frozen 0
    have f1 := b1.frozen 1
    have f2 := b1.frozen 2
    have f3 := b1.frozen 3
    have f4 := b1.frozen 4
    have f5 := b1.frozen 5
    obtain ⟨y0, y1, y2, y3, y4, y5⟩ := d1.d6
    have l0 := d1.frozen 0
    have l1 := d1.frozen 1
    have l2 := d1.frozen 2
    have l3 := d1.frozen 3
    have l4 := d1.frozen 4
    have l5 := d1.frozen 5
    go_wp2
    have qx := ((put6_box (put6_box b1 (.int .i64 0) (.int .i64 0) (.int .i64 0) (.int .i64 0) (.slice none 0 0) (.slice none 0 0)) (.int .i64 0) (.int .i64 0) (.int .i64 0) (.int .i64 0) (.slice none 0 0) (.slice none 0 0)).far6 hne (.int .i64 0) (.int .i64 0) (.int .i64 0) (.int .i64 0) (.slice none 0 0) (.slice none 0 0))
    have qy := (put6_box ((d1.far6 hne.symm (.int .i64 0) (.int .i64 0) (.int .i64 0) (.int .i64 0) (.slice none 0 0) (.slice none 0 0)).far6 hne.symm (.int .i64 0) (.int .i64 0) (.int .i64 0) (.int .i64 0) (.slice none 0 0) (.slice none 0 0)) (.int .i64 0) (.int .i64 0) (.int .i64 0) (.int .i64 0) (.slice none 0 0) (.slice none 0 0))
    have hnf := (put6_nx (put6_nx (put6_nx hx1 hgR (.int .i64 0) (.int .i64 0) (.int .i64 0) (.int .i64 0) (.slice none 0 0) (.slice none 0 0)) hgR (.int .i64 0) (.int .i64 0) (.int .i64 0) (.int .i64 0) (.slice none 0 0) (.slice none 0 0)) hgS (.int .i64 0) (.int .i64 0) (.int .i64 0) (.int .i64 0) (.slice none 0 0) (.slice none 0 0))
    change bodyPost _ _ _ _ _ (put6 (put6 (put6 w1 gR (.int .i64 0) (.int .i64 0) (.int .i64 0) (.int .i64 0) (.slice none 0 0) (.slice none 0 0)) gR (.int .i64 0) (.int .i64 0) (.int .i64 0) (.int .i64 0) (.slice none 0 0) (.slice none 0 0)) gS (.int .i64 0) (.int .i64 0) (.int .i64 0) (.int .i64 0) (.slice none 0 0) (.slice none 0 0))
    change Box (put6 (put6 (put6 w1 gR (.int .i64 0) (.int .i64 0) (.int .i64 0) (.int .i64 0) (.slice none 0 0) (.slice none 0 0)) gR (.int .i64 0) (.int .i64 0) (.int .i64 0) (.int .i64 0) (.slice none 0 0) (.slice none 0 0)) gS (.int .i64 0) (.int .i64 0) (.int .i64 0) (.int .i64 0) (.slice none 0 0) (.slice none 0 0)) _ _ _ at qx
    change Box (put6 (put6 (put6 w1 gR (.int .i64 0) (.int .i64 0) (.int .i64 0) (.int .i64 0) (.slice none 0 0) (.slice none 0 0)) gR (.int .i64 0) (.int .i64 0) (.int .i64 0) (.int .i64 0) (.slice none 0 0) (.slice none 0 0)) gS (.int .i64 0) (.int .i64 0) (.int .i64 0) (.int .i64 0) (.slice none 0 0) (.slice none 0 0)) _ _ _ at qy
    generalize (put6 (put6 (put6 w1 gR (.int .i64 0) (.int .i64 0) (.int .i64 0) (.int .i64 0) (.slice none 0 0) (.slice none 0 0)) gR (.int .i64 0) (.int .i64 0) (.int .i64 0) (.int .i64 0) (.slice none 0 0) (.slice none 0 0)) gS (.int .i64 0) (.int .i64 0) (.int .i64 0) (.int .i64 0) (.slice none 0 0) (.slice none 0 0)) = Wf at *
    obtain ⟨k0, k1, k2, k3, k4, k5⟩ := qx.d6
    obtain ⟨j0, j1, j2, j3, j4, j5⟩ := qy.d6
    exact bodyPost_ret (v := .tuple #[.agg #[.int .i64 0, .int .i64 0, .int .i64 0, .int .i64 0, .slice none 0 0, .slice none 0 0], .agg #[.int .i64 0, .int .i64 0, .int .i64 0, .int .i64 0, .slice none 0 0, .slice none 0 0], .iface 217 (.agg #[.int .i64 0, .int .i64 19])]) (by simp [results, Tryz.results201, go_sem, k0, k1, k2, k3, k4, k5, j0, j1, j2, j3, j4, j5]) rfl ⟨hnf, (fun _ => rfl), (fun q h => by rw [HU0.out] at h; cases h), fun q r h => by rw [HU0.out] at h; cases h⟩
  | some u =>
    obtain ⟨g0, b0, p0, q0, xs0, ms0⟩ := u
    obtain ⟨Ax0, cx0, Am0, cm0, he, hcc, hS1, hM1⟩ := h2' _ hu
    replace he : e = .returned (.tuple #[.agg #[.int .i64 g0, .int .i64 b0, .int .i64 p0, .int .i64 q0, .slice Ax0 xs0.length cx0, .slice Am0 ms0.length cm0], .nilIface]) := he
    replace hS1 : SlI w1 W.heap.size Ax0 xs0 := hS1
    replace hM1 : SlM w1 W.heap.size Am0 ms0 := hM1
    replace hcc : xs0.length ≤ cx0 := hcc
    have HCC0 := Lib.hid hcc
    have HU0 := Lib.hid hu
    subst he
    clear h1 h2' hu hcc
    obtain ⟨z0, z1⟩ : w1.cell? ⟨w.heap.size, 0, none⟩ = some (.slice A n c) ∧ w1.cell? ⟨w.heap.size, 1, none⟩ = some (.slice A2 n2 c2) := ⟨e1.c0, e1.c1⟩
    obtain ⟨u0, u1, u2, u3, u4, u5⟩ := b1.d6
    have f0 := b1.frozen 0
    have f1 := b1.frozen 1
    have f2 := b1.frozen 2
    have f3 := b1.frozen 3
    have f4 := b1.frozen 4
    have f5 := b1.frozen 5
    go_wp2_with fail
    have b2 := put6_box b1 (.int .i64 g0) (.int .i64 b0) (.int .i64 p0) (.int .i64 q0) (.slice Ax0 xs0.length cx0) (.slice Am0 ms0.length cm0)
    have d2 := d1.far6 hne.symm (.int .i64 g0) (.int .i64 b0) (.int .i64 p0) (.int .i64 q0) (.slice Ax0 xs0.length cx0) (.slice Am0 ms0.length cm0)
    have e2 := e1.far6 hneD (.int .i64 g0) (.int .i64 b0) (.int .i64 p0) (.int .i64 q0) (.slice Ax0 xs0.length cx0) (.slice Am0 ms0.length cm0)
    have hx2 := put6_nx hx1 hgR (.int .i64 g0) (.int .i64 b0) (.int .i64 p0) (.int .i64 q0) (.slice Ax0 xs0.length cx0) (.slice Am0 ms0.length cm0)
    have hS2 := hS1.pt6 hltR (.int .i64 g0) (.int .i64 b0) (.int .i64 p0) (.int .i64 q0) (.slice Ax0 xs0.length cx0) (.slice Am0 ms0.length cm0)
    have hM2 := hM1.pt6 hltR (.int .i64 g0) (.int .i64 b0) (.int .i64 p0) (.int .i64 q0) (.slice Ax0 xs0.length cx0) (.slice Am0 ms0.length cm0)
    have hsz2 : W.heap.size ≤ (put6 w1 gR (.int .i64 g0) (.int .i64 b0) (.int .i64 p0) (.int .i64 q0) (.slice Ax0 xs0.length cx0) (.slice Am0 ms0.length cm0)).heap.size := by simp [put6, World.setCell]; exact hsz1
    clear b1 d1 e1 hx1 hS1 hM1 z0 z1
    clear u0 u1 u2 u3 u4 u5 f0 f1 f2 f3 f4 f5
    change Calls _ _ _ (put6 w1 gR (.int .i64 g0) (.int .i64 b0) (.int .i64 p0) (.int .i64 q0) (.slice Ax0 xs0.length cx0) (.slice Am0 ms0.length cm0)) _
    generalize put6 w1 gR (.int .i64 g0) (.int .i64 b0) (.int .i64 p0) (.int .i64 q0) (.slice Ax0 xs0.length cx0) (.slice Am0 ms0.length cm0) = w2 at *
    refine (superIn_c A A2 n c n2 c2 B 1 ss ws _ a0 a1 (h.below hx2 hB) (h2.below hx2 hB) (Nat.le_trans hB hx2.size) (by omega) hn hn2 hr1 (hE.nx hx2) (hM.nx hx2)).mono ?_
    rintro e w3 ⟨hnx3, h1, h2'⟩
    have b3 := b2.nx hnx3
    have d3 := d2.nx hnx3
    have hx3 := hx2.trans hnx3
    have hS3 := hS2.nx hnx3
    have hM3 := hM2.nx hnx3
    have hltR2 := b2.lt
    have hltS2 := d2.lt
    clear b2 d2 e2 hx2 hS2 hM2
    cases hv : rdU (readP ss ws 1) with
    | none =>
      obtain rfl := h1 hv
      have HU1 := Lib.hid hv
      clear h1 h2' hv
      obtain ⟨u0, u1, u2, u3, u4, u5⟩ := b3.d6
      have f0 := b3.frozen 0
      have f1 := b3.frozen 1
      have f2 := b3.frozen 2
      have f3 := b3.frozen 3
      have f4 := b3.frozen 4
      have f5 := b3.frozen 5
      obtain ⟨y0, y1, y2, y3, y4, y5⟩ := d3.d6
      have l0 := d3.frozen 0
      have l1 := d3.frozen 1
      have l2 := d3.frozen 2
      have l3 := d3.frozen 3
      have l4 := d3.frozen 4
      have l5 := d3.frozen 5
      go_wp2
      have qx := ((put6_box (b3.far6 hne (.int .i64 0) (.int .i64 0) (.int .i64 0) (.int .i64 0) (.slice none 0 0) (.slice none 0 0)) (.int .i64 0) (.int .i64 0) (.int .i64 0) (.int .i64 0) (.slice none 0 0) (.slice none 0 0)).far6 hne (.int .i64 0) (.int .i64 0) (.int .i64 0) (.int .i64 0) (.slice none 0 0) (.slice none 0 0))
      have qy := (put6_box ((put6_box d3 (.int .i64 0) (.int .i64 0) (.int .i64 0) (.int .i64 0) (.slice none 0 0) (.slice none 0 0)).far6 hne.symm (.int .i64 0) (.int .i64 0) (.int .i64 0) (.int .i64 0) (.slice none 0 0) (.slice none 0 0)) (.int .i64 0) (.int .i64 0) (.int .i64 0) (.int .i64 0) (.slice none 0 0) (.slice none 0 0))
      have hnf := (put6_nx (put6_nx (put6_nx hx3 hgS (.int .i64 0) (.int .i64 0) (.int .i64 0) (.int .i64 0) (.slice none 0 0) (.slice none 0 0)) hgR (.int .i64 0) (.int .i64 0) (.int .i64 0) (.int .i64 0) (.slice none 0 0) (.slice none 0 0)) hgS (.int .i64 0) (.int .i64 0) (.int .i64 0) (.int .i64 0) (.slice none 0 0) (.slice none 0 0))
      change bodyPost _ _ _ _ _ (put6 (put6 (put6 w3 gS (.int .i64 0) (.int .i64 0) (.int .i64 0) (.int .i64 0) (.slice none 0 0) (.slice none 0 0)) gR (.int .i64 0) (.int .i64 0) (.int .i64 0) (.int .i64 0) (.slice none 0 0) (.slice none 0 0)) gS (.int .i64 0) (.int .i64 0) (.int .i64 0) (.int .i64 0) (.slice none 0 0) (.slice none 0 0))
      change Box (put6 (put6 (put6 w3 gS (.int .i64 0) (.int .i64 0) (.int .i64 0) (.int .i64 0) (.slice none 0 0) (.slice none 0 0)) gR (.int .i64 0) (.int .i64 0) (.int .i64 0) (.int .i64 0) (.slice none 0 0) (.slice none 0 0)) gS (.int .i64 0) (.int .i64 0) (.int .i64 0) (.int .i64 0) (.slice none 0 0) (.slice none 0 0)) _ _ _ at qx
      change Box (put6 (put6 (put6 w3 gS (.int .i64 0) (.int .i64 0) (.int .i64 0) (.int .i64 0) (.slice none 0 0) (.slice none 0 0)) gR (.int .i64 0) (.int .i64 0) (.int .i64 0) (.int .i64 0) (.slice none 0 0) (.slice none 0 0)) gS (.int .i64 0) (.int .i64 0) (.int .i64 0) (.int .i64 0) (.slice none 0 0) (.slice none 0 0)) _ _ _ at qy
      generalize (put6 (put6 (put6 w3 gS (.int .i64 0) (.int .i64 0) (.int .i64 0) (.int .i64 0) (.slice none 0 0) (.slice none 0 0)) gR (.int .i64 0) (.int .i64 0) (.int .i64 0) (.int .i64 0) (.slice none 0 0) (.slice none 0 0)) gS (.int .i64 0) (.int .i64 0) (.int .i64 0) (.int .i64 0) (.slice none 0 0) (.slice none 0 0)) = Wf at *
      obtain ⟨k0, k1, k2, k3, k4, k5⟩ := qx.d6
      obtain ⟨j0, j1, j2, j3, j4, j5⟩ := qy.d6
      exact bodyPost_ret (v := .tuple #[.agg #[.int .i64 0, .int .i64 0, .int .i64 0, .int .i64 0, .slice none 0 0, .slice none 0 0], .agg #[.int .i64 0, .int .i64 0, .int .i64 0, .int .i64 0, .slice none 0 0, .slice none 0 0], .iface 217 (.agg #[.int .i64 1, .int .i64 19])]) (by simp [results, Tryz.results201, go_sem, k0, k1, k2, k3, k4, k5, j0, j1, j2, j3, j4, j5]) rfl ⟨hnf, (fun h => by rw [HU0.out] at h; cases h), (fun q _ _ => rfl), fun q r _ h => by rw [HU1.out] at h; cases h⟩
    | some u =>
      obtain ⟨g1, b1, p1, q1, xs1, ms1⟩ := u
      obtain ⟨Ax1, cx1, Am1, cm1, he, hcc, hS1, hM1⟩ := h2' _ hv
      replace he : e = .returned (.tuple #[.agg #[.int .i64 g1, .int .i64 b1, .int .i64 p1, .int .i64 q1, .slice Ax1 xs1.length cx1, .slice Am1 ms1.length cm1], .nilIface]) := he
      replace hS1 : SlI w3 w2.heap.size Ax1 xs1 := hS1
      replace hM1 : SlM w3 w2.heap.size Am1 ms1 := hM1
      replace hcc : xs1.length ≤ cx1 := hcc
      have HCC1 := Lib.hid hcc
      have HU1 := Lib.hid hv
      subst he
      clear h1 h2' hv hcc
      obtain ⟨y0, y1, y2, y3, y4, y5⟩ := d3.d6
      have l0 := d3.frozen 0
      have l1 := d3.frozen 1
      have l2 := d3.frozen 2
      have l3 := d3.frozen 3
      have l4 := d3.frozen 4
      have l5 := d3.frozen 5
      go_wp2_with fail
      have b4 := b3.far6 hne (.int .i64 g1) (.int .i64 b1) (.int .i64 p1) (.int .i64 q1) (.slice Ax1 xs1.length cx1) (.slice Am1 ms1.length cm1)
      have d4 := put6_box d3 (.int .i64 g1) (.int .i64 b1) (.int .i64 p1) (.int .i64 q1) (.slice Ax1 xs1.length cx1) (.slice Am1 ms1.length cm1)
      have hx4 := put6_nx hx3 hgS (.int .i64 g1) (.int .i64 b1) (.int .i64 p1) (.int .i64 q1) (.slice Ax1 xs1.length cx1) (.slice Am1 ms1.length cm1)
      have hS4 := hS3.pt6 hltS (.int .i64 g1) (.int .i64 b1) (.int .i64 p1) (.int .i64 q1) (.slice Ax1 xs1.length cx1) (.slice Am1 ms1.length cm1)
      have hM4 := hM3.pt6 hltS (.int .i64 g1) (.int .i64 b1) (.int .i64 p1) (.int .i64 q1) (.slice Ax1 xs1.length cx1) (.slice Am1 ms1.length cm1)
      have hT4 := hS1.pt6 hltS2 (.int .i64 g1) (.int .i64 b1) (.int .i64 p1) (.int .i64 q1) (.slice Ax1 xs1.length cx1) (.slice Am1 ms1.length cm1)
      have hN4 := hM1.pt6 hltS2 (.int .i64 g1) (.int .i64 b1) (.int .i64 p1) (.int .i64 q1) (.slice Ax1 xs1.length cx1) (.slice Am1 ms1.length cm1)
      clear b3 d3 hx3 hS3 hM3 hS1 hM1
      clear y0 y1 y2 y3 y4 y5 l0 l1 l2 l3 l4 l5
      change Code.wp _ _ _ _ (put6 w3 gS (.int .i64 g1) (.int .i64 b1) (.int .i64 p1) (.int .i64 q1) (.slice Ax1 xs1.length cx1) (.slice Am1 ms1.length cm1))
      generalize put6 w3 gS (.int .i64 g1) (.int .i64 b1) (.int .i64 p1) (.int .i64 q1) (.slice Ax1 xs1.length cx1) (.slice Am1 ms1.length cm1) = w4 at *
      obtain ⟨u0, u1, u2, u3, u4, u5⟩ := b4.d6
      have f0 := b4.frozen 0
      have f1 := b4.frozen 1
      have f2 := b4.frozen 2
      have f3 := b4.frozen 3
      have f4 := b4.frozen 4
      have f5 := b4.frozen 5
      obtain ⟨y0, y1, y2, y3, y4, y5⟩ := d4.d6
      have l0 := d4.frozen 0
      have l1 := d4.frozen 1
      have l2 := d4.frozen 2
      have l3 := d4.frozen 3
      have l4 := d4.frozen 4
      have l5 := d4.frozen 5
      have hlt4 := b4.lt
      have hlt5 := d4.lt
      refine wp_region_lex [false, false, true, true, false] (fun w' => (w'.cell? ⟨gR, 0, none⟩ = some (.int .i64 g0) ∧ w'.cell? ⟨gR, 1, none⟩ = some (.int .i64 b0) ∧ w'.cell? ⟨gR, 2, none⟩ = some (.int .i64 p0) ∧ w'.cell? ⟨gR, 3, none⟩ = some (.int .i64 q0) ∧ w'.cell? ⟨gR, 4, none⟩ = some (.slice Ax0 xs0.length cx0) ∧ w'.cell? ⟨gR, 5, none⟩ = some (.slice Am0 ms0.length cm0)) ∧ (w'.cell? ⟨gS, 0, none⟩ = some (.int .i64 g1) ∧ w'.cell? ⟨gS, 1, none⟩ = some (.int .i64 b1) ∧ w'.cell? ⟨gS, 2, none⟩ = some (.int .i64 p1) ∧ w'.cell? ⟨gS, 3, none⟩ = some (.int .i64 q1) ∧ w'.cell? ⟨gS, 4, none⟩ = some (.slice Ax1 xs1.length cx1) ∧ w'.cell? ⟨gS, 5, none⟩ = some (.slice Am1 ms1.length cm1))) (by kernel_rfl) (by kernel_rfl) rfl (by kernel_rfl) (fun _ _ d _ _ h => by cases d <;> exact h) (by exact ⟨b4.d6, d4.d6⟩) ?_
      repeat (first | (refine HL.take (v := ?_) (by rfl) ?_ ?_; rotate_left; (· (intro w hSw; (try dsimp only at hSw); go_simp; try with_reducible rfl)); (try simp only [Act.put, List.setIfInBounds_toArray, List.set_cons_zero, List.set_cons_succ])) | (refine HL.skip (by rfl) ?_; (try simp only [Act.put, List.setIfInBounds_toArray, List.set_cons_zero, List.set_cons_succ])))
      refine HL.call (by rfl) (fun K hK => ?_)
      go_simp
      refine hK.out _ _ (by exact ⟨((put6_box b4 (.int .i64 g0) (.int .i64 b0) (.int .i64 p0) (.int .i64 q0) (.slice Ax0 xs0.length cx0) (.slice Am0 ms0.length cm0)).drew).d6, ((d4.far6 hne.symm (.int .i64 g0) (.int .i64 b0) (.int .i64 p0) (.int .i64 q0) (.slice Ax0 xs0.length cx0) (.slice Am0 ms0.length cm0)).drew).d6⟩) ?_
      clear hK K
      try simp only [Act.put, List.setIfInBounds_toArray, List.set_cons_zero, List.set_cons_succ]
      refine HL.call (by rfl) (fun K hK => ?_)
      go_simp
      refine hK.out _ _ (by exact ⟨(((put6_box b4 (.int .i64 g0) (.int .i64 b0) (.int .i64 p0) (.int .i64 q0) (.slice Ax0 xs0.length cx0) (.slice Am0 ms0.length cm0)).far6 hne (.int .i64 g1) (.int .i64 b1) (.int .i64 p1) (.int .i64 q1) (.slice Ax1 xs1.length cx1) (.slice Am1 ms1.length cm1)).drew).d6, ((put6_box (d4.far6 hne.symm (.int .i64 g0) (.int .i64 b0) (.int .i64 p0) (.int .i64 q0) (.slice Ax0 xs0.length cx0) (.slice Am0 ms0.length cm0)) (.int .i64 g1) (.int .i64 b1) (.int .i64 p1) (.int .i64 q1) (.slice Ax1 xs1.length cx1) (.slice Am1 ms1.length cm1)).drew).d6⟩) ?_
      clear hK K
      try simp only [Act.put, List.setIfInBounds_toArray, List.set_cons_zero, List.set_cons_succ]
      repeat (first | (refine HL.take (v := ?_) (by rfl) ?_ ?_; rotate_left; (· (intro w hSw; (try dsimp only at hSw); go_simp; try with_reducible rfl)); (try simp only [Act.put, List.setIfInBounds_toArray, List.set_cons_zero, List.set_cons_succ])) | (refine HL.skip (by rfl) ?_; (try simp only [Act.put, List.setIfInBounds_toArray, List.set_cons_zero, List.set_cons_succ])))
      refine HL.done ?_
      clear u0 u1 u2 u3 u4 u5 f0 f1 f2 f3 f4 f5
      clear y0 y1 y2 y3 y4 y5 l0 l1 l2 l3 l4 l5
      go_wp2
      have qx := ((put6_box b4 (.int .i64 g0) (.int .i64 b0) (.int .i64 p0) (.int .i64 q0) (.slice Ax0 xs0.length cx0) (.slice Am0 ms0.length cm0)).far6 hne (.int .i64 g1) (.int .i64 b1) (.int .i64 p1) (.int .i64 q1) (.slice Ax1 xs1.length cx1) (.slice Am1 ms1.length cm1)).drew
      have qy := (put6_box (d4.far6 hne.symm (.int .i64 g0) (.int .i64 b0) (.int .i64 p0) (.int .i64 q0) (.slice Ax0 xs0.length cx0) (.slice Am0 ms0.length cm0)) (.int .i64 g1) (.int .i64 b1) (.int .i64 p1) (.int .i64 q1) (.slice Ax1 xs1.length cx1) (.slice Am1 ms1.length cm1)).drew
      have hnf := (put6_nx (put6_nx hx4 hgR (.int .i64 g0) (.int .i64 b0) (.int .i64 p0) (.int .i64 q0) (.slice Ax0 xs0.length cx0) (.slice Am0 ms0.length cm0)) hgS (.int .i64 g1) (.int .i64 b1) (.int .i64 p1) (.int .i64 q1) (.slice Ax1 xs1.length cx1) (.slice Am1 ms1.length cm1)).drew
      have hsA := (((hS4.pt6 hltR (.int .i64 g0) (.int .i64 b0) (.int .i64 p0) (.int .i64 q0) (.slice Ax0 xs0.length cx0) (.slice Am0 ms0.length cm0)).pt6 hltS (.int .i64 g1) (.int .i64 b1) (.int .i64 p1) (.int .i64 q1) (.slice Ax1 xs1.length cx1) (.slice Am1 ms1.length cm1)).nx (Nx.refl _).drew)
      change Sl (World.drew (put6 (put6 w4 gR (.int .i64 g0) (.int .i64 b0) (.int .i64 p0) (.int .i64 q0) (.slice Ax0 xs0.length cx0) (.slice Am0 ms0.length cm0)) gS (.int .i64 g1) (.int .i64 b1) (.int .i64 p1) (.int .i64 q1) (.slice Ax1 xs1.length cx1) (.slice Am1 ms1.length cm1))) _ _ _ _ _ at hsA
      have hsB := (((hM4.pt6 hltR (.int .i64 g0) (.int .i64 b0) (.int .i64 p0) (.int .i64 q0) (.slice Ax0 xs0.length cx0) (.slice Am0 ms0.length cm0)).pt6 hltS (.int .i64 g1) (.int .i64 b1) (.int .i64 p1) (.int .i64 q1) (.slice Ax1 xs1.length cx1) (.slice Am1 ms1.length cm1)).nx (Nx.refl _).drew)
      change Sl (World.drew (put6 (put6 w4 gR (.int .i64 g0) (.int .i64 b0) (.int .i64 p0) (.int .i64 q0) (.slice Ax0 xs0.length cx0) (.slice Am0 ms0.length cm0)) gS (.int .i64 g1) (.int .i64 b1) (.int .i64 p1) (.int .i64 q1) (.slice Ax1 xs1.length cx1) (.slice Am1 ms1.length cm1))) _ _ _ _ _ at hsB
      have hsC := (((hT4.pt6 hltR2 (.int .i64 g0) (.int .i64 b0) (.int .i64 p0) (.int .i64 q0) (.slice Ax0 xs0.length cx0) (.slice Am0 ms0.length cm0)).pt6 hltS2 (.int .i64 g1) (.int .i64 b1) (.int .i64 p1) (.int .i64 q1) (.slice Ax1 xs1.length cx1) (.slice Am1 ms1.length cm1)).nx (Nx.refl _).drew)
      change Sl (World.drew (put6 (put6 w4 gR (.int .i64 g0) (.int .i64 b0) (.int .i64 p0) (.int .i64 q0) (.slice Ax0 xs0.length cx0) (.slice Am0 ms0.length cm0)) gS (.int .i64 g1) (.int .i64 b1) (.int .i64 p1) (.int .i64 q1) (.slice Ax1 xs1.length cx1) (.slice Am1 ms1.length cm1))) _ _ _ _ _ at hsC
      have hsD := (((hN4.pt6 hltR2 (.int .i64 g0) (.int .i64 b0) (.int .i64 p0) (.int .i64 q0) (.slice Ax0 xs0.length cx0) (.slice Am0 ms0.length cm0)).pt6 hltS2 (.int .i64 g1) (.int .i64 b1) (.int .i64 p1) (.int .i64 q1) (.slice Ax1 xs1.length cx1) (.slice Am1 ms1.length cm1)).nx (Nx.refl _).drew)
      change Sl (World.drew (put6 (put6 w4 gR (.int .i64 g0) (.int .i64 b0) (.int .i64 p0) (.int .i64 q0) (.slice Ax0 xs0.length cx0) (.slice Am0 ms0.length cm0)) gS (.int .i64 g1) (.int .i64 b1) (.int .i64 p1) (.int .i64 q1) (.slice Ax1 xs1.length cx1) (.slice Am1 ms1.length cm1))) _ _ _ _ _ at hsD
      change bodyPost _ _ _ _ _ (World.drew (put6 (put6 w4 gR (.int .i64 g0) (.int .i64 b0) (.int .i64 p0) (.int .i64 q0) (.slice Ax0 xs0.length cx0) (.slice Am0 ms0.length cm0)) gS (.int .i64 g1) (.int .i64 b1) (.int .i64 p1) (.int .i64 q1) (.slice Ax1 xs1.length cx1) (.slice Am1 ms1.length cm1)))
      change Box (World.drew (put6 (put6 w4 gR (.int .i64 g0) (.int .i64 b0) (.int .i64 p0) (.int .i64 q0) (.slice Ax0 xs0.length cx0) (.slice Am0 ms0.length cm0)) gS (.int .i64 g1) (.int .i64 b1) (.int .i64 p1) (.int .i64 q1) (.slice Ax1 xs1.length cx1) (.slice Am1 ms1.length cm1))) _ _ _ at qx
      change Box (World.drew (put6 (put6 w4 gR (.int .i64 g0) (.int .i64 b0) (.int .i64 p0) (.int .i64 q0) (.slice Ax0 xs0.length cx0) (.slice Am0 ms0.length cm0)) gS (.int .i64 g1) (.int .i64 b1) (.int .i64 p1) (.int .i64 q1) (.slice Ax1 xs1.length cx1) (.slice Am1 ms1.length cm1))) _ _ _ at qy
      generalize (World.drew (put6 (put6 w4 gR (.int .i64 g0) (.int .i64 b0) (.int .i64 p0) (.int .i64 q0) (.slice Ax0 xs0.length cx0) (.slice Am0 ms0.length cm0)) gS (.int .i64 g1) (.int .i64 b1) (.int .i64 p1) (.int .i64 q1) (.slice Ax1 xs1.length cx1) (.slice Am1 ms1.length cm1))) = Wf at *
      obtain ⟨k0, k1, k2, k3, k4, k5⟩ := qx.d6
      obtain ⟨j0, j1, j2, j3, j4, j5⟩ := qy.d6
      exact bodyPost_ret (v := .tuple #[.agg #[.int .i64 g0, .int .i64 b0, .int .i64 p0, .int .i64 q0, .slice Ax0 xs0.length cx0, .slice Am0 ms0.length cm0], .agg #[.int .i64 g1, .int .i64 b1, .int .i64 p1, .int .i64 q1, .slice Ax1 xs1.length cx1, .slice Am1 ms1.length cm1], .nilIface]) (by simp [results, Tryz.results201, go_sem, k0, k1, k2, k3, k4, k5, j0, j1, j2, j3, j4, j5]) rfl ⟨hnf, (fun h => by rw [HU0.out] at h; cases h), (fun q _ h => by rw [HU1.out] at h; cases h), fun q r hq hr => by rw [HU0.out] at hq; rw [HU1.out] at hr; cases hq; cases hr; exact ⟨_, _, _, _, _, _, _, _, rfl, ⟨HCC0.out, hsA.low (by have := HgS.out; omega), hsB.low (by have := HgS.out; omega)⟩, ⟨HCC1.out, hsC.low (by have := HgS.out; omega), hsD.low (by have := HgS.out; omega)⟩⟩⟩
end Go.Proofs.YtehahodomfbpjaaGreatDoor
/- Contract of the program's newestSuper. Conditions: those of superIn, of both slots; the library's errorType is the type of errors. -/
namespace Go.Proofs.YtehahodomfbpjaaGreatDoor
set_option linter.unusedVariables false
set_option maxRecDepth 100000
open Go.RowKit

/-- The newest of two supers, and its slot. -/
def newU : Option U6 → Option U6 → Option (U6 × Int)
  | some a, some b => if a.1 < b.1 then some (b, 1) else some (a, 0)
  | some a, none => some (a, 0)
  | none, some b => some (b, 1)
  | none, none => none
def RetNS (w : World) (o : Option (U6 × Int)) (e : Ending) (w' : World) : Prop :=
  Nx w w' ∧ (o = none → e = .returned (.tuple #[.agg #[.int .i64 0, .int .i64 0, .int .i64 0, .int .i64 0, .slice none 0 0, .slice none 0 0], .int .i64 1, slE 1 19])) ∧ ∀ u s, o = some (u, s) → ∃ A c A2 c2, e = .returned (.tuple #[vU u A c A2 c2, .int .i64 s, .nilIface]) ∧ FitU w' w.heap.size u A c A2
theorem RetNS.no {w w' : World} {o : Option (U6 × Int)} (h : o = none) (hn : Nx w w') : RetNS w o (.returned (.tuple #[.agg #[.int .i64 0, .int .i64 0, .int .i64 0, .int .i64 0, .slice none 0 0, .slice none 0 0], .int .i64 1, slE 1 19])) w' :=
  ⟨hn, fun _ => rfl, fun u s h2 => by rw [h] at h2; cases h2⟩
theorem RetNS.yes {w w' : World} {o : Option (U6 × Int)} {u : U6} {s : Int} {A A2 : Option Addr} {c c2 : Nat} (h : o = some (u, s)) (hc : u.2.2.2.2.1.length ≤ c) (hs : SlI w' w.heap.size A u.2.2.2.2.1) (hm : SlM w' w.heap.size A2 u.2.2.2.2.2) (hn : Nx w w') :
    RetNS w o (.returned (.tuple #[vU u A c A2 c2, .int .i64 s, .nilIface])) w' :=
  ⟨hn, (fun h2 => by rw [h] at h2; cases h2), fun u' s' h2 => by rw [h] at h2; cases h2; exact ⟨A, c, A2, c2, rfl, hc, hs, hm⟩⟩
theorem otherSlot_c (a : Int) (w : World) (h0 : 0 ≤ a) (h1 : a ≤ 1) : Calls Tryz.prog 203 #[.int .i64 a] w fun e w' => e = .returned (.int .i64 (1 - a)) ∧ w = w' := by
  go_enter Tryz.func203, Tryz.ntmps203
  go_wp2
  go_ret
  exact ⟨rfl, rfl⟩
set_option maxHeartbeats 1600000 in
theorem newestSuper_c (A A2 : Option Addr) (n c n2 c2 B : Nat) (ss : List ByteArray) (ws : List (Int × ByteArray)) (w : World) (a0 a1 : Addr) (h : Strs w B A n ss) (h2 : Wrs w B A2 n2 ws) (hB : B ≤ w.heap.size) (ha : 1 < n) (hn : n ≤ 1048576) (hn2 : n2 ≤ 1048576) (hr0 : (readP ss ws 0).size ≤ 65536) (hr1 : (readP ss ws 1).size ≤ 65536) (hE : Er w a0 a1) (hM : Mx w) (hEt : Et w) :
    Calls Tryz.prog 116 #[.agg #[.slice A n c, .slice A2 n2 c2]] w (RetNS w (newU (rdU (readP ss ws 0)) (rdU (readP ss ws 1)))) := by
  have b0 : Box ((w.alloc (.cells #[.slice A n c, .slice A2 n2 c2] 38)).alloc (.cells #[.int .i64 0, .int .i64 0, .int .i64 0, .int .i64 0, .slice none 0 0, .slice none 0 0] 30)) (w.heap.size + 1) 30 #[.int .i64 0, .int .i64 0, .int .i64 0, .int .i64 0, .slice none 0 0, .slice none 0 0] := by have := Box.new (w.alloc (.cells #[.slice A n c, .slice A2 n2 c2] 38)) 30 #[.int .i64 0, .int .i64 0, .int .i64 0, .int .i64 0, .slice none 0 0, .slice none 0 0]; rwa [World.size_alloc] at this
  have e0 : Box ((w.alloc (.cells #[.slice A n c, .slice A2 n2 c2] 38)).alloc (.cells #[.int .i64 0, .int .i64 0, .int .i64 0, .int .i64 0, .slice none 0 0, .slice none 0 0] 30)) w.heap.size 38 #[.slice A n c, .slice A2 n2 c2] := (Box.new w _ _).alloc _
  have hx0 := ((Nx.refl w).alloc (.cells #[.slice A n c, .slice A2 n2 c2] 38)).alloc (.cells #[.int .i64 0, .int .i64 0, .int .i64 0, .int .i64 0, .slice none 0 0, .slice none 0 0] 30)
  go_enter Tryz.func116, Tryz.ntmps116
  go_wp2_with fail
  generalize (w.alloc (.cells #[.slice A n c, .slice A2 n2 c2] 38)).alloc (.cells #[.int .i64 0, .int .i64 0, .int .i64 0, .int .i64 0, .slice none 0 0, .slice none 0 0] 30) = W at *
  obtain ⟨gR, Hg⟩ : ∃ g, Hid (w.heap.size + 1 = g) := ⟨_, rfl⟩
  have hgR : w.heap.size ≤ gR := by have := Hg.out; omega
  rw [Hg.out] at b0 ⊢
  have hltW := b0.lt
  refine (bothSupers_c A A2 n c n2 c2 B ss ws _ a0 a1 (h.below hx0 hB) (h2.below hx0 hB) (Nat.le_trans hB hx0.size) ha hn hn2 hr0 hr1 (hE.nx hx0) (hM.nx hx0)).mono ?_
  rintro e w1 ⟨hnx1, h1, h2', h3'⟩
  have b1 := b0.nx hnx1
  have e1 := e0.nx hnx1
  have hx1 := hx0.trans hnx1
  have hlt1 := b1.lt
  have hltD := e1.lt
  clear b0 e0 hx0 hnx1
  unfold slE at h1 h2'
  cases hu : rdU (readP ss ws 0) with
  | none =>
    obtain rfl := h1 hu
    have HU0 := Lib.hid hu
    clear h1 h2' h3' hu
    go_wp2_with fail
    have bE := Box.new ((w1.alloc (.cells #[.int .i64 0, .int .i64 0, .int .i64 0, .int .i64 0, .slice none 0 0, .slice none 0 0] 30)).alloc (.cells #[.int .i64 0, .int .i64 0, .int .i64 0, .int .i64 0, .slice none 0 0, .slice none 0 0] 30)) 217 #[.int .i64 0, .int .i64 0]
    have hx3 := (((hx1.alloc (.cells #[.int .i64 0, .int .i64 0, .int .i64 0, .int .i64 0, .slice none 0 0, .slice none 0 0] 30)).alloc (.cells #[.int .i64 0, .int .i64 0, .int .i64 0, .int .i64 0, .slice none 0 0, .slice none 0 0] 30)).alloc (.cells #[.int .i64 0, .int .i64 0] 217))
    have b3 := (((b1.alloc (.cells #[.int .i64 0, .int .i64 0, .int .i64 0, .int .i64 0, .slice none 0 0, .slice none 0 0] 30)).alloc (.cells #[.int .i64 0, .int .i64 0, .int .i64 0, .int .i64 0, .slice none 0 0, .slice none 0 0] 30)).alloc (.cells #[.int .i64 0, .int .i64 0] 217))
    have e3 := (((e1.alloc (.cells #[.int .i64 0, .int .i64 0, .int .i64 0, .int .i64 0, .slice none 0 0, .slice none 0 0] 30)).alloc (.cells #[.int .i64 0, .int .i64 0, .int .i64 0, .int .i64 0, .slice none 0 0, .slice none 0 0] 30)).alloc (.cells #[.int .i64 0, .int .i64 0] 217))
    simp only [World.size_alloc] at bE
    change Calls _ _ _ (((w1.alloc (.cells #[.int .i64 0, .int .i64 0, .int .i64 0, .int .i64 0, .slice none 0 0, .slice none 0 0] 30)).alloc (.cells #[.int .i64 0, .int .i64 0, .int .i64 0, .int .i64 0, .slice none 0 0, .slice none 0 0] 30)).alloc (.cells #[.int .i64 0, .int .i64 0] 217)) _
    generalize (((w1.alloc (.cells #[.int .i64 0, .int .i64 0, .int .i64 0, .int .i64 0, .slice none 0 0, .slice none 0 0] 30)).alloc (.cells #[.int .i64 0, .int .i64 0, .int .i64 0, .int .i64 0, .slice none 0 0, .slice none 0 0] 30)).alloc (.cells #[.int .i64 0, .int .i64 0] 217)) = w3 at *
    obtain ⟨gE, HgE⟩ : ∃ g, Hid (w1.heap.size + 1 + 1 = g) := ⟨_, rfl⟩
    rw [HgE.out] at bE ⊢
    have hgE : gR < gE := by have := HgE.out; omega
    have hgE2 : w.heap.size < gE := by omega
    refine (as_hit 0 19 gE _ _ _ (hEt.nx hx3) bE).mono ?_
    rintro e w4 ⟨rfl, hrg, bF⟩
    have b4 := b3.rg hrg (.inl hgE)
    have e4 := e3.rg hrg (.inl hgE2)
    have hx4 := Rg.nx_of hx3 hrg (by omega)
    have y0 := bF.c0
    have z0 := e4.c0
    have z1 := e4.c1
    clear b3 e3 hx3 bE
    go_wp2_with (go_at_call 203; refine (otherSlot_c 0 _ (by omega) (by omega)).mono ?_; rintro e w' ⟨rfl, rfl⟩)
    refine (superIn_c A A2 n c n2 c2 B 1 ss ws _ a0 a1 (h.below hx4 hB) (h2.below hx4 hB) (Nat.le_trans hB hx4.size) (by omega) hn hn2 hr1 (hE.nx hx4) (hM.nx hx4)).mono ?_
    rintro e w5 ⟨hnx5, h1, h2'⟩
    have b5 := b4.nx hnx5
    have hx5 := hx4.trans hnx5
    have hlt5 := b5.lt
    have hlt4 := b4.lt
    clear b4 e4 hx4 bF y0 z0 z1
    cases hv : rdU (readP ss ws 1) with
    | none =>
      obtain rfl := h1 hv
      have HN : Hid (newU (rdU (readP ss ws 0)) (rdU (readP ss ws 1)) = none) := Lib.hid (by rw [HU0.out, hv]; rfl)
      clear h1 h2' hv
      obtain ⟨u0, u1, u2, u3, u4, u5⟩ := b5.d6
      have f0 := b5.frozen 0
      have f1 := b5.frozen 1
      have f2 := b5.frozen 2
      have f3 := b5.frozen 3
      have f4 := b5.frozen 4
      have f5 := b5.frozen 5
      go_wp2
      have qx := ((put6_box b5 (.int .i64 0) (.int .i64 0) (.int .i64 0) (.int .i64 0) (.slice none 0 0) (.slice none 0 0)).alloc (.cells #[.int .i64 0, .int .i64 0, .int .i64 0, .int .i64 0, .slice none 0 0, .slice none 0 0] 30))
      have hnf := ((put6_nx hx5 (hgR) (.int .i64 0) (.int .i64 0) (.int .i64 0) (.int .i64 0) (.slice none 0 0) (.slice none 0 0)).alloc (.cells #[.int .i64 0, .int .i64 0, .int .i64 0, .int .i64 0, .slice none 0 0, .slice none 0 0] 30))
      change bodyPost _ _ _ _ _ (World.alloc (put6 w5 gR (.int .i64 0) (.int .i64 0) (.int .i64 0) (.int .i64 0) (.slice none 0 0) (.slice none 0 0)) (.cells #[.int .i64 0, .int .i64 0, .int .i64 0, .int .i64 0, .slice none 0 0, .slice none 0 0] 30))
      change Box (World.alloc (put6 w5 gR (.int .i64 0) (.int .i64 0) (.int .i64 0) (.int .i64 0) (.slice none 0 0) (.slice none 0 0)) (.cells #[.int .i64 0, .int .i64 0, .int .i64 0, .int .i64 0, .slice none 0 0, .slice none 0 0] 30)) _ _ _ at qx
      generalize World.alloc (put6 w5 gR (.int .i64 0) (.int .i64 0) (.int .i64 0) (.int .i64 0) (.slice none 0 0) (.slice none 0 0)) (.cells #[.int .i64 0, .int .i64 0, .int .i64 0, .int .i64 0, .slice none 0 0, .slice none 0 0] 30) = Wf at *
      obtain ⟨cq0, cq1, cq2, cq3, cq4, cq5⟩ := qx.d6
      exact bodyPost_ret (v := .tuple #[.agg #[.int .i64 0, .int .i64 0, .int .i64 0, .int .i64 0, .slice none 0 0, .slice none 0 0], .int .i64 1, .iface 217 (.agg #[.int .i64 1, .int .i64 19])]) (by simp [results, Tryz.results116, go_sem, cq0, cq1, cq2, cq3, cq4, cq5]) rfl (RetNS.no HN.out hnf)
    | some u1 =>
      have HU1 := Lib.hid hv
      have HN : Hid (newU (rdU (readP ss ws 0)) (rdU (readP ss ws 1)) = some (u1, 1)) := Lib.hid (by rw [HU0.out, hv]; rfl)
      clear hv
      obtain ⟨g1, b1, p1, q1, xs1, ms1⟩ := u1
      obtain ⟨Ax1, cx1, Am1, cm1, he, hcc, hS1, hM1⟩ := h2' _ HU1.out
      replace he : e = .returned (.tuple #[.agg #[.int .i64 g1, .int .i64 b1, .int .i64 p1, .int .i64 q1, .slice Ax1 xs1.length cx1, .slice Am1 ms1.length cm1], .nilIface]) := he
      replace hS1 : SlI w5 w4.heap.size Ax1 xs1 := hS1
      replace hM1 : SlM w5 w4.heap.size Am1 ms1 := hM1
      replace hcc : xs1.length ≤ cx1 := hcc
      have HCC := Lib.hid hcc
      subst he
      clear h1 h2' hcc
      obtain ⟨u0, u1, u2, u3, u4, u5⟩ := b5.d6
      have f0 := b5.frozen 0
      have f1 := b5.frozen 1
      have f2 := b5.frozen 2
      have f3 := b5.frozen 3
      have f4 := b5.frozen 4
      have f5 := b5.frozen 5
      go_wp2
      have qx := ((put6_box b5 (.int .i64 g1) (.int .i64 b1) (.int .i64 p1) (.int .i64 q1) (.slice Ax1 xs1.length cx1) (.slice Am1 ms1.length cm1)).alloc (.cells #[.int .i64 g1, .int .i64 b1, .int .i64 p1, .int .i64 q1, .slice Ax1 xs1.length cx1, .slice Am1 ms1.length cm1] 30))
      have hnf := ((put6_nx hx5 (hgR) (.int .i64 g1) (.int .i64 b1) (.int .i64 p1) (.int .i64 q1) (.slice Ax1 xs1.length cx1) (.slice Am1 ms1.length cm1)).alloc (.cells #[.int .i64 g1, .int .i64 b1, .int .i64 p1, .int .i64 q1, .slice Ax1 xs1.length cx1, .slice Am1 ms1.length cm1] 30))
      have hsf := ((hS1.pt6 hlt4 (.int .i64 g1) (.int .i64 b1) (.int .i64 p1) (.int .i64 q1) (.slice Ax1 xs1.length cx1) (.slice Am1 ms1.length cm1)).nx ((Nx.refl _).alloc (.cells #[.int .i64 g1, .int .i64 b1, .int .i64 p1, .int .i64 q1, .slice Ax1 xs1.length cx1, .slice Am1 ms1.length cm1] 30)))
      change Sl (World.alloc (put6 w5 gR (.int .i64 g1) (.int .i64 b1) (.int .i64 p1) (.int .i64 q1) (.slice Ax1 xs1.length cx1) (.slice Am1 ms1.length cm1)) (.cells #[.int .i64 g1, .int .i64 b1, .int .i64 p1, .int .i64 q1, .slice Ax1 xs1.length cx1, .slice Am1 ms1.length cm1] 30)) _ _ _ _ _ at hsf
      have hmf := ((hM1.pt6 hlt4 (.int .i64 g1) (.int .i64 b1) (.int .i64 p1) (.int .i64 q1) (.slice Ax1 xs1.length cx1) (.slice Am1 ms1.length cm1)).nx ((Nx.refl _).alloc (.cells #[.int .i64 g1, .int .i64 b1, .int .i64 p1, .int .i64 q1, .slice Ax1 xs1.length cx1, .slice Am1 ms1.length cm1] 30)))
      change Sl (World.alloc (put6 w5 gR (.int .i64 g1) (.int .i64 b1) (.int .i64 p1) (.int .i64 q1) (.slice Ax1 xs1.length cx1) (.slice Am1 ms1.length cm1)) (.cells #[.int .i64 g1, .int .i64 b1, .int .i64 p1, .int .i64 q1, .slice Ax1 xs1.length cx1, .slice Am1 ms1.length cm1] 30)) _ _ _ _ _ at hmf
      change bodyPost _ _ _ _ _ (World.alloc (put6 w5 gR (.int .i64 g1) (.int .i64 b1) (.int .i64 p1) (.int .i64 q1) (.slice Ax1 xs1.length cx1) (.slice Am1 ms1.length cm1)) (.cells #[.int .i64 g1, .int .i64 b1, .int .i64 p1, .int .i64 q1, .slice Ax1 xs1.length cx1, .slice Am1 ms1.length cm1] 30))
      change Box (World.alloc (put6 w5 gR (.int .i64 g1) (.int .i64 b1) (.int .i64 p1) (.int .i64 q1) (.slice Ax1 xs1.length cx1) (.slice Am1 ms1.length cm1)) (.cells #[.int .i64 g1, .int .i64 b1, .int .i64 p1, .int .i64 q1, .slice Ax1 xs1.length cx1, .slice Am1 ms1.length cm1] 30)) _ _ _ at qx
      generalize World.alloc (put6 w5 gR (.int .i64 g1) (.int .i64 b1) (.int .i64 p1) (.int .i64 q1) (.slice Ax1 xs1.length cx1) (.slice Am1 ms1.length cm1)) (.cells #[.int .i64 g1, .int .i64 b1, .int .i64 p1, .int .i64 q1, .slice Ax1 xs1.length cx1, .slice Am1 ms1.length cm1] 30) = Wf at *
      obtain ⟨hmf0, hmf1, hmf2, hmf3, hmf4, hmf5⟩ := qx.d6
      exact bodyPost_ret (v := .tuple #[.agg #[.int .i64 g1, .int .i64 b1, .int .i64 p1, .int .i64 q1, .slice Ax1 xs1.length cx1, .slice Am1 ms1.length cm1], .int .i64 1, .nilIface]) (by simp [results, Tryz.results116, go_sem, hmf0, hmf1, hmf2, hmf3, hmf4, hmf5]) rfl (RetNS.yes (u := (g1, b1, p1, q1, xs1, ms1)) HN.out HCC.out (hsf.low (by omega)) (hmf.low (by omega)) hnf)
  | some u0 =>
    have HU0 := Lib.hid hu
    cases hv : rdU (readP ss ws 1) with
    | none =>
      obtain rfl := h2' _ hu hv
      have HN : Hid (newU (rdU (readP ss ws 0)) (rdU (readP ss ws 1)) = some (u0, 0)) := Lib.hid (by rw [HU0.out, hv]; rfl)
      clear h1 h2' h3' hu hv
      go_wp2_with fail
      have bE := Box.new ((w1.alloc (.cells #[.int .i64 0, .int .i64 0, .int .i64 0, .int .i64 0, .slice none 0 0, .slice none 0 0] 30)).alloc (.cells #[.int .i64 0, .int .i64 0, .int .i64 0, .int .i64 0, .slice none 0 0, .slice none 0 0] 30)) 217 #[.int .i64 0, .int .i64 0]
      have hx3 := (((hx1.alloc (.cells #[.int .i64 0, .int .i64 0, .int .i64 0, .int .i64 0, .slice none 0 0, .slice none 0 0] 30)).alloc (.cells #[.int .i64 0, .int .i64 0, .int .i64 0, .int .i64 0, .slice none 0 0, .slice none 0 0] 30)).alloc (.cells #[.int .i64 0, .int .i64 0] 217))
      have b3 := (((b1.alloc (.cells #[.int .i64 0, .int .i64 0, .int .i64 0, .int .i64 0, .slice none 0 0, .slice none 0 0] 30)).alloc (.cells #[.int .i64 0, .int .i64 0, .int .i64 0, .int .i64 0, .slice none 0 0, .slice none 0 0] 30)).alloc (.cells #[.int .i64 0, .int .i64 0] 217))
      have e3 := (((e1.alloc (.cells #[.int .i64 0, .int .i64 0, .int .i64 0, .int .i64 0, .slice none 0 0, .slice none 0 0] 30)).alloc (.cells #[.int .i64 0, .int .i64 0, .int .i64 0, .int .i64 0, .slice none 0 0, .slice none 0 0] 30)).alloc (.cells #[.int .i64 0, .int .i64 0] 217))
      simp only [World.size_alloc] at bE
      change Calls _ _ _ (((w1.alloc (.cells #[.int .i64 0, .int .i64 0, .int .i64 0, .int .i64 0, .slice none 0 0, .slice none 0 0] 30)).alloc (.cells #[.int .i64 0, .int .i64 0, .int .i64 0, .int .i64 0, .slice none 0 0, .slice none 0 0] 30)).alloc (.cells #[.int .i64 0, .int .i64 0] 217)) _
      generalize (((w1.alloc (.cells #[.int .i64 0, .int .i64 0, .int .i64 0, .int .i64 0, .slice none 0 0, .slice none 0 0] 30)).alloc (.cells #[.int .i64 0, .int .i64 0, .int .i64 0, .int .i64 0, .slice none 0 0, .slice none 0 0] 30)).alloc (.cells #[.int .i64 0, .int .i64 0] 217)) = w3 at *
      obtain ⟨gE, HgE⟩ : ∃ g, Hid (w1.heap.size + 1 + 1 = g) := ⟨_, rfl⟩
      rw [HgE.out] at bE ⊢
      have hgE : gR < gE := by have := HgE.out; omega
      have hgE2 : w.heap.size < gE := by omega
      refine (as_hit 1 19 gE _ _ _ (hEt.nx hx3) bE).mono ?_
      rintro e w4 ⟨rfl, hrg, bF⟩
      have b4 := b3.rg hrg (.inl hgE)
      have e4 := e3.rg hrg (.inl hgE2)
      have hx4 := Rg.nx_of hx3 hrg (by omega)
      have y0 := bF.c0
      have z0 := e4.c0
      have z1 := e4.c1
      clear b3 e3 hx3 bE
      go_wp2_with (go_at_call 203; refine (otherSlot_c 1 _ (by omega) (by omega)).mono ?_; rintro e w' ⟨rfl, rfl⟩)
      refine (superIn_c A A2 n c n2 c2 B 0 ss ws _ a0 a1 (h.below hx4 hB) (h2.below hx4 hB) (Nat.le_trans hB hx4.size) (by omega) hn hn2 hr0 (hE.nx hx4) (hM.nx hx4)).mono ?_
      rintro e w5 ⟨hnx5, h1, h2'⟩
      have b5 := b4.nx hnx5
      have hx5 := hx4.trans hnx5
      have hlt5 := b5.lt
      have hlt4 := b4.lt
      clear b4 e4 hx4 bF y0 z0 z1
      obtain ⟨g0, b0, p0, q0, xs0, ms0⟩ := u0
      obtain ⟨Ax0, cx0, Am0, cm0, he, hcc, hS1, hM1⟩ := h2' _ HU0.out
      replace he : e = .returned (.tuple #[.agg #[.int .i64 g0, .int .i64 b0, .int .i64 p0, .int .i64 q0, .slice Ax0 xs0.length cx0, .slice Am0 ms0.length cm0], .nilIface]) := he
      replace hS1 : SlI w5 w4.heap.size Ax0 xs0 := hS1
      replace hM1 : SlM w5 w4.heap.size Am0 ms0 := hM1
      replace hcc : xs0.length ≤ cx0 := hcc
      have HCC := Lib.hid hcc
      subst he
      clear h1 h2' hcc
      obtain ⟨u0, u1, u2, u3, u4, u5⟩ := b5.d6
      have f0 := b5.frozen 0
      have f1 := b5.frozen 1
      have f2 := b5.frozen 2
      have f3 := b5.frozen 3
      have f4 := b5.frozen 4
      have f5 := b5.frozen 5
      go_wp2
      have qx := ((put6_box b5 (.int .i64 g0) (.int .i64 b0) (.int .i64 p0) (.int .i64 q0) (.slice Ax0 xs0.length cx0) (.slice Am0 ms0.length cm0)).alloc (.cells #[.int .i64 g0, .int .i64 b0, .int .i64 p0, .int .i64 q0, .slice Ax0 xs0.length cx0, .slice Am0 ms0.length cm0] 30))
      have hnf := ((put6_nx hx5 (hgR) (.int .i64 g0) (.int .i64 b0) (.int .i64 p0) (.int .i64 q0) (.slice Ax0 xs0.length cx0) (.slice Am0 ms0.length cm0)).alloc (.cells #[.int .i64 g0, .int .i64 b0, .int .i64 p0, .int .i64 q0, .slice Ax0 xs0.length cx0, .slice Am0 ms0.length cm0] 30))
      have hsf := ((hS1.pt6 hlt4 (.int .i64 g0) (.int .i64 b0) (.int .i64 p0) (.int .i64 q0) (.slice Ax0 xs0.length cx0) (.slice Am0 ms0.length cm0)).nx ((Nx.refl _).alloc (.cells #[.int .i64 g0, .int .i64 b0, .int .i64 p0, .int .i64 q0, .slice Ax0 xs0.length cx0, .slice Am0 ms0.length cm0] 30)))
      change Sl (World.alloc (put6 w5 gR (.int .i64 g0) (.int .i64 b0) (.int .i64 p0) (.int .i64 q0) (.slice Ax0 xs0.length cx0) (.slice Am0 ms0.length cm0)) (.cells #[.int .i64 g0, .int .i64 b0, .int .i64 p0, .int .i64 q0, .slice Ax0 xs0.length cx0, .slice Am0 ms0.length cm0] 30)) _ _ _ _ _ at hsf
      have hmf := ((hM1.pt6 hlt4 (.int .i64 g0) (.int .i64 b0) (.int .i64 p0) (.int .i64 q0) (.slice Ax0 xs0.length cx0) (.slice Am0 ms0.length cm0)).nx ((Nx.refl _).alloc (.cells #[.int .i64 g0, .int .i64 b0, .int .i64 p0, .int .i64 q0, .slice Ax0 xs0.length cx0, .slice Am0 ms0.length cm0] 30)))
      change Sl (World.alloc (put6 w5 gR (.int .i64 g0) (.int .i64 b0) (.int .i64 p0) (.int .i64 q0) (.slice Ax0 xs0.length cx0) (.slice Am0 ms0.length cm0)) (.cells #[.int .i64 g0, .int .i64 b0, .int .i64 p0, .int .i64 q0, .slice Ax0 xs0.length cx0, .slice Am0 ms0.length cm0] 30)) _ _ _ _ _ at hmf
      change bodyPost _ _ _ _ _ (World.alloc (put6 w5 gR (.int .i64 g0) (.int .i64 b0) (.int .i64 p0) (.int .i64 q0) (.slice Ax0 xs0.length cx0) (.slice Am0 ms0.length cm0)) (.cells #[.int .i64 g0, .int .i64 b0, .int .i64 p0, .int .i64 q0, .slice Ax0 xs0.length cx0, .slice Am0 ms0.length cm0] 30))
      change Box (World.alloc (put6 w5 gR (.int .i64 g0) (.int .i64 b0) (.int .i64 p0) (.int .i64 q0) (.slice Ax0 xs0.length cx0) (.slice Am0 ms0.length cm0)) (.cells #[.int .i64 g0, .int .i64 b0, .int .i64 p0, .int .i64 q0, .slice Ax0 xs0.length cx0, .slice Am0 ms0.length cm0] 30)) _ _ _ at qx
      generalize World.alloc (put6 w5 gR (.int .i64 g0) (.int .i64 b0) (.int .i64 p0) (.int .i64 q0) (.slice Ax0 xs0.length cx0) (.slice Am0 ms0.length cm0)) (.cells #[.int .i64 g0, .int .i64 b0, .int .i64 p0, .int .i64 q0, .slice Ax0 xs0.length cx0, .slice Am0 ms0.length cm0] 30) = Wf at *
      obtain ⟨hmf0, hmf1, hmf2, hmf3, hmf4, hmf5⟩ := qx.d6
      exact bodyPost_ret (v := .tuple #[.agg #[.int .i64 g0, .int .i64 b0, .int .i64 p0, .int .i64 q0, .slice Ax0 xs0.length cx0, .slice Am0 ms0.length cm0], .int .i64 0, .nilIface]) (by simp [results, Tryz.results116, go_sem, hmf0, hmf1, hmf2, hmf3, hmf4, hmf5]) rfl (RetNS.yes (u := (g0, b0, p0, q0, xs0, ms0)) HN.out HCC.out (hsf.low (by omega)) (hmf.low (by omega)) hnf)
    | some u1 =>
      have bR1 := b1
      obtain ⟨g0, b0, p0, q0, xs0, ms0⟩ := u0
      obtain ⟨g1, b1, p1, q1, xs1, ms1⟩ := u1
      obtain ⟨Ax0, cx0, Am0, cm0, Ax1, cx1, Am1, cm1, he, ⟨hc0, hS0, hM0⟩, ⟨hc1, hS1, hM1⟩⟩ := h3' _ _ hu hv
      have HU1 := Lib.hid hv
      unfold vU at he
      replace hS0 : SlI w1 W.heap.size Ax0 xs0 := hS0
      replace hM0 : SlM w1 W.heap.size Am0 ms0 := hM0
      replace hS1 : SlI w1 W.heap.size Ax1 xs1 := hS1
      replace hM1 : SlM w1 W.heap.size Am1 ms1 := hM1
      have HCC0 : Hid (xs0.length ≤ cx0) := Lib.hid hc0
      have HCC1 : Hid (xs1.length ≤ cx1) := Lib.hid hc1
      replace he : e = .returned (.tuple #[.agg #[.int .i64 g0, .int .i64 b0, .int .i64 p0, .int .i64 q0, .slice Ax0 xs0.length cx0, .slice Am0 ms0.length cm0], .agg #[.int .i64 g1, .int .i64 b1, .int .i64 p1, .int .i64 q1, .slice Ax1 xs1.length cx1, .slice Am1 ms1.length cm1], .nilIface]) := he
      subst he
      clear h1 h2' h3' hu hv hc0 hc1
      go_wp2_with fail
      have hz3 := ((((Nx.refl w1).alloc (.cells #[.int .i64 g0, .int .i64 b0, .int .i64 p0, .int .i64 q0, .slice Ax0 xs0.length cx0, .slice Am0 ms0.length cm0] 30)).alloc (.cells #[.int .i64 g1, .int .i64 b1, .int .i64 p1, .int .i64 q1, .slice Ax1 xs1.length cx1, .slice Am1 ms1.length cm1] 30)).alloc (.cells #[.int .i64 0, .int .i64 0] 217))
      have b3 := bR1.nx hz3
      have hx3 := hx1.trans hz3
      have hS0c := hS0.nx hz3
      have hM0c := hM0.nx hz3
      have hS1c := hS1.nx hz3
      have hM1c := hM1.nx hz3
      have bA := ((Box.new w1 30 #[.int .i64 g0, .int .i64 b0, .int .i64 p0, .int .i64 q0, .slice Ax0 xs0.length cx0, .slice Am0 ms0.length cm0]).alloc (.cells #[.int .i64 g1, .int .i64 b1, .int .i64 p1, .int .i64 q1, .slice Ax1 xs1.length cx1, .slice Am1 ms1.length cm1] 30)).alloc (.cells #[.int .i64 0, .int .i64 0] 217)
      have bB : Box (((w1.alloc (.cells #[.int .i64 g0, .int .i64 b0, .int .i64 p0, .int .i64 q0, .slice Ax0 xs0.length cx0, .slice Am0 ms0.length cm0] 30)).alloc (.cells #[.int .i64 g1, .int .i64 b1, .int .i64 p1, .int .i64 q1, .slice Ax1 xs1.length cx1, .slice Am1 ms1.length cm1] 30)).alloc (.cells #[.int .i64 0, .int .i64 0] 217)) (w1.heap.size + 1) 30 #[.int .i64 g1, .int .i64 b1, .int .i64 p1, .int .i64 q1, .slice Ax1 xs1.length cx1, .slice Am1 ms1.length cm1] := by have := (Box.new (w1.alloc (.cells #[.int .i64 g0, .int .i64 b0, .int .i64 p0, .int .i64 q0, .slice Ax0 xs0.length cx0, .slice Am0 ms0.length cm0] 30)) 30 #[.int .i64 g1, .int .i64 b1, .int .i64 p1, .int .i64 q1, .slice Ax1 xs1.length cx1, .slice Am1 ms1.length cm1]).alloc (.cells #[.int .i64 0, .int .i64 0] 217); rwa [World.size_alloc] at this
      change Calls _ _ _ (((w1.alloc (.cells #[.int .i64 g0, .int .i64 b0, .int .i64 p0, .int .i64 q0, .slice Ax0 xs0.length cx0, .slice Am0 ms0.length cm0] 30)).alloc (.cells #[.int .i64 g1, .int .i64 b1, .int .i64 p1, .int .i64 q1, .slice Ax1 xs1.length cx1, .slice Am1 ms1.length cm1] 30)).alloc (.cells #[.int .i64 0, .int .i64 0] 217)) _
      generalize (((w1.alloc (.cells #[.int .i64 g0, .int .i64 b0, .int .i64 p0, .int .i64 q0, .slice Ax0 xs0.length cx0, .slice Am0 ms0.length cm0] 30)).alloc (.cells #[.int .i64 g1, .int .i64 b1, .int .i64 p1, .int .i64 q1, .slice Ax1 xs1.length cx1, .slice Am1 ms1.length cm1] 30)).alloc (.cells #[.int .i64 0, .int .i64 0] 217)) = w3 at *
      refine (as_nil _ _).mono ?_
      rintro e w' ⟨rfl, hw'⟩
      rw [hw']
      clear hw'
      obtain ⟨m0, m1, m2, m3, m4, m5⟩ := bA.d6
      obtain ⟨r0, r1, r2, r3, r4, r5⟩ := bB.d6
      have hltA := bA.lt
      have hltB := bB.lt
      have hlt3 := b3.lt
      by_cases hgt : g0 < g1
      · have hd : decide (g0 < g1) = true := decide_eq_true hgt
        have HN : Hid (newU (rdU (readP ss ws 0)) (rdU (readP ss ws 1)) = some ((g1, b1, p1, q1, xs1, ms1), 1)) := Lib.hid (by rw [HU0.out, HU1.out]; show (if g0 < g1 then _ else _) = _; rw [if_pos hgt])
        clear hgt
        obtain ⟨u0, u1, u2, u3, u4, u5⟩ := b3.d6
        have f0 := b3.frozen 0
        have f1 := b3.frozen 1
        have f2 := b3.frozen 2
        have f3 := b3.frozen 3
        have f4 := b3.frozen 4
        have f5 := b3.frozen 5
        go_wp2
        have qx := (put6_box b3 (.int .i64 g1) (.int .i64 b1) (.int .i64 p1) (.int .i64 q1) (.slice Ax1 xs1.length cx1) (.slice Am1 ms1.length cm1))
        have hnf := (put6_nx hx3 (hgR) (.int .i64 g1) (.int .i64 b1) (.int .i64 p1) (.int .i64 q1) (.slice Ax1 xs1.length cx1) (.slice Am1 ms1.length cm1))
        have hsf := (hS1c.pt6 hltW (.int .i64 g1) (.int .i64 b1) (.int .i64 p1) (.int .i64 q1) (.slice Ax1 xs1.length cx1) (.slice Am1 ms1.length cm1))
        change Sl (put6 w3 gR (.int .i64 g1) (.int .i64 b1) (.int .i64 p1) (.int .i64 q1) (.slice Ax1 xs1.length cx1) (.slice Am1 ms1.length cm1)) _ _ _ _ _ at hsf
        have hmf := (hM1c.pt6 hltW (.int .i64 g1) (.int .i64 b1) (.int .i64 p1) (.int .i64 q1) (.slice Ax1 xs1.length cx1) (.slice Am1 ms1.length cm1))
        change Sl (put6 w3 gR (.int .i64 g1) (.int .i64 b1) (.int .i64 p1) (.int .i64 q1) (.slice Ax1 xs1.length cx1) (.slice Am1 ms1.length cm1)) _ _ _ _ _ at hmf
        change bodyPost _ _ _ _ _ (put6 w3 gR (.int .i64 g1) (.int .i64 b1) (.int .i64 p1) (.int .i64 q1) (.slice Ax1 xs1.length cx1) (.slice Am1 ms1.length cm1))
        change Box (put6 w3 gR (.int .i64 g1) (.int .i64 b1) (.int .i64 p1) (.int .i64 q1) (.slice Ax1 xs1.length cx1) (.slice Am1 ms1.length cm1)) _ _ _ at qx
        generalize put6 w3 gR (.int .i64 g1) (.int .i64 b1) (.int .i64 p1) (.int .i64 q1) (.slice Ax1 xs1.length cx1) (.slice Am1 ms1.length cm1) = Wf at *
        obtain ⟨hmf0, hmf1, hmf2, hmf3, hmf4, hmf5⟩ := qx.d6
        exact bodyPost_ret (v := .tuple #[.agg #[.int .i64 g1, .int .i64 b1, .int .i64 p1, .int .i64 q1, .slice Ax1 xs1.length cx1, .slice Am1 ms1.length cm1], .int .i64 1, .nilIface]) (by simp [results, Tryz.results116, go_sem, hmf0, hmf1, hmf2, hmf3, hmf4, hmf5]) rfl (RetNS.yes (u := (g1, b1, p1, q1, xs1, ms1)) HN.out HCC1.out (hsf.low (by omega)) (hmf.low (by omega)) hnf)
      · have hd : decide (g0 < g1) = false := decide_eq_false hgt
        have HN : Hid (newU (rdU (readP ss ws 0)) (rdU (readP ss ws 1)) = some ((g0, b0, p0, q0, xs0, ms0), 0)) := Lib.hid (by rw [HU0.out, HU1.out]; show (if g0 < g1 then _ else _) = _; rw [if_neg hgt])
        clear hgt
        obtain ⟨u0, u1, u2, u3, u4, u5⟩ := b3.d6
        have f0 := b3.frozen 0
        have f1 := b3.frozen 1
        have f2 := b3.frozen 2
        have f3 := b3.frozen 3
        have f4 := b3.frozen 4
        have f5 := b3.frozen 5
        go_wp2
        have qx := (put6_box b3 (.int .i64 g0) (.int .i64 b0) (.int .i64 p0) (.int .i64 q0) (.slice Ax0 xs0.length cx0) (.slice Am0 ms0.length cm0))
        have hnf := (put6_nx hx3 (hgR) (.int .i64 g0) (.int .i64 b0) (.int .i64 p0) (.int .i64 q0) (.slice Ax0 xs0.length cx0) (.slice Am0 ms0.length cm0))
        have hsf := (hS0c.pt6 hltW (.int .i64 g0) (.int .i64 b0) (.int .i64 p0) (.int .i64 q0) (.slice Ax0 xs0.length cx0) (.slice Am0 ms0.length cm0))
        change Sl (put6 w3 gR (.int .i64 g0) (.int .i64 b0) (.int .i64 p0) (.int .i64 q0) (.slice Ax0 xs0.length cx0) (.slice Am0 ms0.length cm0)) _ _ _ _ _ at hsf
        have hmf := (hM0c.pt6 hltW (.int .i64 g0) (.int .i64 b0) (.int .i64 p0) (.int .i64 q0) (.slice Ax0 xs0.length cx0) (.slice Am0 ms0.length cm0))
        change Sl (put6 w3 gR (.int .i64 g0) (.int .i64 b0) (.int .i64 p0) (.int .i64 q0) (.slice Ax0 xs0.length cx0) (.slice Am0 ms0.length cm0)) _ _ _ _ _ at hmf
        change bodyPost _ _ _ _ _ (put6 w3 gR (.int .i64 g0) (.int .i64 b0) (.int .i64 p0) (.int .i64 q0) (.slice Ax0 xs0.length cx0) (.slice Am0 ms0.length cm0))
        change Box (put6 w3 gR (.int .i64 g0) (.int .i64 b0) (.int .i64 p0) (.int .i64 q0) (.slice Ax0 xs0.length cx0) (.slice Am0 ms0.length cm0)) _ _ _ at qx
        generalize put6 w3 gR (.int .i64 g0) (.int .i64 b0) (.int .i64 p0) (.int .i64 q0) (.slice Ax0 xs0.length cx0) (.slice Am0 ms0.length cm0) = Wf at *
        obtain ⟨hmf0, hmf1, hmf2, hmf3, hmf4, hmf5⟩ := qx.d6
        exact bodyPost_ret (v := .tuple #[.agg #[.int .i64 g0, .int .i64 b0, .int .i64 p0, .int .i64 q0, .slice Ax0 xs0.length cx0, .slice Am0 ms0.length cm0], .int .i64 0, .nilIface]) (by simp [results, Tryz.results116, go_sem, hmf0, hmf1, hmf2, hmf3, hmf4, hmf5]) rfl (RetNS.yes (u := (g0, b0, p0, q0, xs0, ms0)) HN.out HCC0.out (hsf.low (by omega)) (hmf.low (by omega)) hnf)
end Go.Proofs.YtehahodomfbpjaaGreatDoor
/- Contract of the model's l04Newest. Conditions: the disk can be read; the slots' texts have at most 65536 bytes. -/
namespace Go.Proofs.YtehahodomfbpjaaGreatDoor
set_option linter.unusedVariables false
set_option maxRecDepth 100000
open Go.RowKit

def RetLN (w : World) (o : Option (U6 × Int)) (e : Ending) (w' : World) : Prop :=
  Nx w w' ∧ (o = none → e = .returned (.tuple #[.agg #[.int .i64 0, .int .i64 0, .int .i64 0, .int .i64 0, .slice none 0 0, .slice none 0 0], .int .i64 (-1)])) ∧ ∀ u s, o = some (u, s) → ∃ A c A2 c2, e = .returned (.tuple #[vU u A c A2 c2, .int .i64 s]) ∧ FitU w' w.heap.size u A c A2
theorem RetLN.no {w w' : World} {o : Option (U6 × Int)} (h : o = none) (hn : Nx w w') : RetLN w o (.returned (.tuple #[.agg #[.int .i64 0, .int .i64 0, .int .i64 0, .int .i64 0, .slice none 0 0, .slice none 0 0], .int .i64 (-1)])) w' :=
  ⟨hn, fun _ => rfl, fun u s h2 => by rw [h] at h2; cases h2⟩
theorem RetLN.yes {w w' : World} {o : Option (U6 × Int)} {u : U6} {s : Int} {A A2 : Option Addr} {c c2 : Nat} (h : o = some (u, s)) (hc : u.2.2.2.2.1.length ≤ c) (hs : SlI w' w.heap.size A u.2.2.2.2.1) (hm : SlM w' w.heap.size A2 u.2.2.2.2.2) (hn : Nx w w') :
    RetLN w o (.returned (.tuple #[vU u A c A2 c2, .int .i64 s])) w' :=
  ⟨hn, (fun h2 => by rw [h] at h2; cases h2), fun u' s' h2 => by rw [h] at h2; cases h2; exact ⟨A, c, A2, c2, rfl, hc, hs, hm⟩⟩
set_option maxHeartbeats 1600000 in
theorem l04Newest_c (A A2 : Option Addr) (n c n2 c2 B : Nat) (ss : List ByteArray) (ws : List (Int × ByteArray)) (w : World) (h : Strs w B A n ss) (h2 : Wrs w B A2 n2 ws) (hB : B ≤ w.heap.size) (ha : 1 < n) (hn : n ≤ 1048576) (hn2 : n2 ≤ 1048576) (hr0 : (readP ss ws 0).size ≤ 65536) (hr1 : (readP ss ws 1).size ≤ 65536) :
    Calls Tryz.prog 119 #[.agg #[.slice A n c, .slice A2 n2 c2]] w (RetLN w (newU (rdU (readP ss ws 0)) (rdU (readP ss ws 1)))) := by
  have b0 : Box ((w.alloc (.cells #[.slice A n c, .slice A2 n2 c2] 38)).alloc (.cells #[.int .i64 0, .int .i64 0, .int .i64 0, .int .i64 0, .slice none 0 0, .slice none 0 0] 30)) (w.heap.size + 1) 30 #[.int .i64 0, .int .i64 0, .int .i64 0, .int .i64 0, .slice none 0 0, .slice none 0 0] := by have := Box.new (w.alloc (.cells #[.slice A n c, .slice A2 n2 c2] 38)) 30 #[.int .i64 0, .int .i64 0, .int .i64 0, .int .i64 0, .slice none 0 0, .slice none 0 0]; rwa [World.size_alloc] at this
  have e0 : Box ((w.alloc (.cells #[.slice A n c, .slice A2 n2 c2] 38)).alloc (.cells #[.int .i64 0, .int .i64 0, .int .i64 0, .int .i64 0, .slice none 0 0, .slice none 0 0] 30)) w.heap.size 38 #[.slice A n c, .slice A2 n2 c2] := (Box.new w _ _).alloc _
  have hx0 := ((Nx.refl w).alloc (.cells #[.slice A n c, .slice A2 n2 c2] 38)).alloc (.cells #[.int .i64 0, .int .i64 0, .int .i64 0, .int .i64 0, .slice none 0 0, .slice none 0 0] 30)
  go_enter Tryz.func119, Tryz.ntmps119
  go_wp2_with fail
  generalize (w.alloc (.cells #[.slice A n c, .slice A2 n2 c2] 38)).alloc (.cells #[.int .i64 0, .int .i64 0, .int .i64 0, .int .i64 0, .slice none 0 0, .slice none 0 0] 30) = W at *
  obtain ⟨gR, Hg⟩ : ∃ g, Hid (w.heap.size + 1 = g) := ⟨_, rfl⟩
  have hgR : w.heap.size ≤ gR := by have := Hg.out; omega
  rw [Hg.out] at b0 ⊢
  have hltW := b0.lt
  have bW := b0
  have eW := e0
  refine (l01Read_c A A2 n c n2 c2 B 0 ss ws _ (h.below hx0 hB) (h2.below hx0 hB) (Nat.le_trans hB hx0.size) (by omega) hn hn2).mono ?_
  rintro e x0w ⟨rfl, hnx0⟩
  have hx0a := hx0.trans hnx0
  go_wp2_with fail
  refine (l04Read_c (readP ss ws 0) _ hr0).mono ?_
  rintro e y0 ⟨hny0, h1, h2'⟩
  have hx0b := hx0a.trans hny0
  have z0 := (eW.nx (hnx0.trans hny0)).c0
  have z1 := (eW.nx (hnx0.trans hny0)).c1
  have hltz := (eW.nx (hnx0.trans hny0)).lt
  clear b0 e0
  cases hu0 : rdU (readP ss ws 0) with
  | none =>
    obtain rfl := h1 hu0
    have HU0 := Lib.hid hu0
    clear h1 h2' hu0
    go_wp2_with fail
    have bA := Box.new y0 30 #[.int .i64 0, .int .i64 0, .int .i64 0, .int .i64 0, .slice none 0 0, .slice none 0 0]
    have hzA := (Nx.refl y0).alloc (.cells #[.int .i64 0, .int .i64 0, .int .i64 0, .int .i64 0, .slice none 0 0, .slice none 0 0] 30)
    have bR := (bW.nx (hnx0.trans hny0)).nx hzA
    have eR := (eW.nx (hnx0.trans hny0)).nx hzA
    have hxA := hx0b.trans hzA
    change Calls _ _ _ (y0.alloc (.cells #[.int .i64 0, .int .i64 0, .int .i64 0, .int .i64 0, .slice none 0 0, .slice none 0 0] 30)) _
    generalize y0.alloc (.cells #[.int .i64 0, .int .i64 0, .int .i64 0, .int .i64 0, .slice none 0 0, .slice none 0 0] 30) = wA at *
    obtain ⟨gA, HgA⟩ : ∃ g, Hid (y0.heap.size = g) := ⟨_, rfl⟩
    rw [HgA.out] at bA ⊢
    have hgA : gR < gA := by have := HgA.out; have := (bW.nx (hnx0.trans hny0)).lt; omega
    refine (l01Read_c A A2 n c n2 c2 B 1 ss ws _ (h.below hxA hB) (h2.below hxA hB) (Nat.le_trans hB hxA.size) (by omega) hn hn2).mono ?_
    rintro e x1w ⟨rfl, hnx1⟩
    have hx1a := hxA.trans hnx1
    go_wp2_with fail
    refine (l04Read_c (readP ss ws 1) _ hr1).mono ?_
    rintro e y1 ⟨hny1, h1, h2'⟩
    have hx1b := hx1a.trans hny1
    cases hu1 : rdU (readP ss ws 1) with
    | none =>
      obtain rfl := h1 hu1
      have HU1 := Lib.hid hu1
      clear h1 h2' hu1
      have bA1 := bA.nx (hnx1.trans hny1)
      have bR1 := bR.nx (hnx1.trans hny1)
      have hxB := hx1b
      have hltx0 : gR < x0w.heap.size := (bW.nx hnx0).lt
      have hltx1 : gR < x1w.heap.size := (bR.nx hnx1).lt
      have hltA1 := bA1.lt
      have hltR1 := bR1.lt
      have hszx := hnx1.size
      have hszy := hxA.size
      obtain ⟨m0, m1, m2, m3, m4, m5⟩ := bA1.d6
      have HN : Hid (newU (rdU (readP ss ws 0)) (rdU (readP ss ws 1)) = none) := Lib.hid (by rw [HU0.out, HU1.out]; rfl)
      obtain ⟨u0, u1, u2, u3, u4, u5⟩ := bR1.d6
      have f0 := bR1.frozen 0
      have f1 := bR1.frozen 1
      have f2 := bR1.frozen 2
      have f3 := bR1.frozen 3
      have f4 := bR1.frozen 4
      have f5 := bR1.frozen 5
      go_wp2
      have qx := ((put6_box bR1 (.int .i64 0) (.int .i64 0) (.int .i64 0) (.int .i64 0) (.slice none 0 0) (.slice none 0 0)).alloc (.cells #[.int .i64 0, .int .i64 0, .int .i64 0, .int .i64 0, .slice none 0 0, .slice none 0 0] 30))
      have hnf := ((put6_nx hxB (hgR) (.int .i64 0) (.int .i64 0) (.int .i64 0) (.int .i64 0) (.slice none 0 0) (.slice none 0 0)).alloc (.cells #[.int .i64 0, .int .i64 0, .int .i64 0, .int .i64 0, .slice none 0 0, .slice none 0 0] 30))
      change bodyPost _ _ _ _ _ (World.alloc (put6 y1 gR (.int .i64 0) (.int .i64 0) (.int .i64 0) (.int .i64 0) (.slice none 0 0) (.slice none 0 0)) (.cells #[.int .i64 0, .int .i64 0, .int .i64 0, .int .i64 0, .slice none 0 0, .slice none 0 0] 30))
      change Box (World.alloc (put6 y1 gR (.int .i64 0) (.int .i64 0) (.int .i64 0) (.int .i64 0) (.slice none 0 0) (.slice none 0 0)) (.cells #[.int .i64 0, .int .i64 0, .int .i64 0, .int .i64 0, .slice none 0 0, .slice none 0 0] 30)) _ _ _ at qx
      generalize World.alloc (put6 y1 gR (.int .i64 0) (.int .i64 0) (.int .i64 0) (.int .i64 0) (.slice none 0 0) (.slice none 0 0)) (.cells #[.int .i64 0, .int .i64 0, .int .i64 0, .int .i64 0, .slice none 0 0, .slice none 0 0] 30) = Wf at *
      obtain ⟨cq0, cq1, cq2, cq3, cq4, cq5⟩ := qx.d6
      exact bodyPost_ret (v := .tuple #[.agg #[.int .i64 0, .int .i64 0, .int .i64 0, .int .i64 0, .slice none 0 0, .slice none 0 0], .int .i64 (-1)]) (by simp [results, Tryz.results119, go_sem, cq0, cq1, cq2, cq3, cq4, cq5]) rfl (RetLN.no HN.out hnf)
    | some u =>
      obtain ⟨g1, b1, p1, q1, xs1, ms1⟩ := u
      obtain ⟨Ax1, cx1, Am1, cm1, he, hcc, hS1, hM1⟩ := h2' _ hu1
      replace he : e = .returned (.tuple #[.agg #[.int .i64 g1, .int .i64 b1, .int .i64 p1, .int .i64 q1, .slice Ax1 xs1.length cx1, .slice Am1 ms1.length cm1], .bool true]) := he
      replace hS1 : SlI y1 x1w.heap.size Ax1 xs1 := hS1
      replace hM1 : SlM y1 x1w.heap.size Am1 ms1 := hM1
      have HCC1 : Hid (xs1.length ≤ cx1) := Lib.hid hcc
      have HU1 := Lib.hid hu1
      subst he
      clear h1 h2' hu1 hcc
      have bA1 := bA.nx (hnx1.trans hny1)
      have bR1 := bR.nx (hnx1.trans hny1)
      have hxB := hx1b
      have hS1B := hS1
      have hM1B := hM1
      have hltx0 : gR < x0w.heap.size := (bW.nx hnx0).lt
      have hltx1 : gR < x1w.heap.size := (bR.nx hnx1).lt
      have hltA1 := bA1.lt
      have hltR1 := bR1.lt
      have hszx := hnx1.size
      have hszy := hxA.size
      obtain ⟨m0, m1, m2, m3, m4, m5⟩ := bA1.d6
      have HN : Hid (newU (rdU (readP ss ws 0)) (rdU (readP ss ws 1)) = some ((g1, b1, p1, q1, xs1, ms1), 1)) := Lib.hid (by rw [HU0.out, HU1.out]; rfl)
      obtain ⟨u0, u1, u2, u3, u4, u5⟩ := bR1.d6
      have f0 := bR1.frozen 0
      have f1 := bR1.frozen 1
      have f2 := bR1.frozen 2
      have f3 := bR1.frozen 3
      have f4 := bR1.frozen 4
      have f5 := bR1.frozen 5
      go_wp2
      have qx := ((put6_box bR1 (.int .i64 g1) (.int .i64 b1) (.int .i64 p1) (.int .i64 q1) (.slice Ax1 xs1.length cx1) (.slice Am1 ms1.length cm1)).alloc (.cells #[.int .i64 g1, .int .i64 b1, .int .i64 p1, .int .i64 q1, .slice Ax1 xs1.length cx1, .slice Am1 ms1.length cm1] 30))
      have hnf := ((put6_nx hxB (hgR) (.int .i64 g1) (.int .i64 b1) (.int .i64 p1) (.int .i64 q1) (.slice Ax1 xs1.length cx1) (.slice Am1 ms1.length cm1)).alloc (.cells #[.int .i64 g1, .int .i64 b1, .int .i64 p1, .int .i64 q1, .slice Ax1 xs1.length cx1, .slice Am1 ms1.length cm1] 30))
      have hsf := ((hS1B.pt6 hltx1 (.int .i64 g1) (.int .i64 b1) (.int .i64 p1) (.int .i64 q1) (.slice Ax1 xs1.length cx1) (.slice Am1 ms1.length cm1)).nx ((Nx.refl _).alloc (.cells #[.int .i64 g1, .int .i64 b1, .int .i64 p1, .int .i64 q1, .slice Ax1 xs1.length cx1, .slice Am1 ms1.length cm1] 30)))
      change Sl (World.alloc (put6 y1 gR (.int .i64 g1) (.int .i64 b1) (.int .i64 p1) (.int .i64 q1) (.slice Ax1 xs1.length cx1) (.slice Am1 ms1.length cm1)) (.cells #[.int .i64 g1, .int .i64 b1, .int .i64 p1, .int .i64 q1, .slice Ax1 xs1.length cx1, .slice Am1 ms1.length cm1] 30)) _ _ _ _ _ at hsf
      have hmf := ((hM1B.pt6 hltx1 (.int .i64 g1) (.int .i64 b1) (.int .i64 p1) (.int .i64 q1) (.slice Ax1 xs1.length cx1) (.slice Am1 ms1.length cm1)).nx ((Nx.refl _).alloc (.cells #[.int .i64 g1, .int .i64 b1, .int .i64 p1, .int .i64 q1, .slice Ax1 xs1.length cx1, .slice Am1 ms1.length cm1] 30)))
      change Sl (World.alloc (put6 y1 gR (.int .i64 g1) (.int .i64 b1) (.int .i64 p1) (.int .i64 q1) (.slice Ax1 xs1.length cx1) (.slice Am1 ms1.length cm1)) (.cells #[.int .i64 g1, .int .i64 b1, .int .i64 p1, .int .i64 q1, .slice Ax1 xs1.length cx1, .slice Am1 ms1.length cm1] 30)) _ _ _ _ _ at hmf
      change bodyPost _ _ _ _ _ (World.alloc (put6 y1 gR (.int .i64 g1) (.int .i64 b1) (.int .i64 p1) (.int .i64 q1) (.slice Ax1 xs1.length cx1) (.slice Am1 ms1.length cm1)) (.cells #[.int .i64 g1, .int .i64 b1, .int .i64 p1, .int .i64 q1, .slice Ax1 xs1.length cx1, .slice Am1 ms1.length cm1] 30))
      change Box (World.alloc (put6 y1 gR (.int .i64 g1) (.int .i64 b1) (.int .i64 p1) (.int .i64 q1) (.slice Ax1 xs1.length cx1) (.slice Am1 ms1.length cm1)) (.cells #[.int .i64 g1, .int .i64 b1, .int .i64 p1, .int .i64 q1, .slice Ax1 xs1.length cx1, .slice Am1 ms1.length cm1] 30)) _ _ _ at qx
      generalize World.alloc (put6 y1 gR (.int .i64 g1) (.int .i64 b1) (.int .i64 p1) (.int .i64 q1) (.slice Ax1 xs1.length cx1) (.slice Am1 ms1.length cm1)) (.cells #[.int .i64 g1, .int .i64 b1, .int .i64 p1, .int .i64 q1, .slice Ax1 xs1.length cx1, .slice Am1 ms1.length cm1] 30) = Wf at *
      obtain ⟨hmf0, hmf1, hmf2, hmf3, hmf4, hmf5⟩ := qx.d6
      exact bodyPost_ret (v := .tuple #[.agg #[.int .i64 g1, .int .i64 b1, .int .i64 p1, .int .i64 q1, .slice Ax1 xs1.length cx1, .slice Am1 ms1.length cm1], .int .i64 1]) (by simp [results, Tryz.results119, go_sem, hmf0, hmf1, hmf2, hmf3, hmf4, hmf5]) rfl (RetLN.yes (u := (g1, b1, p1, q1, xs1, ms1)) HN.out HCC1.out (hsf.low (by omega)) (hmf.low (by omega)) hnf)
  | some u =>
    obtain ⟨g0, b0, p0, q0, xs0, ms0⟩ := u
    obtain ⟨Ax0, cx0, Am0, cm0, he, hcc, hS0, hM0⟩ := h2' _ hu0
    replace he : e = .returned (.tuple #[.agg #[.int .i64 g0, .int .i64 b0, .int .i64 p0, .int .i64 q0, .slice Ax0 xs0.length cx0, .slice Am0 ms0.length cm0], .bool true]) := he
    replace hS0 : SlI y0 x0w.heap.size Ax0 xs0 := hS0
    replace hM0 : SlM y0 x0w.heap.size Am0 ms0 := hM0
    have HCC0 : Hid (xs0.length ≤ cx0) := Lib.hid hcc
    have HU0 := Lib.hid hu0
    subst he
    clear h1 h2' hu0 hcc
    go_wp2_with fail
    have bA := Box.new y0 30 #[.int .i64 g0, .int .i64 b0, .int .i64 p0, .int .i64 q0, .slice Ax0 xs0.length cx0, .slice Am0 ms0.length cm0]
    have hzA := (Nx.refl y0).alloc (.cells #[.int .i64 g0, .int .i64 b0, .int .i64 p0, .int .i64 q0, .slice Ax0 xs0.length cx0, .slice Am0 ms0.length cm0] 30)
    have bR := (bW.nx (hnx0.trans hny0)).nx hzA
    have eR := (eW.nx (hnx0.trans hny0)).nx hzA
    have hxA := hx0b.trans hzA
    have hS0A := hS0.nx hzA
    have hM0A := hM0.nx hzA
    change Calls _ _ _ (y0.alloc (.cells #[.int .i64 g0, .int .i64 b0, .int .i64 p0, .int .i64 q0, .slice Ax0 xs0.length cx0, .slice Am0 ms0.length cm0] 30)) _
    generalize y0.alloc (.cells #[.int .i64 g0, .int .i64 b0, .int .i64 p0, .int .i64 q0, .slice Ax0 xs0.length cx0, .slice Am0 ms0.length cm0] 30) = wA at *
    obtain ⟨gA, HgA⟩ : ∃ g, Hid (y0.heap.size = g) := ⟨_, rfl⟩
    rw [HgA.out] at bA ⊢
    have hgA : gR < gA := by have := HgA.out; have := (bW.nx (hnx0.trans hny0)).lt; omega
    refine (l01Read_c A A2 n c n2 c2 B 1 ss ws _ (h.below hxA hB) (h2.below hxA hB) (Nat.le_trans hB hxA.size) (by omega) hn hn2).mono ?_
    rintro e x1w ⟨rfl, hnx1⟩
    have hx1a := hxA.trans hnx1
    go_wp2_with fail
    refine (l04Read_c (readP ss ws 1) _ hr1).mono ?_
    rintro e y1 ⟨hny1, h1, h2'⟩
    have hx1b := hx1a.trans hny1
    cases hu1 : rdU (readP ss ws 1) with
    | none =>
      obtain rfl := h1 hu1
      have HU1 := Lib.hid hu1
      clear h1 h2' hu1
      have bA1 := bA.nx (hnx1.trans hny1)
      have bR1 := bR.nx (hnx1.trans hny1)
      have hxB := hx1b
      have hS0B := hS0A.nx (hnx1.trans hny1)
      have hM0B := hM0A.nx (hnx1.trans hny1)
      have hltx0 : gR < x0w.heap.size := (bW.nx hnx0).lt
      have hltx1 : gR < x1w.heap.size := (bR.nx hnx1).lt
      have hltA1 := bA1.lt
      have hltR1 := bR1.lt
      have hszx := hnx1.size
      have hszy := hxA.size
      obtain ⟨m0, m1, m2, m3, m4, m5⟩ := bA1.d6
      have HN : Hid (newU (rdU (readP ss ws 0)) (rdU (readP ss ws 1)) = some ((g0, b0, p0, q0, xs0, ms0), 0)) := Lib.hid (by rw [HU0.out, HU1.out]; rfl)
      obtain ⟨u0, u1, u2, u3, u4, u5⟩ := bR1.d6
      have f0 := bR1.frozen 0
      have f1 := bR1.frozen 1
      have f2 := bR1.frozen 2
      have f3 := bR1.frozen 3
      have f4 := bR1.frozen 4
      have f5 := bR1.frozen 5
      go_wp2
      have qx := ((put6_box bR1 (.int .i64 g0) (.int .i64 b0) (.int .i64 p0) (.int .i64 q0) (.slice Ax0 xs0.length cx0) (.slice Am0 ms0.length cm0)).alloc (.cells #[.int .i64 0, .int .i64 0, .int .i64 0, .int .i64 0, .slice none 0 0, .slice none 0 0] 30))
      have hnf := ((put6_nx hxB (hgR) (.int .i64 g0) (.int .i64 b0) (.int .i64 p0) (.int .i64 q0) (.slice Ax0 xs0.length cx0) (.slice Am0 ms0.length cm0)).alloc (.cells #[.int .i64 0, .int .i64 0, .int .i64 0, .int .i64 0, .slice none 0 0, .slice none 0 0] 30))
      have hsf := ((hS0B.pt6 hltx0 (.int .i64 g0) (.int .i64 b0) (.int .i64 p0) (.int .i64 q0) (.slice Ax0 xs0.length cx0) (.slice Am0 ms0.length cm0)).nx ((Nx.refl _).alloc (.cells #[.int .i64 0, .int .i64 0, .int .i64 0, .int .i64 0, .slice none 0 0, .slice none 0 0] 30)))
      change Sl (World.alloc (put6 y1 gR (.int .i64 g0) (.int .i64 b0) (.int .i64 p0) (.int .i64 q0) (.slice Ax0 xs0.length cx0) (.slice Am0 ms0.length cm0)) (.cells #[.int .i64 0, .int .i64 0, .int .i64 0, .int .i64 0, .slice none 0 0, .slice none 0 0] 30)) _ _ _ _ _ at hsf
      have hmf := ((hM0B.pt6 hltx0 (.int .i64 g0) (.int .i64 b0) (.int .i64 p0) (.int .i64 q0) (.slice Ax0 xs0.length cx0) (.slice Am0 ms0.length cm0)).nx ((Nx.refl _).alloc (.cells #[.int .i64 0, .int .i64 0, .int .i64 0, .int .i64 0, .slice none 0 0, .slice none 0 0] 30)))
      change Sl (World.alloc (put6 y1 gR (.int .i64 g0) (.int .i64 b0) (.int .i64 p0) (.int .i64 q0) (.slice Ax0 xs0.length cx0) (.slice Am0 ms0.length cm0)) (.cells #[.int .i64 0, .int .i64 0, .int .i64 0, .int .i64 0, .slice none 0 0, .slice none 0 0] 30)) _ _ _ _ _ at hmf
      change bodyPost _ _ _ _ _ (World.alloc (put6 y1 gR (.int .i64 g0) (.int .i64 b0) (.int .i64 p0) (.int .i64 q0) (.slice Ax0 xs0.length cx0) (.slice Am0 ms0.length cm0)) (.cells #[.int .i64 0, .int .i64 0, .int .i64 0, .int .i64 0, .slice none 0 0, .slice none 0 0] 30))
      change Box (World.alloc (put6 y1 gR (.int .i64 g0) (.int .i64 b0) (.int .i64 p0) (.int .i64 q0) (.slice Ax0 xs0.length cx0) (.slice Am0 ms0.length cm0)) (.cells #[.int .i64 0, .int .i64 0, .int .i64 0, .int .i64 0, .slice none 0 0, .slice none 0 0] 30)) _ _ _ at qx
      generalize World.alloc (put6 y1 gR (.int .i64 g0) (.int .i64 b0) (.int .i64 p0) (.int .i64 q0) (.slice Ax0 xs0.length cx0) (.slice Am0 ms0.length cm0)) (.cells #[.int .i64 0, .int .i64 0, .int .i64 0, .int .i64 0, .slice none 0 0, .slice none 0 0] 30) = Wf at *
      obtain ⟨hmf0, hmf1, hmf2, hmf3, hmf4, hmf5⟩ := qx.d6
      exact bodyPost_ret (v := .tuple #[.agg #[.int .i64 g0, .int .i64 b0, .int .i64 p0, .int .i64 q0, .slice Ax0 xs0.length cx0, .slice Am0 ms0.length cm0], .int .i64 0]) (by simp [results, Tryz.results119, go_sem, hmf0, hmf1, hmf2, hmf3, hmf4, hmf5]) rfl (RetLN.yes (u := (g0, b0, p0, q0, xs0, ms0)) HN.out HCC0.out (hsf.low (by omega)) (hmf.low (by omega)) hnf)
    | some u =>
      obtain ⟨g1, b1, p1, q1, xs1, ms1⟩ := u
      obtain ⟨Ax1, cx1, Am1, cm1, he, hcc, hS1, hM1⟩ := h2' _ hu1
      replace he : e = .returned (.tuple #[.agg #[.int .i64 g1, .int .i64 b1, .int .i64 p1, .int .i64 q1, .slice Ax1 xs1.length cx1, .slice Am1 ms1.length cm1], .bool true]) := he
      replace hS1 : SlI y1 x1w.heap.size Ax1 xs1 := hS1
      replace hM1 : SlM y1 x1w.heap.size Am1 ms1 := hM1
      have HCC1 : Hid (xs1.length ≤ cx1) := Lib.hid hcc
      have HU1 := Lib.hid hu1
      subst he
      clear h1 h2' hu1 hcc
      have bA1 := bA.nx (hnx1.trans hny1)
      have bR1 := bR.nx (hnx1.trans hny1)
      have hxB := hx1b
      have hS0B := hS0A.nx (hnx1.trans hny1)
      have hM0B := hM0A.nx (hnx1.trans hny1)
      have hS1B := hS1
      have hM1B := hM1
      have hltx0 : gR < x0w.heap.size := (bW.nx hnx0).lt
      have hltx1 : gR < x1w.heap.size := (bR.nx hnx1).lt
      have hltA1 := bA1.lt
      have hltR1 := bR1.lt
      have hszx := hnx1.size
      have hszy := hxA.size
      obtain ⟨m0, m1, m2, m3, m4, m5⟩ := bA1.d6
      by_cases hgt : g0 < g1
      · have hd : decide (g1 ≤ g0) = false := decide_eq_false (by omega)
        have HN : Hid (newU (rdU (readP ss ws 0)) (rdU (readP ss ws 1)) = some ((g1, b1, p1, q1, xs1, ms1), 1)) := Lib.hid (by rw [HU0.out, HU1.out]; show (if g0 < g1 then _ else _) = _; rw [if_pos hgt])
        obtain ⟨u0, u1, u2, u3, u4, u5⟩ := bR1.d6
        have f0 := bR1.frozen 0
        have f1 := bR1.frozen 1
        have f2 := bR1.frozen 2
        have f3 := bR1.frozen 3
        have f4 := bR1.frozen 4
        have f5 := bR1.frozen 5
        go_wp2
        have qx := ((put6_box bR1 (.int .i64 g1) (.int .i64 b1) (.int .i64 p1) (.int .i64 q1) (.slice Ax1 xs1.length cx1) (.slice Am1 ms1.length cm1)).alloc (.cells #[.int .i64 g1, .int .i64 b1, .int .i64 p1, .int .i64 q1, .slice Ax1 xs1.length cx1, .slice Am1 ms1.length cm1] 30))
        have hnf := ((put6_nx hxB (hgR) (.int .i64 g1) (.int .i64 b1) (.int .i64 p1) (.int .i64 q1) (.slice Ax1 xs1.length cx1) (.slice Am1 ms1.length cm1)).alloc (.cells #[.int .i64 g1, .int .i64 b1, .int .i64 p1, .int .i64 q1, .slice Ax1 xs1.length cx1, .slice Am1 ms1.length cm1] 30))
        have hsf := ((hS1B.pt6 hltx1 (.int .i64 g1) (.int .i64 b1) (.int .i64 p1) (.int .i64 q1) (.slice Ax1 xs1.length cx1) (.slice Am1 ms1.length cm1)).nx ((Nx.refl _).alloc (.cells #[.int .i64 g1, .int .i64 b1, .int .i64 p1, .int .i64 q1, .slice Ax1 xs1.length cx1, .slice Am1 ms1.length cm1] 30)))
        change Sl (World.alloc (put6 y1 gR (.int .i64 g1) (.int .i64 b1) (.int .i64 p1) (.int .i64 q1) (.slice Ax1 xs1.length cx1) (.slice Am1 ms1.length cm1)) (.cells #[.int .i64 g1, .int .i64 b1, .int .i64 p1, .int .i64 q1, .slice Ax1 xs1.length cx1, .slice Am1 ms1.length cm1] 30)) _ _ _ _ _ at hsf
        have hmf := ((hM1B.pt6 hltx1 (.int .i64 g1) (.int .i64 b1) (.int .i64 p1) (.int .i64 q1) (.slice Ax1 xs1.length cx1) (.slice Am1 ms1.length cm1)).nx ((Nx.refl _).alloc (.cells #[.int .i64 g1, .int .i64 b1, .int .i64 p1, .int .i64 q1, .slice Ax1 xs1.length cx1, .slice Am1 ms1.length cm1] 30)))
        change Sl (World.alloc (put6 y1 gR (.int .i64 g1) (.int .i64 b1) (.int .i64 p1) (.int .i64 q1) (.slice Ax1 xs1.length cx1) (.slice Am1 ms1.length cm1)) (.cells #[.int .i64 g1, .int .i64 b1, .int .i64 p1, .int .i64 q1, .slice Ax1 xs1.length cx1, .slice Am1 ms1.length cm1] 30)) _ _ _ _ _ at hmf
        change bodyPost _ _ _ _ _ (World.alloc (put6 y1 gR (.int .i64 g1) (.int .i64 b1) (.int .i64 p1) (.int .i64 q1) (.slice Ax1 xs1.length cx1) (.slice Am1 ms1.length cm1)) (.cells #[.int .i64 g1, .int .i64 b1, .int .i64 p1, .int .i64 q1, .slice Ax1 xs1.length cx1, .slice Am1 ms1.length cm1] 30))
        change Box (World.alloc (put6 y1 gR (.int .i64 g1) (.int .i64 b1) (.int .i64 p1) (.int .i64 q1) (.slice Ax1 xs1.length cx1) (.slice Am1 ms1.length cm1)) (.cells #[.int .i64 g1, .int .i64 b1, .int .i64 p1, .int .i64 q1, .slice Ax1 xs1.length cx1, .slice Am1 ms1.length cm1] 30)) _ _ _ at qx
        generalize World.alloc (put6 y1 gR (.int .i64 g1) (.int .i64 b1) (.int .i64 p1) (.int .i64 q1) (.slice Ax1 xs1.length cx1) (.slice Am1 ms1.length cm1)) (.cells #[.int .i64 g1, .int .i64 b1, .int .i64 p1, .int .i64 q1, .slice Ax1 xs1.length cx1, .slice Am1 ms1.length cm1] 30) = Wf at *
        obtain ⟨hmf0, hmf1, hmf2, hmf3, hmf4, hmf5⟩ := qx.d6
        exact bodyPost_ret (v := .tuple #[.agg #[.int .i64 g1, .int .i64 b1, .int .i64 p1, .int .i64 q1, .slice Ax1 xs1.length cx1, .slice Am1 ms1.length cm1], .int .i64 1]) (by simp [results, Tryz.results119, go_sem, hmf0, hmf1, hmf2, hmf3, hmf4, hmf5]) rfl (RetLN.yes (u := (g1, b1, p1, q1, xs1, ms1)) HN.out HCC1.out (hsf.low (by omega)) (hmf.low (by omega)) hnf)
      · have hd : decide (g1 ≤ g0) = true := decide_eq_true (by omega)
        have HN : Hid (newU (rdU (readP ss ws 0)) (rdU (readP ss ws 1)) = some ((g0, b0, p0, q0, xs0, ms0), 0)) := Lib.hid (by rw [HU0.out, HU1.out]; show (if g0 < g1 then _ else _) = _; rw [if_neg hgt])
        obtain ⟨u0, u1, u2, u3, u4, u5⟩ := bR1.d6
        have f0 := bR1.frozen 0
        have f1 := bR1.frozen 1
        have f2 := bR1.frozen 2
        have f3 := bR1.frozen 3
        have f4 := bR1.frozen 4
        have f5 := bR1.frozen 5
        go_wp2
        have qx := ((put6_box bR1 (.int .i64 g0) (.int .i64 b0) (.int .i64 p0) (.int .i64 q0) (.slice Ax0 xs0.length cx0) (.slice Am0 ms0.length cm0)).alloc (.cells #[.int .i64 g1, .int .i64 b1, .int .i64 p1, .int .i64 q1, .slice Ax1 xs1.length cx1, .slice Am1 ms1.length cm1] 30))
        have hnf := ((put6_nx hxB (hgR) (.int .i64 g0) (.int .i64 b0) (.int .i64 p0) (.int .i64 q0) (.slice Ax0 xs0.length cx0) (.slice Am0 ms0.length cm0)).alloc (.cells #[.int .i64 g1, .int .i64 b1, .int .i64 p1, .int .i64 q1, .slice Ax1 xs1.length cx1, .slice Am1 ms1.length cm1] 30))
        have hsf := ((hS0B.pt6 hltx0 (.int .i64 g0) (.int .i64 b0) (.int .i64 p0) (.int .i64 q0) (.slice Ax0 xs0.length cx0) (.slice Am0 ms0.length cm0)).nx ((Nx.refl _).alloc (.cells #[.int .i64 g1, .int .i64 b1, .int .i64 p1, .int .i64 q1, .slice Ax1 xs1.length cx1, .slice Am1 ms1.length cm1] 30)))
        change Sl (World.alloc (put6 y1 gR (.int .i64 g0) (.int .i64 b0) (.int .i64 p0) (.int .i64 q0) (.slice Ax0 xs0.length cx0) (.slice Am0 ms0.length cm0)) (.cells #[.int .i64 g1, .int .i64 b1, .int .i64 p1, .int .i64 q1, .slice Ax1 xs1.length cx1, .slice Am1 ms1.length cm1] 30)) _ _ _ _ _ at hsf
        have hmf := ((hM0B.pt6 hltx0 (.int .i64 g0) (.int .i64 b0) (.int .i64 p0) (.int .i64 q0) (.slice Ax0 xs0.length cx0) (.slice Am0 ms0.length cm0)).nx ((Nx.refl _).alloc (.cells #[.int .i64 g1, .int .i64 b1, .int .i64 p1, .int .i64 q1, .slice Ax1 xs1.length cx1, .slice Am1 ms1.length cm1] 30)))
        change Sl (World.alloc (put6 y1 gR (.int .i64 g0) (.int .i64 b0) (.int .i64 p0) (.int .i64 q0) (.slice Ax0 xs0.length cx0) (.slice Am0 ms0.length cm0)) (.cells #[.int .i64 g1, .int .i64 b1, .int .i64 p1, .int .i64 q1, .slice Ax1 xs1.length cx1, .slice Am1 ms1.length cm1] 30)) _ _ _ _ _ at hmf
        change bodyPost _ _ _ _ _ (World.alloc (put6 y1 gR (.int .i64 g0) (.int .i64 b0) (.int .i64 p0) (.int .i64 q0) (.slice Ax0 xs0.length cx0) (.slice Am0 ms0.length cm0)) (.cells #[.int .i64 g1, .int .i64 b1, .int .i64 p1, .int .i64 q1, .slice Ax1 xs1.length cx1, .slice Am1 ms1.length cm1] 30))
        change Box (World.alloc (put6 y1 gR (.int .i64 g0) (.int .i64 b0) (.int .i64 p0) (.int .i64 q0) (.slice Ax0 xs0.length cx0) (.slice Am0 ms0.length cm0)) (.cells #[.int .i64 g1, .int .i64 b1, .int .i64 p1, .int .i64 q1, .slice Ax1 xs1.length cx1, .slice Am1 ms1.length cm1] 30)) _ _ _ at qx
        generalize World.alloc (put6 y1 gR (.int .i64 g0) (.int .i64 b0) (.int .i64 p0) (.int .i64 q0) (.slice Ax0 xs0.length cx0) (.slice Am0 ms0.length cm0)) (.cells #[.int .i64 g1, .int .i64 b1, .int .i64 p1, .int .i64 q1, .slice Ax1 xs1.length cx1, .slice Am1 ms1.length cm1] 30) = Wf at *
        obtain ⟨hmf0, hmf1, hmf2, hmf3, hmf4, hmf5⟩ := qx.d6
        exact bodyPost_ret (v := .tuple #[.agg #[.int .i64 g0, .int .i64 b0, .int .i64 p0, .int .i64 q0, .slice Ax0 xs0.length cx0, .slice Am0 ms0.length cm0], .int .i64 0]) (by simp [results, Tryz.results119, go_sem, hmf0, hmf1, hmf2, hmf3, hmf4, hmf5]) rfl (RetLN.yes (u := (g0, b0, p0, q0, xs0, ms0)) HN.out HCC0.out (hsf.low (by omega)) (hmf.low (by omega)) hnf)
end Go.Proofs.YtehahodomfbpjaaGreatDoor
/- Contracts of NewestSuper, as the program and as the model have it. Conditions: the disk can be read, and holds at most 1048576 elements of a kind; for the program: the package's errors are known, the library's variables MaxLen and errorType too. -/
namespace Go.Proofs.YtehahodomfbpjaaGreatDoor
set_option linter.unusedVariables false
set_option maxRecDepth 100000
open Go.RowKit

/-- What NewestSuper answers: a super, a slot, a code. -/
def newA (ss : List ByteArray) (ws : List (Int × ByteArray)) : U6 × Int × Int :=
  if diskB ss ws then (match newU (rdU (readP ss ws 0)) (rdU (readP ss ws 1)) with | none => (zU, 0, 19) | some (u, s) => (u, s, 0)) else (zU, 0, 1)
theorem newU_slot {o0 o1 : Option U6} {u : U6} {s : Int} (h : newU o0 o1 = some (u, s)) : s = 0 ∨ s = 1 := by
  unfold newU at h
  split at h
  · split at h <;> cases h
    · exact .inr rfl
    · exact .inl rfl
  · cases h; exact .inl rfl
  · cases h; exact .inr rfl
  · cases h
theorem newU_from {o0 o1 : Option U6} {u : U6} {s : Int} (h : newU o0 o1 = some (u, s)) : o0 = some u ∨ o1 = some u := by
  unfold newU at h
  split at h
  · split at h <;> cases h
    · exact .inr rfl
    · exact .inl rfl
  · cases h; exact .inl rfl
  · cases h; exact .inr rfl
  · cases h
def RetNW (w : World) (ss : List ByteArray) (ws : List (Int × ByteArray)) (e : Ending) (w' : World) : Prop :=
  Nx w w' ∧ ∃ A c A2 c2, e = .returned (.tuple #[vU (newA ss ws).1 A c A2 c2, .int .i64 (newA ss ws).2.1, .int .i64 (newA ss ws).2.2]) ∧ FitU w' w.heap.size (newA ss ws).1 A c A2
theorem RetNW.un {w w' : World} {ss : List ByteArray} {ws : List (Int × ByteArray)} {e : Ending} {g b p q s k : Int} {xs : List Int} {ms : List Mrk} (h : RetNW w ss ws e w') (hq : newA ss ws = ((g, b, p, q, xs, ms), s, k)) :
    Nx w w' ∧ ∃ A c A2 c2, e = .returned (.tuple #[.agg #[.int .i64 g, .int .i64 b, .int .i64 p, .int .i64 q, .slice A xs.length c, .slice A2 ms.length c2], .int .i64 s, .int .i64 k]) ∧ xs.length ≤ c ∧ SlI w' w.heap.size A xs ∧ SlM w' w.heap.size A2 ms := by
  unfold RetNW at h; rw [hq] at h; exact h
theorem RetNW.mk {w w' : World} {ss : List ByteArray} {ws : List (Int × ByteArray)} {g b p q s k : Int} {xs : List Int} {ms : List Mrk} {c c2 : Nat} {A A2 : Option Addr} (hq : newA ss ws = ((g, b, p, q, xs, ms), s, k)) (hc : xs.length ≤ c) (hs : SlI w' w.heap.size A xs) (hm : SlM w' w.heap.size A2 ms) (hn : Nx w w') :
    RetNW w ss ws (.returned (.tuple #[.agg #[.int .i64 g, .int .i64 b, .int .i64 p, .int .i64 q, .slice A xs.length c, .slice A2 ms.length c2], .int .i64 s, .int .i64 k])) w' := by
  unfold RetNW; rw [hq]; exact ⟨hn, A, c, A2, c2, rfl, hc, hs, hm⟩
theorem RetNW.zero {w w' : World} {ss : List ByteArray} {ws : List (Int × ByteArray)} {s k : Int} (hq : newA ss ws = (zU, s, k)) (hn : Nx w w') :
    RetNW w ss ws (.returned (.tuple #[.agg #[.int .i64 0, .int .i64 0, .int .i64 0, .int .i64 0, .slice none 0 0, .slice none 0 0], .int .i64 s, .int .i64 k])) w' := RetNW.mk (g := 0) (b := 0) (p := 0) (q := 0) (xs := []) (ms := []) hq (Nat.le_refl _) SlI.nil SlM.nil hn
end Go.Proofs.YtehahodomfbpjaaGreatDoor
/- Contracts of SegText, as the model and as the program have it: both answer the same text and code. Conditions: the segment can be read, and has at most 1048576 changes. -/
namespace Go.Proofs.YtehahodomfbpjaaGreatDoor
set_option linter.unusedVariables false
set_option maxRecDepth 100000
open Go.RowKit

def chV (c : Chg) : List Value := [.int .i64 c.1, .int .i64 c.2.1, .int .i64 c.2.2]
theorem Own.new3 (w : World) (t : TypeId) (a b c : Value) : Own (w.alloc (.cells #[a, b, c] t)) w.heap.size t 3 (fun i => #[a, b, c].getD i undef) :=
  ⟨_, heap_alloc_new w _, by simp, fun i hi => by
    match i, hi with
    | 0, _ => rfl
    | 1, _ => rfl
    | 2, _ => rfl⟩
end Go.Proofs.YtehahodomfbpjaaGreatDoor
