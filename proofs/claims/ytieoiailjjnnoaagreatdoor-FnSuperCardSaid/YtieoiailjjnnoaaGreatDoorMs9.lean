/-
  Texts of the proof, in their order.
  Conditions: those of each.
-/
import Derived.Test.YtieoiailjjnnoaaGreatDoorMs8
namespace Go.Proofs.YtieoiailjjnnoaaGreatDoor
set_option linter.unusedVariables false
set_option maxRecDepth 100000
set_option maxHeartbeats 16000000
open Go.RowKit
def vU (u : U6) (A : Option Addr) (c : Nat) (A2 : Option Addr) (c2 : Nat) : Value := .agg #[ii u.1, ii u.2.1, ii u.2.2.1, ii u.2.2.2.1, .slice A u.2.2.2.2.1.length c, .slice A2 u.2.2.2.2.2.length c2]
def FitU (w : World) (lo : Nat) (u : U6) (A : Option Addr) (c : Nat) (A2 : Option Addr) : Prop := u.2.2.2.2.1.length ≤ c ∧ SlI w lo A u.2.2.2.2.1 ∧ SlM w lo A2 u.2.2.2.2.2
def slE (a k : Int) : Value := .iface 159 (.agg #[ii a, ii k])
def RetB2 (w : World) (o0 o1 : Option U6) (e : Ending) (w' : World) : Prop :=
 Nx w w' ∧ (o0 = none → e = .returned (.tuple #[.agg #[ii 0, ii 0, ii 0, ii 0, nsl, nsl], .agg #[ii 0, ii 0, ii 0, ii 0, nsl, nsl], slE 0 19])) ∧ (∀ q, o0 = some q → o1 = none → e = .returned (.tuple #[.agg #[ii 0, ii 0, ii 0, ii 0, nsl, nsl], .agg #[ii 0, ii 0, ii 0, ii 0, nsl, nsl], slE 1 19])) ∧
 ∀ q r, o0 = some q → o1 = some r → ∃ A c A2 c2 A3 c3 A4 c4, e = .returned (.tuple #[vU q A c A2 c2, vU r A3 c3 A4 c4, .nilIface]) ∧ FitU w' w.heap.size q A c A2 ∧ FitU w' w.heap.size r A3 c3 A4
theorem bothSupers_c (A A2 : Option Addr) (n c n2 c2 B : Nat) (ss : List BA) (ws : List (Int × BA)) (w : World) (a0 a1 : Addr) (h : Strs w B A n ss) (h2 : Wrs w B A2 n2 ws) (hB : B ≤ w.heap.size) (ha : 1 < n) (hn : n ≤ 1048576) (hn2 : n2 ≤ 1048576) (hr0 : (readP ss ws 0).size ≤ 65536) (hr1 : (readP ss ws 1).size ≤ 65536) (hE : Er w a0 a1) (hM : Mx w) :
 Calls Tryz.prog 121 #[.agg #[.slice A n c, .slice A2 n2 c2]] w (RetB2 w (rdU (readP ss ws 0)) (rdU (readP ss ws 1))) := by
 have b0 : Box (((w.alloc (.cells #[.slice A n c, .slice A2 n2 c2] 35)).alloc (.cells #[ii 0, ii 0, ii 0, ii 0, nsl, nsl] 26)).alloc (.cells #[ii 0, ii 0, ii 0, ii 0, nsl, nsl] 26)) (w.heap.size + 1) 26 #[ii 0, ii 0, ii 0, ii 0, nsl, nsl] := by have := Box.new (w.alloc (.cells #[.slice A n c, .slice A2 n2 c2] 35)) 26 #[ii 0, ii 0, ii 0, ii 0, nsl, nsl]; rw [World.size_alloc] at this; exact this.alloc _
 have d0 : Box (((w.alloc (.cells #[.slice A n c, .slice A2 n2 c2] 35)).alloc (.cells #[ii 0, ii 0, ii 0, ii 0, nsl, nsl] 26)).alloc (.cells #[ii 0, ii 0, ii 0, ii 0, nsl, nsl] 26)) (w.heap.size + 1 + 1) 26 #[ii 0, ii 0, ii 0, ii 0, nsl, nsl] := by have := Box.new ((w.alloc (.cells #[.slice A n c, .slice A2 n2 c2] 35)).alloc (.cells #[ii 0, ii 0, ii 0, ii 0, nsl, nsl] 26)) 26 #[ii 0, ii 0, ii 0, ii 0, nsl, nsl]; rwa [World.size_alloc, World.size_alloc] at this
 have e0 : Box (((w.alloc (.cells #[.slice A n c, .slice A2 n2 c2] 35)).alloc (.cells #[ii 0, ii 0, ii 0, ii 0, nsl, nsl] 26)).alloc (.cells #[ii 0, ii 0, ii 0, ii 0, nsl, nsl] 26)) w.heap.size 35 #[.slice A n c, .slice A2 n2 c2] := ((Box.new w _ _).alloc _).alloc _
 have hx0 := (((Nx.refl w).alloc (.cells #[.slice A n c, .slice A2 n2 c2] 35)).alloc (.cells #[ii 0, ii 0, ii 0, ii 0, nsl, nsl] 26)).alloc (.cells #[ii 0, ii 0, ii 0, ii 0, nsl, nsl] 26)
 go_enter Tryz.func121, Tryz.ntmps121
 go_wp2_with fail
 generalize ((w.alloc (.cells #[.slice A n c, .slice A2 n2 c2] 35)).alloc (.cells #[ii 0, ii 0, ii 0, ii 0, nsl, nsl] 26)).alloc (.cells #[ii 0, ii 0, ii 0, ii 0, nsl, nsl] 26) = W at *
 obtain ⟨gR, Hg⟩ : ∃ g, Hid (w.heap.size + 1 = g) := ⟨_, rfl⟩
 obtain ⟨gS, HgS⟩ : ∃ g, Hid (w.heap.size + 1 + 1 = g) := ⟨_, rfl⟩
 have hgR : w.heap.size ≤ gR := by have := Hg.out; omega
 have hgS : w.heap.size ≤ gS := by have := HgS.out; omega
 have hne : gR ≠ gS := by have := Hg.out; have := HgS.out; omega
 have hneD : w.heap.size ≠ gR := by have := Hg.out; omega
 rw [HgS.out, Hg.out]
 rw [HgS.out] at d0
 rw [Hg.out] at b0
 have hltR := b0.lt
 have hltS := d0.lt
 refine (superIn_c A A2 n c n2 c2 B 0 ss ws _ a0 a1 (h.below hx0 hB) (h2.below hx0 hB) (ntr hB hx0.size) (by omega) hn hn2 hr0 (hE.nx hx0) (hM.nx hx0)).mono ?_
 rintro e w1 ⟨hnx1, h1, h2'⟩
 have b1 := b0.nx hnx1
 have d1 := d0.nx hnx1
 have e1 := e0.nx hnx1
 have hx1 := hx0.trans hnx1
 have hsz1 := hnx1.size
 have hlt := b1.lt
 have hlt2 := d1.lt
 clear b0 d0 e0 hx0 hnx1
 cases hu : rdU (readP ss ws 0) with
 | none =>
   obtain rfl := h1 hu
   have HU0 := qh hu
   clear h1 h2' hu
   obtain ⟨u0, u1, u2, u3, u4, u5⟩ := b1.d6
   have f0 := b1.frozen 0
   have f1 := b1.frozen 1
   have f2 := b1.frozen 2
   have f3 := b1.frozen 3
   have f4 := b1.frozen 4
   have f5 := b1.frozen 5
   obtain ⟨y0, y1, y2, y3, y4, y5⟩ := d1.d6
   have l0 := d1.frozen 0
   have l1 := d1.frozen 1
   have l2 := d1.frozen 2
   have l3 := d1.frozen 3
   have l4 := d1.frozen 4
   have l5 := d1.frozen 5
   go_wp2
   have qx := ((put6_box (put6_box b1 (ii 0) (ii 0) (ii 0) (ii 0) (nsl) (nsl)) (ii 0) (ii 0) (ii 0) (ii 0) (nsl) (nsl)).far6 hne (ii 0) (ii 0) (ii 0) (ii 0) (nsl) (nsl))
   have qy := (put6_box ((d1.far6 hne.symm (ii 0) (ii 0) (ii 0) (ii 0) (nsl) (nsl)).far6 hne.symm (ii 0) (ii 0) (ii 0) (ii 0) (nsl) (nsl)) (ii 0) (ii 0) (ii 0) (ii 0) (nsl) (nsl))
   have hnf := (put6_nx (put6_nx (put6_nx hx1 hgR (ii 0) (ii 0) (ii 0) (ii 0) (nsl) (nsl)) hgR (ii 0) (ii 0) (ii 0) (ii 0) (nsl) (nsl)) hgS (ii 0) (ii 0) (ii 0) (ii 0) (nsl) (nsl))
   change bodyPost _ _ _ _ _ (put6 (put6 (put6 w1 gR (ii 0) (ii 0) (ii 0) (ii 0) (nsl) (nsl)) gR (ii 0) (ii 0) (ii 0) (ii 0) (nsl) (nsl)) gS (ii 0) (ii 0) (ii 0) (ii 0) (nsl) (nsl))
   change Box (put6 (put6 (put6 w1 gR (ii 0) (ii 0) (ii 0) (ii 0) (nsl) (nsl)) gR (ii 0) (ii 0) (ii 0) (ii 0) (nsl) (nsl)) gS (ii 0) (ii 0) (ii 0) (ii 0) (nsl) (nsl)) _ _ _ at qx
   change Box (put6 (put6 (put6 w1 gR (ii 0) (ii 0) (ii 0) (ii 0) (nsl) (nsl)) gR (ii 0) (ii 0) (ii 0) (ii 0) (nsl) (nsl)) gS (ii 0) (ii 0) (ii 0) (ii 0) (nsl) (nsl)) _ _ _ at qy
   generalize (put6 (put6 (put6 w1 gR (ii 0) (ii 0) (ii 0) (ii 0) (nsl) (nsl)) gR (ii 0) (ii 0) (ii 0) (ii 0) (nsl) (nsl)) gS (ii 0) (ii 0) (ii 0) (ii 0) (nsl) (nsl)) = Wf at *
   obtain ⟨k0, k1, k2, k3, k4, k5⟩ := qx.d6
   obtain ⟨j0, j1, j2, j3, j4, j5⟩ := qy.d6
   exact bodyPost_ret (v := .tuple #[.agg #[ii 0, ii 0, ii 0, ii 0, nsl, nsl], .agg #[ii 0, ii 0, ii 0, ii 0, nsl, nsl], .iface 159 (.agg #[ii 0, ii 19])]) (by simp [results, Tryz.results121, go_sem, k0, k1, k2, k3, k4, k5, j0, j1, j2, j3, j4, j5]) rfl ⟨hnf, (fun _ => rfl), (fun q h => by rw [HU0.out] at h; cases h), fun q r h => by rw [HU0.out] at h; cases h⟩
 | some u =>
   obtain ⟨g0, b0, p0, q0, xs0, ms0⟩ := u
   obtain ⟨Ax0, cx0, Am0, cm0, he, hcc, hS1, hM1⟩ := h2' _ hu
   replace he : e = .returned (.tuple #[.agg #[ii g0, ii b0, ii p0, ii q0, .slice Ax0 xs0.length cx0, .slice Am0 ms0.length cm0], .nilIface]) := he
   replace hS1 : SlI w1 W.heap.size Ax0 xs0 := hS1
   replace hM1 : SlM w1 W.heap.size Am0 ms0 := hM1
   replace hcc : xs0.length ≤ cx0 := hcc
   have HCC0 := qh hcc
   have HU0 := qh hu
   subst he
   clear h1 h2' hu hcc
   obtain ⟨z0, z1⟩ : w1.cell? ⟨w.heap.size, 0, none⟩ = some (.slice A n c) ∧ w1.cell? ⟨w.heap.size, 1, none⟩ = some (.slice A2 n2 c2) := ⟨e1.c0, e1.c1⟩
   obtain ⟨u0, u1, u2, u3, u4, u5⟩ := b1.d6
   have f0 := b1.frozen 0
   have f1 := b1.frozen 1
   have f2 := b1.frozen 2
   have f3 := b1.frozen 3
   have f4 := b1.frozen 4
   have f5 := b1.frozen 5
   go_wp2_with fail
   have b2 := put6_box b1 (ii g0) (ii b0) (ii p0) (ii q0) (.slice Ax0 xs0.length cx0) (.slice Am0 ms0.length cm0)
   have d2 := d1.far6 hne.symm (ii g0) (ii b0) (ii p0) (ii q0) (.slice Ax0 xs0.length cx0) (.slice Am0 ms0.length cm0)
   have e2 := e1.far6 hneD (ii g0) (ii b0) (ii p0) (ii q0) (.slice Ax0 xs0.length cx0) (.slice Am0 ms0.length cm0)
   have hx2 := put6_nx hx1 hgR (ii g0) (ii b0) (ii p0) (ii q0) (.slice Ax0 xs0.length cx0) (.slice Am0 ms0.length cm0)
   have hS2 := hS1.pt6 hltR (ii g0) (ii b0) (ii p0) (ii q0) (.slice Ax0 xs0.length cx0) (.slice Am0 ms0.length cm0)
   have hM2 := hM1.pt6 hltR (ii g0) (ii b0) (ii p0) (ii q0) (.slice Ax0 xs0.length cx0) (.slice Am0 ms0.length cm0)
   have hsz2 : W.heap.size ≤ (put6 w1 gR (ii g0) (ii b0) (ii p0) (ii q0) (.slice Ax0 xs0.length cx0) (.slice Am0 ms0.length cm0)).heap.size := by simp [put6, World.setCell]; exact hsz1
   clear b1 d1 e1 hx1 hS1 hM1 z0 z1
   clear u0 u1 u2 u3 u4 u5 f0 f1 f2 f3 f4 f5
   change Calls _ _ _ (put6 w1 gR (ii g0) (ii b0) (ii p0) (ii q0) (.slice Ax0 xs0.length cx0) (.slice Am0 ms0.length cm0)) _
   generalize put6 w1 gR (ii g0) (ii b0) (ii p0) (ii q0) (.slice Ax0 xs0.length cx0) (.slice Am0 ms0.length cm0) = w2 at *
   refine (superIn_c A A2 n c n2 c2 B 1 ss ws _ a0 a1 (h.below hx2 hB) (h2.below hx2 hB) (ntr hB hx2.size) (by omega) hn hn2 hr1 (hE.nx hx2) (hM.nx hx2)).mono ?_
   rintro e w3 ⟨hnx3, h1, h2'⟩
   have b3 := b2.nx hnx3
   have d3 := d2.nx hnx3
   have hx3 := hx2.trans hnx3
   have hS3 := hS2.nx hnx3
   have hM3 := hM2.nx hnx3
   have hltR2 := b2.lt
   have hltS2 := d2.lt
   clear b2 d2 e2 hx2 hS2 hM2
   cases hv : rdU (readP ss ws 1) with
   | none =>
     obtain rfl := h1 hv
     have HU1 := qh hv
     clear h1 h2' hv
     obtain ⟨u0, u1, u2, u3, u4, u5⟩ := b3.d6
     have f0 := b3.frozen 0
     have f1 := b3.frozen 1
     have f2 := b3.frozen 2
     have f3 := b3.frozen 3
     have f4 := b3.frozen 4
     have f5 := b3.frozen 5
     obtain ⟨y0, y1, y2, y3, y4, y5⟩ := d3.d6
     have l0 := d3.frozen 0
     have l1 := d3.frozen 1
     have l2 := d3.frozen 2
     have l3 := d3.frozen 3
     have l4 := d3.frozen 4
     have l5 := d3.frozen 5
     go_wp2
     have qx := ((put6_box (b3.far6 hne (ii 0) (ii 0) (ii 0) (ii 0) (nsl) (nsl)) (ii 0) (ii 0) (ii 0) (ii 0) (nsl) (nsl)).far6 hne (ii 0) (ii 0) (ii 0) (ii 0) (nsl) (nsl))
     have qy := (put6_box ((put6_box d3 (ii 0) (ii 0) (ii 0) (ii 0) (nsl) (nsl)).far6 hne.symm (ii 0) (ii 0) (ii 0) (ii 0) (nsl) (nsl)) (ii 0) (ii 0) (ii 0) (ii 0) (nsl) (nsl))
     have hnf := (put6_nx (put6_nx (put6_nx hx3 hgS (ii 0) (ii 0) (ii 0) (ii 0) (nsl) (nsl)) hgR (ii 0) (ii 0) (ii 0) (ii 0) (nsl) (nsl)) hgS (ii 0) (ii 0) (ii 0) (ii 0) (nsl) (nsl))
     change bodyPost _ _ _ _ _ (put6 (put6 (put6 w3 gS (ii 0) (ii 0) (ii 0) (ii 0) (nsl) (nsl)) gR (ii 0) (ii 0) (ii 0) (ii 0) (nsl) (nsl)) gS (ii 0) (ii 0) (ii 0) (ii 0) (nsl) (nsl))
     change Box (put6 (put6 (put6 w3 gS (ii 0) (ii 0) (ii 0) (ii 0) (nsl) (nsl)) gR (ii 0) (ii 0) (ii 0) (ii 0) (nsl) (nsl)) gS (ii 0) (ii 0) (ii 0) (ii 0) (nsl) (nsl)) _ _ _ at qx
     change Box (put6 (put6 (put6 w3 gS (ii 0) (ii 0) (ii 0) (ii 0) (nsl) (nsl)) gR (ii 0) (ii 0) (ii 0) (ii 0) (nsl) (nsl)) gS (ii 0) (ii 0) (ii 0) (ii 0) (nsl) (nsl)) _ _ _ at qy
     generalize (put6 (put6 (put6 w3 gS (ii 0) (ii 0) (ii 0) (ii 0) (nsl) (nsl)) gR (ii 0) (ii 0) (ii 0) (ii 0) (nsl) (nsl)) gS (ii 0) (ii 0) (ii 0) (ii 0) (nsl) (nsl)) = Wf at *
     obtain ⟨k0, k1, k2, k3, k4, k5⟩ := qx.d6
     obtain ⟨j0, j1, j2, j3, j4, j5⟩ := qy.d6
     exact bodyPost_ret (v := .tuple #[.agg #[ii 0, ii 0, ii 0, ii 0, nsl, nsl], .agg #[ii 0, ii 0, ii 0, ii 0, nsl, nsl], .iface 159 (.agg #[ii 1, ii 19])]) (by simp [results, Tryz.results121, go_sem, k0, k1, k2, k3, k4, k5, j0, j1, j2, j3, j4, j5]) rfl ⟨hnf, (fun h => by rw [HU0.out] at h; cases h), (fun q _ _ => rfl), fun q r _ h => by rw [HU1.out] at h; cases h⟩
   | some u =>
     obtain ⟨g1, b1, p1, q1, xs1, ms1⟩ := u
     obtain ⟨Ax1, cx1, Am1, cm1, he, hcc, hS1, hM1⟩ := h2' _ hv
     replace he : e = .returned (.tuple #[.agg #[ii g1, ii b1, ii p1, ii q1, .slice Ax1 xs1.length cx1, .slice Am1 ms1.length cm1], .nilIface]) := he
     replace hS1 : SlI w3 w2.heap.size Ax1 xs1 := hS1
     replace hM1 : SlM w3 w2.heap.size Am1 ms1 := hM1
     replace hcc : xs1.length ≤ cx1 := hcc
     have HCC1 := qh hcc
     have HU1 := qh hv
     subst he
     clear h1 h2' hv hcc
     obtain ⟨y0, y1, y2, y3, y4, y5⟩ := d3.d6
     have l0 := d3.frozen 0
     have l1 := d3.frozen 1
     have l2 := d3.frozen 2
     have l3 := d3.frozen 3
     have l4 := d3.frozen 4
     have l5 := d3.frozen 5
     go_wp2_with fail
     have b4 := b3.far6 hne (ii g1) (ii b1) (ii p1) (ii q1) (.slice Ax1 xs1.length cx1) (.slice Am1 ms1.length cm1)
     have d4 := put6_box d3 (ii g1) (ii b1) (ii p1) (ii q1) (.slice Ax1 xs1.length cx1) (.slice Am1 ms1.length cm1)
     have hx4 := put6_nx hx3 hgS (ii g1) (ii b1) (ii p1) (ii q1) (.slice Ax1 xs1.length cx1) (.slice Am1 ms1.length cm1)
     have hS4 := hS3.pt6 hltS (ii g1) (ii b1) (ii p1) (ii q1) (.slice Ax1 xs1.length cx1) (.slice Am1 ms1.length cm1)
     have hM4 := hM3.pt6 hltS (ii g1) (ii b1) (ii p1) (ii q1) (.slice Ax1 xs1.length cx1) (.slice Am1 ms1.length cm1)
     have hT4 := hS1.pt6 hltS2 (ii g1) (ii b1) (ii p1) (ii q1) (.slice Ax1 xs1.length cx1) (.slice Am1 ms1.length cm1)
     have hN4 := hM1.pt6 hltS2 (ii g1) (ii b1) (ii p1) (ii q1) (.slice Ax1 xs1.length cx1) (.slice Am1 ms1.length cm1)
     clear b3 d3 hx3 hS3 hM3 hS1 hM1
     clear y0 y1 y2 y3 y4 y5 l0 l1 l2 l3 l4 l5
     change Code.wp _ _ _ _ (put6 w3 gS (ii g1) (ii b1) (ii p1) (ii q1) (.slice Ax1 xs1.length cx1) (.slice Am1 ms1.length cm1))
     generalize put6 w3 gS (ii g1) (ii b1) (ii p1) (ii q1) (.slice Ax1 xs1.length cx1) (.slice Am1 ms1.length cm1) = w4 at *
     obtain ⟨u0, u1, u2, u3, u4, u5⟩ := b4.d6
     have f0 := b4.frozen 0
     have f1 := b4.frozen 1
     have f2 := b4.frozen 2
     have f3 := b4.frozen 3
     have f4 := b4.frozen 4
     have f5 := b4.frozen 5
     obtain ⟨y0, y1, y2, y3, y4, y5⟩ := d4.d6
     have l0 := d4.frozen 0
     have l1 := d4.frozen 1
     have l2 := d4.frozen 2
     have l3 := d4.frozen 3
     have l4 := d4.frozen 4
     have l5 := d4.frozen 5
     have hlt4 := b4.lt
     have hlt5 := d4.lt
     refine wp_lexA [ff, ff, true, true, ff] (fun w' => (w'.cell? ⟨gR, 0, none⟩ = some (ii g0) ∧ w'.cell? ⟨gR, 1, none⟩ = some (ii b0) ∧ w'.cell? ⟨gR, 2, none⟩ = some (ii p0) ∧ w'.cell? ⟨gR, 3, none⟩ = some (ii q0) ∧ w'.cell? ⟨gR, 4, none⟩ = some (.slice Ax0 xs0.length cx0) ∧ w'.cell? ⟨gR, 5, none⟩ = some (.slice Am0 ms0.length cm0)) ∧ (w'.cell? ⟨gS, 0, none⟩ = some (ii g1) ∧ w'.cell? ⟨gS, 1, none⟩ = some (ii b1) ∧ w'.cell? ⟨gS, 2, none⟩ = some (ii p1) ∧ w'.cell? ⟨gS, 3, none⟩ = some (ii q1) ∧ w'.cell? ⟨gS, 4, none⟩ = some (.slice Ax1 xs1.length cx1) ∧ w'.cell? ⟨gS, 5, none⟩ = some (.slice Am1 ms1.length cm1))) (by exact ⟨b4.d6, d4.d6⟩) ?_
     repeat ((first | refine HL.tk ?_ | refine HL.sk ?_); try simp only [Act.put, qqA, qqB, qqC])
     refine hLc fun K hK => ?_
     go_simp
     refine hK.out _ _ (by exact ⟨((put6_box b4 (ii g0) (ii b0) (ii p0) (ii q0) (.slice Ax0 xs0.length cx0) (.slice Am0 ms0.length cm0)).drew).d6, ((d4.far6 hne.symm (ii g0) (ii b0) (ii p0) (ii q0) (.slice Ax0 xs0.length cx0) (.slice Am0 ms0.length cm0)).drew).d6⟩) ?_
     clear hK K
     try simp only [Act.put, qqA, qqB, qqC]
     refine hLc fun K hK => ?_
     go_simp
     refine hK.out _ _ (by exact ⟨(((put6_box b4 (ii g0) (ii b0) (ii p0) (ii q0) (.slice Ax0 xs0.length cx0) (.slice Am0 ms0.length cm0)).far6 hne (ii g1) (ii b1) (ii p1) (ii q1) (.slice Ax1 xs1.length cx1) (.slice Am1 ms1.length cm1)).drew).d6, ((put6_box (d4.far6 hne.symm (ii g0) (ii b0) (ii p0) (ii q0) (.slice Ax0 xs0.length cx0) (.slice Am0 ms0.length cm0)) (ii g1) (ii b1) (ii p1) (ii q1) (.slice Ax1 xs1.length cx1) (.slice Am1 ms1.length cm1)).drew).d6⟩) ?_
     clear hK K
     try simp only [Act.put, qqA, qqB, qqC]
     repeat ((first | refine HL.tk ?_ | refine HL.sk ?_); try simp only [Act.put, qqA, qqB, qqC])
     refine HL.done ?_
     clear u0 u1 u2 u3 u4 u5 f0 f1 f2 f3 f4 f5
     clear y0 y1 y2 y3 y4 y5 l0 l1 l2 l3 l4 l5
     go_wp2
     have qx := ((put6_box b4 (ii g0) (ii b0) (ii p0) (ii q0) (.slice Ax0 xs0.length cx0) (.slice Am0 ms0.length cm0)).far6 hne (ii g1) (ii b1) (ii p1) (ii q1) (.slice Ax1 xs1.length cx1) (.slice Am1 ms1.length cm1)).drew
     have qy := (put6_box (d4.far6 hne.symm (ii g0) (ii b0) (ii p0) (ii q0) (.slice Ax0 xs0.length cx0) (.slice Am0 ms0.length cm0)) (ii g1) (ii b1) (ii p1) (ii q1) (.slice Ax1 xs1.length cx1) (.slice Am1 ms1.length cm1)).drew
     have hnf := (put6_nx (put6_nx hx4 hgR (ii g0) (ii b0) (ii p0) (ii q0) (.slice Ax0 xs0.length cx0) (.slice Am0 ms0.length cm0)) hgS (ii g1) (ii b1) (ii p1) (ii q1) (.slice Ax1 xs1.length cx1) (.slice Am1 ms1.length cm1)).drew
     have hsA := (((hS4.pt6 hltR (ii g0) (ii b0) (ii p0) (ii q0) (.slice Ax0 xs0.length cx0) (.slice Am0 ms0.length cm0)).pt6 hltS (ii g1) (ii b1) (ii p1) (ii q1) (.slice Ax1 xs1.length cx1) (.slice Am1 ms1.length cm1)).nx (Nx.refl _).drew)
     change Sl (World.drew (put6 (put6 w4 gR (ii g0) (ii b0) (ii p0) (ii q0) (.slice Ax0 xs0.length cx0) (.slice Am0 ms0.length cm0)) gS (ii g1) (ii b1) (ii p1) (ii q1) (.slice Ax1 xs1.length cx1) (.slice Am1 ms1.length cm1))) _ _ _ _ _ at hsA
     have hsB := (((hM4.pt6 hltR (ii g0) (ii b0) (ii p0) (ii q0) (.slice Ax0 xs0.length cx0) (.slice Am0 ms0.length cm0)).pt6 hltS (ii g1) (ii b1) (ii p1) (ii q1) (.slice Ax1 xs1.length cx1) (.slice Am1 ms1.length cm1)).nx (Nx.refl _).drew)
     change Sl (World.drew (put6 (put6 w4 gR (ii g0) (ii b0) (ii p0) (ii q0) (.slice Ax0 xs0.length cx0) (.slice Am0 ms0.length cm0)) gS (ii g1) (ii b1) (ii p1) (ii q1) (.slice Ax1 xs1.length cx1) (.slice Am1 ms1.length cm1))) _ _ _ _ _ at hsB
     have hsC := (((hT4.pt6 hltR2 (ii g0) (ii b0) (ii p0) (ii q0) (.slice Ax0 xs0.length cx0) (.slice Am0 ms0.length cm0)).pt6 hltS2 (ii g1) (ii b1) (ii p1) (ii q1) (.slice Ax1 xs1.length cx1) (.slice Am1 ms1.length cm1)).nx (Nx.refl _).drew)
     change Sl (World.drew (put6 (put6 w4 gR (ii g0) (ii b0) (ii p0) (ii q0) (.slice Ax0 xs0.length cx0) (.slice Am0 ms0.length cm0)) gS (ii g1) (ii b1) (ii p1) (ii q1) (.slice Ax1 xs1.length cx1) (.slice Am1 ms1.length cm1))) _ _ _ _ _ at hsC
     have hsD := (((hN4.pt6 hltR2 (ii g0) (ii b0) (ii p0) (ii q0) (.slice Ax0 xs0.length cx0) (.slice Am0 ms0.length cm0)).pt6 hltS2 (ii g1) (ii b1) (ii p1) (ii q1) (.slice Ax1 xs1.length cx1) (.slice Am1 ms1.length cm1)).nx (Nx.refl _).drew)
     change Sl (World.drew (put6 (put6 w4 gR (ii g0) (ii b0) (ii p0) (ii q0) (.slice Ax0 xs0.length cx0) (.slice Am0 ms0.length cm0)) gS (ii g1) (ii b1) (ii p1) (ii q1) (.slice Ax1 xs1.length cx1) (.slice Am1 ms1.length cm1))) _ _ _ _ _ at hsD
     change bodyPost _ _ _ _ _ (World.drew (put6 (put6 w4 gR (ii g0) (ii b0) (ii p0) (ii q0) (.slice Ax0 xs0.length cx0) (.slice Am0 ms0.length cm0)) gS (ii g1) (ii b1) (ii p1) (ii q1) (.slice Ax1 xs1.length cx1) (.slice Am1 ms1.length cm1)))
     change Box (World.drew (put6 (put6 w4 gR (ii g0) (ii b0) (ii p0) (ii q0) (.slice Ax0 xs0.length cx0) (.slice Am0 ms0.length cm0)) gS (ii g1) (ii b1) (ii p1) (ii q1) (.slice Ax1 xs1.length cx1) (.slice Am1 ms1.length cm1))) _ _ _ at qx
     change Box (World.drew (put6 (put6 w4 gR (ii g0) (ii b0) (ii p0) (ii q0) (.slice Ax0 xs0.length cx0) (.slice Am0 ms0.length cm0)) gS (ii g1) (ii b1) (ii p1) (ii q1) (.slice Ax1 xs1.length cx1) (.slice Am1 ms1.length cm1))) _ _ _ at qy
     generalize (World.drew (put6 (put6 w4 gR (ii g0) (ii b0) (ii p0) (ii q0) (.slice Ax0 xs0.length cx0) (.slice Am0 ms0.length cm0)) gS (ii g1) (ii b1) (ii p1) (ii q1) (.slice Ax1 xs1.length cx1) (.slice Am1 ms1.length cm1))) = Wf at *
     obtain ⟨k0, k1, k2, k3, k4, k5⟩ := qx.d6
     obtain ⟨j0, j1, j2, j3, j4, j5⟩ := qy.d6
     exact bodyPost_ret (v := .tuple #[.agg #[ii g0, ii b0, ii p0, ii q0, .slice Ax0 xs0.length cx0, .slice Am0 ms0.length cm0], .agg #[ii g1, ii b1, ii p1, ii q1, .slice Ax1 xs1.length cx1, .slice Am1 ms1.length cm1], .nilIface]) (by simp [results, Tryz.results121, go_sem, k0, k1, k2, k3, k4, k5, j0, j1, j2, j3, j4, j5]) rfl ⟨hnf, (fun h => by rw [HU0.out] at h; cases h), (fun q _ h => by rw [HU1.out] at h; cases h), fun q r hq hr => by rw [HU0.out] at hq; rw [HU1.out] at hr; cases hq; cases hr; exact ⟨_, _, _, _, _, _, _, _, rfl, ⟨HCC0.out, hsA.low (by have := HgS.out; omega), hsB.low (by have := HgS.out; omega)⟩, ⟨HCC1.out, hsC.low (by have := HgS.out; omega), hsD.low (by have := HgS.out; omega)⟩⟩⟩
def newU : Option U6 → Option U6 → Option (U6 × Int)
 | some a, some b => if a.1 < b.1 then some (b, 1) else some (a, 0)
 | some a, none => some (a, 0)
 | none, some b => some (b, 1)
 | none, none => none
def RetNS (w : World) (o : Option (U6 × Int)) (e : Ending) (w' : World) : Prop :=
 Nx w w' ∧ (o = none → e = .returned (.tuple #[.agg #[ii 0, ii 0, ii 0, ii 0, nsl, nsl], ii 1, slE 1 19])) ∧ ∀ u s, o = some (u, s) → ∃ A c A2 c2, e = .returned (.tuple #[vU u A c A2 c2, ii s, .nilIface]) ∧ FitU w' w.heap.size u A c A2
theorem RetNS.no {w w' : World} {o : Option (U6 × Int)} (h : o = none) (hn : Nx w w') : RetNS w o (.returned (.tuple #[.agg #[ii 0, ii 0, ii 0, ii 0, nsl, nsl], ii 1, slE 1 19])) w' :=
 ⟨hn, fun _ => rfl, fun u s h2 => by rw [h] at h2; cases h2⟩
theorem RetNS.yes {w w' : World} {o : Option (U6 × Int)} {u : U6} {s : Int} {A A2 : Option Addr} {c c2 : Nat} (h : o = some (u, s)) (hc : u.2.2.2.2.1.length ≤ c) (hs : SlI w' w.heap.size A u.2.2.2.2.1) (hm : SlM w' w.heap.size A2 u.2.2.2.2.2) (hn : Nx w w') :
 RetNS w o (.returned (.tuple #[vU u A c A2 c2, ii s, .nilIface])) w' :=
 ⟨hn, (fun h2 => by rw [h] at h2; cases h2), fun u' s' h2 => by rw [h] at h2; cases h2; exact ⟨A, c, A2, c2, rfl, hc, hs, hm⟩⟩
theorem otherSlot_c (a : Int) (w : World) (h0 : 0 ≤ a) (h1 : a ≤ 1) : Calls Tryz.prog 123 #[ii a] w fun e w' => e = .returned (ii (1 - a)) ∧ w = w' := by
 go_enter Tryz.func123, Tryz.ntmps123
 go_wp2
 go_ret
 exact ⟨rfl, rfl⟩
theorem newestSuper_c (A A2 : Option Addr) (n c n2 c2 B : Nat) (ss : List BA) (ws : List (Int × BA)) (w : World) (a0 a1 : Addr) (h : Strs w B A n ss) (h2 : Wrs w B A2 n2 ws) (hB : B ≤ w.heap.size) (ha : 1 < n) (hn : n ≤ 1048576) (hn2 : n2 ≤ 1048576) (hr0 : (readP ss ws 0).size ≤ 65536) (hr1 : (readP ss ws 1).size ≤ 65536) (hE : Er w a0 a1) (hM : Mx w) (hEt : Et w) :
 Calls Tryz.prog 52 #[.agg #[.slice A n c, .slice A2 n2 c2]] w (RetNS w (newU (rdU (readP ss ws 0)) (rdU (readP ss ws 1)))) := by
 have b0 : Box ((w.alloc (.cells #[.slice A n c, .slice A2 n2 c2] 35)).alloc (.cells #[ii 0, ii 0, ii 0, ii 0, nsl, nsl] 26)) (w.heap.size + 1) 26 #[ii 0, ii 0, ii 0, ii 0, nsl, nsl] := by have := Box.new (w.alloc (.cells #[.slice A n c, .slice A2 n2 c2] 35)) 26 #[ii 0, ii 0, ii 0, ii 0, nsl, nsl]; rwa [World.size_alloc] at this
 have e0 : Box ((w.alloc (.cells #[.slice A n c, .slice A2 n2 c2] 35)).alloc (.cells #[ii 0, ii 0, ii 0, ii 0, nsl, nsl] 26)) w.heap.size 35 #[.slice A n c, .slice A2 n2 c2] := (Box.new w _ _).alloc _
 have hx0 := ((Nx.refl w).alloc (.cells #[.slice A n c, .slice A2 n2 c2] 35)).alloc (.cells #[ii 0, ii 0, ii 0, ii 0, nsl, nsl] 26)
 go_enter Tryz.func52, Tryz.ntmps52
 go_wp2_with fail
 generalize (w.alloc (.cells #[.slice A n c, .slice A2 n2 c2] 35)).alloc (.cells #[ii 0, ii 0, ii 0, ii 0, nsl, nsl] 26) = W at *
 obtain ⟨gR, Hg⟩ : ∃ g, Hid (w.heap.size + 1 = g) := ⟨_, rfl⟩
 have hgR : w.heap.size ≤ gR := by have := Hg.out; omega
 rw [Hg.out] at b0 ⊢
 have hltW := b0.lt
 refine (bothSupers_c A A2 n c n2 c2 B ss ws _ a0 a1 (h.below hx0 hB) (h2.below hx0 hB) (ntr hB hx0.size) ha hn hn2 hr0 hr1 (hE.nx hx0) (hM.nx hx0)).mono ?_
 rintro e w1 ⟨hnx1, h1, h2', h3'⟩
 have b1 := b0.nx hnx1
 have e1 := e0.nx hnx1
 have hx1 := hx0.trans hnx1
 have hlt1 := b1.lt
 have hltD := e1.lt
 clear b0 e0 hx0 hnx1
 unfold slE at h1 h2'
 cases hu : rdU (readP ss ws 0) with
 | none =>
   obtain rfl := h1 hu
   have HU0 := qh hu
   clear h1 h2' h3' hu
   go_wp2_with fail
   have bE := Box.new ((w1.alloc (.cells #[ii 0, ii 0, ii 0, ii 0, nsl, nsl] 26)).alloc (.cells #[ii 0, ii 0, ii 0, ii 0, nsl, nsl] 26)) 159 #[ii 0, ii 0]
   have hx3 := (((hx1.alloc (.cells #[ii 0, ii 0, ii 0, ii 0, nsl, nsl] 26)).alloc (.cells #[ii 0, ii 0, ii 0, ii 0, nsl, nsl] 26)).alloc (.cells #[ii 0, ii 0] 159))
   have b3 := (((b1.alloc (.cells #[ii 0, ii 0, ii 0, ii 0, nsl, nsl] 26)).alloc (.cells #[ii 0, ii 0, ii 0, ii 0, nsl, nsl] 26)).alloc (.cells #[ii 0, ii 0] 159))
   have e3 := (((e1.alloc (.cells #[ii 0, ii 0, ii 0, ii 0, nsl, nsl] 26)).alloc (.cells #[ii 0, ii 0, ii 0, ii 0, nsl, nsl] 26)).alloc (.cells #[ii 0, ii 0] 159))
   simp only [World.size_alloc] at bE
   change Calls _ _ _ (((w1.alloc (.cells #[ii 0, ii 0, ii 0, ii 0, nsl, nsl] 26)).alloc (.cells #[ii 0, ii 0, ii 0, ii 0, nsl, nsl] 26)).alloc (.cells #[ii 0, ii 0] 159)) _
   generalize (((w1.alloc (.cells #[ii 0, ii 0, ii 0, ii 0, nsl, nsl] 26)).alloc (.cells #[ii 0, ii 0, ii 0, ii 0, nsl, nsl] 26)).alloc (.cells #[ii 0, ii 0] 159)) = w3 at *
   obtain ⟨gE, HgE⟩ : ∃ g, Hid (w1.heap.size + 1 + 1 = g) := ⟨_, rfl⟩
   rw [HgE.out] at bE ⊢
   have hgE : gR < gE := by have := HgE.out; omega
   have hgE2 : w.heap.size < gE := by omega
   refine (as_hit 0 19 gE _ _ _ (hEt.nx hx3) bE).mono ?_
   rintro e w4 ⟨rfl, hrg, bF⟩
   have b4 := b3.rg hrg (.inl hgE)
   have e4 := e3.rg hrg (.inl hgE2)
   have hx4 := Rg.nx_of hx3 hrg (by omega)
   have y0 := bF.c0
   have z0 := e4.c0
   have z1 := e4.c1
   clear b3 e3 hx3 bE
   go_wp2_with (go_at_call 123; refine (otherSlot_c 0 _ (by omega) (by omega)).mono ?_; rintro e w' ⟨rfl, rfl⟩)
   refine (superIn_c A A2 n c n2 c2 B 1 ss ws _ a0 a1 (h.below hx4 hB) (h2.below hx4 hB) (ntr hB hx4.size) (by omega) hn hn2 hr1 (hE.nx hx4) (hM.nx hx4)).mono ?_
   rintro e w5 ⟨hnx5, h1, h2'⟩
   have b5 := b4.nx hnx5
   have hx5 := hx4.trans hnx5
   have hlt5 := b5.lt
   have hlt4 := b4.lt
   clear b4 e4 hx4 bF y0 z0 z1
   cases hv : rdU (readP ss ws 1) with
   | none =>
     obtain rfl := h1 hv
     have HN : Hid (newU (rdU (readP ss ws 0)) (rdU (readP ss ws 1)) = none) := qh (by rw [HU0.out, hv]; rfl)
     clear h1 h2' hv
     obtain ⟨u0, u1, u2, u3, u4, u5⟩ := b5.d6
     have f0 := b5.frozen 0
     have f1 := b5.frozen 1
     have f2 := b5.frozen 2
     have f3 := b5.frozen 3
     have f4 := b5.frozen 4
     have f5 := b5.frozen 5
     go_wp2
     have qx := ((put6_box b5 (ii 0) (ii 0) (ii 0) (ii 0) (nsl) (nsl)).alloc (.cells #[ii 0, ii 0, ii 0, ii 0, nsl, nsl] 26))
     have hnf := ((put6_nx hx5 (hgR) (ii 0) (ii 0) (ii 0) (ii 0) (nsl) (nsl)).alloc (.cells #[ii 0, ii 0, ii 0, ii 0, nsl, nsl] 26))
     change bodyPost _ _ _ _ _ (World.alloc (put6 w5 gR (ii 0) (ii 0) (ii 0) (ii 0) (nsl) (nsl)) (.cells #[ii 0, ii 0, ii 0, ii 0, nsl, nsl] 26))
     change Box (World.alloc (put6 w5 gR (ii 0) (ii 0) (ii 0) (ii 0) (nsl) (nsl)) (.cells #[ii 0, ii 0, ii 0, ii 0, nsl, nsl] 26)) _ _ _ at qx
     generalize World.alloc (put6 w5 gR (ii 0) (ii 0) (ii 0) (ii 0) (nsl) (nsl)) (.cells #[ii 0, ii 0, ii 0, ii 0, nsl, nsl] 26) = Wf at *
     obtain ⟨cq0, cq1, cq2, cq3, cq4, cq5⟩ := qx.d6
     exact bodyPost_ret (v := .tuple #[.agg #[ii 0, ii 0, ii 0, ii 0, nsl, nsl], ii 1, .iface 159 (.agg #[ii 1, ii 19])]) (by simp [results, Tryz.results52, go_sem, cq0, cq1, cq2, cq3, cq4, cq5]) rfl (RetNS.no HN.out hnf)
   | some u1 =>
     have HU1 := qh hv
     have HN : Hid (newU (rdU (readP ss ws 0)) (rdU (readP ss ws 1)) = some (u1, 1)) := qh (by rw [HU0.out, hv]; rfl)
     clear hv
     obtain ⟨g1, b1, p1, q1, xs1, ms1⟩ := u1
     obtain ⟨Ax1, cx1, Am1, cm1, he, hcc, hS1, hM1⟩ := h2' _ HU1.out
     replace he : e = .returned (.tuple #[.agg #[ii g1, ii b1, ii p1, ii q1, .slice Ax1 xs1.length cx1, .slice Am1 ms1.length cm1], .nilIface]) := he
     replace hS1 : SlI w5 w4.heap.size Ax1 xs1 := hS1
     replace hM1 : SlM w5 w4.heap.size Am1 ms1 := hM1
     replace hcc : xs1.length ≤ cx1 := hcc
     have HCC := qh hcc
     subst he
     clear h1 h2' hcc
     obtain ⟨u0, u1, u2, u3, u4, u5⟩ := b5.d6
     have f0 := b5.frozen 0
     have f1 := b5.frozen 1
     have f2 := b5.frozen 2
     have f3 := b5.frozen 3
     have f4 := b5.frozen 4
     have f5 := b5.frozen 5
     go_wp2
     have qx := ((put6_box b5 (ii g1) (ii b1) (ii p1) (ii q1) (.slice Ax1 xs1.length cx1) (.slice Am1 ms1.length cm1)).alloc (.cells #[ii g1, ii b1, ii p1, ii q1, .slice Ax1 xs1.length cx1, .slice Am1 ms1.length cm1] 26))
     have hnf := ((put6_nx hx5 (hgR) (ii g1) (ii b1) (ii p1) (ii q1) (.slice Ax1 xs1.length cx1) (.slice Am1 ms1.length cm1)).alloc (.cells #[ii g1, ii b1, ii p1, ii q1, .slice Ax1 xs1.length cx1, .slice Am1 ms1.length cm1] 26))
     have hsf := ((hS1.pt6 hlt4 (ii g1) (ii b1) (ii p1) (ii q1) (.slice Ax1 xs1.length cx1) (.slice Am1 ms1.length cm1)).nx ((Nx.refl _).alloc (.cells #[ii g1, ii b1, ii p1, ii q1, .slice Ax1 xs1.length cx1, .slice Am1 ms1.length cm1] 26)))
     change Sl (World.alloc (put6 w5 gR (ii g1) (ii b1) (ii p1) (ii q1) (.slice Ax1 xs1.length cx1) (.slice Am1 ms1.length cm1)) (.cells #[ii g1, ii b1, ii p1, ii q1, .slice Ax1 xs1.length cx1, .slice Am1 ms1.length cm1] 26)) _ _ _ _ _ at hsf
     have hmf := ((hM1.pt6 hlt4 (ii g1) (ii b1) (ii p1) (ii q1) (.slice Ax1 xs1.length cx1) (.slice Am1 ms1.length cm1)).nx ((Nx.refl _).alloc (.cells #[ii g1, ii b1, ii p1, ii q1, .slice Ax1 xs1.length cx1, .slice Am1 ms1.length cm1] 26)))
     change Sl (World.alloc (put6 w5 gR (ii g1) (ii b1) (ii p1) (ii q1) (.slice Ax1 xs1.length cx1) (.slice Am1 ms1.length cm1)) (.cells #[ii g1, ii b1, ii p1, ii q1, .slice Ax1 xs1.length cx1, .slice Am1 ms1.length cm1] 26)) _ _ _ _ _ at hmf
     change bodyPost _ _ _ _ _ (World.alloc (put6 w5 gR (ii g1) (ii b1) (ii p1) (ii q1) (.slice Ax1 xs1.length cx1) (.slice Am1 ms1.length cm1)) (.cells #[ii g1, ii b1, ii p1, ii q1, .slice Ax1 xs1.length cx1, .slice Am1 ms1.length cm1] 26))
     change Box (World.alloc (put6 w5 gR (ii g1) (ii b1) (ii p1) (ii q1) (.slice Ax1 xs1.length cx1) (.slice Am1 ms1.length cm1)) (.cells #[ii g1, ii b1, ii p1, ii q1, .slice Ax1 xs1.length cx1, .slice Am1 ms1.length cm1] 26)) _ _ _ at qx
     generalize World.alloc (put6 w5 gR (ii g1) (ii b1) (ii p1) (ii q1) (.slice Ax1 xs1.length cx1) (.slice Am1 ms1.length cm1)) (.cells #[ii g1, ii b1, ii p1, ii q1, .slice Ax1 xs1.length cx1, .slice Am1 ms1.length cm1] 26) = Wf at *
     obtain ⟨hmf0, hmf1, hmf2, hmf3, hmf4, hmf5⟩ := qx.d6
     exact bodyPost_ret (v := .tuple #[.agg #[ii g1, ii b1, ii p1, ii q1, .slice Ax1 xs1.length cx1, .slice Am1 ms1.length cm1], ii 1, .nilIface]) (by simp [results, Tryz.results52, go_sem, hmf0, hmf1, hmf2, hmf3, hmf4, hmf5]) rfl (RetNS.yes (u := (g1, b1, p1, q1, xs1, ms1)) HN.out HCC.out (hsf.low (by omega)) (hmf.low (by omega)) hnf)
 | some u0 =>
   have HU0 := qh hu
   cases hv : rdU (readP ss ws 1) with
   | none =>
     obtain rfl := h2' _ hu hv
     have HN : Hid (newU (rdU (readP ss ws 0)) (rdU (readP ss ws 1)) = some (u0, 0)) := qh (by rw [HU0.out, hv]; rfl)
     clear h1 h2' h3' hu hv
     go_wp2_with fail
     have bE := Box.new ((w1.alloc (.cells #[ii 0, ii 0, ii 0, ii 0, nsl, nsl] 26)).alloc (.cells #[ii 0, ii 0, ii 0, ii 0, nsl, nsl] 26)) 159 #[ii 0, ii 0]
     have hx3 := (((hx1.alloc (.cells #[ii 0, ii 0, ii 0, ii 0, nsl, nsl] 26)).alloc (.cells #[ii 0, ii 0, ii 0, ii 0, nsl, nsl] 26)).alloc (.cells #[ii 0, ii 0] 159))
     have b3 := (((b1.alloc (.cells #[ii 0, ii 0, ii 0, ii 0, nsl, nsl] 26)).alloc (.cells #[ii 0, ii 0, ii 0, ii 0, nsl, nsl] 26)).alloc (.cells #[ii 0, ii 0] 159))
     have e3 := (((e1.alloc (.cells #[ii 0, ii 0, ii 0, ii 0, nsl, nsl] 26)).alloc (.cells #[ii 0, ii 0, ii 0, ii 0, nsl, nsl] 26)).alloc (.cells #[ii 0, ii 0] 159))
     simp only [World.size_alloc] at bE
     change Calls _ _ _ (((w1.alloc (.cells #[ii 0, ii 0, ii 0, ii 0, nsl, nsl] 26)).alloc (.cells #[ii 0, ii 0, ii 0, ii 0, nsl, nsl] 26)).alloc (.cells #[ii 0, ii 0] 159)) _
     generalize (((w1.alloc (.cells #[ii 0, ii 0, ii 0, ii 0, nsl, nsl] 26)).alloc (.cells #[ii 0, ii 0, ii 0, ii 0, nsl, nsl] 26)).alloc (.cells #[ii 0, ii 0] 159)) = w3 at *
     obtain ⟨gE, HgE⟩ : ∃ g, Hid (w1.heap.size + 1 + 1 = g) := ⟨_, rfl⟩
     rw [HgE.out] at bE ⊢
     have hgE : gR < gE := by have := HgE.out; omega
     have hgE2 : w.heap.size < gE := by omega
     refine (as_hit 1 19 gE _ _ _ (hEt.nx hx3) bE).mono ?_
     rintro e w4 ⟨rfl, hrg, bF⟩
     have b4 := b3.rg hrg (.inl hgE)
     have e4 := e3.rg hrg (.inl hgE2)
     have hx4 := Rg.nx_of hx3 hrg (by omega)
     have y0 := bF.c0
     have z0 := e4.c0
     have z1 := e4.c1
     clear b3 e3 hx3 bE
     go_wp2_with (go_at_call 123; refine (otherSlot_c 1 _ (by omega) (by omega)).mono ?_; rintro e w' ⟨rfl, rfl⟩)
     refine (superIn_c A A2 n c n2 c2 B 0 ss ws _ a0 a1 (h.below hx4 hB) (h2.below hx4 hB) (ntr hB hx4.size) (by omega) hn hn2 hr0 (hE.nx hx4) (hM.nx hx4)).mono ?_
     rintro e w5 ⟨hnx5, h1, h2'⟩
     have b5 := b4.nx hnx5
     have hx5 := hx4.trans hnx5
     have hlt5 := b5.lt
     have hlt4 := b4.lt
     clear b4 e4 hx4 bF y0 z0 z1
     obtain ⟨g0, b0, p0, q0, xs0, ms0⟩ := u0
     obtain ⟨Ax0, cx0, Am0, cm0, he, hcc, hS1, hM1⟩ := h2' _ HU0.out
     replace he : e = .returned (.tuple #[.agg #[ii g0, ii b0, ii p0, ii q0, .slice Ax0 xs0.length cx0, .slice Am0 ms0.length cm0], .nilIface]) := he
     replace hS1 : SlI w5 w4.heap.size Ax0 xs0 := hS1
     replace hM1 : SlM w5 w4.heap.size Am0 ms0 := hM1
     replace hcc : xs0.length ≤ cx0 := hcc
     have HCC := qh hcc
     subst he
     clear h1 h2' hcc
     obtain ⟨u0, u1, u2, u3, u4, u5⟩ := b5.d6
     have f0 := b5.frozen 0
     have f1 := b5.frozen 1
     have f2 := b5.frozen 2
     have f3 := b5.frozen 3
     have f4 := b5.frozen 4
     have f5 := b5.frozen 5
     go_wp2
     have qx := ((put6_box b5 (ii g0) (ii b0) (ii p0) (ii q0) (.slice Ax0 xs0.length cx0) (.slice Am0 ms0.length cm0)).alloc (.cells #[ii g0, ii b0, ii p0, ii q0, .slice Ax0 xs0.length cx0, .slice Am0 ms0.length cm0] 26))
     have hnf := ((put6_nx hx5 (hgR) (ii g0) (ii b0) (ii p0) (ii q0) (.slice Ax0 xs0.length cx0) (.slice Am0 ms0.length cm0)).alloc (.cells #[ii g0, ii b0, ii p0, ii q0, .slice Ax0 xs0.length cx0, .slice Am0 ms0.length cm0] 26))
     have hsf := ((hS1.pt6 hlt4 (ii g0) (ii b0) (ii p0) (ii q0) (.slice Ax0 xs0.length cx0) (.slice Am0 ms0.length cm0)).nx ((Nx.refl _).alloc (.cells #[ii g0, ii b0, ii p0, ii q0, .slice Ax0 xs0.length cx0, .slice Am0 ms0.length cm0] 26)))
     change Sl (World.alloc (put6 w5 gR (ii g0) (ii b0) (ii p0) (ii q0) (.slice Ax0 xs0.length cx0) (.slice Am0 ms0.length cm0)) (.cells #[ii g0, ii b0, ii p0, ii q0, .slice Ax0 xs0.length cx0, .slice Am0 ms0.length cm0] 26)) _ _ _ _ _ at hsf
     have hmf := ((hM1.pt6 hlt4 (ii g0) (ii b0) (ii p0) (ii q0) (.slice Ax0 xs0.length cx0) (.slice Am0 ms0.length cm0)).nx ((Nx.refl _).alloc (.cells #[ii g0, ii b0, ii p0, ii q0, .slice Ax0 xs0.length cx0, .slice Am0 ms0.length cm0] 26)))
     change Sl (World.alloc (put6 w5 gR (ii g0) (ii b0) (ii p0) (ii q0) (.slice Ax0 xs0.length cx0) (.slice Am0 ms0.length cm0)) (.cells #[ii g0, ii b0, ii p0, ii q0, .slice Ax0 xs0.length cx0, .slice Am0 ms0.length cm0] 26)) _ _ _ _ _ at hmf
     change bodyPost _ _ _ _ _ (World.alloc (put6 w5 gR (ii g0) (ii b0) (ii p0) (ii q0) (.slice Ax0 xs0.length cx0) (.slice Am0 ms0.length cm0)) (.cells #[ii g0, ii b0, ii p0, ii q0, .slice Ax0 xs0.length cx0, .slice Am0 ms0.length cm0] 26))
     change Box (World.alloc (put6 w5 gR (ii g0) (ii b0) (ii p0) (ii q0) (.slice Ax0 xs0.length cx0) (.slice Am0 ms0.length cm0)) (.cells #[ii g0, ii b0, ii p0, ii q0, .slice Ax0 xs0.length cx0, .slice Am0 ms0.length cm0] 26)) _ _ _ at qx
     generalize World.alloc (put6 w5 gR (ii g0) (ii b0) (ii p0) (ii q0) (.slice Ax0 xs0.length cx0) (.slice Am0 ms0.length cm0)) (.cells #[ii g0, ii b0, ii p0, ii q0, .slice Ax0 xs0.length cx0, .slice Am0 ms0.length cm0] 26) = Wf at *
     obtain ⟨hmf0, hmf1, hmf2, hmf3, hmf4, hmf5⟩ := qx.d6
     exact bodyPost_ret (v := .tuple #[.agg #[ii g0, ii b0, ii p0, ii q0, .slice Ax0 xs0.length cx0, .slice Am0 ms0.length cm0], ii 0, .nilIface]) (by simp [results, Tryz.results52, go_sem, hmf0, hmf1, hmf2, hmf3, hmf4, hmf5]) rfl (RetNS.yes (u := (g0, b0, p0, q0, xs0, ms0)) HN.out HCC.out (hsf.low (by omega)) (hmf.low (by omega)) hnf)
   | some u1 =>
     have bR1 := b1
     obtain ⟨g0, b0, p0, q0, xs0, ms0⟩ := u0
     obtain ⟨g1, b1, p1, q1, xs1, ms1⟩ := u1
     obtain ⟨Ax0, cx0, Am0, cm0, Ax1, cx1, Am1, cm1, he, ⟨hc0, hS0, hM0⟩, ⟨hc1, hS1, hM1⟩⟩ := h3' _ _ hu hv
     have HU1 := qh hv
     unfold vU at he
     replace hS0 : SlI w1 W.heap.size Ax0 xs0 := hS0
     replace hM0 : SlM w1 W.heap.size Am0 ms0 := hM0
     replace hS1 : SlI w1 W.heap.size Ax1 xs1 := hS1
     replace hM1 : SlM w1 W.heap.size Am1 ms1 := hM1
     have HCC0 : Hid (xs0.length ≤ cx0) := qh hc0
     have HCC1 : Hid (xs1.length ≤ cx1) := qh hc1
     replace he : e = .returned (.tuple #[.agg #[ii g0, ii b0, ii p0, ii q0, .slice Ax0 xs0.length cx0, .slice Am0 ms0.length cm0], .agg #[ii g1, ii b1, ii p1, ii q1, .slice Ax1 xs1.length cx1, .slice Am1 ms1.length cm1], .nilIface]) := he
     subst he
     clear h1 h2' h3' hu hv hc0 hc1
     go_wp2_with fail
     have hz3 := ((((Nx.refl w1).alloc (.cells #[ii g0, ii b0, ii p0, ii q0, .slice Ax0 xs0.length cx0, .slice Am0 ms0.length cm0] 26)).alloc (.cells #[ii g1, ii b1, ii p1, ii q1, .slice Ax1 xs1.length cx1, .slice Am1 ms1.length cm1] 26)).alloc (.cells #[ii 0, ii 0] 159))
     have b3 := bR1.nx hz3
     have hx3 := hx1.trans hz3
     have hS0c := hS0.nx hz3
     have hM0c := hM0.nx hz3
     have hS1c := hS1.nx hz3
     have hM1c := hM1.nx hz3
     have bA := ((Box.new w1 26 #[ii g0, ii b0, ii p0, ii q0, .slice Ax0 xs0.length cx0, .slice Am0 ms0.length cm0]).alloc (.cells #[ii g1, ii b1, ii p1, ii q1, .slice Ax1 xs1.length cx1, .slice Am1 ms1.length cm1] 26)).alloc (.cells #[ii 0, ii 0] 159)
     have bB : Box (((w1.alloc (.cells #[ii g0, ii b0, ii p0, ii q0, .slice Ax0 xs0.length cx0, .slice Am0 ms0.length cm0] 26)).alloc (.cells #[ii g1, ii b1, ii p1, ii q1, .slice Ax1 xs1.length cx1, .slice Am1 ms1.length cm1] 26)).alloc (.cells #[ii 0, ii 0] 159)) (w1.heap.size + 1) 26 #[ii g1, ii b1, ii p1, ii q1, .slice Ax1 xs1.length cx1, .slice Am1 ms1.length cm1] := by have := (Box.new (w1.alloc (.cells #[ii g0, ii b0, ii p0, ii q0, .slice Ax0 xs0.length cx0, .slice Am0 ms0.length cm0] 26)) 26 #[ii g1, ii b1, ii p1, ii q1, .slice Ax1 xs1.length cx1, .slice Am1 ms1.length cm1]).alloc (.cells #[ii 0, ii 0] 159); rwa [World.size_alloc] at this
     change Calls _ _ _ (((w1.alloc (.cells #[ii g0, ii b0, ii p0, ii q0, .slice Ax0 xs0.length cx0, .slice Am0 ms0.length cm0] 26)).alloc (.cells #[ii g1, ii b1, ii p1, ii q1, .slice Ax1 xs1.length cx1, .slice Am1 ms1.length cm1] 26)).alloc (.cells #[ii 0, ii 0] 159)) _
     generalize (((w1.alloc (.cells #[ii g0, ii b0, ii p0, ii q0, .slice Ax0 xs0.length cx0, .slice Am0 ms0.length cm0] 26)).alloc (.cells #[ii g1, ii b1, ii p1, ii q1, .slice Ax1 xs1.length cx1, .slice Am1 ms1.length cm1] 26)).alloc (.cells #[ii 0, ii 0] 159)) = w3 at *
     refine (as_nil _ _).mono ?_
     rintro e w' ⟨rfl, hw'⟩
     rw [hw']
     clear hw'
     obtain ⟨m0, m1, m2, m3, m4, m5⟩ := bA.d6
     obtain ⟨r0, r1, r2, r3, r4, r5⟩ := bB.d6
     have hltA := bA.lt
     have hltB := bB.lt
     have hlt3 := b3.lt
     by_cases hgt : g0 < g1
     · have hd : decide (g0 < g1) = true := decide_eq_true hgt
       have HN : Hid (newU (rdU (readP ss ws 0)) (rdU (readP ss ws 1)) = some ((g1, b1, p1, q1, xs1, ms1), 1)) := qh (by rw [HU0.out, HU1.out]; show (if g0 < g1 then _ else _) = _; rw [if_pos hgt])
       clear hgt
       obtain ⟨u0, u1, u2, u3, u4, u5⟩ := b3.d6
       have f0 := b3.frozen 0
       have f1 := b3.frozen 1
       have f2 := b3.frozen 2
       have f3 := b3.frozen 3
       have f4 := b3.frozen 4
       have f5 := b3.frozen 5
       go_wp2
       have qx := (put6_box b3 (ii g1) (ii b1) (ii p1) (ii q1) (.slice Ax1 xs1.length cx1) (.slice Am1 ms1.length cm1))
       have hnf := (put6_nx hx3 (hgR) (ii g1) (ii b1) (ii p1) (ii q1) (.slice Ax1 xs1.length cx1) (.slice Am1 ms1.length cm1))
       have hsf := (hS1c.pt6 hltW (ii g1) (ii b1) (ii p1) (ii q1) (.slice Ax1 xs1.length cx1) (.slice Am1 ms1.length cm1))
       change Sl (put6 w3 gR (ii g1) (ii b1) (ii p1) (ii q1) (.slice Ax1 xs1.length cx1) (.slice Am1 ms1.length cm1)) _ _ _ _ _ at hsf
       have hmf := (hM1c.pt6 hltW (ii g1) (ii b1) (ii p1) (ii q1) (.slice Ax1 xs1.length cx1) (.slice Am1 ms1.length cm1))
       change Sl (put6 w3 gR (ii g1) (ii b1) (ii p1) (ii q1) (.slice Ax1 xs1.length cx1) (.slice Am1 ms1.length cm1)) _ _ _ _ _ at hmf
       change bodyPost _ _ _ _ _ (put6 w3 gR (ii g1) (ii b1) (ii p1) (ii q1) (.slice Ax1 xs1.length cx1) (.slice Am1 ms1.length cm1))
       change Box (put6 w3 gR (ii g1) (ii b1) (ii p1) (ii q1) (.slice Ax1 xs1.length cx1) (.slice Am1 ms1.length cm1)) _ _ _ at qx
       generalize put6 w3 gR (ii g1) (ii b1) (ii p1) (ii q1) (.slice Ax1 xs1.length cx1) (.slice Am1 ms1.length cm1) = Wf at *
       obtain ⟨hmf0, hmf1, hmf2, hmf3, hmf4, hmf5⟩ := qx.d6
       exact bodyPost_ret (v := .tuple #[.agg #[ii g1, ii b1, ii p1, ii q1, .slice Ax1 xs1.length cx1, .slice Am1 ms1.length cm1], ii 1, .nilIface]) (by simp [results, Tryz.results52, go_sem, hmf0, hmf1, hmf2, hmf3, hmf4, hmf5]) rfl (RetNS.yes (u := (g1, b1, p1, q1, xs1, ms1)) HN.out HCC1.out (hsf.low (by omega)) (hmf.low (by omega)) hnf)
     · have hd : decide (g0 < g1) = false := decide_eq_false hgt
       have HN : Hid (newU (rdU (readP ss ws 0)) (rdU (readP ss ws 1)) = some ((g0, b0, p0, q0, xs0, ms0), 0)) := qh (by rw [HU0.out, HU1.out]; show (if g0 < g1 then _ else _) = _; rw [if_neg hgt])
       clear hgt
       obtain ⟨u0, u1, u2, u3, u4, u5⟩ := b3.d6
       have f0 := b3.frozen 0
       have f1 := b3.frozen 1
       have f2 := b3.frozen 2
       have f3 := b3.frozen 3
       have f4 := b3.frozen 4
       have f5 := b3.frozen 5
       go_wp2
       have qx := (put6_box b3 (ii g0) (ii b0) (ii p0) (ii q0) (.slice Ax0 xs0.length cx0) (.slice Am0 ms0.length cm0))
       have hnf := (put6_nx hx3 (hgR) (ii g0) (ii b0) (ii p0) (ii q0) (.slice Ax0 xs0.length cx0) (.slice Am0 ms0.length cm0))
       have hsf := (hS0c.pt6 hltW (ii g0) (ii b0) (ii p0) (ii q0) (.slice Ax0 xs0.length cx0) (.slice Am0 ms0.length cm0))
       change Sl (put6 w3 gR (ii g0) (ii b0) (ii p0) (ii q0) (.slice Ax0 xs0.length cx0) (.slice Am0 ms0.length cm0)) _ _ _ _ _ at hsf
       have hmf := (hM0c.pt6 hltW (ii g0) (ii b0) (ii p0) (ii q0) (.slice Ax0 xs0.length cx0) (.slice Am0 ms0.length cm0))
       change Sl (put6 w3 gR (ii g0) (ii b0) (ii p0) (ii q0) (.slice Ax0 xs0.length cx0) (.slice Am0 ms0.length cm0)) _ _ _ _ _ at hmf
       change bodyPost _ _ _ _ _ (put6 w3 gR (ii g0) (ii b0) (ii p0) (ii q0) (.slice Ax0 xs0.length cx0) (.slice Am0 ms0.length cm0))
       change Box (put6 w3 gR (ii g0) (ii b0) (ii p0) (ii q0) (.slice Ax0 xs0.length cx0) (.slice Am0 ms0.length cm0)) _ _ _ at qx
       generalize put6 w3 gR (ii g0) (ii b0) (ii p0) (ii q0) (.slice Ax0 xs0.length cx0) (.slice Am0 ms0.length cm0) = Wf at *
       obtain ⟨hmf0, hmf1, hmf2, hmf3, hmf4, hmf5⟩ := qx.d6
       exact bodyPost_ret (v := .tuple #[.agg #[ii g0, ii b0, ii p0, ii q0, .slice Ax0 xs0.length cx0, .slice Am0 ms0.length cm0], ii 0, .nilIface]) (by simp [results, Tryz.results52, go_sem, hmf0, hmf1, hmf2, hmf3, hmf4, hmf5]) rfl (RetNS.yes (u := (g0, b0, p0, q0, xs0, ms0)) HN.out HCC0.out (hsf.low (by omega)) (hmf.low (by omega)) hnf)
end Go.Proofs.YtieoiailjjnnoaaGreatDoor
