/-
  Texts of the proof, in their order.
  Conditions: those of each.
-/
import Derived.Test.YtieoiailjjnnoaaGreatDoorMs9
import Derived.Deep.AppendLies
namespace Go.Proofs.YtieoiailjjnnoaaGreatDoor
set_option linter.unusedVariables false
set_option maxRecDepth 100000
set_option maxHeartbeats 16000000
open Go.RowKit
def RetLN (w : World) (o : Option (U6 × Int)) (e : Ending) (w' : World) : Prop :=
 Nx w w' ∧ (o = none → e = .returned (.tuple #[.agg #[ii 0, ii 0, ii 0, ii 0, nsl, nsl], ii (-1)])) ∧ ∀ u s, o = some (u, s) → ∃ A c A2 c2, e = .returned (.tuple #[vU u A c A2 c2, ii s]) ∧ FitU w' w.heap.size u A c A2
theorem RetLN.no {w w' : World} {o : Option (U6 × Int)} (h : o = none) (hn : Nx w w') : RetLN w o (.returned (.tuple #[.agg #[ii 0, ii 0, ii 0, ii 0, nsl, nsl], ii (-1)])) w' :=
 ⟨hn, fun _ => rfl, fun u s h2 => by rw [h] at h2; cases h2⟩
theorem RetLN.yes {w w' : World} {o : Option (U6 × Int)} {u : U6} {s : Int} {A A2 : Option Addr} {c c2 : Nat} (h : o = some (u, s)) (hc : u.2.2.2.2.1.length ≤ c) (hs : SlI w' w.heap.size A u.2.2.2.2.1) (hm : SlM w' w.heap.size A2 u.2.2.2.2.2) (hn : Nx w w') :
 RetLN w o (.returned (.tuple #[vU u A c A2 c2, ii s])) w' :=
 ⟨hn, (fun h2 => by rw [h] at h2; cases h2), fun u' s' h2 => by rw [h] at h2; cases h2; exact ⟨A, c, A2, c2, rfl, hc, hs, hm⟩⟩
theorem l04Newest_c (A A2 : Option Addr) (n c n2 c2 B : Nat) (ss : List BA) (ws : List (Int × BA)) (w : World) (h : Strs w B A n ss) (h2 : Wrs w B A2 n2 ws) (hB : B ≤ w.heap.size) (ha : 1 < n) (hn : n ≤ 1048576) (hn2 : n2 ≤ 1048576) (hr0 : (readP ss ws 0).size ≤ 65536) (hr1 : (readP ss ws 1).size ≤ 65536) :
 Calls Tryz.prog 58 #[.agg #[.slice A n c, .slice A2 n2 c2]] w (RetLN w (newU (rdU (readP ss ws 0)) (rdU (readP ss ws 1)))) := by
 have b0 : Box ((w.alloc (.cells #[.slice A n c, .slice A2 n2 c2] 35)).alloc (.cells #[ii 0, ii 0, ii 0, ii 0, nsl, nsl] 26)) (w.heap.size + 1) 26 #[ii 0, ii 0, ii 0, ii 0, nsl, nsl] := by have := Box.new (w.alloc (.cells #[.slice A n c, .slice A2 n2 c2] 35)) 26 #[ii 0, ii 0, ii 0, ii 0, nsl, nsl]; rwa [World.size_alloc] at this
 have e0 : Box ((w.alloc (.cells #[.slice A n c, .slice A2 n2 c2] 35)).alloc (.cells #[ii 0, ii 0, ii 0, ii 0, nsl, nsl] 26)) w.heap.size 35 #[.slice A n c, .slice A2 n2 c2] := (Box.new w _ _).alloc _
 have hx0 := ((Nx.refl w).alloc (.cells #[.slice A n c, .slice A2 n2 c2] 35)).alloc (.cells #[ii 0, ii 0, ii 0, ii 0, nsl, nsl] 26)
 go_enter Tryz.func58, Tryz.ntmps58
 go_wp2_with fail
 generalize (w.alloc (.cells #[.slice A n c, .slice A2 n2 c2] 35)).alloc (.cells #[ii 0, ii 0, ii 0, ii 0, nsl, nsl] 26) = W at *
 obtain ⟨gR, Hg⟩ : ∃ g, Hid (w.heap.size + 1 = g) := ⟨_, rfl⟩
 have hgR : w.heap.size ≤ gR := by have := Hg.out; omega
 rw [Hg.out] at b0 ⊢
 have hltW := b0.lt
 have bW := b0
 have eW := e0
 refine (l01Read_c A A2 n c n2 c2 B 0 ss ws _ (h.below hx0 hB) (h2.below hx0 hB) (ntr hB hx0.size) (by omega) hn hn2).mono ?_
 rintro e x0w ⟨rfl, hnx0⟩
 have hx0a := hx0.trans hnx0
 go_wp2_with fail
 refine (l04Read_c (readP ss ws 0) _ hr0).mono ?_
 rintro e y0 ⟨hny0, h1, h2'⟩
 have hx0b := hx0a.trans hny0
 have z0 := (eW.nx (hnx0.trans hny0)).c0
 have z1 := (eW.nx (hnx0.trans hny0)).c1
 have hltz := (eW.nx (hnx0.trans hny0)).lt
 clear b0 e0
 cases hu0 : rdU (readP ss ws 0) with
 | none =>
   obtain rfl := h1 hu0
   have HU0 := qh hu0
   clear h1 h2' hu0
   go_wp2_with fail
   have bA := Box.new y0 26 #[ii 0, ii 0, ii 0, ii 0, nsl, nsl]
   have hzA := (Nx.refl y0).alloc (.cells #[ii 0, ii 0, ii 0, ii 0, nsl, nsl] 26)
   have bR := (bW.nx (hnx0.trans hny0)).nx hzA
   have eR := (eW.nx (hnx0.trans hny0)).nx hzA
   have hxA := hx0b.trans hzA
   change Calls _ _ _ (y0.alloc (.cells #[ii 0, ii 0, ii 0, ii 0, nsl, nsl] 26)) _
   generalize y0.alloc (.cells #[ii 0, ii 0, ii 0, ii 0, nsl, nsl] 26) = wA at *
   obtain ⟨gA, HgA⟩ : ∃ g, Hid (y0.heap.size = g) := ⟨_, rfl⟩
   rw [HgA.out] at bA ⊢
   have hgA : gR < gA := by have := HgA.out; have := (bW.nx (hnx0.trans hny0)).lt; omega
   refine (l01Read_c A A2 n c n2 c2 B 1 ss ws _ (h.below hxA hB) (h2.below hxA hB) (ntr hB hxA.size) (by omega) hn hn2).mono ?_
   rintro e x1w ⟨rfl, hnx1⟩
   have hx1a := hxA.trans hnx1
   go_wp2_with fail
   refine (l04Read_c (readP ss ws 1) _ hr1).mono ?_
   rintro e y1 ⟨hny1, h1, h2'⟩
   have hx1b := hx1a.trans hny1
   cases hu1 : rdU (readP ss ws 1) with
   | none =>
     obtain rfl := h1 hu1
     have HU1 := qh hu1
     clear h1 h2' hu1
     have bA1 := bA.nx (hnx1.trans hny1)
     have bR1 := bR.nx (hnx1.trans hny1)
     have hxB := hx1b
     have hltx0 : gR < x0w.heap.size := (bW.nx hnx0).lt
     have hltx1 : gR < x1w.heap.size := (bR.nx hnx1).lt
     have hltA1 := bA1.lt
     have hltR1 := bR1.lt
     have hszx := hnx1.size
     have hszy := hxA.size
     obtain ⟨m0, m1, m2, m3, m4, m5⟩ := bA1.d6
     have HN : Hid (newU (rdU (readP ss ws 0)) (rdU (readP ss ws 1)) = none) := qh (by rw [HU0.out, HU1.out]; rfl)
     obtain ⟨u0, u1, u2, u3, u4, u5⟩ := bR1.d6
     have f0 := bR1.frozen 0
     have f1 := bR1.frozen 1
     have f2 := bR1.frozen 2
     have f3 := bR1.frozen 3
     have f4 := bR1.frozen 4
     have f5 := bR1.frozen 5
     go_wp2
     have qx := ((put6_box bR1 (ii 0) (ii 0) (ii 0) (ii 0) (nsl) (nsl)).alloc (.cells #[ii 0, ii 0, ii 0, ii 0, nsl, nsl] 26))
     have hnf := ((put6_nx hxB (hgR) (ii 0) (ii 0) (ii 0) (ii 0) (nsl) (nsl)).alloc (.cells #[ii 0, ii 0, ii 0, ii 0, nsl, nsl] 26))
     change bodyPost _ _ _ _ _ (World.alloc (put6 y1 gR (ii 0) (ii 0) (ii 0) (ii 0) (nsl) (nsl)) (.cells #[ii 0, ii 0, ii 0, ii 0, nsl, nsl] 26))
     change Box (World.alloc (put6 y1 gR (ii 0) (ii 0) (ii 0) (ii 0) (nsl) (nsl)) (.cells #[ii 0, ii 0, ii 0, ii 0, nsl, nsl] 26)) _ _ _ at qx
     generalize World.alloc (put6 y1 gR (ii 0) (ii 0) (ii 0) (ii 0) (nsl) (nsl)) (.cells #[ii 0, ii 0, ii 0, ii 0, nsl, nsl] 26) = Wf at *
     obtain ⟨cq0, cq1, cq2, cq3, cq4, cq5⟩ := qx.d6
     exact bodyPost_ret (v := .tuple #[.agg #[ii 0, ii 0, ii 0, ii 0, nsl, nsl], ii (-1)]) (by simp [results, Tryz.results58, go_sem, cq0, cq1, cq2, cq3, cq4, cq5]) rfl (RetLN.no HN.out hnf)
   | some u =>
     obtain ⟨g1, b1, p1, q1, xs1, ms1⟩ := u
     obtain ⟨Ax1, cx1, Am1, cm1, he, hcc, hS1, hM1⟩ := h2' _ hu1
     replace he : e = .returned (.tuple #[.agg #[ii g1, ii b1, ii p1, ii q1, .slice Ax1 xs1.length cx1, .slice Am1 ms1.length cm1], .bool true]) := he
     replace hS1 : SlI y1 x1w.heap.size Ax1 xs1 := hS1
     replace hM1 : SlM y1 x1w.heap.size Am1 ms1 := hM1
     have HCC1 : Hid (xs1.length ≤ cx1) := qh hcc
     have HU1 := qh hu1
     subst he
     clear h1 h2' hu1 hcc
     have bA1 := bA.nx (hnx1.trans hny1)
     have bR1 := bR.nx (hnx1.trans hny1)
     have hxB := hx1b
     have hS1B := hS1
     have hM1B := hM1
     have hltx0 : gR < x0w.heap.size := (bW.nx hnx0).lt
     have hltx1 : gR < x1w.heap.size := (bR.nx hnx1).lt
     have hltA1 := bA1.lt
     have hltR1 := bR1.lt
     have hszx := hnx1.size
     have hszy := hxA.size
     obtain ⟨m0, m1, m2, m3, m4, m5⟩ := bA1.d6
     have HN : Hid (newU (rdU (readP ss ws 0)) (rdU (readP ss ws 1)) = some ((g1, b1, p1, q1, xs1, ms1), 1)) := qh (by rw [HU0.out, HU1.out]; rfl)
     obtain ⟨u0, u1, u2, u3, u4, u5⟩ := bR1.d6
     have f0 := bR1.frozen 0
     have f1 := bR1.frozen 1
     have f2 := bR1.frozen 2
     have f3 := bR1.frozen 3
     have f4 := bR1.frozen 4
     have f5 := bR1.frozen 5
     go_wp2
     have qx := ((put6_box bR1 (ii g1) (ii b1) (ii p1) (ii q1) (.slice Ax1 xs1.length cx1) (.slice Am1 ms1.length cm1)).alloc (.cells #[ii g1, ii b1, ii p1, ii q1, .slice Ax1 xs1.length cx1, .slice Am1 ms1.length cm1] 26))
     have hnf := ((put6_nx hxB (hgR) (ii g1) (ii b1) (ii p1) (ii q1) (.slice Ax1 xs1.length cx1) (.slice Am1 ms1.length cm1)).alloc (.cells #[ii g1, ii b1, ii p1, ii q1, .slice Ax1 xs1.length cx1, .slice Am1 ms1.length cm1] 26))
     have hsf := ((hS1B.pt6 hltx1 (ii g1) (ii b1) (ii p1) (ii q1) (.slice Ax1 xs1.length cx1) (.slice Am1 ms1.length cm1)).nx ((Nx.refl _).alloc (.cells #[ii g1, ii b1, ii p1, ii q1, .slice Ax1 xs1.length cx1, .slice Am1 ms1.length cm1] 26)))
     change Sl (World.alloc (put6 y1 gR (ii g1) (ii b1) (ii p1) (ii q1) (.slice Ax1 xs1.length cx1) (.slice Am1 ms1.length cm1)) (.cells #[ii g1, ii b1, ii p1, ii q1, .slice Ax1 xs1.length cx1, .slice Am1 ms1.length cm1] 26)) _ _ _ _ _ at hsf
     have hmf := ((hM1B.pt6 hltx1 (ii g1) (ii b1) (ii p1) (ii q1) (.slice Ax1 xs1.length cx1) (.slice Am1 ms1.length cm1)).nx ((Nx.refl _).alloc (.cells #[ii g1, ii b1, ii p1, ii q1, .slice Ax1 xs1.length cx1, .slice Am1 ms1.length cm1] 26)))
     change Sl (World.alloc (put6 y1 gR (ii g1) (ii b1) (ii p1) (ii q1) (.slice Ax1 xs1.length cx1) (.slice Am1 ms1.length cm1)) (.cells #[ii g1, ii b1, ii p1, ii q1, .slice Ax1 xs1.length cx1, .slice Am1 ms1.length cm1] 26)) _ _ _ _ _ at hmf
     change bodyPost _ _ _ _ _ (World.alloc (put6 y1 gR (ii g1) (ii b1) (ii p1) (ii q1) (.slice Ax1 xs1.length cx1) (.slice Am1 ms1.length cm1)) (.cells #[ii g1, ii b1, ii p1, ii q1, .slice Ax1 xs1.length cx1, .slice Am1 ms1.length cm1] 26))
     change Box (World.alloc (put6 y1 gR (ii g1) (ii b1) (ii p1) (ii q1) (.slice Ax1 xs1.length cx1) (.slice Am1 ms1.length cm1)) (.cells #[ii g1, ii b1, ii p1, ii q1, .slice Ax1 xs1.length cx1, .slice Am1 ms1.length cm1] 26)) _ _ _ at qx
     generalize World.alloc (put6 y1 gR (ii g1) (ii b1) (ii p1) (ii q1) (.slice Ax1 xs1.length cx1) (.slice Am1 ms1.length cm1)) (.cells #[ii g1, ii b1, ii p1, ii q1, .slice Ax1 xs1.length cx1, .slice Am1 ms1.length cm1] 26) = Wf at *
     obtain ⟨hmf0, hmf1, hmf2, hmf3, hmf4, hmf5⟩ := qx.d6
     exact bodyPost_ret (v := .tuple #[.agg #[ii g1, ii b1, ii p1, ii q1, .slice Ax1 xs1.length cx1, .slice Am1 ms1.length cm1], ii 1]) (by simp [results, Tryz.results58, go_sem, hmf0, hmf1, hmf2, hmf3, hmf4, hmf5]) rfl (RetLN.yes (u := (g1, b1, p1, q1, xs1, ms1)) HN.out HCC1.out (hsf.low (by omega)) (hmf.low (by omega)) hnf)
 | some u =>
   obtain ⟨g0, b0, p0, q0, xs0, ms0⟩ := u
   obtain ⟨Ax0, cx0, Am0, cm0, he, hcc, hS0, hM0⟩ := h2' _ hu0
   replace he : e = .returned (.tuple #[.agg #[ii g0, ii b0, ii p0, ii q0, .slice Ax0 xs0.length cx0, .slice Am0 ms0.length cm0], .bool true]) := he
   replace hS0 : SlI y0 x0w.heap.size Ax0 xs0 := hS0
   replace hM0 : SlM y0 x0w.heap.size Am0 ms0 := hM0
   have HCC0 : Hid (xs0.length ≤ cx0) := qh hcc
   have HU0 := qh hu0
   subst he
   clear h1 h2' hu0 hcc
   go_wp2_with fail
   have bA := Box.new y0 26 #[ii g0, ii b0, ii p0, ii q0, .slice Ax0 xs0.length cx0, .slice Am0 ms0.length cm0]
   have hzA := (Nx.refl y0).alloc (.cells #[ii g0, ii b0, ii p0, ii q0, .slice Ax0 xs0.length cx0, .slice Am0 ms0.length cm0] 26)
   have bR := (bW.nx (hnx0.trans hny0)).nx hzA
   have eR := (eW.nx (hnx0.trans hny0)).nx hzA
   have hxA := hx0b.trans hzA
   have hS0A := hS0.nx hzA
   have hM0A := hM0.nx hzA
   change Calls _ _ _ (y0.alloc (.cells #[ii g0, ii b0, ii p0, ii q0, .slice Ax0 xs0.length cx0, .slice Am0 ms0.length cm0] 26)) _
   generalize y0.alloc (.cells #[ii g0, ii b0, ii p0, ii q0, .slice Ax0 xs0.length cx0, .slice Am0 ms0.length cm0] 26) = wA at *
   obtain ⟨gA, HgA⟩ : ∃ g, Hid (y0.heap.size = g) := ⟨_, rfl⟩
   rw [HgA.out] at bA ⊢
   have hgA : gR < gA := by have := HgA.out; have := (bW.nx (hnx0.trans hny0)).lt; omega
   refine (l01Read_c A A2 n c n2 c2 B 1 ss ws _ (h.below hxA hB) (h2.below hxA hB) (ntr hB hxA.size) (by omega) hn hn2).mono ?_
   rintro e x1w ⟨rfl, hnx1⟩
   have hx1a := hxA.trans hnx1
   go_wp2_with fail
   refine (l04Read_c (readP ss ws 1) _ hr1).mono ?_
   rintro e y1 ⟨hny1, h1, h2'⟩
   have hx1b := hx1a.trans hny1
   cases hu1 : rdU (readP ss ws 1) with
   | none =>
     obtain rfl := h1 hu1
     have HU1 := qh hu1
     clear h1 h2' hu1
     have bA1 := bA.nx (hnx1.trans hny1)
     have bR1 := bR.nx (hnx1.trans hny1)
     have hxB := hx1b
     have hS0B := hS0A.nx (hnx1.trans hny1)
     have hM0B := hM0A.nx (hnx1.trans hny1)
     have hltx0 : gR < x0w.heap.size := (bW.nx hnx0).lt
     have hltx1 : gR < x1w.heap.size := (bR.nx hnx1).lt
     have hltA1 := bA1.lt
     have hltR1 := bR1.lt
     have hszx := hnx1.size
     have hszy := hxA.size
     obtain ⟨m0, m1, m2, m3, m4, m5⟩ := bA1.d6
     have HN : Hid (newU (rdU (readP ss ws 0)) (rdU (readP ss ws 1)) = some ((g0, b0, p0, q0, xs0, ms0), 0)) := qh (by rw [HU0.out, HU1.out]; rfl)
     obtain ⟨u0, u1, u2, u3, u4, u5⟩ := bR1.d6
     have f0 := bR1.frozen 0
     have f1 := bR1.frozen 1
     have f2 := bR1.frozen 2
     have f3 := bR1.frozen 3
     have f4 := bR1.frozen 4
     have f5 := bR1.frozen 5
     go_wp2
     have qx := ((put6_box bR1 (ii g0) (ii b0) (ii p0) (ii q0) (.slice Ax0 xs0.length cx0) (.slice Am0 ms0.length cm0)).alloc (.cells #[ii 0, ii 0, ii 0, ii 0, nsl, nsl] 26))
     have hnf := ((put6_nx hxB (hgR) (ii g0) (ii b0) (ii p0) (ii q0) (.slice Ax0 xs0.length cx0) (.slice Am0 ms0.length cm0)).alloc (.cells #[ii 0, ii 0, ii 0, ii 0, nsl, nsl] 26))
     have hsf := ((hS0B.pt6 hltx0 (ii g0) (ii b0) (ii p0) (ii q0) (.slice Ax0 xs0.length cx0) (.slice Am0 ms0.length cm0)).nx ((Nx.refl _).alloc (.cells #[ii 0, ii 0, ii 0, ii 0, nsl, nsl] 26)))
     change Sl (World.alloc (put6 y1 gR (ii g0) (ii b0) (ii p0) (ii q0) (.slice Ax0 xs0.length cx0) (.slice Am0 ms0.length cm0)) (.cells #[ii 0, ii 0, ii 0, ii 0, nsl, nsl] 26)) _ _ _ _ _ at hsf
     have hmf := ((hM0B.pt6 hltx0 (ii g0) (ii b0) (ii p0) (ii q0) (.slice Ax0 xs0.length cx0) (.slice Am0 ms0.length cm0)).nx ((Nx.refl _).alloc (.cells #[ii 0, ii 0, ii 0, ii 0, nsl, nsl] 26)))
     change Sl (World.alloc (put6 y1 gR (ii g0) (ii b0) (ii p0) (ii q0) (.slice Ax0 xs0.length cx0) (.slice Am0 ms0.length cm0)) (.cells #[ii 0, ii 0, ii 0, ii 0, nsl, nsl] 26)) _ _ _ _ _ at hmf
     change bodyPost _ _ _ _ _ (World.alloc (put6 y1 gR (ii g0) (ii b0) (ii p0) (ii q0) (.slice Ax0 xs0.length cx0) (.slice Am0 ms0.length cm0)) (.cells #[ii 0, ii 0, ii 0, ii 0, nsl, nsl] 26))
     change Box (World.alloc (put6 y1 gR (ii g0) (ii b0) (ii p0) (ii q0) (.slice Ax0 xs0.length cx0) (.slice Am0 ms0.length cm0)) (.cells #[ii 0, ii 0, ii 0, ii 0, nsl, nsl] 26)) _ _ _ at qx
     generalize World.alloc (put6 y1 gR (ii g0) (ii b0) (ii p0) (ii q0) (.slice Ax0 xs0.length cx0) (.slice Am0 ms0.length cm0)) (.cells #[ii 0, ii 0, ii 0, ii 0, nsl, nsl] 26) = Wf at *
     obtain ⟨hmf0, hmf1, hmf2, hmf3, hmf4, hmf5⟩ := qx.d6
     exact bodyPost_ret (v := .tuple #[.agg #[ii g0, ii b0, ii p0, ii q0, .slice Ax0 xs0.length cx0, .slice Am0 ms0.length cm0], ii 0]) (by simp [results, Tryz.results58, go_sem, hmf0, hmf1, hmf2, hmf3, hmf4, hmf5]) rfl (RetLN.yes (u := (g0, b0, p0, q0, xs0, ms0)) HN.out HCC0.out (hsf.low (by omega)) (hmf.low (by omega)) hnf)
   | some u =>
     obtain ⟨g1, b1, p1, q1, xs1, ms1⟩ := u
     obtain ⟨Ax1, cx1, Am1, cm1, he, hcc, hS1, hM1⟩ := h2' _ hu1
     replace he : e = .returned (.tuple #[.agg #[ii g1, ii b1, ii p1, ii q1, .slice Ax1 xs1.length cx1, .slice Am1 ms1.length cm1], .bool true]) := he
     replace hS1 : SlI y1 x1w.heap.size Ax1 xs1 := hS1
     replace hM1 : SlM y1 x1w.heap.size Am1 ms1 := hM1
     have HCC1 : Hid (xs1.length ≤ cx1) := qh hcc
     have HU1 := qh hu1
     subst he
     clear h1 h2' hu1 hcc
     have bA1 := bA.nx (hnx1.trans hny1)
     have bR1 := bR.nx (hnx1.trans hny1)
     have hxB := hx1b
     have hS0B := hS0A.nx (hnx1.trans hny1)
     have hM0B := hM0A.nx (hnx1.trans hny1)
     have hS1B := hS1
     have hM1B := hM1
     have hltx0 : gR < x0w.heap.size := (bW.nx hnx0).lt
     have hltx1 : gR < x1w.heap.size := (bR.nx hnx1).lt
     have hltA1 := bA1.lt
     have hltR1 := bR1.lt
     have hszx := hnx1.size
     have hszy := hxA.size
     obtain ⟨m0, m1, m2, m3, m4, m5⟩ := bA1.d6
     by_cases hgt : g0 < g1
     · have hd : decide (g1 ≤ g0) = false := decide_eq_false (by omega)
       have HN : Hid (newU (rdU (readP ss ws 0)) (rdU (readP ss ws 1)) = some ((g1, b1, p1, q1, xs1, ms1), 1)) := qh (by rw [HU0.out, HU1.out]; show (if g0 < g1 then _ else _) = _; rw [if_pos hgt])
       obtain ⟨u0, u1, u2, u3, u4, u5⟩ := bR1.d6
       have f0 := bR1.frozen 0
       have f1 := bR1.frozen 1
       have f2 := bR1.frozen 2
       have f3 := bR1.frozen 3
       have f4 := bR1.frozen 4
       have f5 := bR1.frozen 5
       go_wp2
       have qx := ((put6_box bR1 (ii g1) (ii b1) (ii p1) (ii q1) (.slice Ax1 xs1.length cx1) (.slice Am1 ms1.length cm1)).alloc (.cells #[ii g1, ii b1, ii p1, ii q1, .slice Ax1 xs1.length cx1, .slice Am1 ms1.length cm1] 26))
       have hnf := ((put6_nx hxB (hgR) (ii g1) (ii b1) (ii p1) (ii q1) (.slice Ax1 xs1.length cx1) (.slice Am1 ms1.length cm1)).alloc (.cells #[ii g1, ii b1, ii p1, ii q1, .slice Ax1 xs1.length cx1, .slice Am1 ms1.length cm1] 26))
       have hsf := ((hS1B.pt6 hltx1 (ii g1) (ii b1) (ii p1) (ii q1) (.slice Ax1 xs1.length cx1) (.slice Am1 ms1.length cm1)).nx ((Nx.refl _).alloc (.cells #[ii g1, ii b1, ii p1, ii q1, .slice Ax1 xs1.length cx1, .slice Am1 ms1.length cm1] 26)))
       change Sl (World.alloc (put6 y1 gR (ii g1) (ii b1) (ii p1) (ii q1) (.slice Ax1 xs1.length cx1) (.slice Am1 ms1.length cm1)) (.cells #[ii g1, ii b1, ii p1, ii q1, .slice Ax1 xs1.length cx1, .slice Am1 ms1.length cm1] 26)) _ _ _ _ _ at hsf
       have hmf := ((hM1B.pt6 hltx1 (ii g1) (ii b1) (ii p1) (ii q1) (.slice Ax1 xs1.length cx1) (.slice Am1 ms1.length cm1)).nx ((Nx.refl _).alloc (.cells #[ii g1, ii b1, ii p1, ii q1, .slice Ax1 xs1.length cx1, .slice Am1 ms1.length cm1] 26)))
       change Sl (World.alloc (put6 y1 gR (ii g1) (ii b1) (ii p1) (ii q1) (.slice Ax1 xs1.length cx1) (.slice Am1 ms1.length cm1)) (.cells #[ii g1, ii b1, ii p1, ii q1, .slice Ax1 xs1.length cx1, .slice Am1 ms1.length cm1] 26)) _ _ _ _ _ at hmf
       change bodyPost _ _ _ _ _ (World.alloc (put6 y1 gR (ii g1) (ii b1) (ii p1) (ii q1) (.slice Ax1 xs1.length cx1) (.slice Am1 ms1.length cm1)) (.cells #[ii g1, ii b1, ii p1, ii q1, .slice Ax1 xs1.length cx1, .slice Am1 ms1.length cm1] 26))
       change Box (World.alloc (put6 y1 gR (ii g1) (ii b1) (ii p1) (ii q1) (.slice Ax1 xs1.length cx1) (.slice Am1 ms1.length cm1)) (.cells #[ii g1, ii b1, ii p1, ii q1, .slice Ax1 xs1.length cx1, .slice Am1 ms1.length cm1] 26)) _ _ _ at qx
       generalize World.alloc (put6 y1 gR (ii g1) (ii b1) (ii p1) (ii q1) (.slice Ax1 xs1.length cx1) (.slice Am1 ms1.length cm1)) (.cells #[ii g1, ii b1, ii p1, ii q1, .slice Ax1 xs1.length cx1, .slice Am1 ms1.length cm1] 26) = Wf at *
       obtain ⟨hmf0, hmf1, hmf2, hmf3, hmf4, hmf5⟩ := qx.d6
       exact bodyPost_ret (v := .tuple #[.agg #[ii g1, ii b1, ii p1, ii q1, .slice Ax1 xs1.length cx1, .slice Am1 ms1.length cm1], ii 1]) (by simp [results, Tryz.results58, go_sem, hmf0, hmf1, hmf2, hmf3, hmf4, hmf5]) rfl (RetLN.yes (u := (g1, b1, p1, q1, xs1, ms1)) HN.out HCC1.out (hsf.low (by omega)) (hmf.low (by omega)) hnf)
     · have hd : decide (g1 ≤ g0) = true := decide_eq_true (by omega)
       have HN : Hid (newU (rdU (readP ss ws 0)) (rdU (readP ss ws 1)) = some ((g0, b0, p0, q0, xs0, ms0), 0)) := qh (by rw [HU0.out, HU1.out]; show (if g0 < g1 then _ else _) = _; rw [if_neg hgt])
       obtain ⟨u0, u1, u2, u3, u4, u5⟩ := bR1.d6
       have f0 := bR1.frozen 0
       have f1 := bR1.frozen 1
       have f2 := bR1.frozen 2
       have f3 := bR1.frozen 3
       have f4 := bR1.frozen 4
       have f5 := bR1.frozen 5
       go_wp2
       have qx := ((put6_box bR1 (ii g0) (ii b0) (ii p0) (ii q0) (.slice Ax0 xs0.length cx0) (.slice Am0 ms0.length cm0)).alloc (.cells #[ii g1, ii b1, ii p1, ii q1, .slice Ax1 xs1.length cx1, .slice Am1 ms1.length cm1] 26))
       have hnf := ((put6_nx hxB (hgR) (ii g0) (ii b0) (ii p0) (ii q0) (.slice Ax0 xs0.length cx0) (.slice Am0 ms0.length cm0)).alloc (.cells #[ii g1, ii b1, ii p1, ii q1, .slice Ax1 xs1.length cx1, .slice Am1 ms1.length cm1] 26))
       have hsf := ((hS0B.pt6 hltx0 (ii g0) (ii b0) (ii p0) (ii q0) (.slice Ax0 xs0.length cx0) (.slice Am0 ms0.length cm0)).nx ((Nx.refl _).alloc (.cells #[ii g1, ii b1, ii p1, ii q1, .slice Ax1 xs1.length cx1, .slice Am1 ms1.length cm1] 26)))
       change Sl (World.alloc (put6 y1 gR (ii g0) (ii b0) (ii p0) (ii q0) (.slice Ax0 xs0.length cx0) (.slice Am0 ms0.length cm0)) (.cells #[ii g1, ii b1, ii p1, ii q1, .slice Ax1 xs1.length cx1, .slice Am1 ms1.length cm1] 26)) _ _ _ _ _ at hsf
       have hmf := ((hM0B.pt6 hltx0 (ii g0) (ii b0) (ii p0) (ii q0) (.slice Ax0 xs0.length cx0) (.slice Am0 ms0.length cm0)).nx ((Nx.refl _).alloc (.cells #[ii g1, ii b1, ii p1, ii q1, .slice Ax1 xs1.length cx1, .slice Am1 ms1.length cm1] 26)))
       change Sl (World.alloc (put6 y1 gR (ii g0) (ii b0) (ii p0) (ii q0) (.slice Ax0 xs0.length cx0) (.slice Am0 ms0.length cm0)) (.cells #[ii g1, ii b1, ii p1, ii q1, .slice Ax1 xs1.length cx1, .slice Am1 ms1.length cm1] 26)) _ _ _ _ _ at hmf
       change bodyPost _ _ _ _ _ (World.alloc (put6 y1 gR (ii g0) (ii b0) (ii p0) (ii q0) (.slice Ax0 xs0.length cx0) (.slice Am0 ms0.length cm0)) (.cells #[ii g1, ii b1, ii p1, ii q1, .slice Ax1 xs1.length cx1, .slice Am1 ms1.length cm1] 26))
       change Box (World.alloc (put6 y1 gR (ii g0) (ii b0) (ii p0) (ii q0) (.slice Ax0 xs0.length cx0) (.slice Am0 ms0.length cm0)) (.cells #[ii g1, ii b1, ii p1, ii q1, .slice Ax1 xs1.length cx1, .slice Am1 ms1.length cm1] 26)) _ _ _ at qx
       generalize World.alloc (put6 y1 gR (ii g0) (ii b0) (ii p0) (ii q0) (.slice Ax0 xs0.length cx0) (.slice Am0 ms0.length cm0)) (.cells #[ii g1, ii b1, ii p1, ii q1, .slice Ax1 xs1.length cx1, .slice Am1 ms1.length cm1] 26) = Wf at *
       obtain ⟨hmf0, hmf1, hmf2, hmf3, hmf4, hmf5⟩ := qx.d6
       exact bodyPost_ret (v := .tuple #[.agg #[ii g0, ii b0, ii p0, ii q0, .slice Ax0 xs0.length cx0, .slice Am0 ms0.length cm0], ii 0]) (by simp [results, Tryz.results58, go_sem, hmf0, hmf1, hmf2, hmf3, hmf4, hmf5]) rfl (RetLN.yes (u := (g0, b0, p0, q0, xs0, ms0)) HN.out HCC0.out (hsf.low (by omega)) (hmf.low (by omega)) hnf)
def newA (ss : List BA) (ws : List (Int × BA)) : U6 × Int × Int :=
 if diskB ss ws then (match newU (rdU (readP ss ws 0)) (rdU (readP ss ws 1)) with | none => (zU, 0, 19) | some (u, s) => (u, s, 0)) else (zU, 0, 1)
theorem newA_bad {ss : List BA} {ws : List (Int × BA)} (h : diskB ss ws = false) : newA ss ws = (zU, 0, 1) := by unfold newA; rw [h]; rfl
theorem newA_none {ss : List BA} {ws : List (Int × BA)} (h : diskB ss ws = true) (hn : newU (rdU (readP ss ws 0)) (rdU (readP ss ws 1)) = none) : newA ss ws = (zU, 0, 19) := by unfold newA; rw [h, hn]; rfl
theorem newA_yes {ss : List BA} {ws : List (Int × BA)} {u : U6} {s : Int} (h : diskB ss ws = true) (hn : newU (rdU (readP ss ws 0)) (rdU (readP ss ws 1)) = some (u, s)) : newA ss ws = (u, s, 0) := by unfold newA; rw [h, hn]; rfl
theorem newU_slot {o0 o1 : Option U6} {u : U6} {s : Int} (h : newU o0 o1 = some (u, s)) : s = 0 ∨ s = 1 := by
 unfold newU at h
 split at h
 · split at h <;> cases h
   · exact .inr rfl
   · exact .inl rfl
 · cases h; exact .inl rfl
 · cases h; exact .inr rfl
 · cases h
theorem newU_from {o0 o1 : Option U6} {u : U6} {s : Int} (h : newU o0 o1 = some (u, s)) : o0 = some u ∨ o1 = some u := by
 unfold newU at h
 split at h
 · split at h <;> cases h
   · exact .inr rfl
   · exact .inl rfl
 · cases h; exact .inl rfl
 · cases h; exact .inr rfl
 · cases h
def RetNW (w : World) (ss : List BA) (ws : List (Int × BA)) (e : Ending) (w' : World) : Prop :=
 Nx w w' ∧ ∃ A c A2 c2, e = .returned (.tuple #[vU (newA ss ws).1 A c A2 c2, ii (newA ss ws).2.1, ii (newA ss ws).2.2]) ∧ FitU w' w.heap.size (newA ss ws).1 A c A2
theorem RetNW.un {w w' : World} {ss : List BA} {ws : List (Int × BA)} {e : Ending} {g b p q s k : Int} {xs : List Int} {ms : List Mrk} (h : RetNW w ss ws e w') (hq : newA ss ws = ((g, b, p, q, xs, ms), s, k)) :
 Nx w w' ∧ ∃ A c A2 c2, e = .returned (.tuple #[.agg #[ii g, ii b, ii p, ii q, .slice A xs.length c, .slice A2 ms.length c2], ii s, ii k]) ∧ xs.length ≤ c ∧ SlI w' w.heap.size A xs ∧ SlM w' w.heap.size A2 ms := by
 unfold RetNW at h; rw [hq] at h; exact h
theorem RetNW.mk {w w' : World} {ss : List BA} {ws : List (Int × BA)} {g b p q s k : Int} {xs : List Int} {ms : List Mrk} {c c2 : Nat} {A A2 : Option Addr} (hq : newA ss ws = ((g, b, p, q, xs, ms), s, k)) (hc : xs.length ≤ c) (hs : SlI w' w.heap.size A xs) (hm : SlM w' w.heap.size A2 ms) (hn : Nx w w') :
 RetNW w ss ws (.returned (.tuple #[.agg #[ii g, ii b, ii p, ii q, .slice A xs.length c, .slice A2 ms.length c2], ii s, ii k])) w' := by
 unfold RetNW; rw [hq]; exact ⟨hn, A, c, A2, c2, rfl, hc, hs, hm⟩
theorem RetNW.zero {w w' : World} {ss : List BA} {ws : List (Int × BA)} {s k : Int} (hq : newA ss ws = (zU, s, k)) (hn : Nx w w') :
 RetNW w ss ws (.returned (.tuple #[.agg #[ii 0, ii 0, ii 0, ii 0, nsl, nsl], ii s, ii k])) w' := RetNW.mk (g := 0) (b := 0) (p := 0) (q := 0) (xs := []) (ms := []) hq nle SlI.nil SlM.nil hn
theorem implNewestSuper_c (A A2 : Option Addr) (n c n2 c2 B : Nat) (ss : List BA) (ws : List (Int × BA)) (w : World) (a0 a1 : Addr) (h : Strs w B A n ss) (h2 : Wrs w B A2 n2 ws) (hB : B ≤ w.heap.size) (hn : n ≤ 1048576) (hn2 : n2 ≤ 1048576) (hE : Er w a0 a1) (hM : Mx w) (hEt : Et w) :
 Calls Tryz.prog 13 #[.agg #[.slice A n c, .slice A2 n2 c2]] w (RetNW w ss ws) := by
 have b0 : Box ((w.alloc (.cells #[.slice A n c, .slice A2 n2 c2] 35)).alloc (.cells #[ii 0, ii 0, ii 0, ii 0, nsl, nsl] 26)) (w.heap.size + 1) 26 #[ii 0, ii 0, ii 0, ii 0, nsl, nsl] := by have := Box.new (w.alloc (.cells #[.slice A n c, .slice A2 n2 c2] 35)) 26 #[ii 0, ii 0, ii 0, ii 0, nsl, nsl]; rwa [World.size_alloc] at this
 have e0 : Box ((w.alloc (.cells #[.slice A n c, .slice A2 n2 c2] 35)).alloc (.cells #[ii 0, ii 0, ii 0, ii 0, nsl, nsl] 26)) w.heap.size 35 #[.slice A n c, .slice A2 n2 c2] := (Box.new w _ _).alloc _
 have hx0 := ((Nx.refl w).alloc (.cells #[.slice A n c, .slice A2 n2 c2] 35)).alloc (.cells #[ii 0, ii 0, ii 0, ii 0, nsl, nsl] 26)
 go_enter Tryz.func13, Tryz.ntmps13
 go_wp2_with fail
 generalize (w.alloc (.cells #[.slice A n c, .slice A2 n2 c2] 35)).alloc (.cells #[ii 0, ii 0, ii 0, ii 0, nsl, nsl] 26) = W at *
 obtain ⟨gR, Hg⟩ : ∃ g, Hid (w.heap.size + 1 = g) := ⟨_, rfl⟩
 have hgR : w.heap.size ≤ gR := by have := Hg.out; omega
 rw [Hg.out] at b0 ⊢
 have hltW := b0.lt
 refine (isRight_c A A2 n c n2 c2 B ss ws _ (h.below hx0 hB) (h2.below hx0 hB) (ntr hB hx0.size) hn hn2).mono ?_
 rintro e w1 ⟨rfl, hnx1⟩
 have b1 := b0.nx hnx1
 have e1 := e0.nx hnx1
 have hx1 := hx0.trans hnx1
 clear b0 e0 hx0
 cases hD : diskB ss ws with
 | false =>
   have HA := qh (newA_bad hD)
   clear hD
   obtain ⟨u0, u1, u2, u3, u4, u5⟩ := b1.d6
   have f0 := b1.frozen 0
   have f1 := b1.frozen 1
   have f2 := b1.frozen 2
   have f3 := b1.frozen 3
   have f4 := b1.frozen 4
   have f5 := b1.frozen 5
   go_wp2
   have qx := (put6_box b1 (ii 0) (ii 0) (ii 0) (ii 0) (nsl) (nsl))
   have hnf := (put6_nx hx1 (hgR) (ii 0) (ii 0) (ii 0) (ii 0) (nsl) (nsl))
   change bodyPost _ _ _ _ _ (put6 w1 gR (ii 0) (ii 0) (ii 0) (ii 0) (nsl) (nsl))
   change Box (put6 w1 gR (ii 0) (ii 0) (ii 0) (ii 0) (nsl) (nsl)) _ _ _ at qx
   generalize put6 w1 gR (ii 0) (ii 0) (ii 0) (ii 0) (nsl) (nsl) = Wf at *
   obtain ⟨cq0, cq1, cq2, cq3, cq4, cq5⟩ := qx.d6
   exact bodyPost_ret (v := .tuple #[.agg #[ii 0, ii 0, ii 0, ii 0, nsl, nsl], ii 0, ii 1]) (by simp [results, Tryz.results13, go_sem, cq0, cq1, cq2, cq3, cq4, cq5]) rfl (RetNW.zero HA.out hnf)
 | true =>
   have HD := qh hD
   have h1n : 1 < n := by have := (diskB_len64 hD).1; have := h.1; omega
   clear hD
   have z0 := e1.c0
   have z1 := e1.c1
   go_wp2_with fail
   refine (newestSuper_c A A2 n c n2 c2 B ss ws _ a0 a1 (h.below hx1 hB) (h2.below hx1 hB) (ntr hB hx1.size) h1n hn hn2 (by have := readP_size HD.out 0; omega) (by have := readP_size HD.out 1; omega) (hE.nx hx1) (hM.nx hx1) (hEt.nx hx1)).mono ?_
   rintro e w2 ⟨hnx2, h1, h2'⟩
   have b2 := b1.nx hnx2
   have hx2 := hx1.trans hnx2
   have hltR := b1.lt
   have hlt2 := b2.lt
   clear b1 e1 z0 z1
   cases hu : newU (rdU (readP ss ws 0)) (rdU (readP ss ws 1)) with
   | none =>
     have HA := qh (newA_none HD.out hu)
     have he := h1 hu
     unfold slE at he
     subst he
     clear h1 h2' hu
     go_wp2_with fail
     have b3 := b2.alloc (.cells #[ii 0, ii 0, ii 0, ii 0, nsl, nsl] 26)
     have hx3 := hx2.alloc (.cells #[ii 0, ii 0, ii 0, ii 0, nsl, nsl] 26)
     change Calls _ _ _ (w2.alloc (.cells #[ii 0, ii 0, ii 0, ii 0, nsl, nsl] 26)) _
     generalize w2.alloc (.cells #[ii 0, ii 0, ii 0, ii 0, nsl, nsl] 26) = w3 at *
     refine (slotCode_c 1 19 _ (hEt.nx hx3)).mono ?_
     rintro e w4 ⟨rfl, hnx4⟩
     have b4 := b3.nx hnx4
     have hx4 := hx3.trans hnx4
     have hlt4 := b4.lt
     obtain ⟨u0, u1, u2, u3, u4, u5⟩ := b4.d6
     have f0 := b4.frozen 0
     have f1 := b4.frozen 1
     have f2 := b4.frozen 2
     have f3 := b4.frozen 3
     have f4 := b4.frozen 4
     have f5 := b4.frozen 5
     go_wp2
     have qx := (put6_box b4 (ii 0) (ii 0) (ii 0) (ii 0) (nsl) (nsl))
     have hnf := (put6_nx hx4 (hgR) (ii 0) (ii 0) (ii 0) (ii 0) (nsl) (nsl))
     change bodyPost _ _ _ _ _ (put6 w4 gR (ii 0) (ii 0) (ii 0) (ii 0) (nsl) (nsl))
     change Box (put6 w4 gR (ii 0) (ii 0) (ii 0) (ii 0) (nsl) (nsl)) _ _ _ at qx
     generalize put6 w4 gR (ii 0) (ii 0) (ii 0) (ii 0) (nsl) (nsl) = Wf at *
     obtain ⟨cq0, cq1, cq2, cq3, cq4, cq5⟩ := qx.d6
     exact bodyPost_ret (v := .tuple #[.agg #[ii 0, ii 0, ii 0, ii 0, nsl, nsl], ii 0, ii 19]) (by simp [results, Tryz.results13, go_sem, cq0, cq1, cq2, cq3, cq4, cq5]) rfl (RetNW.zero HA.out hnf)
   | some us =>
     obtain ⟨⟨g, b, p, q, xs, ms⟩, sl⟩ := us
     obtain ⟨Ax, cx, Am, cm, he, hcc, hS1, hM1⟩ := h2' _ _ hu
     replace he : e = .returned (.tuple #[.agg #[ii g, ii b, ii p, ii q, .slice Ax xs.length cx, .slice Am ms.length cm], ii sl, .nilIface]) := he
     replace hS1 : SlI w2 w1.heap.size Ax xs := hS1
     replace hM1 : SlM w2 w1.heap.size Am ms := hM1
     have HCC : Hid (xs.length ≤ cx) := qh hcc
     have HA := qh (newA_yes HD.out hu)
     have hsl := newU_slot hu
     have hd0 : decide (sl < 0) = false := decide_eq_false (by rcases hsl with rfl | rfl <;> omega)
     subst he
     clear h1 h2' hu hcc hsl
     obtain ⟨u0, u1, u2, u3, u4, u5⟩ := b2.d6
     have f0 := b2.frozen 0
     have f1 := b2.frozen 1
     have f2 := b2.frozen 2
     have f3 := b2.frozen 3
     have f4 := b2.frozen 4
     have f5 := b2.frozen 5
     go_wp2
     have qx := ((put6_box b2 (ii g) (ii b) (ii p) (ii q) (.slice Ax xs.length cx) (.slice Am ms.length cm)).alloc (.cells #[ii g, ii b, ii p, ii q, .slice Ax xs.length cx, .slice Am ms.length cm] 26))
     have hnf := ((put6_nx hx2 (hgR) (ii g) (ii b) (ii p) (ii q) (.slice Ax xs.length cx) (.slice Am ms.length cm)).alloc (.cells #[ii g, ii b, ii p, ii q, .slice Ax xs.length cx, .slice Am ms.length cm] 26))
     have hsf := ((hS1.pt6 hltR (ii g) (ii b) (ii p) (ii q) (.slice Ax xs.length cx) (.slice Am ms.length cm)).nx ((Nx.refl _).alloc (.cells #[ii g, ii b, ii p, ii q, .slice Ax xs.length cx, .slice Am ms.length cm] 26)))
     change Sl (World.alloc (put6 w2 gR (ii g) (ii b) (ii p) (ii q) (.slice Ax xs.length cx) (.slice Am ms.length cm)) (.cells #[ii g, ii b, ii p, ii q, .slice Ax xs.length cx, .slice Am ms.length cm] 26)) _ _ _ _ _ at hsf
     have hmf := ((hM1.pt6 hltR (ii g) (ii b) (ii p) (ii q) (.slice Ax xs.length cx) (.slice Am ms.length cm)).nx ((Nx.refl _).alloc (.cells #[ii g, ii b, ii p, ii q, .slice Ax xs.length cx, .slice Am ms.length cm] 26)))
     change Sl (World.alloc (put6 w2 gR (ii g) (ii b) (ii p) (ii q) (.slice Ax xs.length cx) (.slice Am ms.length cm)) (.cells #[ii g, ii b, ii p, ii q, .slice Ax xs.length cx, .slice Am ms.length cm] 26)) _ _ _ _ _ at hmf
     change bodyPost _ _ _ _ _ (World.alloc (put6 w2 gR (ii g) (ii b) (ii p) (ii q) (.slice Ax xs.length cx) (.slice Am ms.length cm)) (.cells #[ii g, ii b, ii p, ii q, .slice Ax xs.length cx, .slice Am ms.length cm] 26))
     change Box (World.alloc (put6 w2 gR (ii g) (ii b) (ii p) (ii q) (.slice Ax xs.length cx) (.slice Am ms.length cm)) (.cells #[ii g, ii b, ii p, ii q, .slice Ax xs.length cx, .slice Am ms.length cm] 26)) _ _ _ at qx
     generalize World.alloc (put6 w2 gR (ii g) (ii b) (ii p) (ii q) (.slice Ax xs.length cx) (.slice Am ms.length cm)) (.cells #[ii g, ii b, ii p, ii q, .slice Ax xs.length cx, .slice Am ms.length cm] 26) = Wf at *
     obtain ⟨hmf0, hmf1, hmf2, hmf3, hmf4, hmf5⟩ := qx.d6
     exact bodyPost_ret (v := .tuple #[.agg #[ii g, ii b, ii p, ii q, .slice Ax xs.length cx, .slice Am ms.length cm], ii sl, ii 0]) (by simp [results, Tryz.results13, go_sem, hmf0, hmf1, hmf2, hmf3, hmf4, hmf5]) rfl (RetNW.mk HA.out HCC.out (hsf.low (by omega)) (hmf.low (by omega)) hnf)
def chN (c : Chg) : List Nat := [c.1.toNat, c.2.1.toNat, c.2.2.toNat]
def segN (f t m : Int) (cs : List Chg) : List Nat := [f.toNat, t.toNat, m.toNat] ++ cs.flatMap chN
theorem flat_len {α : Type} (g : Chg → List α) (hg : ∀ c, (g c).length = 3) (cs : List Chg) : (cs.flatMap g).length = 3 * cs.length := by
 induction cs with
 | nil => rfl
 | cons a l ih => simp [hg, ih]; omega
theorem segN_len (f t m : Int) (cs : List Chg) : (segN f t m cs).length = 3 + 3 * cs.length := by
 unfold segN; rw [List.length_append, flat_len chN (fun _ => rfl)]; simp
theorem mem_chB {cs : List Chg} (h : chsB cs = true) {c : Chg} (hc : c ∈ cs) : chB c = true := by
 obtain ⟨k, hk, rfl⟩ := List.mem_iff_getElem.1 hc
 have := chsB_to h k hk
 unfold okCh at this
 simp only [Bool.and_eq_true] at this
 have h1 := this.1
 rw [gdE, List.getElem?_eq_getElem hk] at h1
 exact h1
theorem chB_yes {c : Chg} (h : chB c = true) : (0 ≤ c.1 ∧ c.1 ≤ 7) ∧ (0 ≤ c.2.1 ∧ c.2.1 ≤ 999999) ∧ (0 ≤ c.2.2 ∧ c.2.2 ≤ 999999) := by
 unfold chB at h
 simp only [Bool.and_eq_true] at h
 exact ⟨inB_yes h.1.1, inB_yes h.1.2, inB_yes h.2⟩
theorem segB_yes {f t m : Int} {cs : List Chg} (h : segB f t m cs = true) : (0 ≤ f ∧ f ≤ 999999) ∧ (0 ≤ t ∧ t ≤ 999999) ∧ f < t ∧ (0 ≤ m ∧ m ≤ 999999) ∧ chsB cs = true := by
 unfold segB at h
 simp only [Bool.and_eq_true, decide_eq_true_eq] at h
 exact ⟨inB_yes h.1.1.1.1, inB_yes h.1.1.1.2, h.1.1.2, inB_yes h.1.2, h.2⟩
theorem segN_all {f t m : Int} {cs : List Chg} (h : segB f t m cs = true) : All6 (segN f t m cs) := by
 obtain ⟨⟨h1, k1⟩, ⟨h2, k2⟩, _, ⟨h3, k3⟩, h4⟩ := segB_yes h
 have key : ∀ n ∈ segN f t m cs, n ≤ 999999 := by
  intro n hn
  unfold segN at hn
  rw [List.mem_append] at hn
  rcases hn with hn | hn
  · simp only [List.mem_cons, List.not_mem_nil, or_false] at hn
    omega
  · obtain ⟨c, hc, hn⟩ := List.mem_flatMap.1 hn
    obtain ⟨⟨a1, b1⟩, ⟨a2, b2⟩, ⟨a3, b3⟩⟩ := chB_yes (mem_chB h4 hc)
    simp only [chN, List.mem_cons, List.not_mem_nil, or_false] at hn
    omega
 intro k hk
 rw [gdE, List.getElem?_eq_getElem hk]
 exact key _ (List.getElem_mem hk)
def segS (f t m : Int) (cs : List Chg) : BA := if segB f t m cs then sealS (numsS (segN f t m cs)) else ⟨#[]⟩
def chN3 (ns : List Nat) (j : Nat) : Chg := ((ns.getD (3 + 3 * j) 0 : Nat), (ns.getD (3 + 3 * j + 1) 0 : Nat), (ns.getD (3 + 3 * j + 2) 0 : Nat))
def chOf (ns : List Nat) (k : Nat) : List Chg := (List.range k).map (chN3 ns)
abbrev G4 := Nat × Nat × Nat × List Chg
def sgOf (ns : List Nat) : G4 := (ns.getD 0 0, ns.getD 1 0, ns.getD 2 0, chOf ns (ns.length / 3 - 1))
def okLen (ns : List Nat) : Bool := decide (3 ≤ ns.length) && decide (ns.length % 3 = 0)
def g4B (q : G4) : Bool := segB q.1 q.2.1 q.2.2.1 q.2.2.2
def rdG (t : BA) : Option G4 := (rdN t).bind fun ns => if okLen ns && g4B (sgOf ns) then some (sgOf ns) else none
theorem rdG_yes {t : BA} {ns : List Nat} (h : rdN t = some ns) (hl : okLen ns = true) (hb : g4B (sgOf ns) = true) : rdG t = some (sgOf ns) := by unfold rdG; rw [h]; simp [hl, hb]
def RetST (w : World) (o : Option G4) (bad good : Value) (e : Ending) (w' : World) : Prop :=
 Nx w w' ∧ (o = none → e = .returned (.tuple #[.agg #[ii 0, ii 0, ii 0, nsl], bad])) ∧
 ∀ q, o = some q → ∃ A c, e = .returned (.tuple #[.agg #[ii q.1, ii q.2.1, ii q.2.2.1, .slice A q.2.2.2.length c], good]) ∧ Sl w' w.heap.size A 192 (q.2.2.2.length * 3) (chAt q.2.2.2)
theorem RetST.no {w w' : World} {o : Option G4} {bad good : Value} (h : o = none) (hn : Nx w w') : RetST w o bad good (.returned (.tuple #[.agg #[ii 0, ii 0, ii 0, nsl], bad])) w' :=
 ⟨hn, fun _ => rfl, fun q h2 => by rw [h] at h2; cases h2⟩
theorem RetST.yes {w w' : World} {o : Option G4} {bad good : Value} {ns : List Nat} {n0 n1 n2 k c : Nat} {A : Option Addr} (h : o = some (sgOf ns)) (hq : sgOf ns = (n0, n1, n2, chOf ns k)) (hs : Sl w' w.heap.size A 192 ((chOf ns k).length * 3) (chAt (chOf ns k))) (hn : Nx w w') :
 RetST w o bad good (.returned (.tuple #[.agg #[ii n0, ii n1, ii n2, .slice A (chOf ns k).length c], good])) w' :=
 ⟨hn, (fun h2 => by rw [h] at h2; cases h2), fun q h2 => by rw [h, hq] at h2; injection h2 with h2; subst h2; exact ⟨A, c, rfl, hs⟩⟩
theorem okLen_yes {ns : List Nat} (h1 : 3 ≤ ns.length) (h2 : ns.length % 3 = 0) : okLen ns = true := by unfold okLen; simp [h1, h2]
def gR (q : G4) : SgR := ⟨q.1, q.2.1, q.2.2.1, none, 0, q.2.2.2⟩
def ldG (ss : List BA) (ws : List (Int × BA)) (x : Int) : Option G4 := rdG (readP ss ws x.toNat)
def ldS (ss : List BA) (ws : List (Int × BA)) (x : Int) : SgR := ((ldG ss ws x).map gR).getD sgZ
def oneN : Option (List Nat) → Option Int
 | some [x] => some (x : Int)
 | _ => none
def ldI (ss : List BA) (ws : List (Int × BA)) (j : Nat) : Option Int := oneN (rdN (readP ss ws (2 + j)))
def ldX (ss : List BA) (ws : List (Int × BA)) (j : Nat) : Int := (ldI ss ws j).getD 0
def zVl : Vl := ⟨0, 0, 0, 0, none, 0, [], none, 0, [], none, 0, [], none, 0, []⟩
def vlU (u : U6) (gs : List SgR) (im : List Int) : Vl := ⟨u.1, u.2.1, u.2.2.1, u.2.2.2.1, none, 0, u.2.2.2.2.1, none, 0, u.2.2.2.2.2, none, 0, gs, none, 0, im⟩
def ldOk (ss : List BA) (ws : List (Int × BA)) (u : U6) : Bool := (u.2.2.2.2.1.all fun x => (ldG ss ws x).isSome) && (List.range 8).all fun j => (ldI ss ws j).isSome
def ldW (ss : List BA) (ws : List (Int × BA)) (u : U6) : Vl := vlU u (u.2.2.2.2.1.map (ldS ss ws)) ((List.range 8).map (ldX ss ws))
def ldV (ss : List BA) (ws : List (Int × BA)) : Vl × Int :=
 match newU (rdU (readP ss ws 0)) (rdU (readP ss ws 1)) with
 | none => (zVl, 19)
 | some (u, _) => if ldOk ss ws u && (ldW ss ws u).ok then (ldW ss ws u, 0) else (zVl, 10)
theorem ldV_some {ss : List BA} {ws : List (Int × BA)} {u : U6} {s : Int} (h : newU (rdU (readP ss ws 0)) (rdU (readP ss ws 1)) = some (u, s)) :
 ldV ss ws = if ldOk ss ws u && (ldW ss ws u).ok then (ldW ss ws u, 0) else (zVl, 10) := by unfold ldV; rw [h]
theorem ldV_yes {ss : List BA} {ws : List (Int × BA)} {u : U6} {s : Int} (h : newU (rdU (readP ss ws 0)) (rdU (readP ss ws 1)) = some (u, s)) (ho : ldOk ss ws u = true) (hv : (ldW ss ws u).ok = true) : ldV ss ws = (ldW ss ws u, 0) := by
 rw [ldV_some h, ho, hv]; rfl
structure GsTo (ss : List BA) (ws : List (Int × BA)) (xs : List Int) (k : Nat) (gs : List SgR) : Prop where
 len : gs.length = k
 ok : ∀ j, j < k → (ldG ss ws (xs.getD j 0)).isSome = true
 v : gs.map SgR.v = (xs.take k).map fun x => (ldS ss ws x).v
theorem GsTo.nil (ss : List BA) (ws : List (Int × BA)) (xs : List Int) : GsTo ss ws xs 0 [] := ⟨rfl, fun j h => absurd h (by omega), rfl⟩
theorem GsTo.snoc {ss : List BA} {ws : List (Int × BA)} {xs : List Int} {k : Nat} {gs : List SgR} {q : G4} (h : GsTo ss ws xs k gs) (hk : k < xs.length) (hq : ldG ss ws (xs.getD k 0) = some q) (A : Option Addr) (c : Nat) :
 GsTo ss ws xs (k + 1) (gs ++ [⟨q.1, q.2.1, q.2.2.1, A, c, q.2.2.2⟩]) := by
 refine ⟨by rw [List.length_append, h.len]; rfl, fun j hj => ?_, ?_⟩
 · rcases Nat.lt_or_ge j k with hl | hl
   · exact h.ok j hl
   · obtain rfl : j = k := by omega
     rw [hq]; rfl
 · have e : xs[k] = xs.getD k 0 := by rw [gdE, List.getElem?_eq_getElem hk]; rfl
   rw [List.map_append, h.v, List.take_succ_eq_append_getElem hk, List.map_append]
   congr 1
   show [_] = [_]
   congr 1
   show _ = (ldS ss ws xs[k]).v
   unfold ldS
   rw [e, hq]; rfl
structure ImTo (ss : List BA) (ws : List (Int × BA)) (k : Nat) (im : List Int) : Prop where
 eq : im = (List.range k).map (ldX ss ws)
 ok : ∀ j, j < k → (ldI ss ws j).isSome = true
theorem ImTo.nil (ss : List BA) (ws : List (Int × BA)) : ImTo ss ws 0 [] := ⟨rfl, fun j h => absurd h (by omega)⟩
theorem ImTo.len {ss : List BA} {ws : List (Int × BA)} {k : Nat} {im : List Int} (h : ImTo ss ws k im) : im.length = k := by rw [h.eq]; simp
theorem ImTo.snoc {ss : List BA} {ws : List (Int × BA)} {k : Nat} {im : List Int} {x : Int} (h : ImTo ss ws k im) (hx : ldI ss ws k = some x) : ImTo ss ws (k + 1) (im ++ [x]) := by
 refine ⟨?_, fun j hj => ?_⟩
 · rw [List.range_succ, List.map_append, h.eq]
   congr 1
   show [x] = [ldX ss ws k]
   unfold ldX; rw [hx]; rfl
 · rcases Nat.lt_or_ge j k with hl | hl
   · exact h.ok j hl
   · obtain rfl : j = k := by omega
     rw [hx]; rfl
def Dj (gs : List SgR) : Prop := ∀ i j, i < gs.length → j < gs.length → i ≠ j → 0 < (gs.getD i sgZ).cs.length → 0 < (gs.getD j sgZ).cs.length → (gs.getD i sgZ).A ≠ (gs.getD j sgZ).A
theorem Dj.nil : Dj [] := fun i j h => absurd h (by simp)
theorem Dj.snoc {w : World} {lo : Nat} {gs : List SgR} {g : SgR} {w' : World} (h : Dj gs) (hc : ∀ k, k < gs.length → Sl w lo (gs.getD k sgZ).A 192 ((gs.getD k sgZ).cs.length * 3) (chAt (gs.getD k sgZ).cs)) (hg : Sl w' w.heap.size g.A 192 (g.cs.length * 3) (chAt g.cs)) : Dj (gs ++ [g]) := by
 have key : ∀ i, i < gs.length → 0 < (gs.getD i sgZ).cs.length → 0 < g.cs.length → (gs.getD i sgZ).A ≠ g.A := fun i hi h1 h2 e => by
  obtain ⟨b, e1, _, ho⟩ := hc i hi (by omega)
  obtain ⟨b', e2, hl, _⟩ := hg (by omega)
  have := ho.lt
  rw [e1, e2] at e
  injection e with e
  injection e with e _ _
  omega
 intro i j hi hj hne h1 h2
 rw [List.length_append] at hi hj
 simp only [List.length_cons, List.length_nil] at hi hj
 by_cases ei : i < gs.length
 · rw [getD_app_lt gs g ei] at h1 ⊢
   by_cases ej : j < gs.length
   · rw [getD_app_lt gs g ej] at h2 ⊢
     exact h i j ei ej hne h1 h2
   · obtain rfl : j = gs.length := by omega
     rw [getD_app] at h2 ⊢
     exact key i ei h1 h2
 · obtain rfl : i = gs.length := by omega
   rw [getD_app] at h1 ⊢
   by_cases ej : j < gs.length
   · rw [getD_app_lt gs g ej] at h2 ⊢
     exact fun e => key j ej h2 h1 e.symm
   · omega
structure VlP (w : World) (lo mid hi : Nat) (V : Vl) : Prop where
 tab : Sr w lo mid V.A 3 V.xs.length (inAt V.xs)
 mks : Sr w lo mid V.A2 136 (V.ms.length * 2) (mrAt V.ms)
 row : Sr w mid hi V.A3 122 (V.gs.length * 4) (sgAt V.gs)
 chs : ∀ k, k < V.gs.length → Sr w mid hi (V.gs.getD k sgZ).A 192 ((V.gs.getD k sgZ).cs.length * 3) (chAt (V.gs.getD k sgZ).cs)
 img : Sr w mid hi V.A4 3 V.im.length (inAt V.im)
 dj : Dj V.gs
 cap : V.xs.length ≤ V.c
 cap3 : V.gs.length ≤ V.c3
 le : lo ≤ mid
 le2 : mid ≤ hi
theorem VlP.nx {w w' : World} {lo mid hi : Nat} {V : Vl} (h : VlP w lo mid hi V) (hb : Nx w w') : VlP w' lo mid hi V := ⟨h.tab.nx hb, h.mks.nx hb, h.row.nx hb, fun k hk => (h.chs k hk).nx hb, h.img.nx hb, h.dj, h.cap, h.cap3, h.le, h.le2⟩
theorem Sr.low {w : World} {lo lo' hi m : Nat} {A : Option Addr} {t : TypeId} {f : Nat → Value} (h : Sr w lo hi A t m f) (hl : lo' ≤ lo) : Sr w lo' hi A t m f := fun hm => by
 obtain ⟨g, e, h1, h2, ho⟩ := h hm; exact ⟨g, e, by omega, h2, ho⟩
theorem Sr.up {w : World} {lo hi hi' m : Nat} {A : Option Addr} {t : TypeId} {f : Nat → Value} (h : Sr w lo hi A t m f) (hl : hi ≤ hi') : Sr w lo hi' A t m f := fun hm => by
 obtain ⟨g, e, h1, h2, ho⟩ := h hm; exact ⟨g, e, h1, by omega, ho⟩
theorem VlP.own {w : World} {lo mid hi : Nat} {V : Vl} (h : VlP w lo mid hi V) : VlO w lo V :=
 ⟨h.tab.sl, h.mks.sl, ⟨(h.row.low h.le).sl, fun k hk => ((h.chs k hk).low h.le).sl⟩, (h.img.low h.le).sl, h.cap, h.cap3⟩
theorem VlP.low {w : World} {lo lo' mid hi : Nat} {V : Vl} (h : VlP w lo mid hi V) (hl : lo' ≤ lo) : VlP w lo' mid hi V := ⟨h.tab.low hl, h.mks.low hl, h.row, h.chs, h.img, h.dj, h.cap, h.cap3, by have := h.le; omega, h.le2⟩
theorem VlP.up {w : World} {lo mid hi hi' : Nat} {V : Vl} (h : VlP w lo mid hi V) (hl : hi ≤ hi') : VlP w lo mid hi' V := ⟨h.tab, h.mks, h.row.up hl, fun k hk => (h.chs k hk).up hl, h.img.up hl, h.dj, h.cap, h.cap3, h.le, by have := h.le2; omega⟩
theorem VlP.zero (w : World) {lo hi : Nat} (h : lo ≤ hi) : VlP w lo lo hi zVl := ⟨fun h => absurd h (by simp [zVl]), fun h => absurd h (by simp [zVl]), fun h => absurd h (by simp [zVl]), fun k h => absurd h (by simp [zVl]), fun h => absurd h (by simp [zVl]), Dj.nil, Nat.le_refl _, Nat.le_refl _, Nat.le_refl _, h⟩
theorem VlS.refl (V : Vl) : VlS V V := ⟨rfl, rfl, rfl, rfl, rfl, rfl, rfl, rfl⟩
theorem ssum_bound {gs : List SgR} {m : Nat} (h : ∀ k, k < gs.length → (gs.getD k sgZ).cs.length ≤ m) : ∀ k, k ≤ gs.length → ssum gs k ≤ k * m
 | 0, _ => by rw [ssum_zero]; omega
 | k + 1, hk => by
   have h1 := ssum_bound h k (by omega)
   have h2 := h k (by omega)
   rw [ssum_succ (by omega), Nat.succ_mul]; omega
structure VlB (V : Vl) : Prop where
 xs : V.xs.length ≤ 20
 ms : V.ms.length ≤ 4
 gs : V.gs.length ≤ 20
 cs : ∀ k, k < V.gs.length → (V.gs.getD k sgZ).cs.length ≤ 300
 im : V.im.length ≤ 8
 sum : ssum V.gs V.gs.length ≤ 6000
 mka : AllM V.ms
theorem VlB.zero : VlB zVl := ⟨by simp [zVl], by simp [zVl], by simp [zVl], fun k h => absurd h (by simp [zVl]), by simp [zVl], Nat.zero_le _, fun k => by simp [zVl, mrZ]⟩
theorem VlB.n {V : Vl} (h : VlB V) : VlN V 1048576 := ⟨by have := h.xs; omega, by have := h.ms; omega, by have := h.gs; omega, fun k hk => by have := h.cs k hk; omega, by have := h.im; omega⟩
theorem VlB.s {V V' : Vl} (h : VlB V) (hs : VlS V V') : VlB V' :=
 have hc : ∀ k, k < V'.gs.length → (V'.gs.getD k sgZ).cs.length ≤ 300 := v_cs hs.gs h.cs
 ⟨by rw [hs.xs]; exact h.xs, by rw [hs.ms]; exact h.ms, by rw [hs.len]; exact h.gs, hc, by rw [hs.im]; exact h.im, by
  have h1 := ssum_bound hc _ nle
  have h2 := h.gs
  rw [← hs.len] at h2
  have := Nat.mul_le_mul_right 300 h2
  omega, by rw [hs.ms]; exact h.mka⟩
theorem dig_ch (n : Nat) : (UInt8.ofNat (48 + n % 10)).toNat = 48 + n % 10 := by
 have : n % 10 < 10 := Nat.mod_lt _ (by decide)
 simp only [UInt8.toNat_ofNat']
 omega
theorem digL_pad : ∀ k n, digL (pad k n) = true
 | 0, n => rfl
 | k + 1, n => by
   show digL (pad k (n / 10) ++ [UInt8.ofNat (48 + n % 10)]) = true
   have : n % 10 < 10 := Nat.mod_lt _ (by decide)
   rw [digL_snoc, digL_pad k (n / 10)]
   unfold digC digI
   rw [dig_ch]
   simp
   omega
theorem valL_pad : ∀ k n, valL (pad k n) = n % 10 ^ k
 | 0, n => by show 0 = n % 1; omega
 | k + 1, n => by
   show valL (pad k (n / 10) ++ [UInt8.ofNat (48 + n % 10)]) = _
   rw [valL_snoc, valL_pad k (n / 10), dig_ch, show 10 ^ (k + 1) = 10 * 10 ^ k by rw [Nat.pow_succ]; omega, Nat.mod_mul]
   omega
theorem digL_app (a b : List UInt8) : digL (a ++ b) = (digL a && digL b) := by unfold digL; rw [List.all_append]
theorem digL_padAll : ∀ ns, digL (padAll ns) = true
 | [] => rfl
 | n :: ns => by
   show digL (pad 6 n ++ padAll ns) = true
   rw [digL_app, digL_pad, digL_padAll ns]; rfl
theorem chunk_padAll : ∀ (ns : List Nat) (j : Nat), j < ns.length → chunk (padAll ns) j = pad 6 (ns.getD j 0)
 | [], j, h => by simp at h
 | n :: ns, 0, h => by
   show ((pad 6 n ++ padAll ns).drop (6 * 0)).take 6 = pad 6 n
   simp only [Nat.mul_zero, List.drop_zero]
   exact List.take_left' (pad_len 6 n)
 | n :: ns, j + 1, h => by
   show ((pad 6 n ++ padAll ns).drop (6 * (j + 1))).take 6 = pad 6 (ns.getD j 0)
   rw [← chunk_padAll ns j (by simpa using h)]
   unfold chunk
   refine congrArg (List.take 6) ?_
   rw [show 6 * (j + 1) = (pad 6 n).length + 6 * j by rw [pad_len]; omega, List.drop_append, List.drop_eq_nil_of_le (by omega), Nat.add_sub_cancel_left, List.nil_append]
theorem numsO_padAll (ns : List Nat) (h : All6 ns) : numsO (padAll ns) = some ns := by
 have hl := padAll_len ns
 rw [numsO_yes (by rw [hl]; omega) (digL_padAll ns), hl, Nat.mul_div_cancel _ (by decide)]
 congr 1
 unfold numsOf
 apply List.ext_getElem (by simp)
 intro j h1 h2
 have h3 := h j h2
 rw [List.getElem_map, List.getElem_range, chunk_padAll ns j h2, valL_pad, Nat.mod_eq_of_lt (by omega)]
 rw [gdE, List.getElem?_eq_getElem h2]; rfl
theorem sumD_len (s : BA) : (sumD s).length = 3 := pad_len _ _
theorem sealS_list (s : BA) : (sealS s).data.toList = s.data.toList ++ sumD s := by unfold sealS; rw [ba_app]
theorem sealS_size (s : BA) : (sealS s).size = s.size + 3 := by rw [ba_size, sealS_list, List.length_append, sumD_len, ← ba_size]
theorem bodyOf_list (t : BA) : (bodyOf t).data.toList = t.data.toList.take (t.size - 3) := by
 unfold bodyOf
 rw [ByteArray.data_extract]
 simp
theorem ba_ext {a b : BA} (h : a.data.toList = b.data.toList) : a = b := by rw [ba_eq h]
theorem bodyOf_seal (s : BA) : bodyOf (sealS s) = s := by
 apply ba_ext
 rw [bodyOf_list, sealS_size, sealS_list, show s.size + 3 - 3 = s.size by omega]
 exact List.take_left' (ba_size s).symm
theorem opensB_seal (s : BA) : opensB (sealS s) = true := by
 rw [opensB_of (by rw [sealS_size]; omega)]
 unfold sealB
 rw [bodyOf_seal]
 exact beq_self_eq_true _
theorem rdN_seal (ns : List Nat) (h : All6 ns) : rdN (sealS (numsS ns)) = some ns := by
 rw [rdN_yes (opensB_seal _), bodyOf_seal]
 exact numsO_padAll ns h
theorem digL_digs : ∀ n : Nat, digL (digs n) = true := fun n => by
 induction n using Nat.strongRecOn with
 | ind n ih =>
   have h1 : ∀ k, k < 10 → digL [UInt8.ofNat (48 + k)] = true := fun k hk => by
    have : k = 0 ∨ k = 1 ∨ k = 2 ∨ k = 3 ∨ k = 4 ∨ k = 5 ∨ k = 6 ∨ k = 7 ∨ k = 8 ∨ k = 9 := by omega
    rcases this with rfl | rfl | rfl | rfl | rfl | rfl | rfl | rfl | rfl | rfl <;> decide
   by_cases h : n < 10
   · rw [digs_lt h]; exact h1 n h
   · rw [digs_ge h, digL_app, ih (n / 10) (by omega), h1 _ (Nat.mod_lt _ (by decide))]; rfl
theorem valL_digs : ∀ n : Nat, valL (digs n) = n := fun n => by
 induction n using Nat.strongRecOn with
 | ind n ih =>
   have h1 : ∀ k, k < 10 → (UInt8.ofNat (48 + k)).toNat = 48 + k := fun k hk => by simp only [UInt8.toNat_ofNat']; omega
   by_cases h : n < 10
   · rw [digs_lt h]
     have := valL_snoc [] (UInt8.ofNat (48 + n))
     rw [List.nil_append] at this
     rw [this, h1 n h]
     show 10 * valL [] + _ = n
     have e : valL [] = 0 := rfl
     rw [e]; omega
   · rw [digs_ge h, valL_snoc, ih (n / 10) (by omega), h1 _ (Nat.mod_lt _ (by decide))]; omega
theorem digs_head : ∀ n : Nat, 10 ≤ n → (digs n).head? ≠ some 48 := fun n => by
 induction n using Nat.strongRecOn with
 | ind n ih =>
   intro hn
   rw [digs_ge (by omega)]
   by_cases h : n / 10 < 10
   · rw [digs_lt h]
     intro e
     simp only [List.cons_append, List.nil_append, List.head?_cons, Option.some.injEq] at e
     have e2 := congrArg UInt8.toNat e
     simp only [UInt8.toNat_ofNat'] at e2
     have e3 : (48 : UInt8).toNat = 48 := rfl
     rw [e3] at e2
     omega
   · have := ih (n / 10) (by omega) (by omega)
     intro e
     rw [List.head?_append] at e
     cases hh : (digs (n / 10)).head? with
     | none => rw [List.head?_eq_none_iff] at hh; rw [digs_ge (by omega)] at hh; simp at hh
     | some c => rw [hh] at e this; exact this e
theorem plainB_digs {n : Nat} (h : n ≤ 999999) : plainB (digs n) = true := by
 have hl := digs_len h
 rw [plainB_mk (by omega) (by omega) ?_]
 · exact digL_digs n
 · by_cases h10 : n < 10
   · rw [digs_lt h10]; exact .inl rfl
   · exact .inr (digs_head n (by omega))
theorem nmB_let {s : BA} (h : nmB s = true) {c : UInt8} (hc : c.toNat < 97) : c ∉ s.data.toList := fun hm => by
 obtain ⟨k, hk, e⟩ := List.getElem_of_mem hm
 unfold nmB at h
 rw [Bool.and_eq_true] at h
 have h2 := List.all_eq_true.1 h.2 k (by rw [List.mem_range, ba_size]; exact hk)
 unfold letB at h2
 rw [gdE, List.getElem?_eq_getElem hk, e, Bool.and_eq_true] at h2
 have := of_decide_eq_true h2.1
 simp only [Option.getD_some] at this
 omega
theorem mkW_list (m : Mrk) : (mkW m).data.toList = m.1.data.toList ++ 61 :: digs m.2.toNat := by
 unfold mkW
 rw [ba_app, ba_app]
 show m.1.data.toList ++ [61] ++ digs m.2.toNat = _
 simp
theorem okMk_mkB {ms : List Mrk} (h : msB ms = true) {m : Mrk} (hm : m ∈ ms) : nmB m.1 = true ∧ 0 ≤ m.2 ∧ m.2 ≤ 999999 := by
 obtain ⟨k, hk, e⟩ := List.getElem_of_mem hm
 have h1 := (msB_yes h).2 k hk
 unfold okMk mkB at h1
 rw [gdE, List.getElem?_eq_getElem hk, Option.getD_some, e] at h1
 simp only [Bool.and_eq_true] at h1
 exact ⟨h1.1.1, inB_yes h1.1.2⟩
theorem wordM_mkW {m : Mrk} (h1 : nmB m.1 = true) (h2 : 0 ≤ m.2 ∧ m.2 ≤ 999999) : wordM (mkW m).data.toList = some m := by
 rw [mkW_list, wordM_hit (nmB_let h1 (by decide)), if_pos (plainB_digs (by omega)), valL_digs, baL_self, Int.toNat_of_nonneg h2.1]
theorem mkW_no {m : Mrk} (h1 : nmB m.1 = true) : 44 ∉ (mkW m).data.toList := by
 rw [mkW_list]
 intro h
 rcases List.mem_append.1 h with h | h
 · exact nmB_let h1 (by decide) h
 · rcases List.mem_cons.1 h with h | h
   · exact absurd h (by decide)
   · exact absurd (digL_mem (digL_digs _) h) (by decide)
theorem marksL_wds : ∀ {ms : List Mrk}, (∀ m ∈ ms, nmB m.1 = true ∧ 0 ≤ m.2 ∧ m.2 ≤ 999999) → marksL (ms.map fun m => (mkW m).data.toList) = some ms
 | [], _ => rfl
 | m :: ms, h => by
   have h1 := h m (by simp)
   rw [List.map_cons, marksL, wordM_mkW h1.1 h1.2, Option.bind_some, marksL_wds (fun q hq => h q (List.mem_cons_of_mem _ hq))]; rfl
theorem cutL_join : ∀ (xs : List (List UInt8)) (x : List UInt8), (∀ y ∈ x :: xs, (44 : UInt8) ∉ y) → cutL 44 (Lib.join (x :: xs) [44]) = x :: xs
 | [], x, h => by rw [Lib.join_one, cutL_miss 44 x (h x (by simp))]
 | y :: xs, x, h => by
   have e : Lib.join (x :: y :: xs) [44] = x ++ 44 :: Lib.join (y :: xs) [44] := by
    rw [Lib.join_cons, Lib.join_cons]
    simp [Lib.joinTail]
   rw [e, cutL_hit 44 x _ (h x (by simp)), cutL_join xs y (fun z hz => h z (List.mem_cons_of_mem _ hz))]
theorem marksO_jn {ms : List Mrk} (h : msB ms = true) : marksO (jn (wds ms)).data.toList = some ms := by
 have hh := fun m (hm : m ∈ ms) => okMk_mkB h hm
 cases ms with
 | nil => rfl
 | cons m ms =>
   have e : (jn (wds (m :: ms))).data.toList = Lib.join ((mkW m).data.toList :: ms.map fun m => (mkW m).data.toList) [44] := by
    show Lib.join ((wds (m :: ms)).map (·.data.toList)) [44] = _
    unfold wds
    rw [List.map_map]; rfl
   have hn : ∀ y ∈ (mkW m).data.toList :: ms.map (fun m => (mkW m).data.toList), (44 : UInt8) ∉ y := fun y hy => by
    have hy' : y ∈ (m :: ms).map fun m => (mkW m).data.toList := hy
    obtain ⟨q, hq, rfl⟩ := List.mem_map.1 hy'
    exact mkW_no (hh q hq).1
   unfold marksO
   rw [e, if_neg, cutL_join _ _ hn]
   · exact marksL_wds (ms := m :: ms) hh
   · rw [Lib.join_cons, List.length_append, mkW_list]; simp
theorem toNats {xs : List Int} (h : ∀ x ∈ xs, 0 ≤ x) : intsN (xs.map Int.toNat) = xs := by
 unfold intsN
 rw [List.map_map]
 conv => rhs; rw [← List.map_id xs]
 exact List.map_congr_left fun x hx => Int.toNat_of_nonneg (h x hx)
def supT (g b p t : Int) (xs : List Int) (ms : List Mrk) : BA := sealS (numsS (supN g b p t xs) ++ ⟨#[124]⟩ ++ jn (wds ms))
theorem rdU_back {g b p t : Int} {xs : List Int} {ms : List Mrk} (h : superB g b p t xs ms = true) : rdU (supT g b p t xs ms) = some (g, b, p, t, xs, ms) := by
 obtain ⟨h0, h1, h2, h3, h4, h5⟩ := superB_yes h
 have e : (bodyOf (supT g b p t xs ms)).data.toList = padAll (supN g b p t xs) ++ 124 :: (jn (wds ms)).data.toList := by
  unfold supT
  rw [bodyOf_seal, ba_app, ba_app]
  show padAll _ ++ [124] ++ _ = _
  simp
 have hno : (124 : UInt8) ∉ padAll (supN g b p t xs) := fun hm => absurd (digL_mem (digL_padAll _) hm) (by decide)
 have hx : ∀ x ∈ xs, 0 ≤ x := fun x hx => by have := tbB_in h4 hx; omega
 rw [rdU_hit (t := supT g b p t xs ms) (opensB_seal _) hno e, partU_yes (numsO_padAll _ (supN_all h)) (by rw [supN_len]; omega) (marksO_jn h5)]
 have e0 : (supN g b p t xs).getD 0 0 = g.toNat := rfl
 have e1 : (supN g b p t xs).getD 1 0 = b.toNat := rfl
 have e2 : (supN g b p t xs).getD 2 0 = p.toNat := rfl
 have e3 : (supN g b p t xs).getD 3 0 = t.toNat := rfl
 have e4 : intsN ((supN g b p t xs).drop 4) = xs := toNats hx
 have f0 : ((g.toNat : Nat) : Int) = g := Int.toNat_of_nonneg (by omega)
 have f1 : ((b.toNat : Nat) : Int) = b := Int.toNat_of_nonneg (by omega)
 have f2 : ((p.toNat : Nat) : Int) = p := Int.toNat_of_nonneg (by omega)
 have f3 : ((t.toNat : Nat) : Int) = t := Int.toNat_of_nonneg (by omega)
 unfold supOf
 rw [e0, e1, e2, e3, e4, f0, f1, f2, f3, if_pos h]
end Go.Proofs.YtieoiailjjnnoaaGreatDoor
