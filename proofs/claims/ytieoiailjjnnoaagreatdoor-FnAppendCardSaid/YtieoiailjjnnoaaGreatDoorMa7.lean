/-
  Texts of the proof, in their order.
  Conditions: those of each.
-/
import Derived.Test.YtieoiailjjnnoaaGreatDoorMa6
import Derived.Deep.AppendLies
namespace Go.Proofs.YtieoiailjjnnoaaGreatDoor
set_option linter.unusedVariables false
open _root_.Go.Proofs.Tryz
set_option maxRecDepth 100000
set_option maxHeartbeats 16000000
section
open Go.RowKit
def newU : Option U6 -> Option U6 -> Option (U6 × Int)
 | some a, some b => if a.1 < b.1 then some (b, 1) else some (a, 0)
 | some a, none => some (a, 0)
 | none, some b => some (b, 1)
 | none, none => none
def RetNS (w : World) (o : Option (U6 × Int)) (e : Ending) (w' : World) : Prop :=
 Nx w w' /\ (o = none -> e = .returned (.tuple #[.agg #[ii 0, ii 0, ii 0, ii 0, nsl, nsl], ii 1, slE 1 19])) /\ ∀ u s, o = some (u, s) -> ∃ A c A2 c2, e = .returned (.tuple #[vU u A c A2 c2, ii s, .nilIface]) /\ FitU w' w.heap.size u A c A2
theorem RetNS.no {w w' : World} {o : Option (U6 × Int)} (h : o = none) (hn : Nx w w') : RetNS w o (.returned (.tuple #[.agg #[ii 0, ii 0, ii 0, ii 0, nsl, nsl], ii 1, slE 1 19])) w' :=
 ⟨hn, fun _ => rfl, fun u s h2 => by rw [h] at h2; cases h2⟩
theorem RetNS.yes {w w' : World} {o : Option (U6 × Int)} {u : U6} {s : Int} {A A2 : Option Addr} {c c2 : Nat} (h : o = some (u, s)) (hc : u.2.2.2.2.1.length <= c) (hs : SlI w' w.heap.size A u.2.2.2.2.1) (hm : SlM w' w.heap.size A2 u.2.2.2.2.2) (hn : Nx w w') :
 RetNS w o (.returned (.tuple #[vU u A c A2 c2, ii s, .nilIface])) w' :=
 ⟨hn, (fun h2 => by rw [h] at h2; cases h2), fun u' s' h2 => by rw [h] at h2; cases h2; exact ⟨A, c, A2, c2, rfl, hc, hs, hm⟩⟩
theorem otherSlot_c (a : Int) (w : World) (h0 : 0 <= a) (h1 : a <= 1) : Calls Tryz.prog 123 #[ii a] w fun e w' => e = .returned (ii (1 - a)) /\ w = w' := by
 go_enter func123, ntmps123
 go_wp2
 go_ret
 exact ⟨rfl, rfl⟩
theorem newestSuper_c (A A2 : Option Addr) (n c n2 c2 B : Nat) (ss : List BA) (ws : List (Int × BA)) (w : World) (a0 a1 : Addr) (h : Strs w B A n ss) (h2 : Wrs w B A2 n2 ws) (hB : B <= w.heap.size) (ha : 1 < n) (hn : n <= 1048576) (hn2 : n2 <= 1048576) (hr0 : (readP ss ws 0).size <= 65536) (hr1 : (readP ss ws 1).size <= 65536) (hE : Er w a0 a1) (hM : Mx w) (hEt : Et w) :
 Calls Tryz.prog 52 #[.agg #[sC A n c, sC A2 n2 c2]] w (RetNS w (newU (rdU (readP ss ws 0)) (rdU (readP ss ws 1)))) := by
 have b0 : Box ((w.alloc (.cells #[sC A n c, sC A2 n2 c2] 35)).alloc (.cells #[ii 0, ii 0, ii 0, ii 0, nsl, nsl] 26)) (w.heap.size + 1) 26 #[ii 0, ii 0, ii 0, ii 0, nsl, nsl] := by have := Box.new (w.alloc (.cells #[sC A n c, sC A2 n2 c2] 35)) 26 #[ii 0, ii 0, ii 0, ii 0, nsl, nsl]; rwa [World.size_alloc] at this
 have e0 : Box ((w.alloc (.cells #[sC A n c, sC A2 n2 c2] 35)).alloc (.cells #[ii 0, ii 0, ii 0, ii 0, nsl, nsl] 26)) w.heap.size 35 #[sC A n c, sC A2 n2 c2] := (Box.new w _ _).alloc _
 have hx0 := ((Nx.refl w).alloc (.cells #[sC A n c, sC A2 n2 c2] 35)).alloc (.cells #[ii 0, ii 0, ii 0, ii 0, nsl, nsl] 26)
 go_enter func52, ntmps52
 go_wp2_with fail
 generalize (w.alloc (.cells #[sC A n c, sC A2 n2 c2] 35)).alloc (.cells #[ii 0, ii 0, ii 0, ii 0, nsl, nsl] 26) = W at *
 obtain ⟨gR, Hg⟩ := nM (w.heap.size + 1)
 have hgR : w.heap.size <= gR := by have := Hg.out; omega
 rw [Hg.out] at b0 ⊢
 have hltW := b0.lt
 refine (bothSupers_c A A2 n c n2 c2 B ss ws _ a0 a1 (h.below hx0 hB) (h2.below hx0 hB) (ntr hB hx0.size) ha hn hn2 hr0 hr1 (hE.nx hx0) (hM.nx hx0)).mono ?_
 rintro e w1 ⟨hnx1, h1, h2', h3'⟩
 have b1 := b0.nx hnx1
 have e1 := e0.nx hnx1
 have hx1 := hx0.trans hnx1
 have hlt1 := b1.lt
 have hltD := e1.lt
 clear b0 e0 hx0 hnx1
 unfold slE at h1 h2'
 cases hu : rdU (readP ss ws 0) with
 | none =>
   obtain rfl := h1 hu
   have HU0 := qh hu
   clear h1 h2' h3' hu
   go_wp2_with fail
   have bE := Box.new ((w1.alloc (.cells #[ii 0, ii 0, ii 0, ii 0, nsl, nsl] 26)).alloc (.cells #[ii 0, ii 0, ii 0, ii 0, nsl, nsl] 26)) 159 #[ii 0, ii 0]
   have hx3 := (((hx1.alloc (.cells #[ii 0, ii 0, ii 0, ii 0, nsl, nsl] 26)).alloc (.cells #[ii 0, ii 0, ii 0, ii 0, nsl, nsl] 26)).alloc (.cells #[ii 0, ii 0] 159))
   have b3 := (((b1.alloc (.cells #[ii 0, ii 0, ii 0, ii 0, nsl, nsl] 26)).alloc (.cells #[ii 0, ii 0, ii 0, ii 0, nsl, nsl] 26)).alloc (.cells #[ii 0, ii 0] 159))
   have e3 := (((e1.alloc (.cells #[ii 0, ii 0, ii 0, ii 0, nsl, nsl] 26)).alloc (.cells #[ii 0, ii 0, ii 0, ii 0, nsl, nsl] 26)).alloc (.cells #[ii 0, ii 0] 159))
   simp only [World.size_alloc] at bE
   change Calls _ _ _ (((w1.alloc (.cells #[ii 0, ii 0, ii 0, ii 0, nsl, nsl] 26)).alloc (.cells #[ii 0, ii 0, ii 0, ii 0, nsl, nsl] 26)).alloc (.cells #[ii 0, ii 0] 159)) _
   generalize (((w1.alloc (.cells #[ii 0, ii 0, ii 0, ii 0, nsl, nsl] 26)).alloc (.cells #[ii 0, ii 0, ii 0, ii 0, nsl, nsl] 26)).alloc (.cells #[ii 0, ii 0] 159)) = w3 at *
   obtain ⟨gE, HgE⟩ := nM (w1.heap.size + 1 + 1)
   rw [HgE.out] at bE ⊢
   have hgE : gR < gE := by have := HgE.out; omega
   have hgE2 : w.heap.size < gE := oM
   refine (as_hit 0 19 gE _ _ _ (hEt.nx hx3) bE).mono ?_
   rintro e w4 ⟨rfl, hrg, bF⟩
   have b4 := b3.rg hrg (.inl hgE)
   have e4 := e3.rg hrg (.inl hgE2)
   have hx4 := Rg.nx_of hx3 hrg oM
   have y0 := bF.c0
   have z0 := e4.c0
   have z1 := e4.c1
   clear b3 e3 hx3 bE
   go_wp2_with (go_at_call 123; refine (otherSlot_c 0 _ oM oM).mono ?_; rintro e w' ⟨rfl, rfl⟩)
   refine (superIn_c A A2 n c n2 c2 B 1 ss ws _ a0 a1 (h.below hx4 hB) (h2.below hx4 hB) (ntr hB hx4.size) oM hn hn2 hr1 (hE.nx hx4) (hM.nx hx4)).mono ?_
   rintro e w5 ⟨hnx5, h1, h2'⟩
   have b5 := b4.nx hnx5
   have hx5 := hx4.trans hnx5
   have hlt5 := b5.lt
   have hlt4 := b4.lt
   clear b4 e4 hx4 bF y0 z0 z1
   cases hv : rdU (readP ss ws 1) with
   | none =>
     obtain rfl := h1 hv
     have HN : Hid (newU (rdU (readP ss ws 0)) (rdU (readP ss ws 1)) = none) := qh (by rw [HU0.out, hv]; rfl)
     clear h1 h2' hv
     obtain ⟨u0, u1, u2, u3, u4, u5⟩ := b5.d6
     have f0 := b5.frozen 0
     have f1 := b5.frozen 1
     have f2 := b5.frozen 2
     have f3 := b5.frozen 3
     have f4 := b5.frozen 4
     have f5 := b5.frozen 5
     go_wp2
     have qx := ((put6_box b5 (ii 0) (ii 0) (ii 0) (ii 0) (nsl) (nsl)).alloc (.cells #[ii 0, ii 0, ii 0, ii 0, nsl, nsl] 26))
     have hnf := ((put6_nx hx5 (hgR) (ii 0) (ii 0) (ii 0) (ii 0) (nsl) (nsl)).alloc (.cells #[ii 0, ii 0, ii 0, ii 0, nsl, nsl] 26))
     change bodyPost _ _ _ _ _ (World.alloc (put6 w5 gR (ii 0) (ii 0) (ii 0) (ii 0) (nsl) (nsl)) (.cells #[ii 0, ii 0, ii 0, ii 0, nsl, nsl] 26))
     change Box (World.alloc (put6 w5 gR (ii 0) (ii 0) (ii 0) (ii 0) (nsl) (nsl)) (.cells #[ii 0, ii 0, ii 0, ii 0, nsl, nsl] 26)) _ _ _ at qx
     generalize World.alloc (put6 w5 gR (ii 0) (ii 0) (ii 0) (ii 0) (nsl) (nsl)) (.cells #[ii 0, ii 0, ii 0, ii 0, nsl, nsl] 26) = Wf at *
     obtain ⟨cq0, cq1, cq2, cq3, cq4, cq5⟩ := qx.d6
     exact bodyPost_ret (v := .tuple #[.agg #[ii 0, ii 0, ii 0, ii 0, nsl, nsl], ii 1, .iface 159 (.agg #[ii 1, ii 19])]) (by simp [results, results52, go_sem, cq0, cq1, cq2, cq3, cq4, cq5]) rfl (RetNS.no HN.out hnf)
   | some u1 =>
     have HU1 := qh hv
     have HN : Hid (newU (rdU (readP ss ws 0)) (rdU (readP ss ws 1)) = some (u1, 1)) := qh (by rw [HU0.out, hv]; rfl)
     clear hv
     obtain ⟨g1, b1, p1, q1, xs1, ms1⟩ := u1
     obtain ⟨Ax1, cx1, Am1, cm1, he, hcc, hS1, hM1⟩ := h2' _ HU1.out
     replace he : e = .returned (.tuple #[.agg #[ii g1, ii b1, ii p1, ii q1, sC Ax1 xs1.length cx1, sC Am1 ms1.length cm1], .nilIface]) := he
     replace hS1 : SlI w5 w4.heap.size Ax1 xs1 := hS1
     replace hM1 : SlM w5 w4.heap.size Am1 ms1 := hM1
     replace hcc : xs1.length <= cx1 := hcc
     have HCC := qh hcc
     subst he
     clear h1 h2' hcc
     obtain ⟨u0, u1, u2, u3, u4, u5⟩ := b5.d6
     have f0 := b5.frozen 0
     have f1 := b5.frozen 1
     have f2 := b5.frozen 2
     have f3 := b5.frozen 3
     have f4 := b5.frozen 4
     have f5 := b5.frozen 5
     go_wp2
     have qx := ((put6_box b5 (ii g1) (ii b1) (ii p1) (ii q1) (sC Ax1 xs1.length cx1) (sC Am1 ms1.length cm1)).alloc (.cells #[ii g1, ii b1, ii p1, ii q1, sC Ax1 xs1.length cx1, sC Am1 ms1.length cm1] 26))
     have hnf := ((put6_nx hx5 (hgR) (ii g1) (ii b1) (ii p1) (ii q1) (sC Ax1 xs1.length cx1) (sC Am1 ms1.length cm1)).alloc (.cells #[ii g1, ii b1, ii p1, ii q1, sC Ax1 xs1.length cx1, sC Am1 ms1.length cm1] 26))
     have hsf := ((hS1.pt6 hlt4 (ii g1) (ii b1) (ii p1) (ii q1) (sC Ax1 xs1.length cx1) (sC Am1 ms1.length cm1)).nx ((Nx.refl _).alloc (.cells #[ii g1, ii b1, ii p1, ii q1, sC Ax1 xs1.length cx1, sC Am1 ms1.length cm1] 26)))
     change Sl (World.alloc (put6 w5 gR (ii g1) (ii b1) (ii p1) (ii q1) (sC Ax1 xs1.length cx1) (sC Am1 ms1.length cm1)) (.cells #[ii g1, ii b1, ii p1, ii q1, sC Ax1 xs1.length cx1, sC Am1 ms1.length cm1] 26)) _ _ _ _ _ at hsf
     have hmf := ((hM1.pt6 hlt4 (ii g1) (ii b1) (ii p1) (ii q1) (sC Ax1 xs1.length cx1) (sC Am1 ms1.length cm1)).nx ((Nx.refl _).alloc (.cells #[ii g1, ii b1, ii p1, ii q1, sC Ax1 xs1.length cx1, sC Am1 ms1.length cm1] 26)))
     change Sl (World.alloc (put6 w5 gR (ii g1) (ii b1) (ii p1) (ii q1) (sC Ax1 xs1.length cx1) (sC Am1 ms1.length cm1)) (.cells #[ii g1, ii b1, ii p1, ii q1, sC Ax1 xs1.length cx1, sC Am1 ms1.length cm1] 26)) _ _ _ _ _ at hmf
     change bodyPost _ _ _ _ _ (World.alloc (put6 w5 gR (ii g1) (ii b1) (ii p1) (ii q1) (sC Ax1 xs1.length cx1) (sC Am1 ms1.length cm1)) (.cells #[ii g1, ii b1, ii p1, ii q1, sC Ax1 xs1.length cx1, sC Am1 ms1.length cm1] 26))
     change Box (World.alloc (put6 w5 gR (ii g1) (ii b1) (ii p1) (ii q1) (sC Ax1 xs1.length cx1) (sC Am1 ms1.length cm1)) (.cells #[ii g1, ii b1, ii p1, ii q1, sC Ax1 xs1.length cx1, sC Am1 ms1.length cm1] 26)) _ _ _ at qx
     generalize World.alloc (put6 w5 gR (ii g1) (ii b1) (ii p1) (ii q1) (sC Ax1 xs1.length cx1) (sC Am1 ms1.length cm1)) (.cells #[ii g1, ii b1, ii p1, ii q1, sC Ax1 xs1.length cx1, sC Am1 ms1.length cm1] 26) = Wf at *
     obtain ⟨hmf0, hmf1, hmf2, hmf3, hmf4, hmf5⟩ := qx.d6
     exact bodyPost_ret (v := .tuple #[.agg #[ii g1, ii b1, ii p1, ii q1, sC Ax1 xs1.length cx1, sC Am1 ms1.length cm1], ii 1, .nilIface]) (by simp [results, results52, go_sem, hmf0, hmf1, hmf2, hmf3, hmf4, hmf5]) rfl (RetNS.yes (u := (g1, b1, p1, q1, xs1, ms1)) HN.out HCC.out (hsf.low oM) (hmf.low oM) hnf)
 | some u0 =>
   have HU0 := qh hu
   cases hv : rdU (readP ss ws 1) with
   | none =>
     obtain rfl := h2' _ hu hv
     have HN : Hid (newU (rdU (readP ss ws 0)) (rdU (readP ss ws 1)) = some (u0, 0)) := qh (by rw [HU0.out, hv]; rfl)
     clear h1 h2' h3' hu hv
     go_wp2_with fail
     have bE := Box.new ((w1.alloc (.cells #[ii 0, ii 0, ii 0, ii 0, nsl, nsl] 26)).alloc (.cells #[ii 0, ii 0, ii 0, ii 0, nsl, nsl] 26)) 159 #[ii 0, ii 0]
     have hx3 := (((hx1.alloc (.cells #[ii 0, ii 0, ii 0, ii 0, nsl, nsl] 26)).alloc (.cells #[ii 0, ii 0, ii 0, ii 0, nsl, nsl] 26)).alloc (.cells #[ii 0, ii 0] 159))
     have b3 := (((b1.alloc (.cells #[ii 0, ii 0, ii 0, ii 0, nsl, nsl] 26)).alloc (.cells #[ii 0, ii 0, ii 0, ii 0, nsl, nsl] 26)).alloc (.cells #[ii 0, ii 0] 159))
     have e3 := (((e1.alloc (.cells #[ii 0, ii 0, ii 0, ii 0, nsl, nsl] 26)).alloc (.cells #[ii 0, ii 0, ii 0, ii 0, nsl, nsl] 26)).alloc (.cells #[ii 0, ii 0] 159))
     simp only [World.size_alloc] at bE
     change Calls _ _ _ (((w1.alloc (.cells #[ii 0, ii 0, ii 0, ii 0, nsl, nsl] 26)).alloc (.cells #[ii 0, ii 0, ii 0, ii 0, nsl, nsl] 26)).alloc (.cells #[ii 0, ii 0] 159)) _
     generalize (((w1.alloc (.cells #[ii 0, ii 0, ii 0, ii 0, nsl, nsl] 26)).alloc (.cells #[ii 0, ii 0, ii 0, ii 0, nsl, nsl] 26)).alloc (.cells #[ii 0, ii 0] 159)) = w3 at *
     obtain ⟨gE, HgE⟩ := nM (w1.heap.size + 1 + 1)
     rw [HgE.out] at bE ⊢
     have hgE : gR < gE := by have := HgE.out; omega
     have hgE2 : w.heap.size < gE := oM
     refine (as_hit 1 19 gE _ _ _ (hEt.nx hx3) bE).mono ?_
     rintro e w4 ⟨rfl, hrg, bF⟩
     have b4 := b3.rg hrg (.inl hgE)
     have e4 := e3.rg hrg (.inl hgE2)
     have hx4 := Rg.nx_of hx3 hrg oM
     have y0 := bF.c0
     have z0 := e4.c0
     have z1 := e4.c1
     clear b3 e3 hx3 bE
     go_wp2_with (go_at_call 123; refine (otherSlot_c 1 _ oM oM).mono ?_; rintro e w' ⟨rfl, rfl⟩)
     refine (superIn_c A A2 n c n2 c2 B 0 ss ws _ a0 a1 (h.below hx4 hB) (h2.below hx4 hB) (ntr hB hx4.size) oM hn hn2 hr0 (hE.nx hx4) (hM.nx hx4)).mono ?_
     rintro e w5 ⟨hnx5, h1, h2'⟩
     have b5 := b4.nx hnx5
     have hx5 := hx4.trans hnx5
     have hlt5 := b5.lt
     have hlt4 := b4.lt
     clear b4 e4 hx4 bF y0 z0 z1
     obtain ⟨g0, b0, p0, q0, xs0, ms0⟩ := u0
     obtain ⟨Ax0, cx0, Am0, cm0, he, hcc, hS1, hM1⟩ := h2' _ HU0.out
     replace he : e = .returned (.tuple #[.agg #[ii g0, ii b0, ii p0, ii q0, sC Ax0 xs0.length cx0, sC Am0 ms0.length cm0], .nilIface]) := he
     replace hS1 : SlI w5 w4.heap.size Ax0 xs0 := hS1
     replace hM1 : SlM w5 w4.heap.size Am0 ms0 := hM1
     replace hcc : xs0.length <= cx0 := hcc
     have HCC := qh hcc
     subst he
     clear h1 h2' hcc
     obtain ⟨u0, u1, u2, u3, u4, u5⟩ := b5.d6
     have f0 := b5.frozen 0
     have f1 := b5.frozen 1
     have f2 := b5.frozen 2
     have f3 := b5.frozen 3
     have f4 := b5.frozen 4
     have f5 := b5.frozen 5
     go_wp2
     have qx := ((put6_box b5 (ii g0) (ii b0) (ii p0) (ii q0) (sC Ax0 xs0.length cx0) (sC Am0 ms0.length cm0)).alloc (.cells #[ii g0, ii b0, ii p0, ii q0, sC Ax0 xs0.length cx0, sC Am0 ms0.length cm0] 26))
     have hnf := ((put6_nx hx5 (hgR) (ii g0) (ii b0) (ii p0) (ii q0) (sC Ax0 xs0.length cx0) (sC Am0 ms0.length cm0)).alloc (.cells #[ii g0, ii b0, ii p0, ii q0, sC Ax0 xs0.length cx0, sC Am0 ms0.length cm0] 26))
     have hsf := ((hS1.pt6 hlt4 (ii g0) (ii b0) (ii p0) (ii q0) (sC Ax0 xs0.length cx0) (sC Am0 ms0.length cm0)).nx ((Nx.refl _).alloc (.cells #[ii g0, ii b0, ii p0, ii q0, sC Ax0 xs0.length cx0, sC Am0 ms0.length cm0] 26)))
     change Sl (World.alloc (put6 w5 gR (ii g0) (ii b0) (ii p0) (ii q0) (sC Ax0 xs0.length cx0) (sC Am0 ms0.length cm0)) (.cells #[ii g0, ii b0, ii p0, ii q0, sC Ax0 xs0.length cx0, sC Am0 ms0.length cm0] 26)) _ _ _ _ _ at hsf
     have hmf := ((hM1.pt6 hlt4 (ii g0) (ii b0) (ii p0) (ii q0) (sC Ax0 xs0.length cx0) (sC Am0 ms0.length cm0)).nx ((Nx.refl _).alloc (.cells #[ii g0, ii b0, ii p0, ii q0, sC Ax0 xs0.length cx0, sC Am0 ms0.length cm0] 26)))
     change Sl (World.alloc (put6 w5 gR (ii g0) (ii b0) (ii p0) (ii q0) (sC Ax0 xs0.length cx0) (sC Am0 ms0.length cm0)) (.cells #[ii g0, ii b0, ii p0, ii q0, sC Ax0 xs0.length cx0, sC Am0 ms0.length cm0] 26)) _ _ _ _ _ at hmf
     change bodyPost _ _ _ _ _ (World.alloc (put6 w5 gR (ii g0) (ii b0) (ii p0) (ii q0) (sC Ax0 xs0.length cx0) (sC Am0 ms0.length cm0)) (.cells #[ii g0, ii b0, ii p0, ii q0, sC Ax0 xs0.length cx0, sC Am0 ms0.length cm0] 26))
     change Box (World.alloc (put6 w5 gR (ii g0) (ii b0) (ii p0) (ii q0) (sC Ax0 xs0.length cx0) (sC Am0 ms0.length cm0)) (.cells #[ii g0, ii b0, ii p0, ii q0, sC Ax0 xs0.length cx0, sC Am0 ms0.length cm0] 26)) _ _ _ at qx
     generalize World.alloc (put6 w5 gR (ii g0) (ii b0) (ii p0) (ii q0) (sC Ax0 xs0.length cx0) (sC Am0 ms0.length cm0)) (.cells #[ii g0, ii b0, ii p0, ii q0, sC Ax0 xs0.length cx0, sC Am0 ms0.length cm0] 26) = Wf at *
     obtain ⟨hmf0, hmf1, hmf2, hmf3, hmf4, hmf5⟩ := qx.d6
     exact bodyPost_ret (v := .tuple #[.agg #[ii g0, ii b0, ii p0, ii q0, sC Ax0 xs0.length cx0, sC Am0 ms0.length cm0], ii 0, .nilIface]) (by simp [results, results52, go_sem, hmf0, hmf1, hmf2, hmf3, hmf4, hmf5]) rfl (RetNS.yes (u := (g0, b0, p0, q0, xs0, ms0)) HN.out HCC.out (hsf.low oM) (hmf.low oM) hnf)
   | some u1 =>
     have bR1 := b1
     obtain ⟨g0, b0, p0, q0, xs0, ms0⟩ := u0
     obtain ⟨g1, b1, p1, q1, xs1, ms1⟩ := u1
     obtain ⟨Ax0, cx0, Am0, cm0, Ax1, cx1, Am1, cm1, he, ⟨hc0, hS0, hM0⟩, ⟨hc1, hS1, hM1⟩⟩ := h3' _ _ hu hv
     have HU1 := qh hv
     unfold vU at he
     replace hS0 : SlI w1 W.heap.size Ax0 xs0 := hS0
     replace hM0 : SlM w1 W.heap.size Am0 ms0 := hM0
     replace hS1 : SlI w1 W.heap.size Ax1 xs1 := hS1
     replace hM1 : SlM w1 W.heap.size Am1 ms1 := hM1
     have HCC0 : Hid (xs0.length <= cx0) := qh hc0
     have HCC1 : Hid (xs1.length <= cx1) := qh hc1
     replace he : e = .returned (.tuple #[.agg #[ii g0, ii b0, ii p0, ii q0, sC Ax0 xs0.length cx0, sC Am0 ms0.length cm0], .agg #[ii g1, ii b1, ii p1, ii q1, sC Ax1 xs1.length cx1, sC Am1 ms1.length cm1], .nilIface]) := he
     subst he
     clear h1 h2' h3' hu hv hc0 hc1
     go_wp2_with fail
     have hz3 := ((((Nx.refl w1).alloc (.cells #[ii g0, ii b0, ii p0, ii q0, sC Ax0 xs0.length cx0, sC Am0 ms0.length cm0] 26)).alloc (.cells #[ii g1, ii b1, ii p1, ii q1, sC Ax1 xs1.length cx1, sC Am1 ms1.length cm1] 26)).alloc (.cells #[ii 0, ii 0] 159))
     have b3 := bR1.nx hz3
     have hx3 := hx1.trans hz3
     have hS0c := hS0.nx hz3
     have hM0c := hM0.nx hz3
     have hS1c := hS1.nx hz3
     have hM1c := hM1.nx hz3
     have bA := ((Box.new w1 26 #[ii g0, ii b0, ii p0, ii q0, sC Ax0 xs0.length cx0, sC Am0 ms0.length cm0]).alloc (.cells #[ii g1, ii b1, ii p1, ii q1, sC Ax1 xs1.length cx1, sC Am1 ms1.length cm1] 26)).alloc (.cells #[ii 0, ii 0] 159)
     have bB : Box (((w1.alloc (.cells #[ii g0, ii b0, ii p0, ii q0, sC Ax0 xs0.length cx0, sC Am0 ms0.length cm0] 26)).alloc (.cells #[ii g1, ii b1, ii p1, ii q1, sC Ax1 xs1.length cx1, sC Am1 ms1.length cm1] 26)).alloc (.cells #[ii 0, ii 0] 159)) (w1.heap.size + 1) 26 #[ii g1, ii b1, ii p1, ii q1, sC Ax1 xs1.length cx1, sC Am1 ms1.length cm1] := by have := (Box.new (w1.alloc (.cells #[ii g0, ii b0, ii p0, ii q0, sC Ax0 xs0.length cx0, sC Am0 ms0.length cm0] 26)) 26 #[ii g1, ii b1, ii p1, ii q1, sC Ax1 xs1.length cx1, sC Am1 ms1.length cm1]).alloc (.cells #[ii 0, ii 0] 159); rwa [World.size_alloc] at this
     change Calls _ _ _ (((w1.alloc (.cells #[ii g0, ii b0, ii p0, ii q0, sC Ax0 xs0.length cx0, sC Am0 ms0.length cm0] 26)).alloc (.cells #[ii g1, ii b1, ii p1, ii q1, sC Ax1 xs1.length cx1, sC Am1 ms1.length cm1] 26)).alloc (.cells #[ii 0, ii 0] 159)) _
     generalize (((w1.alloc (.cells #[ii g0, ii b0, ii p0, ii q0, sC Ax0 xs0.length cx0, sC Am0 ms0.length cm0] 26)).alloc (.cells #[ii g1, ii b1, ii p1, ii q1, sC Ax1 xs1.length cx1, sC Am1 ms1.length cm1] 26)).alloc (.cells #[ii 0, ii 0] 159)) = w3 at *
     refine (as_nil _ _).mono ?_
     rintro e w' ⟨rfl, hw'⟩
     rw [hw']
     clear hw'
     obtain ⟨m0, m1, m2, m3, m4, m5⟩ := bA.d6
     obtain ⟨r0, r1, r2, r3, r4, r5⟩ := bB.d6
     have hltA := bA.lt
     have hltB := bB.lt
     have hlt3 := b3.lt
     by_cases hgt : g0 < g1
     . have hd : decide (g0 < g1) = true := decide_eq_true hgt
       have HN : Hid (newU (rdU (readP ss ws 0)) (rdU (readP ss ws 1)) = some ((g1, b1, p1, q1, xs1, ms1), 1)) := qh (by rw [HU0.out, HU1.out]; show (if g0 < g1 then _ else _) = _; rw [if_pos hgt])
       clear hgt
       obtain ⟨u0, u1, u2, u3, u4, u5⟩ := b3.d6
       have f0 := b3.frozen 0
       have f1 := b3.frozen 1
       have f2 := b3.frozen 2
       have f3 := b3.frozen 3
       have f4 := b3.frozen 4
       have f5 := b3.frozen 5
       go_wp2
       have qx := (put6_box b3 (ii g1) (ii b1) (ii p1) (ii q1) (sC Ax1 xs1.length cx1) (sC Am1 ms1.length cm1))
       have hnf := (put6_nx hx3 (hgR) (ii g1) (ii b1) (ii p1) (ii q1) (sC Ax1 xs1.length cx1) (sC Am1 ms1.length cm1))
       have hsf := (hS1c.pt6 hltW (ii g1) (ii b1) (ii p1) (ii q1) (sC Ax1 xs1.length cx1) (sC Am1 ms1.length cm1))
       change Sl (put6 w3 gR (ii g1) (ii b1) (ii p1) (ii q1) (sC Ax1 xs1.length cx1) (sC Am1 ms1.length cm1)) _ _ _ _ _ at hsf
       have hmf := (hM1c.pt6 hltW (ii g1) (ii b1) (ii p1) (ii q1) (sC Ax1 xs1.length cx1) (sC Am1 ms1.length cm1))
       change Sl (put6 w3 gR (ii g1) (ii b1) (ii p1) (ii q1) (sC Ax1 xs1.length cx1) (sC Am1 ms1.length cm1)) _ _ _ _ _ at hmf
       change bodyPost _ _ _ _ _ (put6 w3 gR (ii g1) (ii b1) (ii p1) (ii q1) (sC Ax1 xs1.length cx1) (sC Am1 ms1.length cm1))
       change Box (put6 w3 gR (ii g1) (ii b1) (ii p1) (ii q1) (sC Ax1 xs1.length cx1) (sC Am1 ms1.length cm1)) _ _ _ at qx
       generalize put6 w3 gR (ii g1) (ii b1) (ii p1) (ii q1) (sC Ax1 xs1.length cx1) (sC Am1 ms1.length cm1) = Wf at *
       obtain ⟨hmf0, hmf1, hmf2, hmf3, hmf4, hmf5⟩ := qx.d6
       exact bodyPost_ret (v := .tuple #[.agg #[ii g1, ii b1, ii p1, ii q1, sC Ax1 xs1.length cx1, sC Am1 ms1.length cm1], ii 1, .nilIface]) (by simp [results, results52, go_sem, hmf0, hmf1, hmf2, hmf3, hmf4, hmf5]) rfl (RetNS.yes (u := (g1, b1, p1, q1, xs1, ms1)) HN.out HCC1.out (hsf.low oM) (hmf.low oM) hnf)
     . have hd : decide (g0 < g1) = false := decide_eq_false hgt
       have HN : Hid (newU (rdU (readP ss ws 0)) (rdU (readP ss ws 1)) = some ((g0, b0, p0, q0, xs0, ms0), 0)) := qh (by rw [HU0.out, HU1.out]; show (if g0 < g1 then _ else _) = _; rw [if_neg hgt])
       clear hgt
       obtain ⟨u0, u1, u2, u3, u4, u5⟩ := b3.d6
       have f0 := b3.frozen 0
       have f1 := b3.frozen 1
       have f2 := b3.frozen 2
       have f3 := b3.frozen 3
       have f4 := b3.frozen 4
       have f5 := b3.frozen 5
       go_wp2
       have qx := (put6_box b3 (ii g0) (ii b0) (ii p0) (ii q0) (sC Ax0 xs0.length cx0) (sC Am0 ms0.length cm0))
       have hnf := (put6_nx hx3 (hgR) (ii g0) (ii b0) (ii p0) (ii q0) (sC Ax0 xs0.length cx0) (sC Am0 ms0.length cm0))
       have hsf := (hS0c.pt6 hltW (ii g0) (ii b0) (ii p0) (ii q0) (sC Ax0 xs0.length cx0) (sC Am0 ms0.length cm0))
       change Sl (put6 w3 gR (ii g0) (ii b0) (ii p0) (ii q0) (sC Ax0 xs0.length cx0) (sC Am0 ms0.length cm0)) _ _ _ _ _ at hsf
       have hmf := (hM0c.pt6 hltW (ii g0) (ii b0) (ii p0) (ii q0) (sC Ax0 xs0.length cx0) (sC Am0 ms0.length cm0))
       change Sl (put6 w3 gR (ii g0) (ii b0) (ii p0) (ii q0) (sC Ax0 xs0.length cx0) (sC Am0 ms0.length cm0)) _ _ _ _ _ at hmf
       change bodyPost _ _ _ _ _ (put6 w3 gR (ii g0) (ii b0) (ii p0) (ii q0) (sC Ax0 xs0.length cx0) (sC Am0 ms0.length cm0))
       change Box (put6 w3 gR (ii g0) (ii b0) (ii p0) (ii q0) (sC Ax0 xs0.length cx0) (sC Am0 ms0.length cm0)) _ _ _ at qx
       generalize put6 w3 gR (ii g0) (ii b0) (ii p0) (ii q0) (sC Ax0 xs0.length cx0) (sC Am0 ms0.length cm0) = Wf at *
       obtain ⟨hmf0, hmf1, hmf2, hmf3, hmf4, hmf5⟩ := qx.d6
       exact bodyPost_ret (v := .tuple #[.agg #[ii g0, ii b0, ii p0, ii q0, sC Ax0 xs0.length cx0, sC Am0 ms0.length cm0], ii 0, .nilIface]) (by simp [results, results52, go_sem, hmf0, hmf1, hmf2, hmf3, hmf4, hmf5]) rfl (RetNS.yes (u := (g0, b0, p0, q0, xs0, ms0)) HN.out HCC0.out (hsf.low oM) (hmf.low oM) hnf)
def RetLN (w : World) (o : Option (U6 × Int)) (e : Ending) (w' : World) : Prop :=
 Nx w w' /\ (o = none -> e = .returned (.tuple #[.agg #[ii 0, ii 0, ii 0, ii 0, nsl, nsl], ii (-1)])) /\ ∀ u s, o = some (u, s) -> ∃ A c A2 c2, e = .returned (.tuple #[vU u A c A2 c2, ii s]) /\ FitU w' w.heap.size u A c A2
theorem RetLN.no {w w' : World} {o : Option (U6 × Int)} (h : o = none) (hn : Nx w w') : RetLN w o (.returned (.tuple #[.agg #[ii 0, ii 0, ii 0, ii 0, nsl, nsl], ii (-1)])) w' :=
 ⟨hn, fun _ => rfl, fun u s h2 => by rw [h] at h2; cases h2⟩
theorem RetLN.yes {w w' : World} {o : Option (U6 × Int)} {u : U6} {s : Int} {A A2 : Option Addr} {c c2 : Nat} (h : o = some (u, s)) (hc : u.2.2.2.2.1.length <= c) (hs : SlI w' w.heap.size A u.2.2.2.2.1) (hm : SlM w' w.heap.size A2 u.2.2.2.2.2) (hn : Nx w w') :
 RetLN w o (.returned (.tuple #[vU u A c A2 c2, ii s])) w' :=
 ⟨hn, (fun h2 => by rw [h] at h2; cases h2), fun u' s' h2 => by rw [h] at h2; cases h2; exact ⟨A, c, A2, c2, rfl, hc, hs, hm⟩⟩
theorem l04Newest_c (A A2 : Option Addr) (n c n2 c2 B : Nat) (ss : List BA) (ws : List (Int × BA)) (w : World) (h : Strs w B A n ss) (h2 : Wrs w B A2 n2 ws) (hB : B <= w.heap.size) (ha : 1 < n) (hn : n <= 1048576) (hn2 : n2 <= 1048576) (hr0 : (readP ss ws 0).size <= 65536) (hr1 : (readP ss ws 1).size <= 65536) :
 Calls Tryz.prog 58 #[.agg #[sC A n c, sC A2 n2 c2]] w (RetLN w (newU (rdU (readP ss ws 0)) (rdU (readP ss ws 1)))) := by
 have b0 : Box ((w.alloc (.cells #[sC A n c, sC A2 n2 c2] 35)).alloc (.cells #[ii 0, ii 0, ii 0, ii 0, nsl, nsl] 26)) (w.heap.size + 1) 26 #[ii 0, ii 0, ii 0, ii 0, nsl, nsl] := by have := Box.new (w.alloc (.cells #[sC A n c, sC A2 n2 c2] 35)) 26 #[ii 0, ii 0, ii 0, ii 0, nsl, nsl]; rwa [World.size_alloc] at this
 have e0 : Box ((w.alloc (.cells #[sC A n c, sC A2 n2 c2] 35)).alloc (.cells #[ii 0, ii 0, ii 0, ii 0, nsl, nsl] 26)) w.heap.size 35 #[sC A n c, sC A2 n2 c2] := (Box.new w _ _).alloc _
 have hx0 := ((Nx.refl w).alloc (.cells #[sC A n c, sC A2 n2 c2] 35)).alloc (.cells #[ii 0, ii 0, ii 0, ii 0, nsl, nsl] 26)
 go_enter func58, ntmps58
 go_wp2_with fail
 generalize (w.alloc (.cells #[sC A n c, sC A2 n2 c2] 35)).alloc (.cells #[ii 0, ii 0, ii 0, ii 0, nsl, nsl] 26) = W at *
 obtain ⟨gR, Hg⟩ := nM (w.heap.size + 1)
 have hgR : w.heap.size <= gR := by have := Hg.out; omega
 rw [Hg.out] at b0 ⊢
 have hltW := b0.lt
 have bW := b0
 have eW := e0
 refine (l01Read_c A A2 n c n2 c2 B 0 ss ws _ (h.below hx0 hB) (h2.below hx0 hB) (ntr hB hx0.size) oM hn hn2).mono ?_
 rintro e x0w ⟨rfl, hnx0⟩
 have hx0a := hx0.trans hnx0
 go_wp2_with fail
 refine (l04Read_c (readP ss ws 0) _ hr0).mono ?_
 rintro e y0 ⟨hny0, h1, h2'⟩
 have hx0b := hx0a.trans hny0
 have z0 := (eW.nx (hnx0.trans hny0)).c0
 have z1 := (eW.nx (hnx0.trans hny0)).c1
 have hltz := (eW.nx (hnx0.trans hny0)).lt
 clear b0 e0
 cases hu0 : rdU (readP ss ws 0) with
 | none =>
   obtain rfl := h1 hu0
   have HU0 := qh hu0
   clear h1 h2' hu0
   go_wp2_with fail
   have bA := Box.new y0 26 #[ii 0, ii 0, ii 0, ii 0, nsl, nsl]
   have hzA := (Nx.refl y0).alloc (.cells #[ii 0, ii 0, ii 0, ii 0, nsl, nsl] 26)
   have bR := (bW.nx (hnx0.trans hny0)).nx hzA
   have eR := (eW.nx (hnx0.trans hny0)).nx hzA
   have hxA := hx0b.trans hzA
   change Calls _ _ _ (y0.alloc (.cells #[ii 0, ii 0, ii 0, ii 0, nsl, nsl] 26)) _
   generalize y0.alloc (.cells #[ii 0, ii 0, ii 0, ii 0, nsl, nsl] 26) = wA at *
   obtain ⟨gA, HgA⟩ := nM (y0.heap.size)
   rw [HgA.out] at bA ⊢
   have hgA : gR < gA := by have := HgA.out; have := (bW.nx (hnx0.trans hny0)).lt; omega
   refine (l01Read_c A A2 n c n2 c2 B 1 ss ws _ (h.below hxA hB) (h2.below hxA hB) (ntr hB hxA.size) oM hn hn2).mono ?_
   rintro e x1w ⟨rfl, hnx1⟩
   have hx1a := hxA.trans hnx1
   go_wp2_with fail
   refine (l04Read_c (readP ss ws 1) _ hr1).mono ?_
   rintro e y1 ⟨hny1, h1, h2'⟩
   have hx1b := hx1a.trans hny1
   cases hu1 : rdU (readP ss ws 1) with
   | none =>
     obtain rfl := h1 hu1
     have HU1 := qh hu1
     clear h1 h2' hu1
     have bA1 := bA.nx (hnx1.trans hny1)
     have bR1 := bR.nx (hnx1.trans hny1)
     have hxB := hx1b
     have hltx0 : gR < x0w.heap.size := (bW.nx hnx0).lt
     have hltx1 : gR < x1w.heap.size := (bR.nx hnx1).lt
     have hltA1 := bA1.lt
     have hltR1 := bR1.lt
     have hszx := hnx1.size
     have hszy := hxA.size
     obtain ⟨m0, m1, m2, m3, m4, m5⟩ := bA1.d6
     have HN : Hid (newU (rdU (readP ss ws 0)) (rdU (readP ss ws 1)) = none) := qh (by rw [HU0.out, HU1.out]; rfl)
     obtain ⟨u0, u1, u2, u3, u4, u5⟩ := bR1.d6
     have f0 := bR1.frozen 0
     have f1 := bR1.frozen 1
     have f2 := bR1.frozen 2
     have f3 := bR1.frozen 3
     have f4 := bR1.frozen 4
     have f5 := bR1.frozen 5
     go_wp2
     have qx := ((put6_box bR1 (ii 0) (ii 0) (ii 0) (ii 0) (nsl) (nsl)).alloc (.cells #[ii 0, ii 0, ii 0, ii 0, nsl, nsl] 26))
     have hnf := ((put6_nx hxB (hgR) (ii 0) (ii 0) (ii 0) (ii 0) (nsl) (nsl)).alloc (.cells #[ii 0, ii 0, ii 0, ii 0, nsl, nsl] 26))
     change bodyPost _ _ _ _ _ (World.alloc (put6 y1 gR (ii 0) (ii 0) (ii 0) (ii 0) (nsl) (nsl)) (.cells #[ii 0, ii 0, ii 0, ii 0, nsl, nsl] 26))
     change Box (World.alloc (put6 y1 gR (ii 0) (ii 0) (ii 0) (ii 0) (nsl) (nsl)) (.cells #[ii 0, ii 0, ii 0, ii 0, nsl, nsl] 26)) _ _ _ at qx
     generalize World.alloc (put6 y1 gR (ii 0) (ii 0) (ii 0) (ii 0) (nsl) (nsl)) (.cells #[ii 0, ii 0, ii 0, ii 0, nsl, nsl] 26) = Wf at *
     obtain ⟨cq0, cq1, cq2, cq3, cq4, cq5⟩ := qx.d6
     exact bodyPost_ret (v := .tuple #[.agg #[ii 0, ii 0, ii 0, ii 0, nsl, nsl], ii (-1)]) (by simp [results, results58, go_sem, cq0, cq1, cq2, cq3, cq4, cq5]) rfl (RetLN.no HN.out hnf)
   | some u =>
     obtain ⟨g1, b1, p1, q1, xs1, ms1⟩ := u
     obtain ⟨Ax1, cx1, Am1, cm1, he, hcc, hS1, hM1⟩ := h2' _ hu1
     replace he : e = .returned (.tuple #[.agg #[ii g1, ii b1, ii p1, ii q1, sC Ax1 xs1.length cx1, sC Am1 ms1.length cm1], .bool true]) := he
     replace hS1 : SlI y1 x1w.heap.size Ax1 xs1 := hS1
     replace hM1 : SlM y1 x1w.heap.size Am1 ms1 := hM1
     have HCC1 : Hid (xs1.length <= cx1) := qh hcc
     have HU1 := qh hu1
     subst he
     clear h1 h2' hu1 hcc
     have bA1 := bA.nx (hnx1.trans hny1)
     have bR1 := bR.nx (hnx1.trans hny1)
     have hxB := hx1b
     have hS1B := hS1
     have hM1B := hM1
     have hltx0 : gR < x0w.heap.size := (bW.nx hnx0).lt
     have hltx1 : gR < x1w.heap.size := (bR.nx hnx1).lt
     have hltA1 := bA1.lt
     have hltR1 := bR1.lt
     have hszx := hnx1.size
     have hszy := hxA.size
     obtain ⟨m0, m1, m2, m3, m4, m5⟩ := bA1.d6
     have HN : Hid (newU (rdU (readP ss ws 0)) (rdU (readP ss ws 1)) = some ((g1, b1, p1, q1, xs1, ms1), 1)) := qh (by rw [HU0.out, HU1.out]; rfl)
     obtain ⟨u0, u1, u2, u3, u4, u5⟩ := bR1.d6
     have f0 := bR1.frozen 0
     have f1 := bR1.frozen 1
     have f2 := bR1.frozen 2
     have f3 := bR1.frozen 3
     have f4 := bR1.frozen 4
     have f5 := bR1.frozen 5
     go_wp2
     have qx := ((put6_box bR1 (ii g1) (ii b1) (ii p1) (ii q1) (sC Ax1 xs1.length cx1) (sC Am1 ms1.length cm1)).alloc (.cells #[ii g1, ii b1, ii p1, ii q1, sC Ax1 xs1.length cx1, sC Am1 ms1.length cm1] 26))
     have hnf := ((put6_nx hxB (hgR) (ii g1) (ii b1) (ii p1) (ii q1) (sC Ax1 xs1.length cx1) (sC Am1 ms1.length cm1)).alloc (.cells #[ii g1, ii b1, ii p1, ii q1, sC Ax1 xs1.length cx1, sC Am1 ms1.length cm1] 26))
     have hsf := ((hS1B.pt6 hltx1 (ii g1) (ii b1) (ii p1) (ii q1) (sC Ax1 xs1.length cx1) (sC Am1 ms1.length cm1)).nx ((Nx.refl _).alloc (.cells #[ii g1, ii b1, ii p1, ii q1, sC Ax1 xs1.length cx1, sC Am1 ms1.length cm1] 26)))
     change Sl (World.alloc (put6 y1 gR (ii g1) (ii b1) (ii p1) (ii q1) (sC Ax1 xs1.length cx1) (sC Am1 ms1.length cm1)) (.cells #[ii g1, ii b1, ii p1, ii q1, sC Ax1 xs1.length cx1, sC Am1 ms1.length cm1] 26)) _ _ _ _ _ at hsf
     have hmf := ((hM1B.pt6 hltx1 (ii g1) (ii b1) (ii p1) (ii q1) (sC Ax1 xs1.length cx1) (sC Am1 ms1.length cm1)).nx ((Nx.refl _).alloc (.cells #[ii g1, ii b1, ii p1, ii q1, sC Ax1 xs1.length cx1, sC Am1 ms1.length cm1] 26)))
     change Sl (World.alloc (put6 y1 gR (ii g1) (ii b1) (ii p1) (ii q1) (sC Ax1 xs1.length cx1) (sC Am1 ms1.length cm1)) (.cells #[ii g1, ii b1, ii p1, ii q1, sC Ax1 xs1.length cx1, sC Am1 ms1.length cm1] 26)) _ _ _ _ _ at hmf
     change bodyPost _ _ _ _ _ (World.alloc (put6 y1 gR (ii g1) (ii b1) (ii p1) (ii q1) (sC Ax1 xs1.length cx1) (sC Am1 ms1.length cm1)) (.cells #[ii g1, ii b1, ii p1, ii q1, sC Ax1 xs1.length cx1, sC Am1 ms1.length cm1] 26))
     change Box (World.alloc (put6 y1 gR (ii g1) (ii b1) (ii p1) (ii q1) (sC Ax1 xs1.length cx1) (sC Am1 ms1.length cm1)) (.cells #[ii g1, ii b1, ii p1, ii q1, sC Ax1 xs1.length cx1, sC Am1 ms1.length cm1] 26)) _ _ _ at qx
     generalize World.alloc (put6 y1 gR (ii g1) (ii b1) (ii p1) (ii q1) (sC Ax1 xs1.length cx1) (sC Am1 ms1.length cm1)) (.cells #[ii g1, ii b1, ii p1, ii q1, sC Ax1 xs1.length cx1, sC Am1 ms1.length cm1] 26) = Wf at *
     obtain ⟨hmf0, hmf1, hmf2, hmf3, hmf4, hmf5⟩ := qx.d6
     exact bodyPost_ret (v := .tuple #[.agg #[ii g1, ii b1, ii p1, ii q1, sC Ax1 xs1.length cx1, sC Am1 ms1.length cm1], ii 1]) (by simp [results, results58, go_sem, hmf0, hmf1, hmf2, hmf3, hmf4, hmf5]) rfl (RetLN.yes (u := (g1, b1, p1, q1, xs1, ms1)) HN.out HCC1.out (hsf.low oM) (hmf.low oM) hnf)
 | some u =>
   obtain ⟨g0, b0, p0, q0, xs0, ms0⟩ := u
   obtain ⟨Ax0, cx0, Am0, cm0, he, hcc, hS0, hM0⟩ := h2' _ hu0
   replace he : e = .returned (.tuple #[.agg #[ii g0, ii b0, ii p0, ii q0, sC Ax0 xs0.length cx0, sC Am0 ms0.length cm0], .bool true]) := he
   replace hS0 : SlI y0 x0w.heap.size Ax0 xs0 := hS0
   replace hM0 : SlM y0 x0w.heap.size Am0 ms0 := hM0
   have HCC0 : Hid (xs0.length <= cx0) := qh hcc
   have HU0 := qh hu0
   subst he
   clear h1 h2' hu0 hcc
   go_wp2_with fail
   have bA := Box.new y0 26 #[ii g0, ii b0, ii p0, ii q0, sC Ax0 xs0.length cx0, sC Am0 ms0.length cm0]
   have hzA := (Nx.refl y0).alloc (.cells #[ii g0, ii b0, ii p0, ii q0, sC Ax0 xs0.length cx0, sC Am0 ms0.length cm0] 26)
   have bR := (bW.nx (hnx0.trans hny0)).nx hzA
   have eR := (eW.nx (hnx0.trans hny0)).nx hzA
   have hxA := hx0b.trans hzA
   have hS0A := hS0.nx hzA
   have hM0A := hM0.nx hzA
   change Calls _ _ _ (y0.alloc (.cells #[ii g0, ii b0, ii p0, ii q0, sC Ax0 xs0.length cx0, sC Am0 ms0.length cm0] 26)) _
   generalize y0.alloc (.cells #[ii g0, ii b0, ii p0, ii q0, sC Ax0 xs0.length cx0, sC Am0 ms0.length cm0] 26) = wA at *
   obtain ⟨gA, HgA⟩ := nM (y0.heap.size)
   rw [HgA.out] at bA ⊢
   have hgA : gR < gA := by have := HgA.out; have := (bW.nx (hnx0.trans hny0)).lt; omega
   refine (l01Read_c A A2 n c n2 c2 B 1 ss ws _ (h.below hxA hB) (h2.below hxA hB) (ntr hB hxA.size) oM hn hn2).mono ?_
   rintro e x1w ⟨rfl, hnx1⟩
   have hx1a := hxA.trans hnx1
   go_wp2_with fail
   refine (l04Read_c (readP ss ws 1) _ hr1).mono ?_
   rintro e y1 ⟨hny1, h1, h2'⟩
   have hx1b := hx1a.trans hny1
   cases hu1 : rdU (readP ss ws 1) with
   | none =>
     obtain rfl := h1 hu1
     have HU1 := qh hu1
     clear h1 h2' hu1
     have bA1 := bA.nx (hnx1.trans hny1)
     have bR1 := bR.nx (hnx1.trans hny1)
     have hxB := hx1b
     have hS0B := hS0A.nx (hnx1.trans hny1)
     have hM0B := hM0A.nx (hnx1.trans hny1)
     have hltx0 : gR < x0w.heap.size := (bW.nx hnx0).lt
     have hltx1 : gR < x1w.heap.size := (bR.nx hnx1).lt
     have hltA1 := bA1.lt
     have hltR1 := bR1.lt
     have hszx := hnx1.size
     have hszy := hxA.size
     obtain ⟨m0, m1, m2, m3, m4, m5⟩ := bA1.d6
     have HN : Hid (newU (rdU (readP ss ws 0)) (rdU (readP ss ws 1)) = some ((g0, b0, p0, q0, xs0, ms0), 0)) := qh (by rw [HU0.out, HU1.out]; rfl)
     obtain ⟨u0, u1, u2, u3, u4, u5⟩ := bR1.d6
     have f0 := bR1.frozen 0
     have f1 := bR1.frozen 1
     have f2 := bR1.frozen 2
     have f3 := bR1.frozen 3
     have f4 := bR1.frozen 4
     have f5 := bR1.frozen 5
     go_wp2
     have qx := ((put6_box bR1 (ii g0) (ii b0) (ii p0) (ii q0) (sC Ax0 xs0.length cx0) (sC Am0 ms0.length cm0)).alloc (.cells #[ii 0, ii 0, ii 0, ii 0, nsl, nsl] 26))
     have hnf := ((put6_nx hxB (hgR) (ii g0) (ii b0) (ii p0) (ii q0) (sC Ax0 xs0.length cx0) (sC Am0 ms0.length cm0)).alloc (.cells #[ii 0, ii 0, ii 0, ii 0, nsl, nsl] 26))
     have hsf := ((hS0B.pt6 hltx0 (ii g0) (ii b0) (ii p0) (ii q0) (sC Ax0 xs0.length cx0) (sC Am0 ms0.length cm0)).nx ((Nx.refl _).alloc (.cells #[ii 0, ii 0, ii 0, ii 0, nsl, nsl] 26)))
     change Sl (World.alloc (put6 y1 gR (ii g0) (ii b0) (ii p0) (ii q0) (sC Ax0 xs0.length cx0) (sC Am0 ms0.length cm0)) (.cells #[ii 0, ii 0, ii 0, ii 0, nsl, nsl] 26)) _ _ _ _ _ at hsf
     have hmf := ((hM0B.pt6 hltx0 (ii g0) (ii b0) (ii p0) (ii q0) (sC Ax0 xs0.length cx0) (sC Am0 ms0.length cm0)).nx ((Nx.refl _).alloc (.cells #[ii 0, ii 0, ii 0, ii 0, nsl, nsl] 26)))
     change Sl (World.alloc (put6 y1 gR (ii g0) (ii b0) (ii p0) (ii q0) (sC Ax0 xs0.length cx0) (sC Am0 ms0.length cm0)) (.cells #[ii 0, ii 0, ii 0, ii 0, nsl, nsl] 26)) _ _ _ _ _ at hmf
     change bodyPost _ _ _ _ _ (World.alloc (put6 y1 gR (ii g0) (ii b0) (ii p0) (ii q0) (sC Ax0 xs0.length cx0) (sC Am0 ms0.length cm0)) (.cells #[ii 0, ii 0, ii 0, ii 0, nsl, nsl] 26))
     change Box (World.alloc (put6 y1 gR (ii g0) (ii b0) (ii p0) (ii q0) (sC Ax0 xs0.length cx0) (sC Am0 ms0.length cm0)) (.cells #[ii 0, ii 0, ii 0, ii 0, nsl, nsl] 26)) _ _ _ at qx
     generalize World.alloc (put6 y1 gR (ii g0) (ii b0) (ii p0) (ii q0) (sC Ax0 xs0.length cx0) (sC Am0 ms0.length cm0)) (.cells #[ii 0, ii 0, ii 0, ii 0, nsl, nsl] 26) = Wf at *
     obtain ⟨hmf0, hmf1, hmf2, hmf3, hmf4, hmf5⟩ := qx.d6
     exact bodyPost_ret (v := .tuple #[.agg #[ii g0, ii b0, ii p0, ii q0, sC Ax0 xs0.length cx0, sC Am0 ms0.length cm0], ii 0]) (by simp [results, results58, go_sem, hmf0, hmf1, hmf2, hmf3, hmf4, hmf5]) rfl (RetLN.yes (u := (g0, b0, p0, q0, xs0, ms0)) HN.out HCC0.out (hsf.low oM) (hmf.low oM) hnf)
   | some u =>
     obtain ⟨g1, b1, p1, q1, xs1, ms1⟩ := u
     obtain ⟨Ax1, cx1, Am1, cm1, he, hcc, hS1, hM1⟩ := h2' _ hu1
     replace he : e = .returned (.tuple #[.agg #[ii g1, ii b1, ii p1, ii q1, sC Ax1 xs1.length cx1, sC Am1 ms1.length cm1], .bool true]) := he
     replace hS1 : SlI y1 x1w.heap.size Ax1 xs1 := hS1
     replace hM1 : SlM y1 x1w.heap.size Am1 ms1 := hM1
     have HCC1 : Hid (xs1.length <= cx1) := qh hcc
     have HU1 := qh hu1
     subst he
     clear h1 h2' hu1 hcc
     have bA1 := bA.nx (hnx1.trans hny1)
     have bR1 := bR.nx (hnx1.trans hny1)
     have hxB := hx1b
     have hS0B := hS0A.nx (hnx1.trans hny1)
     have hM0B := hM0A.nx (hnx1.trans hny1)
     have hS1B := hS1
     have hM1B := hM1
     have hltx0 : gR < x0w.heap.size := (bW.nx hnx0).lt
     have hltx1 : gR < x1w.heap.size := (bR.nx hnx1).lt
     have hltA1 := bA1.lt
     have hltR1 := bR1.lt
     have hszx := hnx1.size
     have hszy := hxA.size
     obtain ⟨m0, m1, m2, m3, m4, m5⟩ := bA1.d6
     by_cases hgt : g0 < g1
     . have hd : decide (g1 <= g0) = false := decide_eq_false oM
       have HN : Hid (newU (rdU (readP ss ws 0)) (rdU (readP ss ws 1)) = some ((g1, b1, p1, q1, xs1, ms1), 1)) := qh (by rw [HU0.out, HU1.out]; show (if g0 < g1 then _ else _) = _; rw [if_pos hgt])
       obtain ⟨u0, u1, u2, u3, u4, u5⟩ := bR1.d6
       have f0 := bR1.frozen 0
       have f1 := bR1.frozen 1
       have f2 := bR1.frozen 2
       have f3 := bR1.frozen 3
       have f4 := bR1.frozen 4
       have f5 := bR1.frozen 5
       go_wp2
       have qx := ((put6_box bR1 (ii g1) (ii b1) (ii p1) (ii q1) (sC Ax1 xs1.length cx1) (sC Am1 ms1.length cm1)).alloc (.cells #[ii g1, ii b1, ii p1, ii q1, sC Ax1 xs1.length cx1, sC Am1 ms1.length cm1] 26))
       have hnf := ((put6_nx hxB (hgR) (ii g1) (ii b1) (ii p1) (ii q1) (sC Ax1 xs1.length cx1) (sC Am1 ms1.length cm1)).alloc (.cells #[ii g1, ii b1, ii p1, ii q1, sC Ax1 xs1.length cx1, sC Am1 ms1.length cm1] 26))
       have hsf := ((hS1B.pt6 hltx1 (ii g1) (ii b1) (ii p1) (ii q1) (sC Ax1 xs1.length cx1) (sC Am1 ms1.length cm1)).nx ((Nx.refl _).alloc (.cells #[ii g1, ii b1, ii p1, ii q1, sC Ax1 xs1.length cx1, sC Am1 ms1.length cm1] 26)))
       change Sl (World.alloc (put6 y1 gR (ii g1) (ii b1) (ii p1) (ii q1) (sC Ax1 xs1.length cx1) (sC Am1 ms1.length cm1)) (.cells #[ii g1, ii b1, ii p1, ii q1, sC Ax1 xs1.length cx1, sC Am1 ms1.length cm1] 26)) _ _ _ _ _ at hsf
       have hmf := ((hM1B.pt6 hltx1 (ii g1) (ii b1) (ii p1) (ii q1) (sC Ax1 xs1.length cx1) (sC Am1 ms1.length cm1)).nx ((Nx.refl _).alloc (.cells #[ii g1, ii b1, ii p1, ii q1, sC Ax1 xs1.length cx1, sC Am1 ms1.length cm1] 26)))
       change Sl (World.alloc (put6 y1 gR (ii g1) (ii b1) (ii p1) (ii q1) (sC Ax1 xs1.length cx1) (sC Am1 ms1.length cm1)) (.cells #[ii g1, ii b1, ii p1, ii q1, sC Ax1 xs1.length cx1, sC Am1 ms1.length cm1] 26)) _ _ _ _ _ at hmf
       change bodyPost _ _ _ _ _ (World.alloc (put6 y1 gR (ii g1) (ii b1) (ii p1) (ii q1) (sC Ax1 xs1.length cx1) (sC Am1 ms1.length cm1)) (.cells #[ii g1, ii b1, ii p1, ii q1, sC Ax1 xs1.length cx1, sC Am1 ms1.length cm1] 26))
       change Box (World.alloc (put6 y1 gR (ii g1) (ii b1) (ii p1) (ii q1) (sC Ax1 xs1.length cx1) (sC Am1 ms1.length cm1)) (.cells #[ii g1, ii b1, ii p1, ii q1, sC Ax1 xs1.length cx1, sC Am1 ms1.length cm1] 26)) _ _ _ at qx
       generalize World.alloc (put6 y1 gR (ii g1) (ii b1) (ii p1) (ii q1) (sC Ax1 xs1.length cx1) (sC Am1 ms1.length cm1)) (.cells #[ii g1, ii b1, ii p1, ii q1, sC Ax1 xs1.length cx1, sC Am1 ms1.length cm1] 26) = Wf at *
       obtain ⟨hmf0, hmf1, hmf2, hmf3, hmf4, hmf5⟩ := qx.d6
       exact bodyPost_ret (v := .tuple #[.agg #[ii g1, ii b1, ii p1, ii q1, sC Ax1 xs1.length cx1, sC Am1 ms1.length cm1], ii 1]) (by simp [results, results58, go_sem, hmf0, hmf1, hmf2, hmf3, hmf4, hmf5]) rfl (RetLN.yes (u := (g1, b1, p1, q1, xs1, ms1)) HN.out HCC1.out (hsf.low oM) (hmf.low oM) hnf)
     . have hd : decide (g1 <= g0) = true := decide_eq_true oM
       have HN : Hid (newU (rdU (readP ss ws 0)) (rdU (readP ss ws 1)) = some ((g0, b0, p0, q0, xs0, ms0), 0)) := qh (by rw [HU0.out, HU1.out]; show (if g0 < g1 then _ else _) = _; rw [if_neg hgt])
       obtain ⟨u0, u1, u2, u3, u4, u5⟩ := bR1.d6
       have f0 := bR1.frozen 0
       have f1 := bR1.frozen 1
       have f2 := bR1.frozen 2
       have f3 := bR1.frozen 3
       have f4 := bR1.frozen 4
       have f5 := bR1.frozen 5
       go_wp2
       have qx := ((put6_box bR1 (ii g0) (ii b0) (ii p0) (ii q0) (sC Ax0 xs0.length cx0) (sC Am0 ms0.length cm0)).alloc (.cells #[ii g1, ii b1, ii p1, ii q1, sC Ax1 xs1.length cx1, sC Am1 ms1.length cm1] 26))
       have hnf := ((put6_nx hxB (hgR) (ii g0) (ii b0) (ii p0) (ii q0) (sC Ax0 xs0.length cx0) (sC Am0 ms0.length cm0)).alloc (.cells #[ii g1, ii b1, ii p1, ii q1, sC Ax1 xs1.length cx1, sC Am1 ms1.length cm1] 26))
       have hsf := ((hS0B.pt6 hltx0 (ii g0) (ii b0) (ii p0) (ii q0) (sC Ax0 xs0.length cx0) (sC Am0 ms0.length cm0)).nx ((Nx.refl _).alloc (.cells #[ii g1, ii b1, ii p1, ii q1, sC Ax1 xs1.length cx1, sC Am1 ms1.length cm1] 26)))
       change Sl (World.alloc (put6 y1 gR (ii g0) (ii b0) (ii p0) (ii q0) (sC Ax0 xs0.length cx0) (sC Am0 ms0.length cm0)) (.cells #[ii g1, ii b1, ii p1, ii q1, sC Ax1 xs1.length cx1, sC Am1 ms1.length cm1] 26)) _ _ _ _ _ at hsf
       have hmf := ((hM0B.pt6 hltx0 (ii g0) (ii b0) (ii p0) (ii q0) (sC Ax0 xs0.length cx0) (sC Am0 ms0.length cm0)).nx ((Nx.refl _).alloc (.cells #[ii g1, ii b1, ii p1, ii q1, sC Ax1 xs1.length cx1, sC Am1 ms1.length cm1] 26)))
       change Sl (World.alloc (put6 y1 gR (ii g0) (ii b0) (ii p0) (ii q0) (sC Ax0 xs0.length cx0) (sC Am0 ms0.length cm0)) (.cells #[ii g1, ii b1, ii p1, ii q1, sC Ax1 xs1.length cx1, sC Am1 ms1.length cm1] 26)) _ _ _ _ _ at hmf
       change bodyPost _ _ _ _ _ (World.alloc (put6 y1 gR (ii g0) (ii b0) (ii p0) (ii q0) (sC Ax0 xs0.length cx0) (sC Am0 ms0.length cm0)) (.cells #[ii g1, ii b1, ii p1, ii q1, sC Ax1 xs1.length cx1, sC Am1 ms1.length cm1] 26))
       change Box (World.alloc (put6 y1 gR (ii g0) (ii b0) (ii p0) (ii q0) (sC Ax0 xs0.length cx0) (sC Am0 ms0.length cm0)) (.cells #[ii g1, ii b1, ii p1, ii q1, sC Ax1 xs1.length cx1, sC Am1 ms1.length cm1] 26)) _ _ _ at qx
       generalize World.alloc (put6 y1 gR (ii g0) (ii b0) (ii p0) (ii q0) (sC Ax0 xs0.length cx0) (sC Am0 ms0.length cm0)) (.cells #[ii g1, ii b1, ii p1, ii q1, sC Ax1 xs1.length cx1, sC Am1 ms1.length cm1] 26) = Wf at *
       obtain ⟨hmf0, hmf1, hmf2, hmf3, hmf4, hmf5⟩ := qx.d6
       exact bodyPost_ret (v := .tuple #[.agg #[ii g0, ii b0, ii p0, ii q0, sC Ax0 xs0.length cx0, sC Am0 ms0.length cm0], ii 0]) (by simp [results, results58, go_sem, hmf0, hmf1, hmf2, hmf3, hmf4, hmf5]) rfl (RetLN.yes (u := (g0, b0, p0, q0, xs0, ms0)) HN.out HCC0.out (hsf.low oM) (hmf.low oM) hnf)
def newA (ss : List BA) (ws : List (Int × BA)) : U6 × Int × Int :=
 if diskB ss ws then (match newU (rdU (readP ss ws 0)) (rdU (readP ss ws 1)) with | none => (zU, 0, 19) | some (u, s) => (u, s, 0)) else (zU, 0, 1)
theorem newU_slot {o0 o1 : Option U6} {u : U6} {s : Int} (h : newU o0 o1 = some (u, s)) : s = 0 \/ s = 1 := by
 unfold newU at h
 split at h
 . split at h <;> cases h
   . exact .inr rfl
   . exact .inl rfl
 . cases h; exact .inl rfl
 . cases h; exact .inr rfl
 . cases h
theorem newU_from {o0 o1 : Option U6} {u : U6} {s : Int} (h : newU o0 o1 = some (u, s)) : o0 = some u \/ o1 = some u := by
 unfold newU at h
 split at h
 . split at h <;> cases h
   . exact .inr rfl
   . exact .inl rfl
 . cases h; exact .inl rfl
 . cases h; exact .inr rfl
 . cases h
def RetNW (w : World) (ss : List BA) (ws : List (Int × BA)) (e : Ending) (w' : World) : Prop :=
 Nx w w' /\ ∃ A c A2 c2, e = .returned (.tuple #[vU (newA ss ws).1 A c A2 c2, ii (newA ss ws).2.1, ii (newA ss ws).2.2]) /\ FitU w' w.heap.size (newA ss ws).1 A c A2
theorem RetNW.un {w w' : World} {ss : List BA} {ws : List (Int × BA)} {e : Ending} {g b p q s k : Int} {xs : List Int} {ms : List Mrk} (h : RetNW w ss ws e w') (hq : newA ss ws = ((g, b, p, q, xs, ms), s, k)) :
 Nx w w' /\ ∃ A c A2 c2, e = .returned (.tuple #[.agg #[ii g, ii b, ii p, ii q, sC A xs.length c, sC A2 ms.length c2], ii s, ii k]) /\ xs.length <= c /\ SlI w' w.heap.size A xs /\ SlM w' w.heap.size A2 ms := by
 unfold RetNW at h; rw [hq] at h; exact h
theorem RetNW.mk {w w' : World} {ss : List BA} {ws : List (Int × BA)} {g b p q s k : Int} {xs : List Int} {ms : List Mrk} {c c2 : Nat} {A A2 : Option Addr} (hq : newA ss ws = ((g, b, p, q, xs, ms), s, k)) (hc : xs.length <= c) (hs : SlI w' w.heap.size A xs) (hm : SlM w' w.heap.size A2 ms) (hn : Nx w w') :
 RetNW w ss ws (.returned (.tuple #[.agg #[ii g, ii b, ii p, ii q, sC A xs.length c, sC A2 ms.length c2], ii s, ii k])) w' := by
 unfold RetNW; rw [hq]; exact ⟨hn, A, c, A2, c2, rfl, hc, hs, hm⟩
theorem RetNW.zero {w w' : World} {ss : List BA} {ws : List (Int × BA)} {s k : Int} (hq : newA ss ws = (zU, s, k)) (hn : Nx w w') :
 RetNW w ss ws (.returned (.tuple #[.agg #[ii 0, ii 0, ii 0, ii 0, nsl, nsl], ii s, ii k])) w' := RetNW.mk (g := 0) (b := 0) (p := 0) (q := 0) (xs := []) (ms := []) hq nle SlI.nil SlM.nil hn
def chN (c : Chg) : List Nat := [c.1.toNat, c.2.1.toNat, c.2.2.toNat]
def segN (f t m : Int) (cs : List Chg) : List Nat := [f.toNat, t.toNat, m.toNat] ++ cs.flatMap chN
def chV (c : Chg) : List Value := [ii c.1, ii c.2.1, ii c.2.2]
def segV (f t m : Int) (cs : List Chg) : List Value := [ii f, ii t, ii m] ++ cs.flatMap chV
theorem flat_len {α : Type} (g : Chg -> List α) (hg : ∀ c, (g c).length = 3) (cs : List Chg) : (cs.flatMap g).length = 3 * cs.length := by
 induction cs with
 | nil => rfl
 | cons a l ih => simp [hg, ih]; omega
theorem segN_len (f t m : Int) (cs : List Chg) : (segN f t m cs).length = 3 + 3 * cs.length := by
 unfold segN; rw [List.length_append, flat_len chN (fun _ => rfl)]; simp
theorem segV_succ (f t m : Int) (cs : List Chg) (k : Nat) (hk : k < cs.length) {x y z : Int} (h : cs.getD k chZ = (x, y, z)) :
 segV f t m (cs.take (k + 1)) = segV f t m (cs.take k) ++ [ii x, ii y, ii z] := by
 unfold segV
 have e : cs[k] = (x, y, z) := by rw [<- h, gdE, List.getElem?_eq_getElem hk]; rfl
 rw [List.take_succ_eq_append_getElem hk, List.flatMap_append, List.append_assoc, e]; simp [chV]
theorem mem_chB {cs : List Chg} (h : chsB cs = true) {c : Chg} (hc : c ∈ cs) : chB c = true := by
 obtain ⟨k, hk, rfl⟩ := List.mem_iff_getElem.1 hc
 have := chsB_to h k hk
 unfold okCh at this
 simp only [Bool.and_eq_true] at this
 have h1 := this.1
 rw [gdE, List.getElem?_eq_getElem hk] at h1
 exact h1
theorem chB_yes {c : Chg} (h : chB c = true) : (0 <= c.1 /\ c.1 <= 7) /\ (0 <= c.2.1 /\ c.2.1 <= 999999) /\ (0 <= c.2.2 /\ c.2.2 <= 999999) := by
 unfold chB at h
 simp only [Bool.and_eq_true] at h
 exact ⟨inB_yes h.1.1, inB_yes h.1.2, inB_yes h.2⟩
theorem segB_yes {f t m : Int} {cs : List Chg} (h : segB f t m cs = true) : (0 <= f /\ f <= 999999) /\ (0 <= t /\ t <= 999999) /\ f < t /\ (0 <= m /\ m <= 999999) /\ chsB cs = true := by
 unfold segB at h
 simp only [Bool.and_eq_true, decide_eq_true_eq] at h
 exact ⟨inB_yes h.1.1.1.1, inB_yes h.1.1.1.2, h.1.1.2, inB_yes h.1.2, h.2⟩
theorem segV_map {f t m : Int} {cs : List Chg} (h : segB f t m cs = true) : segV f t m cs = (segN f t m cs).map vI := by
 obtain ⟨⟨h1, _⟩, ⟨h2, _⟩, _, ⟨h3, _⟩, h4⟩ := segB_yes h
 have key : cs.flatMap chV = (cs.flatMap chN).map vI := by
  rw [List.map_flatMap]
  have e : ∀ c ∈ cs, chV c = (chN c).map vI := fun c hc => by
   obtain ⟨⟨a1, _⟩, ⟨a2, _⟩, ⟨a3, _⟩⟩ := chB_yes (mem_chB h4 hc)
   simp only [chV, chN, List.map_cons, List.map_nil, vI_toNat a1, vI_toNat a2, vI_toNat a3]
  clear h4 h
  induction cs with
  | nil => rfl
  | cons a l ih =>
    rw [List.flatMap_cons, List.flatMap_cons, e a (by simp), ih (fun c hc => e c (by simp [hc]))]
 unfold segV segN
 rw [key, List.map_append]
 simp only [List.map_cons, List.map_nil, vI_toNat h1, vI_toNat h2, vI_toNat h3]
theorem segN_all {f t m : Int} {cs : List Chg} (h : segB f t m cs = true) : All6 (segN f t m cs) := by
 obtain ⟨⟨h1, k1⟩, ⟨h2, k2⟩, _, ⟨h3, k3⟩, h4⟩ := segB_yes h
 have key : ∀ n ∈ segN f t m cs, n <= 999999 := by
  intro n hn
  unfold segN at hn
  rw [List.mem_append] at hn
  rcases hn with hn | hn
  . simp only [List.mem_cons, List.not_mem_nil, or_false] at hn
    omega
  . obtain ⟨c, hc, hn⟩ := List.mem_flatMap.1 hn
    obtain ⟨⟨a1, b1⟩, ⟨a2, b2⟩, ⟨a3, b3⟩⟩ := chB_yes (mem_chB h4 hc)
    simp only [chN, List.mem_cons, List.not_mem_nil, or_false] at hn
    omega
 intro k hk
 rw [gdE, List.getElem?_eq_getElem hk]
 exact key _ (List.getElem_mem hk)
theorem Own.new3 (w : World) (t : TypeId) (a b c : Value) : Own (w.alloc (.cells #[a, b, c] t)) w.heap.size t 3 (fun i => #[a, b, c].getD i undef) :=
 ⟨_, heap_alloc_new w _, by simp, fun i hi => by
  match i, hi with
  | 0, _ => rfl
  | 1, _ => rfl
  | 2, _ => rfl⟩
theorem owns_new3 (w : World) (t : TypeId) (a b c : Value) {B : Nat} (hB : B <= w.heap.size) : (w.alloc (.cells #[a, b, c] t)).ownsRow B t 1 (sC (some ⟨w.heap.size, 0, none⟩) 3 3) 3 [a, b, c] :=
 ⟨rfl, .inr ⟨_, 3, #[a, b, c], rfl, hB, heap_alloc_new w _, oM, by unfold maxLen; omega, rfl, rfl⟩⟩
def segS (f t m : Int) (cs : List Chg) : BA := if segB f t m cs then sealS (numsS (segN f t m cs)) else ⟨#[]⟩
theorem numbers_c (f t m : Int) (A : Option Addr) (c B : Nat) (cs : List Chg) (w : World) (h : Chs w B A cs) (hB : B <= w.heap.size) (hn : cs.length <= 8) (hok : segB f t m cs = true) :
 Calls Tryz.prog 207 #[.agg #[ii f, ii t, ii m, sC A cs.length c]] w fun e w' => ∃ A' c', e = .returned (sC A' (segN f t m cs).length c') /\ Row w' w'.heap.size A' (segN f t m cs).length (intAt (segN f t m cs)) /\ Nx w w' := by
 obtain ⟨i0, hi0, hz0, hz1, hz2⟩ := info_parts info_int
 have HV := qh (segV_map hok)
 clear hok
 go_enter func207, ntmps207
 go_wp2_with fail
 have b0 := Box.new w 122 #[ii f, ii t, ii m, sC A cs.length c]
 have hx0 := (Nx.refl w).alloc (.cells #[ii f, ii t, ii m, sC A cs.length c] 122)
 have hsz : (w.alloc (.cells #[ii f, ii t, ii m, sC A cs.length c] 122)).heap.size = w.heap.size + 1 := by simp
 have hw0 := owns_new3 (w.alloc (.cells #[ii f, ii t, ii m, sC A cs.length c] 122)) 3 (ii f) (ii t) (ii m) nle
 have hn0 := (Nx.refl (w.alloc (.cells #[ii f, ii t, ii m, sC A cs.length c] 122))).alloc (.cells #[ii f, ii t, ii m] 3)
 generalize w.alloc (.cells #[ii f, ii t, ii m, sC A cs.length c] 122) = W at *
 rw [hsz] at hw0
 have Hsz := qh hsz
 clear hsz
 go_loopw [3, 16] (fun s i wr => ∃ (k : Nat) (v : Value), k <= cs.length /\ i = ii k /\ v = s /\ wr.ownsRow W.heap.size 3 1 v (3 + 3 * k) (segV f t m (cs.take k)) /\ Nx W wr) (fun _ i _ => cs.length - (intOf i).toNat)
 case atStart => exact ⟨0, _, Nat.zero_le _, rfl, rfl, by rw [Hsz.out]; exact hw0, hn0⟩
 case round =>
  obtain ⟨k, v, hk, rfl, rfl, hw, hnx⟩ := hrel
  clear hw0 hn0
  by_cases hlt : k < cs.length
  . obtain ⟨b, off, rfl, hb, k0, k1, k2⟩ := (h.below (hx0.trans hnx) hB).at_ hlt
    obtain ⟨⟨q0, q1, q2⟩, Hq⟩ := nM (cs.getD k chZ)
    rw [Hq.out] at k0 k1 k2
    have hw1 := (hw.alloc (.cells #[ii q0, ii q1, ii q2] 192)).alloc (.cells #[ii q0, ii q1, ii q2] 3)
    have ho1 := Own.new3 (wr.alloc (.cells #[ii q0, ii q1, ii q2] 192)) 3 (ii q0) (ii q1) (ii q2)
    have hx1 := (hnx.alloc (.cells #[ii q0, ii q1, ii q2] 192)).alloc (.cells #[ii q0, ii q1, ii q2] 3)
    simp only [World.size_alloc] at ho1
    have HN : Hid (∀ j u, [Value.int .i64 q0, ii q1, ii q2][j]? = some u -> ((wr.alloc (.cells #[ii q0, ii q1, ii q2] 192)).alloc (.cells #[ii q0, ii q1, ii q2] 3)).cell? ((Addr.mk (wr.heap.size + 1) 0 none).add j) = some u) := qh (fun j u hj => by
     rcases j with _ | _ | _ | j
     . injection hj with hj; subst hj; exact (ho1.cell (i := 0) oM)
     . injection hj with hj; subst hj; exact (ho1.cell (i := 1) oM)
     . injection hj with hj; subst hj; exact (ho1.cell (i := 2) oM)
     . simp at hj)
    have HO : Hid (∀ u ∈ [Value.int .i64 q0, ii q1, ii q2], u.oneCell' = true) := qh (fun u hu => by simp only [List.mem_cons, List.not_mem_nil, or_false] at hu; rcases hu with rfl | rfl | rfl <;> rfl)
    go_wp2_with (at_builtin; refine wpList_append_own _ rfl _ _ 23 rfl W.heap.size 3 i0 _ 1 8 underlying23 hi0 hz0 hz1 hz2 rfl oM v (3 + 3 * k) _ rfl hw1 ⟨wr.heap.size + 1, 0, none⟩ 3 3 [ii q0, ii q1, ii q2] rfl rfl HN.out HO.out ?c3 ?c4 ?c5 ?_)
    case c3 => unfold maxLen; omega
    case c4 => omega
    case c5 => have := hx1.size; simp only [World.size_alloc] at this ⊢; omega
    intro v2 w2 hw2 hg2 _
    have hx2 : Nx W w2 := Below.grown hx1 hg2 hx1.size (fun k hk => (hw1.lt k hk).1)
    go_wp2
    go_roundw
    case rel =>
     refine ⟨k + 1, _, oM, by go_num, rfl, ?_, hx2⟩
     rw [segV_succ f t m cs k hlt Hq.out]
     exact hw2
    case measure => simp [intOf]; omega
  . obtain rfl : k = cs.length := oM
    rw [List.take_length, HV.out] at hw
    have hl := segN_len f t m cs
    rw [<- hl] at hw
    obtain ⟨A', c', rfl, hrow⟩ := owns_row hw oM
    clear hl hw
    go_wp2
    go_ret
    exact ⟨A', c', rfl, hrow, hx0.trans hnx⟩
theorem l02Text_c (f t m : Int) (A : Option Addr) (c B : Nat) (cs : List Chg) (w : World) (h : Chs w B A cs) (hB : B <= w.heap.size) (hn : cs.length <= 8) (hok : segB f t m cs = true) :
 Calls Tryz.prog 163 #[.agg #[ii f, ii t, ii m, sC A cs.length c]] w fun e w' => e = .returned (.string (sealS (numsS (segN f t m cs)))) /\ Nx w w' := by
 obtain ⟨i0, hi0, hz0, hz1, hz2⟩ := info_parts info_int
 have HV := qh (segV_map hok)
 have h6 := segN_all hok
 clear hok
 go_enter func163, ntmps163
 go_wp2_with fail
 have b0 := Box.new w 122 #[ii f, ii t, ii m, sC A cs.length c]
 have hx0 := (Nx.refl w).alloc (.cells #[ii f, ii t, ii m, sC A cs.length c] 122)
 have hsz : (w.alloc (.cells #[ii f, ii t, ii m, sC A cs.length c] 122)).heap.size = w.heap.size + 1 := by simp
 have hw0 := owns_new3 (w.alloc (.cells #[ii f, ii t, ii m, sC A cs.length c] 122)) 3 (ii f) (ii t) (ii m) nle
 have hn0 := (Nx.refl (w.alloc (.cells #[ii f, ii t, ii m, sC A cs.length c] 122))).alloc (.cells #[ii f, ii t, ii m] 3)
 generalize w.alloc (.cells #[ii f, ii t, ii m, sC A cs.length c] 122) = W at *
 rw [hsz] at hw0
 have Hsz := qh hsz
 clear hsz
 go_loopw [3, 4] (fun s i wr => ∃ (k : Nat) (v : Value), k <= cs.length /\ i = ii k /\ v = s /\ wr.ownsRow W.heap.size 3 1 v (3 + 3 * k) (segV f t m (cs.take k)) /\ Nx W wr) (fun _ i _ => cs.length - (intOf i).toNat)
 case atStart => exact ⟨0, _, Nat.zero_le _, rfl, rfl, by rw [Hsz.out]; exact hw0, hn0⟩
 case round =>
  obtain ⟨k, v, hk, rfl, rfl, hw, hnx⟩ := hrel
  obtain ⟨_, _, _, c3⟩ := (b0.nx hnx).d4
  clear hw0 hn0
  by_cases hlt : k < cs.length
  . obtain ⟨b, off, rfl, hb, k0, k1, k2⟩ := (h.below (hx0.trans hnx) hB).at_ hlt
    obtain ⟨⟨q0, q1, q2⟩, Hq⟩ := nM (cs.getD k chZ)
    rw [Hq.out] at k0 k1 k2
    have hbw : b < W.heap.size := by have := hx0.size; omega
    have hbv : w.heap.size < W.heap.size := b0.lt
    go_wp2_with fail
    refine wp_lexA (kf9 (kf9 (ff :: true :: true :: ff :: []))) (fun w' => CC w' w.heap.size 3 (sC (some ⟨b, off, none⟩) cs.length c) /\ CC w' b (off + k * 3) (ii q0) /\ CC w' b (off + k * 3 + 1) (ii q1) /\ CC w' b (off + k * 3 + 2) (ii q2)) (by exact ⟨c3, k0, k1, k2⟩) ?_
    refine hLr ?_
    refine hLc fun K hK => ?_
    go_simp
    have hn1 : Nx wr.drew (wr.drew.alloc (.cells #[ii q0, ii q1, ii q2] 3)) := (Nx.refl _).alloc _
    change K _ (wr.drew.alloc _)
    have ho1 := Own.new3 wr.drew 3 (ii q0) (ii q1) (ii q2)
    have hw1 := (hw.drew).alloc (.cells #[ii q0, ii q1, ii q2] 3)
    have hx1 := hnx.drew.trans hn1
    refine hK.out _ _ (by exact ⟨(hx1.of_two hnx ⟨w.heap.size, 3, none⟩ hbv).trans c3, (hx1.of_two hnx ⟨b, off + k * 3, none⟩ hbw).trans k0, (hx1.of_two hnx ⟨b, off + k * 3 + 1, none⟩ hbw).trans k1, (hx1.of_two hnx ⟨b, off + k * 3 + 2, none⟩ hbw).trans k2⟩) ?_
    generalize wr.drew.alloc (.cells #[ii q0, ii q1, ii q2] 3) = wz at *
    clear hK K
    refine nZ ?_
    refine hLc fun K hK => ?_
    refine wp_append_own wz _ _ 23 rfl W.heap.size 3 i0 _ 1 8 underlying23 hi0 hz0 hz1 hz2 rfl oM v (3 + 3 * k) _ rfl hw1 ⟨wr.heap.size, 0, none⟩ 3 3 [ii q0, ii q1, ii q2] rfl rfl (fun j u hj => ?_) (fun u hu => ?_) (by unfold maxLen; omega) oM (by have := hx1.size; omega) ?_
    . rcases j with _ | _ | _ | j
      . injection hj with hj; subst hj; exact (ho1.cell (i := 0) oM)
      . injection hj with hj; subst hj; exact (ho1.cell (i := 1) oM)
      . injection hj with hj; subst hj; exact (ho1.cell (i := 2) oM)
      . simp at hj
    . simp only [List.mem_cons, List.not_mem_nil, or_false] at hu; rcases hu with rfl | rfl | rfl <;> rfl
    intro v2 w2 hw2 hg2 _
    have hx2 : Nx W w2 := Below.grown hx1 hg2 hx1.size (fun k hk => (hw1.lt k hk).1)
    refine hK.out _ _ (by exact ⟨(hx2.of_two hnx ⟨w.heap.size, 3, none⟩ hbv).trans c3, (hx2.of_two hnx ⟨b, off + k * 3, none⟩ hbw).trans k0, (hx2.of_two hnx ⟨b, off + k * 3 + 1, none⟩ hbw).trans k1, (hx2.of_two hnx ⟨b, off + k * 3 + 2, none⟩ hbw).trans k2⟩) ?_
    clear hK K
    refine nZ ?_
    refine hLr ?_
    refine HL.done ?_
    go_wp2
    go_roundw
    case rel =>
     refine ⟨k + 1, _, oM, by go_num, rfl, ?_, hx2⟩
     rw [segV_succ f t m cs k hlt Hq.out]
     exact hw2
    case measure => simp [intOf]; omega
  . obtain rfl : k = cs.length := oM
    rw [List.take_length, HV.out] at hw
    have hl := segN_len f t m cs
    rw [<- hl] at hw
    obtain ⟨A', c', rfl, hrow⟩ := owns_row hw oM
    have Hl := qh hl
    clear hl hw
    go_wp2_with fail
    refine (l02Join_c A' c' _ (segN f t m cs) _ hrow nle h6 (by have := Hl.out; omega)).mono ?_
    rintro e w1 ⟨rfl, hnx1⟩
    go_wp2_with fail
    refine (l02Seal_c (numsS (segN f t m cs)) _ (by rw [numsS_size]; have := Hl.out; omega)).mono ?_
    rintro e w2 ⟨rfl, hnx2⟩
    go_wp2
    go_ret
    exact ⟨rfl, ((hx0.trans hnx).trans hnx1).trans hnx2⟩
theorem segTextM_c (f t m : Int) (A : Option Addr) (c B : Nat) (cs : List Chg) (w : World) (h : Chs w B A cs) (hB : B <= w.heap.size) (hf : segB f t m cs = true) :
 Calls Tryz.prog 156 #[.agg #[ii f, ii t, ii m, sC A cs.length c]] w fun e w' => e = .returned (.string (sealS (numsS (segN f t m cs)))) /\ Nx w w' := by
 have HF := qh hf
 have hl8 := chsB_len (segB_yes hf).2.2.2.2
 clear hf
 have b0 := Box.new w 122 #[ii f, ii t, ii m, sC A cs.length c]
 have hx0 := (Nx.refl w).alloc (.cells #[ii f, ii t, ii m, sC A cs.length c] 122)
 go_enter func156, ntmps156
 go_wp2_with fail
 generalize w.alloc (.cells #[ii f, ii t, ii m, sC A cs.length c] 122) = W at *
 obtain ⟨c0, c1, c2, c3⟩ := b0.d4
 refine (numbers_c f t m A c B cs _ (h.below hx0 hB) (ntr hB hx0.size) hl8 HF.out).mono ?_
 rintro e w2 ⟨A', c', rfl, hrow, hnx2⟩
 have Hl := qh (segN_len f t m cs)
 go_wp2_with fail
 refine (numbersText_c A' c' _ (segN f t m cs) _ hrow nle (segN_all HF.out) (by have := Hl.out; omega) (by have := Hl.out; omega)).mono ?_
 rintro e w3 ⟨rfl, hnx3⟩
 go_wp2_with fail
 refine (sealed_c (numsS (segN f t m cs)) _ (by rw [numsS_size]; have := Hl.out; omega)).mono ?_
 rintro e w4 ⟨rfl, hnx4⟩
 have hxz := ((hx0.trans hnx2).trans hnx3).trans hnx4
 go_wp2
 go_ret
 exact ⟨rfl, hxz⟩
def chN3 (ns : List Nat) (j : Nat) : Chg := ((ns.getD (3 + 3 * j) 0 : Nat), (ns.getD (3 + 3 * j + 1) 0 : Nat), (ns.getD (3 + 3 * j + 2) 0 : Nat))
def chOf (ns : List Nat) (k : Nat) : List Chg := (List.range k).map (chN3 ns)
theorem chOf_len (ns : List Nat) (k : Nat) : (chOf ns k).length = k := by simp [chOf]
theorem chOf_succ (ns : List Nat) (k : Nat) : chOf ns (k + 1) = chOf ns k ++ [chN3 ns k] := by simp [chOf, List.range_succ]
def chsV (cs : List Chg) : List Value := cs.flatMap chV
theorem chsV_succ (ns : List Nat) (k : Nat) : chsV (chOf ns (k + 1)) = chsV (chOf ns k) ++ chV (chN3 ns k) := by
 unfold chsV; rw [chOf_succ, List.flatMap_append]; simp
theorem chsV_get : ∀ (cs : List Chg) (i : Nat), i < cs.length * 3 -> (chsV cs)[i]? = some (chAt cs i)
 | [], i, h => by simp at h
 | c :: cs, i, h => by
   show (chV c ++ chsV cs)[i]? = _
   by_cases hi : i < 3
   . rw [List.getElem?_append_left (by simpa [chV] using hi)]
     match i, hi with
     | 0, _ => rfl
     | 1, _ => rfl
     | 2, _ => rfl
   . rw [List.getElem?_append_right (by simpa [chV] using hi)]
     have hl : (chV c).length = 3 := rfl
     rw [hl, chsV_get cs (i - 3) (by simp at h; omega)]
     have e1 : (i - 3) % 3 = i % 3 := oM
     have e2 : i / 3 = (i - 3) / 3 + 1 := oM
     unfold chAt
     rw [e1, e2, List.getD_cons_succ]
abbrev G4 := Nat × Nat × Nat × List Chg
def sgOf (ns : List Nat) : G4 := (ns.getD 0 0, ns.getD 1 0, ns.getD 2 0, chOf ns (ns.length / 3 - 1))
def okLen (ns : List Nat) : Bool := decide (3 <= ns.length) && decide (ns.length % 3 = 0)
def g4B (q : G4) : Bool := segB q.1 q.2.1 q.2.2.1 q.2.2.2
def rdG (t : BA) : Option G4 := (rdN t).bind fun ns => if okLen ns && g4B (sgOf ns) then some (sgOf ns) else none
def zG : G4 := (0, 0, 0, [])
theorem rdG_none {t : BA} (h : rdN t = none) : rdG t = none := by unfold rdG; rw [h]; rfl
theorem rdG_len {t : BA} {ns : List Nat} (h : rdN t = some ns) (hl : okLen ns = false) : rdG t = none := by unfold rdG; rw [h]; simp [hl]
theorem rdG_no {t : BA} {ns : List Nat} (h : rdN t = some ns) (hl : g4B (sgOf ns) = false) : rdG t = none := by unfold rdG; rw [h]; simp [hl]
theorem rdG_yes {t : BA} {ns : List Nat} (h : rdN t = some ns) (hl : okLen ns = true) (hb : g4B (sgOf ns) = true) : rdG t = some (sgOf ns) := by unfold rdG; rw [h]; simp [hl, hb]
theorem owns_slC {w : World} {B : Nat} {cs : List Chg} {v : Value} (h : w.ownsRow B 192 3 v cs.length (chsV cs)) :
 ∃ A c, v = sC A cs.length c /\ Sl w B A 192 (cs.length * 3) (chAt cs) := by
 rcases h.2 with ⟨rfl, h0⟩ | ⟨g, cap, cur, rfl, hb, hg, hnc, _, hcs, htk⟩
 . exact ⟨none, 0, by rw [h0], fun hn => oM⟩
 . refine ⟨_, cap, rfl, Sl.own ⟨cur, hg, by have := Nat.mul_le_mul_right 3 hnc; omega, fun i hi => ?_⟩ hb⟩
   have h1 : (cur.toList.take (cs.length * 3))[i]? = some (chAt cs i) := by rw [htk]; exact chsV_get cs i hi
   rw [List.getElem?_take_of_lt hi] at h1
   simpa using h1
theorem owns_nx3 {w w' : World} {B : Nat} {e : TypeId} {v : Value} {n : Nat} {xs : List Value} (h : w.ownsRow B e 3 v n xs) (hb : Nx w w') : w'.ownsRow B e 3 v n xs := by
 refine h.kept (row := none) ⟨hb.os, hb.tape, hb.output, hb.size, fun i hi _ => hb.block i hi⟩ ?_
 cases hv : v.ownBlock with
 | none => exact .inl rfl
 | some g => exact .inr (by simp)
theorem owns_ne {w : World} {B g : Nat} {v : Value} {n : Nat} {xs : List Value} {cs : Array Value} (h : w.ownsRow B 192 3 v n xs) (hb : Box w g 122 cs) : some g ≠ v.ownBlock := by
 intro he
 rcases h.2 with ⟨rfl, _⟩ | ⟨g', cap, cur, rfl, _, hg, _⟩
 . simp [Value.ownBlock] at he
 . obtain rfl : g = g' := by simpa [Value.ownBlock] using he
   unfold Box at hb
   rw [hg] at hb
   injection hb with hb
   injection hb with _ hb
   exact absurd hb dC
theorem owns_far {w : World} {B g : Nat} {v u : Value} {n i : Nat} {xs : List Value} {cs : Array Value} (h : w.ownsRow B 192 3 v n xs) (hb : Box w g 122 cs) : (w.setCell ⟨g, i, none⟩ u).ownsRow B 192 3 v n xs :=
 h.kept (row := some g) ⟨rfl, rfl, rfl, by simp [World.setCell], fun k hk hn => Below.heap_setCell _ _ _ _ (fun e => hn (by rw [e]))⟩ (.inr (fun e => owns_ne h hb e.symm))
theorem info_chg : (Tryz.prog.info? 192).map (fun i => (i.zero, i.size, i.bytes)) = some (some (.agg #[ii 0, ii 0, ii 0]), 3, 24) := by kernel_rfl
theorem news3 (w : World) (t : TypeId) (x y z : Value) : ∀ j u, [x, y, z][j]? = some u -> (w.alloc (.cells #[x, y, z] t)).cell? ((Addr.mk w.heap.size 0 none).add j) = some u := fun j u hj => by
 have ho := Own.new3 w t x y z
 rcases j with _ | _ | _ | j
 . injection hj with hj; subst hj; exact (ho.cell (i := 0) oM)
 . injection hj with hj; subst hj; exact (ho.cell (i := 1) oM)
 . injection hj with hj; subst hj; exact (ho.cell (i := 2) oM)
 . simp at hj
theorem rdN_len {t : BA} {ns : List Nat} (ht : t.size <= 65536) (h : rdN t = some ns) : ns.length <= 65536 := by
 unfold rdN at h
 cases ho : opensB t with
 | false => rw [ho] at h; cases h
 | true =>
   rw [ho] at h
   unfold numsO at h
   by_cases hc : (bodyOf t).data.toList.length % 6 = 0 /\ digL (bodyOf t).data.toList = true
   . simp only [if_true, if_pos hc] at h
     injection h with h
     subst h
     rw [numsOf_len, <- ba_size]
     have := bodyOf_size t
     omega
   . simp only [if_true, if_neg hc] at h; cases h
theorem Row.at0 {w : World} {B m : Nat} {A : Option Addr} {f : Nat -> Value} (h : Row w B A m f) (hm : 0 < m) : ∃ b off, A = some ⟨b, off, none⟩ /\ b < B /\ ∀ i, i < m -> w.cell? ⟨b, off + i, none⟩ = some (f i) := h hm
def SegLoop (w1 : World) (gG : Nat) (n0 n1 n2 : Nat) (ns : List Nat) (i : Value) (wr : World) : Prop :=
 ∃ (k p : Nat) (v : Value), p <= ns.length /\ Hid (p = 3 + 3 * k) /\ i = ii p /\ Box wr gG 122 #[ii n0, ii n1, ii n2, v] /\ wr.ownsRow w1.heap.size 192 3 v k (chsV (chOf ns k)) /\ Nx w1 wr
theorem Sl.put4 {u : World} {lo g : Nat} {A : Option Addr} {t : TypeId} {m : Nat} {f : Nat -> Value} (h : Sl u lo A t m f) (hg : g < lo) (v0 v1 v2 v3 : Value) : Sl (put4 u g v0 v1 v2 v3) lo A t m f :=
 (((h.far (p := ⟨g, 0, none⟩) hg v0).far (p := ⟨g, 1, none⟩) hg v1).far (p := ⟨g, 2, none⟩) hg v2).far (p := ⟨g, 3, none⟩) hg v3
def RetST (w : World) (o : Option G4) (bad good : Value) (e : Ending) (w' : World) : Prop :=
 Nx w w' /\ (o = none -> e = .returned (.tuple #[.agg #[ii 0, ii 0, ii 0, nsl], bad])) /\
 ∀ q, o = some q -> ∃ A c, e = .returned (.tuple #[.agg #[ii q.1, ii q.2.1, ii q.2.2.1, sC A q.2.2.2.length c], good]) /\ Sl w' w.heap.size A 192 (q.2.2.2.length * 3) (chAt q.2.2.2)
theorem RetST.no {w w' : World} {o : Option G4} {bad good : Value} (h : o = none) (hn : Nx w w') : RetST w o bad good (.returned (.tuple #[.agg #[ii 0, ii 0, ii 0, nsl], bad])) w' :=
 ⟨hn, fun _ => rfl, fun q h2 => by rw [h] at h2; cases h2⟩
theorem RetST.yes {w w' : World} {o : Option G4} {bad good : Value} {ns : List Nat} {n0 n1 n2 k c : Nat} {A : Option Addr} (h : o = some (sgOf ns)) (hq : sgOf ns = (n0, n1, n2, chOf ns k)) (hs : Sl w' w.heap.size A 192 ((chOf ns k).length * 3) (chAt (chOf ns k))) (hn : Nx w w') :
 RetST w o bad good (.returned (.tuple #[.agg #[ii n0, ii n1, ii n2, sC A (chOf ns k).length c], good])) w' :=
 ⟨hn, (fun h2 => by rw [h] at h2; cases h2), fun q h2 => by rw [h, hq] at h2; injection h2 with h2; subst h2; exact ⟨A, c, rfl, hs⟩⟩
theorem okLen_yes {ns : List Nat} (h1 : 3 <= ns.length) (h2 : ns.length % 3 = 0) : okLen ns = true := by unfold okLen; simp [h1, h2]
theorem okLen_no {ns : List Nat} (h : ¬ (3 <= ns.length /\ ns.length % 3 = 0)) : okLen ns = false := by
 unfold okLen
 cases h1 : decide (3 <= ns.length) with
 | false => rfl
 | true =>
   have h1' : 3 <= ns.length := by simpa using h1
   rw [decide_eq_false (fun h2 => h ⟨h1', h2⟩)]; rfl
theorem segOfText_c (t : BA) (w : World) (a0 a1 : Addr) (ht : t.size <= 65536) (hE : Er w a0 a1) : Calls Tryz.prog 199 #[.string t] w (RetST w (rdG t) (.iface 290 (.pointer (some a0))) .nilIface) := by
 obtain ⟨i0, hi0, hz0, hz1, hz2⟩ := info_parts info_chg
 have e0 := hE.1
 have hg0 : 0 < w.heap.size := World.block_lt_of_cell? w _ e0
 have b0 := Box.new w 122 #[ii 0, ii 0, ii 0, nsl]
 have hx0 := (Nx.refl w).alloc (.cells #[ii 0, ii 0, ii 0, nsl] 122)
 go_enter func199, ntmps199
 go_wp2_with fail
 generalize w.alloc (.cells #[ii 0, ii 0, ii 0, nsl] 122) = W at *
 refine (sealedNumbers_c t _ a0 a1 ht (hE.nx hx0)).mono ?_
 rintro e w1 ⟨hnx1, h1, h2⟩
 have b1 := b0.nx hnx1
 have hxw := hx0.trans hnx1
 clear b0 hx0 hnx1
 cases hr : rdN t with
 | none =>
   obtain rfl := h1 hr
   have HF := qh (rdG_none hr)
   clear h1 h2 hr
   obtain ⟨c0, c1, c2, c3⟩ := b1.d4
   have f0 := b1.frozen 0
   have f1 := b1.frozen 1
   have f2 := b1.frozen 2
   have f3 := b1.frozen 3
   go_wp2
   have q := (put4_box b1 (ii 0) (ii 0) (ii 0) (nsl))
   have hnf := (put4_nx hxw (Nat.le_refl w.heap.size) (ii 0) (ii 0) (ii 0) (nsl))
   change bodyPost _ _ _ _ _ (put4 w1 w.heap.size (ii 0) (ii 0) (ii 0) (nsl))
   change Box (put4 w1 w.heap.size (ii 0) (ii 0) (ii 0) (nsl)) _ _ _ at q
   generalize put4 w1 w.heap.size (ii 0) (ii 0) (ii 0) (nsl) = Wf at *
   obtain ⟨g0, g1, g2, g3⟩ := q.d4
   exact bodyPost_ret (v := .tuple #[.agg #[ii 0, ii 0, ii 0, nsl], .iface 290 (.pointer (some a0))]) (by simp [results, results199, go_sem, g0, g1, g2, g3]) rfl (RetST.no HF.out hnf)
 | some ns =>
   obtain ⟨A, c, rfl, hrow, _⟩ := h2 ns hr
   have HN := qh hr
   clear h1 h2 hr
   have HNL := qh (rdN_len ht HN.out)
   by_cases hl : 3 <= ns.length /\ ns.length % 3 = 0
   case neg =>
    have HF := qh (rdG_len HN.out (okLen_no hl))
    by_cases hz : ns.length = 0
    . have he0 : ((ns.length : Int) == 0) = true := beq_iff_eq.2 oM
      clear hz hl
      obtain ⟨c0, c1, c2, c3⟩ := b1.d4
      have f0 := b1.frozen 0
      have f1 := b1.frozen 1
      have f2 := b1.frozen 2
      have f3 := b1.frozen 3
      have hlt := b1.lt
      go_wp2_with fail
      refine wp_lexA (kf2 (true :: ff :: [])) (fun w' => CC w' 0 0 (.iface 290 (.pointer (some a0)))) (by exact ((hxw.drew).cell (p := ⟨0, 0, none⟩) hg0).trans e0) ?_
      refine hLr ?_
      refine hLc fun K hK => ?_
      go_simp
      refine hK.out _ _ (by exact (put4_nx hxw.drew (Nat.le_refl w.heap.size) (ii 0) (ii 0) (ii 0) (nsl)).cell (p := ⟨0, 0, none⟩) hg0 |>.trans e0) ?_
      clear hK K
      refine nZ ?_
      refine hLr ?_
      refine HL.done ?_
      clear c0 c1 c2 c3 f0 f1 f2 f3
      go_wp2
      have q := (put4_box b1 (ii 0) (ii 0) (ii 0) (nsl))
      have hnf := (put4_nx hxw (Nat.le_refl w.heap.size) (ii 0) (ii 0) (ii 0) (nsl)).drew
      change bodyPost _ _ _ _ _ (World.drew (put4 w1 w.heap.size (ii 0) (ii 0) (ii 0) (nsl)))
      change Box (World.drew (put4 w1 w.heap.size (ii 0) (ii 0) (ii 0) (nsl))) _ _ _ at q
      generalize World.drew (put4 w1 w.heap.size (ii 0) (ii 0) (ii 0) (nsl)) = Wf at *
      obtain ⟨g0, g1, g2, g3⟩ := q.d4
      exact bodyPost_ret (v := .tuple #[.agg #[ii 0, ii 0, ii 0, nsl], .iface 290 (.pointer (some a0))]) (by simp [results, results199, go_sem, g0, g1, g2, g3]) rfl (RetST.no HF.out hnf)
    have he0 : ((ns.length : Int) == 0) = false := beq_eq_false_iff_ne.2 oM
    have he1 : ((ns.length : Int) % 3 != 0) = true := by rw [bne_iff_ne]; omega
    clear hz hl
    obtain ⟨c0, c1, c2, c3⟩ := b1.d4
    have f0 := b1.frozen 0
    have f1 := b1.frozen 1
    have f2 := b1.frozen 2
    have f3 := b1.frozen 3
    have hlt := b1.lt
    go_wp2_with fail
    refine wp_lexA (kf2 (true :: ff :: [])) (fun w' => CC w' 0 0 (.iface 290 (.pointer (some a0)))) (by exact ((hxw.drew).cell (p := ⟨0, 0, none⟩) hg0).trans e0) ?_
    refine hLr ?_
    refine hLc fun K hK => ?_
    go_simp
    refine hK.out _ _ (by exact (put4_nx hxw.drew (Nat.le_refl w.heap.size) (ii 0) (ii 0) (ii 0) (nsl)).cell (p := ⟨0, 0, none⟩) hg0 |>.trans e0) ?_
    clear hK K
    refine nZ ?_
    refine hLr ?_
    refine HL.done ?_
    clear c0 c1 c2 c3 f0 f1 f2 f3
    go_wp2
    have q := (put4_box b1 (ii 0) (ii 0) (ii 0) (nsl))
    have hnf := (put4_nx hxw (Nat.le_refl w.heap.size) (ii 0) (ii 0) (ii 0) (nsl)).drew
    change bodyPost _ _ _ _ _ (World.drew (put4 w1 w.heap.size (ii 0) (ii 0) (ii 0) (nsl)))
    change Box (World.drew (put4 w1 w.heap.size (ii 0) (ii 0) (ii 0) (nsl))) _ _ _ at q
    generalize World.drew (put4 w1 w.heap.size (ii 0) (ii 0) (ii 0) (nsl)) = Wf at *
    obtain ⟨g0, g1, g2, g3⟩ := q.d4
    exact bodyPost_ret (v := .tuple #[.agg #[ii 0, ii 0, ii 0, nsl], .iface 290 (.pointer (some a0))]) (by simp [results, results199, go_sem, g0, g1, g2, g3]) rfl (RetST.no HF.out hnf)
   case pos =>
    obtain ⟨hl3, hlm⟩ := hl
    have he0 : ((ns.length : Int) == 0) = false := beq_eq_false_iff_ne.2 oM
    have he1 : ((ns.length : Int) % 3 != 0) = false := by rw [bne_eq_false_iff_eq]; omega
    obtain ⟨N, hN⟩ : ∃ N, ns.length = 3 + 3 * N := ⟨ns.length / 3 - 1, oM⟩
    have HNN := qh hN
    have HOL := qh (okLen_yes hl3 hlm)
    clear hN hlm
    obtain ⟨b, off, rfl, hb, hcl⟩ := hrow.at0 oM
    obtain ⟨n0, Hn0⟩ := nM (ns.getD 0 0)
    obtain ⟨n1, Hn1⟩ := nM (ns.getD 1 0)
    obtain ⟨n2, Hn2⟩ := nM (ns.getD 2 0)
    have k0 : w1.cell? ⟨b, off, none⟩ = some (ii n0) := by have := hcl 0 oM; unfold intAt at this; rw [Hn0.out] at this; exact this
    have k1 : w1.cell? ⟨b, off + 1, none⟩ = some (ii n1) := by have := hcl 1 oM; unfold intAt at this; rw [Hn1.out] at this; exact this
    have k2 : w1.cell? ⟨b, off + 2, none⟩ = some (ii n2) := by have := hcl 2 oM; unfold intAt at this; rw [Hn2.out] at this; exact this
    have HCL := qh hcl
    have hl0 : (0 : Int) < (ns.length : Int) := oM
    have hl1 : (1 : Int) < (ns.length : Int) := oM
    have hl2 : (2 : Int) < (ns.length : Int) := oM
    have hm0 : 0 < ns.length := oM
    have hm1 : 1 < ns.length := oM
    have hm2 : 2 < ns.length := oM
    clear hcl hrow
    go_wp2_with fail
    refine wp_lexA (kf9 (ff :: true :: true :: [])) (fun w' => CC w' b off (ii n0) /\ CC w' b (off + 1) (ii n1) /\ CC w' b (off + 2) (ii n2)) (by exact ⟨k0, k1, k2⟩) ?_
    refine hLr ?_
    refine hLc fun K hK => ?_
    go_simp
    refine hK.out _ _ (by exact ⟨(((Nx.refl w1).alloc _).cell (p := ⟨b, off, none⟩) hb).trans k0, (((Nx.refl w1).alloc _).cell (p := ⟨b, off + 1, none⟩) hb).trans k1, (((Nx.refl w1).alloc _).cell (p := ⟨b, off + 2, none⟩) hb).trans k2⟩) ?_
    clear hK K
    refine nZ ?_
    refine hLc fun K hK => ?_
    go_simp
    refine hK.out _ _ (by exact ⟨(((Nx.refl w1).alloc _).cell (p := ⟨b, off, none⟩) hb).trans k0, (((Nx.refl w1).alloc _).cell (p := ⟨b, off + 1, none⟩) hb).trans k1, (((Nx.refl w1).alloc _).cell (p := ⟨b, off + 2, none⟩) hb).trans k2⟩) ?_
    clear hK K
    refine nZ ?_
    refine HL.done ?_
    clear k0 k1 k2 hl0 hl1 hl2 hm0 hm1 hm2
    have bg0 := Box.new w1 122 #[ii n0, ii n1, ii n2, nsl]
    have hx3 := ((Nx.refl w1).alloc (.cells #[ii n0, ii n1, ii n2, nsl] 122)).drew
    change Exit.then _ _ _ _ (World.drew (w1.alloc (.cells #[ii n0, ii n1, ii n2, nsl] 122)))
    change Box (World.drew (w1.alloc (.cells #[ii n0, ii n1, ii n2, nsl] 122))) _ _ _ at bg0
    generalize World.drew (w1.alloc (.cells #[ii n0, ii n1, ii n2, nsl] 122)) = w3 at *
    go_wp2
    go_loopw [7] (fun i wr => SegLoop w1 w1.heap.size n0 n1 n2 ns i wr) (fun i _ => ns.length - (intOf i).toNat)
    case atStart => exact ⟨0, 3, nsl, hl3, qh rfl, rfl, bg0, ⟨rfl, .inl ⟨rfl, rfl⟩⟩, hx3⟩
    case round =>
     obtain ⟨k, p, v, hp, HPp, rfl, bg, hw, hnx⟩ := hrel
     clear bg0 hx3
     by_cases hlt : p < ns.length
     . have hp3 : p + 3 <= ns.length := by have := HPp.out; have := HNN.out; omega
       have hn9 : ns.length <= 65536 := HNL.out
       obtain ⟨q0, Hq0⟩ := nM (ns.getD p 0)
       obtain ⟨q1, Hq1⟩ := nM (ns.getD (p + 1) 0)
       obtain ⟨q2, Hq2⟩ := nM (ns.getD (p + 2) 0)
       have m0 : w1.cell? ⟨b, off + p, none⟩ = some (ii q0) := by have := HCL.out p oM; unfold intAt at this; rw [Hq0.out] at this; exact this
       have m1 : w1.cell? ⟨b, off + (p + 1), none⟩ = some (ii q1) := by have := HCL.out (p + 1) oM; unfold intAt at this; rw [Hq1.out] at this; exact this
       have m2 : w1.cell? ⟨b, off + (p + 2), none⟩ = some (ii q2) := by have := HCL.out (p + 2) oM; unfold intAt at this; rw [Hq2.out] at this; exact this
       have HQ := qh (show chV (chN3 ns k) = [ii q0, ii q1, ii q2] by
        unfold chV chN3; rw [<- HPp.out, Hq0.out, Hq1.out, Hq2.out])
       have HO : Hid (∀ u ∈ [Value.int .i64 (q0 : Int), ii q1, ii q2], u.oneCell' = true) := qh (fun u hu => by simp only [List.mem_cons, List.not_mem_nil, or_false] at hu; rcases hu with rfl | rfl | rfl <;> rfl)
       have hbw := hb
       have hgG : w1.heap.size <= w1.heap.size := Nat.le_refl _
       have hk9 : k <= 100000 := by have := HPp.out; have := HNL.out; omega
       obtain ⟨_, _, _, c3⟩ := bg.d4
       have hw1a : (p : Int) + 1 < (ns.length : Int) := oM
       have hw1b : (p : Int) + 2 < (ns.length : Int) := oM
       have hw1c : (p : Int) < (ns.length : Int) := oM
       have hw2a : ((p : Int) + 1).toNat = p + 1 := oM
       have hw2b : ((p : Int) + 2).toNat = p + 2 := oM
       have hw3a : (0 : Int) <= (p : Int) + 1 := oM
       have hw3b : (0 : Int) <= (p : Int) + 2 := oM
       have hw4a : IntKind.i64.wrap ((p : Int) + 1) = (p : Int) + 1 := IntWalk.i64_in _ (by have := HNL.out; omega)
       have hw4b : IntKind.i64.wrap ((p : Int) + 2) = (p : Int) + 2 := IntWalk.i64_in _ (by have := HNL.out; omega)
       go_wp2_with fail
       refine wp_planA (.t 0 (.t 2 (.t 3 (.t 4 (.t 5 (.t 6 (.t 7 (.t 8 (.t 9 (.t 10 (.t 11 (.t 12 (.t 13 (.t 14 (.t 15 (.t 16 (.b 1 (.c 17 (.c 18 (.t 19 (.c 20 .e)))) 17 (.c 1 (.c 18 (.t 19 (.c 20 .e))))))))))))))))))))) (fun w' => CC w' b (off + p) (ii q0) /\ CC w' b (off + (p + 1)) (ii q1) /\ CC w' b (off + (p + 2)) (ii q2)) (by exact ⟨(hnx.drew.cell (p := ⟨b, off + p, none⟩) hbw).trans m0, (hnx.drew.cell (p := ⟨b, off + (p + 1), none⟩) hbw).trans m1, (hnx.drew.cell (p := ⟨b, off + (p + 2), none⟩) hbw).trans m2⟩) ?_
       simp only [psOf, List.getD_cons_zero, List.getD_cons_succ]
       refine hPr ?_
       refine HP.both ?_ ?_
       . have hx1 := hnx.drew.alloc (.cells #[ii q0, ii q1, ii q2] 192)
         have hw1 := (owns_nx3 hw (Nx.refl wr).drew).alloc (.cells #[ii q0, ii q1, ii q2] 192)
         have bz := (bg.nx (Nx.refl wr).drew).alloc (.cells #[ii q0, ii q1, ii q2] 192)
         have HNW := qh (news3 wr.drew 192 (ii q0) (ii q1) (ii q2))
         have hlt := bg.lt
         refine cSt fun K hK => ?_
         go_simp
         refine hK.out _ _ (by exact ⟨(hnx.drew.cell (p := ⟨b, off + p, none⟩) hbw).trans m0, (hnx.drew.cell (p := ⟨b, off + (p + 1), none⟩) hbw).trans m1, (hnx.drew.cell (p := ⟨b, off + (p + 2), none⟩) hbw).trans m2⟩) ?_
         clear hK K
         refine nZ ?_
         refine hPc fun K hK => ?_
         go_simp
         refine hK.out _ _ (by exact ⟨(hx1.cell (p := ⟨b, off + p, none⟩) hbw).trans m0, (hx1.cell (p := ⟨b, off + (p + 1), none⟩) hbw).trans m1, (hx1.cell (p := ⟨b, off + (p + 2), none⟩) hbw).trans m2⟩) ?_
         clear hK K
         refine nZ ?_
         change HP _ _ _ _ _ _ (wr.drew.alloc (.cells #[ii q0, ii q1, ii q2] 192))
         generalize wr.drew.alloc (.cells #[ii q0, ii q1, ii q2] 192) = wz at *
         refine hPc fun K hK => ?_
         refine wp_append_own wz _ _ 120 rfl w1.heap.size 192 i0 _ 3 24 underlying120 hi0 hz0 hz1 hz2 rfl oM v k _ rfl hw1 ⟨wr.heap.size, 0, none⟩ 1 1 [ii q0, ii q1, ii q2] rfl rfl HNW.out HO.out (by unfold maxLen; omega) oM hx1.size ?_
         intro v2 w2 hw2 hg2 _
         obtain ⟨g2, cp2, rfl, _, _⟩ := hw2.form oM
         have hx2 : Nx w1 w2 := Below.grown hx1 hg2 hx1.size (fun k hk => (hw1.lt k hk).1)
         have bg2 : Box w2 w1.heap.size 122 #[ii n0, ii n1, ii n2, v] := bz.grown hg2 (owns_ne hw1 bz)
         refine hK.out _ _ (by exact ⟨(hx2.cell (p := ⟨b, off + p, none⟩) hbw).trans m0, (hx2.cell (p := ⟨b, off + (p + 1), none⟩) hbw).trans m1, (hx2.cell (p := ⟨b, off + (p + 2), none⟩) hbw).trans m2⟩) ?_
         clear hK K
         refine nZ ?_
         refine hPr ?_
         obtain ⟨_, _, _, d3⟩ := bg2.d4
         have f3 := bg2.frozen 3
         refine hPc fun K hK => ?_
         go_simp
         have hx3 := hx2.setCell (p := ⟨w1.heap.size, 3, none⟩) hgG (sC (some ⟨g2, 0, none⟩) (k + 1) cp2)
         refine hK.out _ _ (by exact ⟨(hx3.cell (p := ⟨b, off + p, none⟩) hbw).trans m0, (hx3.cell (p := ⟨b, off + (p + 1), none⟩) hbw).trans m1, (hx3.cell (p := ⟨b, off + (p + 2), none⟩) hbw).trans m2⟩) ?_
         clear hK K
         refine nZ ?_
         refine HP.done ?_
         clear hw1a hw1b hw1c hw2a hw2b hw3a hw3b hw4a hw4b
         have bg3 := bg2.set 3 (sC (some ⟨g2, 0, none⟩) (k + 1) cp2)
         have hw3 := owns_far (u := (sC (some ⟨g2, 0, none⟩) (k + 1) cp2)) (i := 3) hw2 bg2
         clear d3 f3 c3
         go_wp2
         go_roundw
         case rel =>
          refine ⟨k + 1, p + 3, _, oM, qh (by have := HPp.out; omega), by go_num, bg3, ?_, hx3⟩
          rw [chsV_succ, HQ.out]; exact hw3
         case measure => simp [intOf]; omega
       . have hx1 := hnx.drew.alloc (.cells #[ii q0, ii q1, ii q2] 192)
         have hw1 := (owns_nx3 hw (Nx.refl wr).drew).alloc (.cells #[ii q0, ii q1, ii q2] 192)
         have bz := (bg.nx (Nx.refl wr).drew).alloc (.cells #[ii q0, ii q1, ii q2] 192)
         have HNW := qh (news3 wr.drew 192 (ii q0) (ii q1) (ii q2))
         have hlt := bg.lt
         refine cSt fun K hK => ?_
         go_simp
         refine hK.out _ _ (by exact ⟨(hx1.cell (p := ⟨b, off + p, none⟩) hbw).trans m0, (hx1.cell (p := ⟨b, off + (p + 1), none⟩) hbw).trans m1, (hx1.cell (p := ⟨b, off + (p + 2), none⟩) hbw).trans m2⟩) ?_
         clear hK K
         refine nZ ?_
         refine hPc fun K hK => ?_
         go_simp
         refine hK.out _ _ (by exact ⟨(hx1.cell (p := ⟨b, off + p, none⟩) hbw).trans m0, (hx1.cell (p := ⟨b, off + (p + 1), none⟩) hbw).trans m1, (hx1.cell (p := ⟨b, off + (p + 2), none⟩) hbw).trans m2⟩) ?_
         clear hK K
         refine nZ ?_
         change HP _ _ _ _ _ _ (wr.drew.alloc (.cells #[ii q0, ii q1, ii q2] 192))
         generalize wr.drew.alloc (.cells #[ii q0, ii q1, ii q2] 192) = wz at *
         refine hPc fun K hK => ?_
         refine wp_append_own wz _ _ 120 rfl w1.heap.size 192 i0 _ 3 24 underlying120 hi0 hz0 hz1 hz2 rfl oM v k _ rfl hw1 ⟨wr.heap.size, 0, none⟩ 1 1 [ii q0, ii q1, ii q2] rfl rfl HNW.out HO.out (by unfold maxLen; omega) oM hx1.size ?_
         intro v2 w2 hw2 hg2 _
         obtain ⟨g2, cp2, rfl, _, _⟩ := hw2.form oM
         have hx2 : Nx w1 w2 := Below.grown hx1 hg2 hx1.size (fun k hk => (hw1.lt k hk).1)
         have bg2 : Box w2 w1.heap.size 122 #[ii n0, ii n1, ii n2, v] := bz.grown hg2 (owns_ne hw1 bz)
         refine hK.out _ _ (by exact ⟨(hx2.cell (p := ⟨b, off + p, none⟩) hbw).trans m0, (hx2.cell (p := ⟨b, off + (p + 1), none⟩) hbw).trans m1, (hx2.cell (p := ⟨b, off + (p + 2), none⟩) hbw).trans m2⟩) ?_
         clear hK K
         refine nZ ?_
         refine hPr ?_
         obtain ⟨_, _, _, d3⟩ := bg2.d4
         have f3 := bg2.frozen 3
         refine hPc fun K hK => ?_
         go_simp
         have hx3 := hx2.setCell (p := ⟨w1.heap.size, 3, none⟩) hgG (sC (some ⟨g2, 0, none⟩) (k + 1) cp2)
         refine hK.out _ _ (by exact ⟨(hx3.cell (p := ⟨b, off + p, none⟩) hbw).trans m0, (hx3.cell (p := ⟨b, off + (p + 1), none⟩) hbw).trans m1, (hx3.cell (p := ⟨b, off + (p + 2), none⟩) hbw).trans m2⟩) ?_
         clear hK K
         refine nZ ?_
         refine HP.done ?_
         clear hw1a hw1b hw1c hw2a hw2b hw3a hw3b hw4a hw4b
         have bg3 := bg2.set 3 (sC (some ⟨g2, 0, none⟩) (k + 1) cp2)
         have hw3 := owns_far (u := (sC (some ⟨g2, 0, none⟩) (k + 1) cp2)) (i := 3) hw2 bg2
         clear d3 f3 c3
         go_wp2
         go_roundw
         case rel =>
          refine ⟨k + 1, p + 3, _, oM, qh (by have := HPp.out; omega), by go_num, bg3, ?_, hx3⟩
          rw [chsV_succ, HQ.out]; exact hw3
         case measure => simp [intOf]; omega
     . obtain rfl : p = ns.length := oM
       have hkN : k = ns.length / 3 - 1 := by have := HPp.out; omega
       have hlen := chOf_len ns k
       have hw' : wr.ownsRow w1.heap.size 192 3 v (chOf ns k).length (chsV (chOf ns k)) := by rw [hlen]; exact hw
       obtain ⟨A2, cp9, rfl, hSl⟩ := owns_slC hw'
       have HQ4 := qh (show sgOf ns = (n0, n1, n2, chOf ns k) by unfold sgOf; rw [Hn0.out, Hn1.out, Hn2.out, <- hkN])
       have hcl9 : (chOf ns k).length <= 1048576 := by rw [hlen]; have := HNL.out; omega
       have bw := b1.nx hnx
       have hxr := hxw.trans hnx
       have hgl : w.heap.size < w1.heap.size := b1.lt
       clear hw hw' hlen hkN
       obtain ⟨x0, x1, x2, x3⟩ := bg.d4
       go_wp2_with fail
       refine (segRight_c n0 n1 n2 A2 cp9 _ (chOf ns k) _ hSl.row nle hcl9).mono ?_
       rintro e w5 ⟨rfl, hnx5⟩
       have b5 := bw.nx hnx5
       have bg5 := bg.nx hnx5
       have hx5 := hxr.trans hnx5
       have hS5 := hSl.nx hnx5
       clear x0 x1 x2 x3
       obtain ⟨x0, x1, x2, x3⟩ := bg5.d4
       cases hf : segB n0 n1 n2 (chOf ns k) with
       | false =>
         have HF := qh (rdG_no HN.out (by unfold g4B; rw [HQ4.out]; exact hf))
         clear hf
         obtain ⟨c0, c1, c2, c3⟩ := b5.d4
         have f0 := b5.frozen 0
         have f1 := b5.frozen 1
         have f2 := b5.frozen 2
         have f3 := b5.frozen 3
         have hlt := b5.lt
         go_wp2_with fail
         refine wp_lexA (kf2 (true :: ff :: [])) (fun w' => CC w' 0 0 (.iface 290 (.pointer (some a0)))) (by exact ((hx5.drew).cell (p := ⟨0, 0, none⟩) hg0).trans e0) ?_
         refine hLr ?_
         refine hLc fun K hK => ?_
         go_simp
         refine hK.out _ _ (by exact (put4_nx hx5.drew (Nat.le_refl w.heap.size) (ii 0) (ii 0) (ii 0) (nsl)).cell (p := ⟨0, 0, none⟩) hg0 |>.trans e0) ?_
         clear hK K
         refine nZ ?_
         refine hLr ?_
         refine HL.done ?_
         clear c0 c1 c2 c3 f0 f1 f2 f3
         go_wp2
         have q := (put4_box b5 (ii 0) (ii 0) (ii 0) (nsl))
         have hnf := (put4_nx hx5 (Nat.le_refl w.heap.size) (ii 0) (ii 0) (ii 0) (nsl)).drew
         change bodyPost _ _ _ _ _ (World.drew (put4 w5 w.heap.size (ii 0) (ii 0) (ii 0) (nsl)))
         change Box (World.drew (put4 w5 w.heap.size (ii 0) (ii 0) (ii 0) (nsl))) _ _ _ at q
         generalize World.drew (put4 w5 w.heap.size (ii 0) (ii 0) (ii 0) (nsl)) = Wf at *
         obtain ⟨g0, g1, g2, g3⟩ := q.d4
         exact bodyPost_ret (v := .tuple #[.agg #[ii 0, ii 0, ii 0, nsl], .iface 290 (.pointer (some a0))]) (by simp [results, results199, go_sem, g0, g1, g2, g3]) rfl (RetST.no HF.out hnf)
       | true =>
         have HF := qh (rdG_yes HN.out HOL.out (by unfold g4B; rw [HQ4.out]; exact hf))
         clear hf
         obtain ⟨c0, c1, c2, c3⟩ := b5.d4
         have f0 := b5.frozen 0
         have f1 := b5.frozen 1
         have f2 := b5.frozen 2
         have f3 := b5.frozen 3
         go_wp2
         have q := (put4_box b5 (ii n0) (ii n1) (ii n2) (sC A2 (chOf ns k).length cp9))
         have hnf := (put4_nx hx5 (Nat.le_refl w.heap.size) (ii n0) (ii n1) (ii n2) (sC A2 (chOf ns k).length cp9))
         have hsf := (hS5.put4 hgl (ii n0) (ii n1) (ii n2) (sC A2 (chOf ns k).length cp9))
         change Sl (put4 w5 w.heap.size (ii n0) (ii n1) (ii n2) (sC A2 (chOf ns k).length cp9)) _ _ _ _ _ at hsf
         change bodyPost _ _ _ _ _ (put4 w5 w.heap.size (ii n0) (ii n1) (ii n2) (sC A2 (chOf ns k).length cp9))
         change Box (put4 w5 w.heap.size (ii n0) (ii n1) (ii n2) (sC A2 (chOf ns k).length cp9)) _ _ _ at q
         generalize put4 w5 w.heap.size (ii n0) (ii n1) (ii n2) (sC A2 (chOf ns k).length cp9) = Wf at *
         obtain ⟨g0, g1, g2, g3⟩ := q.d4
         exact bodyPost_ret (v := .tuple #[.agg #[ii n0, ii n1, ii n2, sC A2 (chOf ns k).length cp9], .nilIface]) (by simp [results, results199, go_sem, g0, g1, g2, g3]) rfl (RetST.yes HF.out HQ4.out (hsf.low oM) hnf)
end
end Go.Proofs.YtieoiailjjnnoaaGreatDoor
