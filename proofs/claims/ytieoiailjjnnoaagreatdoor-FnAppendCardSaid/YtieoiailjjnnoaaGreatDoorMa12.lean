/-
  Texts of the proof, in their order.
  Conditions: those of each.
-/
import Derived.Test.YtieoiailjjnnoaaGreatDoorMa11
namespace Go.Proofs.YtieoiailjjnnoaaGreatDoor
set_option linter.unusedVariables false
open _root_.Go.Proofs.Tryz
set_option maxRecDepth 100000
set_option maxHeartbeats 16000000
section
open Go.RowKit
theorem Sr.rowfar {w : World} {lo hi m g : Nat} {A : Option Addr} {t : TypeId} {f : Nat -> Value} (h : Sr w lo hi A t m f) (hg : g < lo) (ds : Array Value) : Sr (w.setRow g ds) lo hi A t m f := fun hm => by
 obtain ⟨k, e, hl, hh, ho⟩ := h hm; exact ⟨k, e, hl, hh, ho.rowfar oM ds⟩
theorem VlP.rowfar {w : World} {lo mid hi g : Nat} {V : Vl} (h : VlP w lo mid hi V) (hg : g < lo) (ds : Array Value) : VlP (w.setRow g ds) lo mid hi V :=
 have h' : g < mid := Nat.lt_of_lt_of_le hg h.le
 ⟨h.tab.rowfar hg ds, h.mks.rowfar hg ds, h.row.rowfar h' ds, fun k hk => (h.chs k hk).rowfar h' ds, h.img.rowfar h' ds, h.dj, h.cap, h.cap3, h.le, h.le2⟩
theorem newU_super {ss : List BA} {ws : List (Int × BA)} {g b p q s : Int} {xs : List Int} {ms : List Mrk} (h : newU (rdU (readP ss ws 0)) (rdU (readP ss ws 1)) = some ((g, b, p, q, xs, ms), s)) : superB g b p q xs ms = true := by
 rcases newU_from h with e | e
 . exact rdU_super e
 . exact rdU_super e
theorem ld_small {ss : List BA} {ws : List (Int × BA)} {g b p q : Int} {xs : List Int} {ms : List Mrk} {gs : List SgR} {im : List Int} (hD : diskB ss ws = true) (hs : superB g b p q xs ms = true) (hg : GsTo ss ws xs xs.length gs) (hi : ImTo ss ws 8 im) (Ax : Option Addr) (cx : Nat) (Am : Option Addr) (cm : Nat) (Ag : Option Addr) (cg : Nat) (Ai : Option Addr) (ci : Nat) :
 VlN ⟨g, b, p, q, Ax, cx, xs, Am, cm, ms, Ag, cg, gs, Ai, ci, im⟩ 1048576 /\ AllM ms := by
 obtain ⟨_, _, _, _, h5, h6⟩ := superB_yes hs
 have h1 := (tbB_yes h5).1
 have h2 := (msB_yes h6).1
 have h3 := hg.len
 have h4 := hi.len
 refine ⟨⟨show xs.length <= _ by omega, show ms.length <= _ by omega, show gs.length <= _ by omega, fun k hk => ?_, show im.length <= _ by omega⟩, msB_all h6⟩
 have hk' : k < gs.length := hk
 have hv := v_at (gs := gs) (hs := xs.map (ldS ss ws)) (by rw [hg.v, List.take_length, List.map_map]; rfl) k
 have hkx : k < xs.length := oM
 have e : (xs.map (ldS ss ws)).getD k sgZ = ldS ss ws xs[k] := by
  rw [gdE, List.getElem?_map, List.getElem?_eq_getElem hkx]; rfl
 rw [e] at hv
 have hv2 : (gs.getD k sgZ).cs = (ldS ss ws xs[k]).cs := congrArg (fun q : Sg4 => q.2.2.2) hv
 show (gs.getD k sgZ).cs.length <= 1048576
 rw [hv2]
 unfold ldS
 cases hq : ldG ss ws xs[k] with
 | none => exact Nat.zero_le _
 | some q =>
   have h7 := rdG_short hq
   have h8 := readP_size hD xs[k].toNat
   show q.2.2.2.length <= 1048576
   omega
theorem diskVault_c (A A2 : Option Addr) (n c n2 c2 B : Nat) (ss : List BA) (ws : List (Int × BA)) (w : World) (a0 a1 : Addr) (h : Strs w B A n ss) (h2 : Wrs w B A2 n2 ws) (hB : B <= w.heap.size) (hn : n <= 1048576) (hn2 : n2 <= 1048576) (hD : diskB ss ws = true) (hE : Er w a0 a1) (hM : Mx w) (hEt : Et w) :
 Calls Tryz.prog 65 #[.agg #[sC A n c, sC A2 n2 c2]] w (RetLd w (ldV ss ws)) := by
 have r0 : Box ((w.alloc (.cells #[sC A n c, sC A2 n2 c2] 35)).alloc (.cells #[ii 0, ii 0, ii 0, ii 0, nsl, nsl, nsl, nsl] 49)) (w.heap.size + 1) 49 #[ii 0, ii 0, ii 0, ii 0, nsl, nsl, nsl, nsl] := by have := Box.new (w.alloc (.cells #[sC A n c, sC A2 n2 c2] 35)) 49 #[ii 0, ii 0, ii 0, ii 0, nsl, nsl, nsl, nsl]; rwa [World.size_alloc] at this
 have e0 : Box ((w.alloc (.cells #[sC A n c, sC A2 n2 c2] 35)).alloc (.cells #[ii 0, ii 0, ii 0, ii 0, nsl, nsl, nsl, nsl] 49)) w.heap.size 35 #[sC A n c, sC A2 n2 c2] := (Box.new w _ _).alloc _
 have hx0 := ((Nx.refl w).alloc (.cells #[sC A n c, sC A2 n2 c2] 35)).alloc (.cells #[ii 0, ii 0, ii 0, ii 0, nsl, nsl, nsl, nsl] 49)
 go_enter func65, ntmps65
 go_wp2_with fail
 generalize (w.alloc (.cells #[sC A n c, sC A2 n2 c2] 35)).alloc (.cells #[ii 0, ii 0, ii 0, ii 0, nsl, nsl, nsl, nsl] 49) = W at *
 obtain ⟨gR, Hg⟩ := nM (w.heap.size + 1)
 have hgR : w.heap.size <= gR := by have := Hg.out; omega
 have hgR1 : w.heap.size < gR := by have := Hg.out; omega
 rw [Hg.out] at r0 ⊢
 have hltR0 := r0.lt
 have h1n : 1 < n := by have := (diskB_len64 hD).1; have := h.1; omega
 have HD := qh hD
 clear hD
 have z0 := e0.c0
 have z1 := e0.c1
 go_wp2_with fail
 refine (newestSuper_c A A2 n c n2 c2 B ss ws _ a0 a1 (h.below hx0 hB) (h2.below hx0 hB) (ntr hB hx0.size) h1n hn hn2 (by have := readP_size HD.out 0; omega) (by have := readP_size HD.out 1; omega) (hE.nx hx0) (hM.nx hx0) (hEt.nx hx0)).mono ?_
 rintro e w2 ⟨hnx2, h1, h2'⟩
 have r2 := r0.nx hnx2
 have e2 := e0.nx hnx2
 have hx2 := hx0.trans hnx2
 have hltR : gR < W.heap.size := hltR0
 have hlt2 := r2.lt
 clear r0 e0 z0 z1 hltR0
 cases hu : newU (rdU (readP ss ws 0)) (rdU (readP ss ws 1)) with
 | none =>
   have HA := qh (ldV_none hu)
   have he := h1 hu
   unfold slE at he
   subst he
   clear h1 h2' hu
   go_wp2_with fail
   have r3 := r2.alloc (.cells #[ii 0, ii 0, ii 0, ii 0, nsl, nsl] 26)
   have hx3 := hx2.alloc (.cells #[ii 0, ii 0, ii 0, ii 0, nsl, nsl] 26)
   change Calls _ _ _ (w2.alloc (.cells #[ii 0, ii 0, ii 0, ii 0, nsl, nsl] 26)) _
   generalize w2.alloc (.cells #[ii 0, ii 0, ii 0, ii 0, nsl, nsl] 26) = w3 at *
   refine (slotCode_c 1 19 _ (hEt.nx hx3)).mono ?_
   rintro e w4 ⟨rfl, hnx4⟩
   have r4 := r3.nx hnx4
   have hx4 := hx3.trans hnx4
   have rq := r4.row #[ii 0, ii 0, ii 0, ii 0, nsl, nsl, nsl, nsl]
   have hnf := hx4.setRow hgR #[ii 0, ii 0, ii 0, ii 0, nsl, nsl, nsl, nsl]
   go_wp2_with (refine wpList_store_row rfl _ _ _ rfl gR #[ii 0, ii 0, ii 0, ii 0, nsl, nsl, nsl, nsl] rfl rfl 49 #[ii 0, ii 0, ii 0, ii 0, nsl, nsl, nsl, nsl] r4 (by kernel_rfl) rfl (by simp [Value.oneCell']) ?_)
   generalize w4.setRow gR #[ii 0, ii 0, ii 0, ii 0, nsl, nsl, nsl, nsl] = Wf at *
   obtain ⟨g0, g1, g2, g3, g4, g5, g6, g7⟩ := rq.e8
   exact bodyPost_ret (v := .tuple #[.agg #[ii 0, ii 0, ii 0, ii 0, nsl, nsl, nsl, nsl], ii 19]) (by simp [results, results65, go_sem, g0, g1, g2, g3, g4, g5, g6, g7]) rfl ⟨zVl, w.heap.size, by rw [HA.out]; rfl, by rw [HA.out]; exact VlS.refl _, VlP.zero _ hnf.size, hnf⟩
 | some us =>
   obtain ⟨⟨g, b, p, q, xs, ms⟩, sl⟩ := us
   obtain ⟨Ax, cx, Am, cm, he, hcc, hS1, hM1⟩ := h2' _ _ hu
   replace he : e = .returned (.tuple #[.agg #[ii g, ii b, ii p, ii q, sC Ax xs.length cx, sC Am ms.length cm], ii sl, .nilIface]) := he
   replace hS1 : SlI w2 W.heap.size Ax xs := hS1
   replace hM1 : SlM w2 W.heap.size Am ms := hM1
   replace hcc : xs.length <= cx := hcc
   have HCC := qh hcc
   have HU := qh hu
   have hsup := newU_super hu
   have HSup := qh hsup
   have htb := (superB_yes hsup).2.2.2.2.1
   subst he
   clear h1 h2' hu hcc hsup
   have hz3 := (Nx.refl w2).alloc (.cells #[ii g, ii b, ii p, ii q, sC Ax xs.length cx, sC Am ms.length cm] 26)
   have s3 := Box.new w2 26 #[ii g, ii b, ii p, ii q, sC Ax xs.length cx, sC Am ms.length cm]
   have r3 := r2.nx hz3
   have e3 := e2.nx hz3
   have hx3 := hx2.trans hz3
   have hS3 := (hS1.sr.nx hz3).up hz3.size
   have hM3 := (hM1.sr.nx hz3).up hz3.size
   have hT3 := hS1.row.below hz3 nle
   have hzz : w2.heap.size < (w2.alloc (.cells #[ii g, ii b, ii p, ii q, sC Ax xs.length cx, sC Am ms.length cm] 26)).heap.size := by simp
   have hlW : W.heap.size <= (w2.alloc (.cells #[ii g, ii b, ii p, ii q, sC Ax xs.length cx, sC Am ms.length cm] 26)).heap.size := ntr hnx2.size hz3.size
   obtain ⟨y0, y1, y2, y3, y4, y5⟩ := s3.d6
   have z0 := e3.c0
   have z1 := e3.c1
   clear r2 e2 hx2 hS1 hM1
   go_wp2_with fail
   generalize w2.alloc (.cells #[ii g, ii b, ii p, ii q, sC Ax xs.length cx, sC Am ms.length cm] 26) = w3 at *
   obtain ⟨gS, HgS⟩ := nM (w2.heap.size)
   rw [HgS.out] at s3 hzz hT3 y0 y1 y2 y3 y4 y5 ⊢
   refine (segsIn_c A A2 Ax n c n2 c2 cx gS ss ws xs _ a0 a1 (h.below hx3 hB |>.more (Nat.le_of_lt (Nat.lt_of_le_of_lt hB (by have := hnx2.size; have := hx0.size; have := HgS.out; omega)))) (h2.below hx3 hB |>.more (by have := hnx2.size; have := hx0.size; have := HgS.out; omega)) hT3 (Nat.le_of_lt hzz) hn hn2 HD.out htb (hE.nx hx3)).mono ?_
   rintro e w4 ⟨hk4, hret⟩
   have r4 := r3.nx hk4
   have e4 := e3.nx hk4
   have s4 := s3.nx hk4
   have hx4 := hx3.trans hk4
   have hS4 := hS3.nx hk4
   have hM4 := hM3.nx hk4
   clear r3 e3 s3 hS3 hM3 z0 z1 y0 y1 y2 y3 y4 y5
   rcases hret with ⟨⟨k, hk, hno⟩, rfl⟩ | ⟨Ag, cg, gs, rfl, hgs, hcg, hSg, hdj⟩
   . have HA := qh (ldV_seg HU.out hk hno)
     clear hno hk
     have rq := r4.row #[ii 0, ii 0, ii 0, ii 0, nsl, nsl, nsl, nsl]
     have hnf := hx4.setRow hgR #[ii 0, ii 0, ii 0, ii 0, nsl, nsl, nsl, nsl]
     go_wp2_with (refine wpList_store_row rfl _ _ _ rfl gR #[ii 0, ii 0, ii 0, ii 0, nsl, nsl, nsl, nsl] rfl rfl 49 #[ii 0, ii 0, ii 0, ii 0, nsl, nsl, nsl, nsl] r4 (by kernel_rfl) rfl (by simp [Value.oneCell']) ?_)
     generalize w4.setRow gR #[ii 0, ii 0, ii 0, ii 0, nsl, nsl, nsl, nsl] = Wf at *
     obtain ⟨g0, g1, g2, g3, g4, g5, g6, g7⟩ := rq.e8
     exact bodyPost_ret (v := .tuple #[.agg #[ii 0, ii 0, ii 0, ii 0, nsl, nsl, nsl, nsl], ii 10]) (by simp [results, results65, go_sem, g0, g1, g2, g3, g4, g5, g6, g7]) rfl ⟨zVl, w.heap.size, by rw [HA.out]; rfl, by rw [HA.out]; exact VlS.refl _, VlP.zero _ hnf.size, hnf⟩
   have HGs := qh hgs
   have HDj := qh hdj
   have HCG := qh hcg
   clear hgs hdj hcg
   have z0 := e4.c0
   have z1 := e4.c1
   go_wp2_with fail
   refine (image_c A A2 n c n2 c2 B ss ws _ a0 a1 (h.below hx4 hB) (h2.below hx4 hB) (ntr hB hx4.size) hn hn2 HD.out (hE.nx hx4)).mono ?_
   rintro e w5 ⟨hk5, hret⟩
   have r5 := r4.nx hk5
   have s5 := s4.nx hk5
   have hx5 := hx4.trans hk5
   have hS5 := hS4.nx hk5
   have hM5 := hM4.nx hk5
   have hSg5 := hSg.nx hk5
   have hl4 : w3.heap.size <= w4.heap.size := hk4.size
   clear r4 e4 s4 hS4 hM4 z0 z1 hSg
   rcases hret with ⟨⟨k, hk, hno⟩, rfl⟩ | ⟨Ai, ci, im, rfl, him, hSi⟩
   . have HA := qh (ldV_img HU.out hk hno)
     clear hno hk
     have rq := r5.row #[ii 0, ii 0, ii 0, ii 0, nsl, nsl, nsl, nsl]
     have hnf := hx5.setRow hgR #[ii 0, ii 0, ii 0, ii 0, nsl, nsl, nsl, nsl]
     go_wp2_with (refine wpList_store_row rfl _ _ _ rfl gR #[ii 0, ii 0, ii 0, ii 0, nsl, nsl, nsl, nsl] rfl rfl 49 #[ii 0, ii 0, ii 0, ii 0, nsl, nsl, nsl, nsl] r5 (by kernel_rfl) rfl (by simp [Value.oneCell']) ?_)
     generalize w5.setRow gR #[ii 0, ii 0, ii 0, ii 0, nsl, nsl, nsl, nsl] = Wf at *
     obtain ⟨g0, g1, g2, g3, g4, g5, g6, g7⟩ := rq.e8
     exact bodyPost_ret (v := .tuple #[.agg #[ii 0, ii 0, ii 0, ii 0, nsl, nsl, nsl, nsl], ii 10]) (by simp [results, results65, go_sem, g0, g1, g2, g3, g4, g5, g6, g7]) rfl ⟨zVl, w.heap.size, by rw [HA.out]; rfl, by rw [HA.out]; exact VlS.refl _, VlP.zero _ hnf.size, hnf⟩
   have HIm := qh him
   clear him
   have hz6 := (Nx.refl w5).alloc (.cells #[ii g, ii b, ii p, ii q, sC Ax xs.length cx, sC Am ms.length cm, sC Ag gs.length cg, sC Ai im.length ci] 49)
   have v6 := Box.new w5 49 #[ii g, ii b, ii p, ii q, sC Ax xs.length cx, sC Am ms.length cm, sC Ag gs.length cg, sC Ai im.length ci]
   have r6 := r5.nx hz6
   have hx6 := hx5.trans hz6
   have hP6 : VlP (w5.alloc (.cells #[ii g, ii b, ii p, ii q, sC Ax xs.length cx, sC Am ms.length cm, sC Ag gs.length cg, sC Ai im.length ci] 49)) W.heap.size w3.heap.size (w5.alloc (.cells #[ii g, ii b, ii p, ii q, sC Ax xs.length cx, sC Am ms.length cm, sC Ag gs.length cg, sC Ai im.length ci] 49)).heap.size ⟨g, b, p, q, Ax, cx, xs, Am, cm, ms, Ag, cg, gs, Ai, ci, im⟩ :=
    ⟨hS5.nx hz6, hM5.nx hz6, (hSg5.row.sr.nx hz6).up hz6.size, fun k hk => ((hSg5.chs k hk).sr.nx hz6).up hz6.size, ((hSi.low hl4).sr.nx hz6).up hz6.size, HDj.out, HCC.out, HCG.out, hlW, by have := hk4.size; have := hk5.size; have := hz6.size; omega⟩
   obtain ⟨y0, y1, y2, y3, y4, y5⟩ := s5.d6
   obtain ⟨x0, x1, x2, x3, x4, x5, x6, x7⟩ := v6.e8
   clear r5 hx5 hS5 hM5 hSg5 hSi
   go_wp2_with fail
   generalize w5.alloc (.cells #[ii g, ii b, ii p, ii q, sC Ax xs.length cx, sC Am ms.length cm, sC Ag gs.length cg, sC Ai im.length ci] 49) = w6 at *
   obtain ⟨gV, HgV⟩ := nM (w5.heap.size)
   rw [HgV.out] at v6 x0 x1 x2 x3 x4 x5 x6 x7 ⊢
   clear y0 y1 y2 y3 y4 y5 x0 x1 x2 x3 x4 x5 x6 x7 s5
   obtain ⟨hNs, hAm⟩ := ld_small HD.out HSup.out HGs.out HIm.out Ax cx Am cm Ag cg Ai ci
   have HW := qh (ldW_s (g := g) (b := b) (p := p) (t := q) (ms := ms) HGs.out HIm.out Ax cx Am cm Ag cg Ai ci)
   have HOk := qh (ldOk_of (u := (g, b, p, q, xs, ms)) HGs.out HIm.out)
   refine (vaultRight_c ⟨g, b, p, q, Ax, cx, xs, Am, cm, ms, Ag, cg, gs, Ai, ci, im⟩ w6.heap.size w6 (hP6.own.vlt) nle hNs HCC.out HCG.out hAm).mono ?_
   rintro e w7 ⟨rfl, hk7⟩
   rw [<- HW.out.ok]
   have r7 := r6.nx hk7
   have hx7 := hx6.trans hk7
   have hP7 := (hP6.nx hk7).up hk7.size
   have v7 := v6.nx hk7
   clear r6 hx6 hP6 v6 hNs hAm
   obtain ⟨x0, x1, x2, x3, x4, x5, x6, x7⟩ := v7.e8
   cases hv : (ldW ss ws (g, b, p, q, xs, ms)).ok with
   | false =>
     have HA := qh (ldV_wrong HU.out hv)
     clear hv x0 x1 x2 x3 x4 x5 x6 x7
     have rq := r7.row #[ii 0, ii 0, ii 0, ii 0, nsl, nsl, nsl, nsl]
     have hnf := hx7.setRow hgR #[ii 0, ii 0, ii 0, ii 0, nsl, nsl, nsl, nsl]
     go_wp2_with (refine wpList_store_row rfl _ _ _ rfl gR #[ii 0, ii 0, ii 0, ii 0, nsl, nsl, nsl, nsl] rfl rfl 49 #[ii 0, ii 0, ii 0, ii 0, nsl, nsl, nsl, nsl] r7 (by kernel_rfl) rfl (by simp [Value.oneCell']) ?_)
     generalize w7.setRow gR #[ii 0, ii 0, ii 0, ii 0, nsl, nsl, nsl, nsl] = Wf at *
     obtain ⟨g0, g1, g2, g3, g4, g5, g6, g7⟩ := rq.e8
     exact bodyPost_ret (v := .tuple #[.agg #[ii 0, ii 0, ii 0, ii 0, nsl, nsl, nsl, nsl], ii 10]) (by simp [results, results65, go_sem, g0, g1, g2, g3, g4, g5, g6, g7]) rfl ⟨zVl, w.heap.size, by rw [HA.out]; rfl, by rw [HA.out]; exact VlS.refl _, VlP.zero _ hnf.size, hnf⟩
   | true =>
     have HA := qh (ldV_yes HU.out HOk.out hv)
     clear hv
     have rq := r7.row #[ii g, ii b, ii p, ii q, sC Ax xs.length cx, sC Am ms.length cm, sC Ag gs.length cg, sC Ai im.length ci]
     have hnf := hx7.setRow hgR #[ii g, ii b, ii p, ii q, sC Ax xs.length cx, sC Am ms.length cm, sC Ag gs.length cg, sC Ai im.length ci]
     have hvf := hP7.rowfar hltR #[ii g, ii b, ii p, ii q, sC Ax xs.length cx, sC Am ms.length cm, sC Ag gs.length cg, sC Ai im.length ci]
     have hzf := size_setRow w7 gR #[ii g, ii b, ii p, ii q, sC Ax xs.length cx, sC Am ms.length cm, sC Ag gs.length cg, sC Ai im.length ci]
     go_wp2_with (refine wpList_store_row rfl _ _ _ rfl gR #[ii g, ii b, ii p, ii q, sC Ax xs.length cx, sC Am ms.length cm, sC Ag gs.length cg, sC Ai im.length ci] rfl rfl 49 #[ii 0, ii 0, ii 0, ii 0, nsl, nsl, nsl, nsl] r7 (by kernel_rfl) rfl (by simp [Value.oneCell']) ?_)
     generalize w7.setRow gR #[ii g, ii b, ii p, ii q, sC Ax xs.length cx, sC Am ms.length cm, sC Ag gs.length cg, sC Ai im.length ci] = Wf at *
     obtain ⟨g0, g1, g2, g3, g4, g5, g6, g7⟩ := rq.e8
     exact bodyPost_ret (v := .tuple #[.agg #[ii g, ii b, ii p, ii q, sC Ax xs.length cx, sC Am ms.length cm, sC Ag gs.length cg, sC Ai im.length ci], ii 0]) (by simp [results, results65, go_sem, g0, g1, g2, g3, g4, g5, g6, g7]) rfl ⟨⟨g, b, p, q, Ax, cx, xs, Am, cm, ms, Ag, cg, gs, Ai, ci, im⟩, w3.heap.size, by rw [HA.out]; rfl, by rw [HA.out]; exact HW.out, (hvf.low hx0.size).up oM, hnf⟩
theorem implLoadVault_c (A A2 : Option Addr) (n c n2 c2 B : Nat) (ss : List BA) (ws : List (Int × BA)) (w : World) (a0 a1 : Addr) (h : Strs w B A n ss) (h2 : Wrs w B A2 n2 ws) (hB : B <= w.heap.size) (hn : n <= 1048576) (hn2 : n2 <= 1048576) (hE : Er w a0 a1) (hM : Mx w) (hEt : Et w) :
 Calls Tryz.prog 21 #[.agg #[sC A n c, sC A2 n2 c2]] w (RetLd w (ldA ss ws)) := by
 have r0 : Box ((w.alloc (.cells #[sC A n c, sC A2 n2 c2] 35)).alloc (.cells #[ii 0, ii 0, ii 0, ii 0, nsl, nsl, nsl, nsl] 49)) (w.heap.size + 1) 49 #[ii 0, ii 0, ii 0, ii 0, nsl, nsl, nsl, nsl] := by have := Box.new (w.alloc (.cells #[sC A n c, sC A2 n2 c2] 35)) 49 #[ii 0, ii 0, ii 0, ii 0, nsl, nsl, nsl, nsl]; rwa [World.size_alloc] at this
 have e0 : Box ((w.alloc (.cells #[sC A n c, sC A2 n2 c2] 35)).alloc (.cells #[ii 0, ii 0, ii 0, ii 0, nsl, nsl, nsl, nsl] 49)) w.heap.size 35 #[sC A n c, sC A2 n2 c2] := (Box.new w _ _).alloc _
 have hx0 := ((Nx.refl w).alloc (.cells #[sC A n c, sC A2 n2 c2] 35)).alloc (.cells #[ii 0, ii 0, ii 0, ii 0, nsl, nsl, nsl, nsl] 49)
 go_enter func21, ntmps21
 go_wp2_with fail
 generalize (w.alloc (.cells #[sC A n c, sC A2 n2 c2] 35)).alloc (.cells #[ii 0, ii 0, ii 0, ii 0, nsl, nsl, nsl, nsl] 49) = W at *
 obtain ⟨gR, Hg⟩ := nM (w.heap.size + 1)
 have hgR : w.heap.size <= gR := by have := Hg.out; omega
 have hgR1 : w.heap.size < gR := by have := Hg.out; omega
 rw [Hg.out] at r0 ⊢
 have hltR0 := r0.lt
 refine (isRight_c A A2 n c n2 c2 B ss ws _ (h.below hx0 hB) (h2.below hx0 hB) (ntr hB hx0.size) hn hn2).mono ?_
 rintro e w1 ⟨rfl, hnx1⟩
 have r1 := r0.nx hnx1
 have e1 := e0.nx hnx1
 have hx1 := hx0.trans hnx1
 clear r0 e0
 cases hD : diskB ss ws with
 | false =>
   have HA := qh (ldA_bad hD)
   clear hD
   have rq := r1.row #[ii 0, ii 0, ii 0, ii 0, nsl, nsl, nsl, nsl]
   have hnf := hx1.setRow hgR #[ii 0, ii 0, ii 0, ii 0, nsl, nsl, nsl, nsl]
   go_wp2_with (refine wpList_store_row rfl _ _ _ rfl gR #[ii 0, ii 0, ii 0, ii 0, nsl, nsl, nsl, nsl] rfl rfl 49 #[ii 0, ii 0, ii 0, ii 0, nsl, nsl, nsl, nsl] r1 (by kernel_rfl) rfl (by simp [Value.oneCell']) ?_)
   generalize w1.setRow gR #[ii 0, ii 0, ii 0, ii 0, nsl, nsl, nsl, nsl] = Wf at *
   obtain ⟨g0, g1, g2, g3, g4, g5, g6, g7⟩ := rq.e8
   exact bodyPost_ret (v := .tuple #[.agg #[ii 0, ii 0, ii 0, ii 0, nsl, nsl, nsl, nsl], ii 1]) (by simp [results, results21, go_sem, g0, g1, g2, g3, g4, g5, g6, g7]) rfl ⟨zVl, w.heap.size, by rw [HA.out]; rfl, by rw [HA.out]; exact VlS.refl _, VlP.zero _ hnf.size, hnf⟩
 | true =>
   have HA := qh (ldA_yes hD)
   have HD := qh hD
   clear hD
   have z0 := e1.c0
   have z1 := e1.c1
   have hltR := r1.lt
   go_wp2_with fail
   refine (diskVault_c A A2 n c n2 c2 B ss ws _ a0 a1 (h.below hx1 hB) (h2.below hx1 hB) (ntr hB hx1.size) hn hn2 HD.out (hE.nx hx1) (hM.nx hx1) (hEt.nx hx1)).mono ?_
   rintro e w2 ⟨⟨g, b, p, q, Ax, cx, xs, Am, cm, ms, Ag, cg, gs, Ai, ci, im⟩, mid, rfl, hS, hP, hk2⟩
   have r2 := r1.nx hk2
   have hx2 := hx1.trans hk2
   have hl1 := hx1.size
   rw [<- HA.out] at hS ⊢
   clear r1 e1 z0 z1 hltR0
   obtain ⟨cd, Hcd⟩ := nM ((ldA ss ws).2)
   have HSv := qh hS
   rw [Hcd.out]
   simp only [Vl.v, Vl.cells]
   clear hS
   have rq := r2.row #[ii g, ii b, ii p, ii q, sC Ax xs.length cx, sC Am ms.length cm, sC Ag gs.length cg, sC Ai im.length ci]
   have hnf := hx2.setRow hgR #[ii g, ii b, ii p, ii q, sC Ax xs.length cx, sC Am ms.length cm, sC Ag gs.length cg, sC Ai im.length ci]
   have hvf := hP.rowfar hltR #[ii g, ii b, ii p, ii q, sC Ax xs.length cx, sC Am ms.length cm, sC Ag gs.length cg, sC Ai im.length ci]
   have hzf := size_setRow w2 gR #[ii g, ii b, ii p, ii q, sC Ax xs.length cx, sC Am ms.length cm, sC Ag gs.length cg, sC Ai im.length ci]
   go_wp2_with (refine wpList_store_row rfl _ _ _ rfl gR #[ii g, ii b, ii p, ii q, sC Ax xs.length cx, sC Am ms.length cm, sC Ag gs.length cg, sC Ai im.length ci] rfl rfl 49 #[ii 0, ii 0, ii 0, ii 0, nsl, nsl, nsl, nsl] r2 (by kernel_rfl) rfl (by simp [Value.oneCell']) ?_)
   generalize w2.setRow gR #[ii g, ii b, ii p, ii q, sC Ax xs.length cx, sC Am ms.length cm, sC Ag gs.length cg, sC Ai im.length ci] = Wf at *
   obtain ⟨g0, g1, g2, g3, g4, g5, g6, g7⟩ := rq.e8
   exact bodyPost_ret (v := .tuple #[.agg #[ii g, ii b, ii p, ii q, sC Ax xs.length cx, sC Am ms.length cm, sC Ag gs.length cg, sC Ai im.length ci], ii cd]) (by simp [results, results21, go_sem, g0, g1, g2, g3, g4, g5, g6, g7]) rfl ⟨⟨g, b, p, q, Ax, cx, xs, Am, cm, ms, Ag, cg, gs, Ai, ci, im⟩, mid, by rw [Hcd.out]; rfl, HSv.out, (hvf.low hl1).up oM, hnf⟩
theorem owns_new03 (w : World) {B : Nat} (hB : B <= w.heap.size) : (w.alloc (.cells #[] 192)).ownsRow B 192 3 (sC (some ⟨w.heap.size, 0, none⟩) 0 0) 0 [] :=
 ⟨rfl, .inr ⟨_, 0, #[], rfl, hB, heap_alloc_new w _, oM, by unfold maxLen; omega, rfl, rfl⟩⟩
theorem l02Read_c (t : BA) (w : World) (ht : t.size <= 65536) : Calls Tryz.prog 197 #[.string t] w (RetST w (rdG t) (.bool false) (.bool true)) := by
 obtain ⟨i0, hi0, hz0, hz1, hz2⟩ := info_parts info_chg
 have b0 := Box.new w 122 #[ii 0, ii 0, ii 0, nsl]
 have hx0 := (Nx.refl w).alloc (.cells #[ii 0, ii 0, ii 0, nsl] 122)
 go_enter func197, ntmps197
 go_wp2_with fail
 generalize w.alloc (.cells #[ii 0, ii 0, ii 0, nsl] 122) = W at *
 refine (l02Open_c t _ oM).mono ?_
 rintro e w0 ⟨x, rfl, hxs, hxb, hnx0⟩
 go_wp2_with fail
 refine (l02Numbers_c x _ oM).mono ?_
 rintro e w1 ⟨A, n, c, rfl, hr, hnx1⟩
 have b1 := (b0.nx hnx0).nx hnx1
 have hxw := (hx0.trans hnx0).trans hnx1
 clear b0 hx0 hnx0 hnx1
 cases ho : opensB t with
 | false =>
   have HF := qh (rdG_none (rdN_no ho))
   clear ho hxb hr
   obtain ⟨c0, c1, c2, c3⟩ := b1.d4
   have f0 := b1.frozen 0
   have f1 := b1.frozen 1
   have f2 := b1.frozen 2
   have f3 := b1.frozen 3
   go_wp2
   have q := (put4_box b1 (ii 0) (ii 0) (ii 0) (nsl))
   have hnf := (put4_nx hxw (Nat.le_refl w.heap.size) (ii 0) (ii 0) (ii 0) (nsl))
   change bodyPost _ _ _ _ _ (put4 w1 w.heap.size (ii 0) (ii 0) (ii 0) (nsl))
   change Box (put4 w1 w.heap.size (ii 0) (ii 0) (ii 0) (nsl)) _ _ _ at q
   generalize put4 w1 w.heap.size (ii 0) (ii 0) (ii 0) (nsl) = Wf at *
   obtain ⟨g0, g1, g2, g3⟩ := q.d4
   exact bodyPost_ret (v := .tuple #[.agg #[ii 0, ii 0, ii 0, nsl], .bool false]) (by simp [results, results197, go_sem, g0, g1, g2, g3]) rfl (RetST.no HF.out hnf)
 | true =>
 obtain rfl := hxb ho
 have HR := qh (rdN_yes ho)
 clear ho hxb
 cases hn : numsO (bodyOf t).data.toList with
 | none =>
   have HF := qh (rdG_none (HR.out.trans hn))
   clear hr hn
   simp only [Option.isSome_none]
   obtain ⟨c0, c1, c2, c3⟩ := b1.d4
   have f0 := b1.frozen 0
   have f1 := b1.frozen 1
   have f2 := b1.frozen 2
   have f3 := b1.frozen 3
   go_wp2
   have q := (put4_box b1 (ii 0) (ii 0) (ii 0) (nsl))
   have hnf := (put4_nx hxw (Nat.le_refl w.heap.size) (ii 0) (ii 0) (ii 0) (nsl))
   change bodyPost _ _ _ _ _ (put4 w1 w.heap.size (ii 0) (ii 0) (ii 0) (nsl))
   change Box (put4 w1 w.heap.size (ii 0) (ii 0) (ii 0) (nsl)) _ _ _ at q
   generalize put4 w1 w.heap.size (ii 0) (ii 0) (ii 0) (nsl) = Wf at *
   obtain ⟨g0, g1, g2, g3⟩ := q.d4
   exact bodyPost_ret (v := .tuple #[.agg #[ii 0, ii 0, ii 0, nsl], .bool false]) (by simp [results, results197, go_sem, g0, g1, g2, g3]) rfl (RetST.no HF.out hnf)
 | some ns =>
   obtain ⟨rfl, hrow, _⟩ := hr ns hn
   have HN := qh (HR.out.trans hn)
   clear hr hn
   simp only [Option.isSome_some]
   have HNL := qh (rdN_len ht HN.out)
   by_cases hl3 : 3 <= ns.length
   case neg =>
    have HF := qh (rdG_len HN.out (okLen_no (fun h => hl3 h.1)))
    have hd3 : decide ((ns.length : Int) < 3) = true := by simp; omega
    obtain ⟨c0, c1, c2, c3⟩ := b1.d4
    have f0 := b1.frozen 0
    have f1 := b1.frozen 1
    have f2 := b1.frozen 2
    have f3 := b1.frozen 3
    go_wp2
    have q := (put4_box b1 (ii 0) (ii 0) (ii 0) (nsl))
    have hnf := (put4_nx hxw (Nat.le_refl w.heap.size) (ii 0) (ii 0) (ii 0) (nsl))
    change bodyPost _ _ _ _ _ (put4 w1 w.heap.size (ii 0) (ii 0) (ii 0) (nsl))
    change Box (put4 w1 w.heap.size (ii 0) (ii 0) (ii 0) (nsl)) _ _ _ at q
    generalize put4 w1 w.heap.size (ii 0) (ii 0) (ii 0) (nsl) = Wf at *
    obtain ⟨g0, g1, g2, g3⟩ := q.d4
    exact bodyPost_ret (v := .tuple #[.agg #[ii 0, ii 0, ii 0, nsl], .bool false]) (by simp [results, results197, go_sem, g0, g1, g2, g3]) rfl (RetST.no HF.out hnf)
   have hd3 : decide ((ns.length : Int) < 3) = false := by simp; omega
   by_cases hlm : ns.length % 3 = 0
   case neg =>
    have HF := qh (rdG_len HN.out (okLen_no (fun h => hlm h.2)))
    have hdm : decide (0 < (ns.length : Int) % 3) = true := by simp; omega
    obtain ⟨c0, c1, c2, c3⟩ := b1.d4
    have f0 := b1.frozen 0
    have f1 := b1.frozen 1
    have f2 := b1.frozen 2
    have f3 := b1.frozen 3
    go_wp2
    have q := (put4_box b1 (ii 0) (ii 0) (ii 0) (nsl))
    have hnf := (put4_nx hxw (Nat.le_refl w.heap.size) (ii 0) (ii 0) (ii 0) (nsl))
    change bodyPost _ _ _ _ _ (put4 w1 w.heap.size (ii 0) (ii 0) (ii 0) (nsl))
    change Box (put4 w1 w.heap.size (ii 0) (ii 0) (ii 0) (nsl)) _ _ _ at q
    generalize put4 w1 w.heap.size (ii 0) (ii 0) (ii 0) (nsl) = Wf at *
    obtain ⟨g0, g1, g2, g3⟩ := q.d4
    exact bodyPost_ret (v := .tuple #[.agg #[ii 0, ii 0, ii 0, nsl], .bool false]) (by simp [results, results197, go_sem, g0, g1, g2, g3]) rfl (RetST.no HF.out hnf)
   case pos =>
    have hdm : decide (0 < (ns.length : Int) % 3) = false := by simp; omega
    obtain ⟨N, hN⟩ : ∃ N, ns.length = 3 + 3 * N := ⟨ns.length / 3 - 1, oM⟩
    have HNN := qh hN
    have HOL := qh (okLen_yes hl3 hlm)
    clear hN hlm
    obtain ⟨b, off, rfl, hb, hcl⟩ := hrow.at0 oM
    obtain ⟨n0, Hn0⟩ := nM (ns.getD 0 0)
    obtain ⟨n1, Hn1⟩ := nM (ns.getD 1 0)
    obtain ⟨n2, Hn2⟩ := nM (ns.getD 2 0)
    have k0 : w1.cell? ⟨b, off, none⟩ = some (ii n0) := by have := hcl 0 oM; unfold intAt at this; rw [Hn0.out] at this; exact this
    have k1 : w1.cell? ⟨b, off + 1, none⟩ = some (ii n1) := by have := hcl 1 oM; unfold intAt at this; rw [Hn1.out] at this; exact this
    have k2 : w1.cell? ⟨b, off + 2, none⟩ = some (ii n2) := by have := hcl 2 oM; unfold intAt at this; rw [Hn2.out] at this; exact this
    have HCL := qh hcl
    have hi0' : (0 : Int) < (ns.length : Int) := oM
    have hi1' : (1 : Int) < (ns.length : Int) := oM
    have hi2' : (2 : Int) < (ns.length : Int) := oM
    have hm0 : 0 < ns.length := oM
    have hm1 : 1 < ns.length := oM
    have hm2 : 2 < ns.length := oM
    clear hcl hrow
    go_wp2_with fail
    refine wp_planA (.t 0 (.t 1 (.t 2 (.t 3 (.t 4 (.t 5 (.t 6 (.t 7 (.t 8 (.b 9 (.t 10 (.c 11 (.c 12 .e))) 11 (.c 9 (.t 10 (.c 12 .e))))))))))))) (fun w' => CC w' b off (ii n0) /\ CC w' b (off + 1) (ii n1) /\ CC w' b (off + 2) (ii n2)) (by exact ⟨k0, k1, k2⟩) ?_
    simp only [psOf, List.getD_cons_zero, List.getD_cons_succ]
    refine hPr ?_
    refine HP.both ?_ ?_
    . refine cSt fun K hK => ?_
      go_simp
      refine hK.out _ _ (by exact ⟨(((Nx.refl w1).drew.alloc (.cells #[] 192)).cell (p := ⟨b, off, none⟩) hb).trans k0, (((Nx.refl w1).drew.alloc (.cells #[] 192)).cell (p := ⟨b, off + 1, none⟩) hb).trans k1, (((Nx.refl w1).drew.alloc (.cells #[] 192)).cell (p := ⟨b, off + 2, none⟩) hb).trans k2⟩) ?_
      clear hK K
      refine nZ ?_
      refine hPr ?_
      refine hPc fun K hK => ?_
      go_simp
      refine hK.out _ _ (by exact ⟨((((Nx.refl w1).drew.alloc (.cells #[] 192)).alloc (.cells #[ii 0, ii 0, ii 0, nsl] 122)).cell (p := ⟨b, off, none⟩) hb).trans k0, ((((Nx.refl w1).drew.alloc (.cells #[] 192)).alloc (.cells #[ii 0, ii 0, ii 0, nsl] 122)).cell (p := ⟨b, off + 1, none⟩) hb).trans k1, ((((Nx.refl w1).drew.alloc (.cells #[] 192)).alloc (.cells #[ii 0, ii 0, ii 0, nsl] 122)).cell (p := ⟨b, off + 2, none⟩) hb).trans k2⟩) ?_
      clear hK K
      refine nZ ?_
      refine hPc fun K hK => ?_
      go_simp
      refine hK.out _ _ (by exact ⟨((((Nx.refl w1).drew.alloc (.cells #[] 192)).alloc (.cells #[ii n0, ii n1, ii n2, sC (some ⟨w1.heap.size, 0, none⟩) 0 0] 122)).cell (p := ⟨b, off, none⟩) hb).trans k0, ((((Nx.refl w1).drew.alloc (.cells #[] 192)).alloc (.cells #[ii n0, ii n1, ii n2, sC (some ⟨w1.heap.size, 0, none⟩) 0 0] 122)).cell (p := ⟨b, off + 1, none⟩) hb).trans k1, ((((Nx.refl w1).drew.alloc (.cells #[] 192)).alloc (.cells #[ii n0, ii n1, ii n2, sC (some ⟨w1.heap.size, 0, none⟩) 0 0] 122)).cell (p := ⟨b, off + 2, none⟩) hb).trans k2⟩) ?_
      clear hK K
      refine nZ ?_
      refine HP.done ?_
      clear k0 k1 k2 hm0 hm1 hm2 hi0' hi1' hi2'
      have bg0 : Box (World.drew ((w1.alloc (.cells #[] 192)).alloc (.cells #[ii n0, ii n1, ii n2, sC (some ⟨w1.heap.size, 0, none⟩) 0 0] 122))) (w1.heap.size + 1) 122 #[ii n0, ii n1, ii n2, sC (some ⟨w1.heap.size, 0, none⟩) 0 0] := by have := Box.new (w1.alloc (.cells #[] 192)) 122 #[ii n0, ii n1, ii n2, sC (some ⟨w1.heap.size, 0, none⟩) 0 0]; simp only [World.size_alloc] at this; exact this
      have hw0 : World.ownsRow (World.drew ((w1.alloc (.cells #[] 192)).alloc (.cells #[ii n0, ii n1, ii n2, sC (some ⟨w1.heap.size, 0, none⟩) 0 0] 122))) w1.heap.size 192 3 (sC (some ⟨w1.heap.size, 0, none⟩) 0 0) 0 [] := (owns_new03 w1 nle).alloc (.cells #[ii n0, ii n1, ii n2, sC (some ⟨w1.heap.size, 0, none⟩) 0 0] 122)
      have hx3 : Nx w1 (World.drew ((w1.alloc (.cells #[] 192)).alloc (.cells #[ii n0, ii n1, ii n2, sC (some ⟨w1.heap.size, 0, none⟩) 0 0] 122))) := (((Nx.refl w1).drew.alloc (.cells #[] 192)).alloc (.cells #[ii n0, ii n1, ii n2, sC (some ⟨w1.heap.size, 0, none⟩) 0 0] 122))
      have hgG : w1.heap.size <= (w1.heap.size + 1) := oM
      change Exit.then _ _ _ _ (World.drew ((w1.alloc (.cells #[] 192)).alloc (.cells #[ii n0, ii n1, ii n2, sC (some ⟨w1.heap.size, 0, none⟩) 0 0] 122)))
      generalize (World.drew ((w1.alloc (.cells #[] 192)).alloc (.cells #[ii n0, ii n1, ii n2, sC (some ⟨w1.heap.size, 0, none⟩) 0 0] 122))) = w3 at *
      obtain ⟨gG, HgG⟩ := nM ((w1.heap.size + 1))
      rw [HgG.out] at bg0 hgG ⊢
      go_wp2
      go_loopw [9] (fun i wr => SegLoop w1 gG n0 n1 n2 ns i wr) (fun i _ => ns.length - (intOf i).toNat)
      case atStart => exact ⟨0, 3, _, hl3, qh rfl, rfl, bg0, hw0, hx3⟩
      case round =>
       obtain ⟨k, p, v, hp, HPp, rfl, bg, hw, hnx⟩ := hrel
       clear bg0 hx3 hw0
       by_cases hlt : p < ns.length
       . have hp3 : p + 3 <= ns.length := by have := HPp.out; have := HNN.out; omega
         have hn9 : ns.length <= 65536 := HNL.out
         obtain ⟨q0, Hq0⟩ := nM (ns.getD p 0)
         obtain ⟨q1, Hq1⟩ := nM (ns.getD (p + 1) 0)
         obtain ⟨q2, Hq2⟩ := nM (ns.getD (p + 2) 0)
         have m0 : w1.cell? ⟨b, off + p, none⟩ = some (ii q0) := by have := HCL.out p oM; unfold intAt at this; rw [Hq0.out] at this; exact this
         have m1 : w1.cell? ⟨b, off + (p + 1), none⟩ = some (ii q1) := by have := HCL.out (p + 1) oM; unfold intAt at this; rw [Hq1.out] at this; exact this
         have m2 : w1.cell? ⟨b, off + (p + 2), none⟩ = some (ii q2) := by have := HCL.out (p + 2) oM; unfold intAt at this; rw [Hq2.out] at this; exact this
         have HQ := qh (show chV (chN3 ns k) = [ii q0, ii q1, ii q2] by
          unfold chV chN3; rw [<- HPp.out, Hq0.out, Hq1.out, Hq2.out])
         have HO : Hid (∀ u ∈ [Value.int .i64 (q0 : Int), ii q1, ii q2], u.oneCell' = true) := qh (fun u hu => by simp only [List.mem_cons, List.not_mem_nil, or_false] at hu; rcases hu with rfl | rfl | rfl <;> rfl)
         have hbw := hb
         have hk9 : k <= 100000 := by have := HPp.out; omega
         obtain ⟨_, _, _, c3⟩ := bg.d4
         have hw1a : (p : Int) + 1 < (ns.length : Int) := oM
         have hw1b : (p : Int) + 2 < (ns.length : Int) := oM
         have hw1c : (p : Int) < (ns.length : Int) := oM
         have hw2a : ((p : Int) + 1).toNat = p + 1 := oM
         have hw2b : ((p : Int) + 2).toNat = p + 2 := oM
         have hw3a : (0 : Int) <= (p : Int) + 1 := oM
         have hw3b : (0 : Int) <= (p : Int) + 2 := oM
         have hw4a : IntKind.i64.wrap ((p : Int) + 1) = (p : Int) + 1 := IntWalk.i64_in _ oM
         have hw4b : IntKind.i64.wrap ((p : Int) + 2) = (p : Int) + 2 := IntWalk.i64_in _ oM
         go_wp2_with fail
         refine wp_planA (.t 0 (.t 2 (.t 3 (.t 4 (.t 5 (.t 6 (.t 7 (.t 8 (.t 9 (.t 10 (.t 11 (.t 12 (.t 13 (.t 14 (.t 15 (.t 16 (.b 1 (.c 17 (.c 18 (.t 19 (.c 20 .e)))) 17 (.c 1 (.c 18 (.t 19 (.c 20 .e))))))))))))))))))))) (fun w' => CC w' b (off + p) (ii q0) /\ CC w' b (off + (p + 1)) (ii q1) /\ CC w' b (off + (p + 2)) (ii q2)) (by exact ⟨(hnx.drew.cell (p := ⟨b, off + p, none⟩) hbw).trans m0, (hnx.drew.cell (p := ⟨b, off + (p + 1), none⟩) hbw).trans m1, (hnx.drew.cell (p := ⟨b, off + (p + 2), none⟩) hbw).trans m2⟩) ?_
         simp only [psOf, List.getD_cons_zero, List.getD_cons_succ]
         refine hPr ?_
         refine HP.both ?_ ?_
         . have hx1 := hnx.drew.alloc (.cells #[ii q0, ii q1, ii q2] 192)
           have hw1 := (owns_nx3 hw (Nx.refl wr).drew).alloc (.cells #[ii q0, ii q1, ii q2] 192)
           have bz := (bg.nx (Nx.refl wr).drew).alloc (.cells #[ii q0, ii q1, ii q2] 192)
           have HNW := qh (news3 wr.drew 192 (ii q0) (ii q1) (ii q2))
           have hlt := bg.lt
           refine cSt fun K hK => ?_
           go_simp
           refine hK.out _ _ (by exact ⟨(hnx.drew.cell (p := ⟨b, off + p, none⟩) hbw).trans m0, (hnx.drew.cell (p := ⟨b, off + (p + 1), none⟩) hbw).trans m1, (hnx.drew.cell (p := ⟨b, off + (p + 2), none⟩) hbw).trans m2⟩) ?_
           clear hK K
           refine nZ ?_
           refine hPc fun K hK => ?_
           go_simp
           refine hK.out _ _ (by exact ⟨(hx1.cell (p := ⟨b, off + p, none⟩) hbw).trans m0, (hx1.cell (p := ⟨b, off + (p + 1), none⟩) hbw).trans m1, (hx1.cell (p := ⟨b, off + (p + 2), none⟩) hbw).trans m2⟩) ?_
           clear hK K
           refine nZ ?_
           change HP _ _ _ _ _ _ (wr.drew.alloc (.cells #[ii q0, ii q1, ii q2] 192))
           generalize wr.drew.alloc (.cells #[ii q0, ii q1, ii q2] 192) = wz at *
           refine hPc fun K hK => ?_
           refine wp_append_own wz _ _ 120 rfl w1.heap.size 192 i0 _ 3 24 underlying120 hi0 hz0 hz1 hz2 rfl oM v k _ rfl hw1 ⟨wr.heap.size, 0, none⟩ 1 1 [ii q0, ii q1, ii q2] rfl rfl HNW.out HO.out (by unfold maxLen; omega) oM hx1.size ?_
           intro v2 w2 hw2 hg2 _
           obtain ⟨g2, cp2, rfl, _, _⟩ := hw2.form oM
           have hx2 : Nx w1 w2 := Below.grown hx1 hg2 hx1.size (fun k hk => (hw1.lt k hk).1)
           have bg2 : Box w2 gG 122 #[ii n0, ii n1, ii n2, v] := bz.grown hg2 (owns_ne hw1 bz)
           refine hK.out _ _ (by exact ⟨(hx2.cell (p := ⟨b, off + p, none⟩) hbw).trans m0, (hx2.cell (p := ⟨b, off + (p + 1), none⟩) hbw).trans m1, (hx2.cell (p := ⟨b, off + (p + 2), none⟩) hbw).trans m2⟩) ?_
           clear hK K
           refine nZ ?_
           refine hPr ?_
           obtain ⟨_, _, _, d3⟩ := bg2.d4
           have f3 := bg2.frozen 3
           refine hPc fun K hK => ?_
           go_simp
           have hx3 := hx2.setCell (p := ⟨gG, 3, none⟩) hgG (sC (some ⟨g2, 0, none⟩) (k + 1) cp2)
           refine hK.out _ _ (by exact ⟨(hx3.cell (p := ⟨b, off + p, none⟩) hbw).trans m0, (hx3.cell (p := ⟨b, off + (p + 1), none⟩) hbw).trans m1, (hx3.cell (p := ⟨b, off + (p + 2), none⟩) hbw).trans m2⟩) ?_
           clear hK K
           refine nZ ?_
           refine HP.done ?_
           clear hw1a hw1b hw1c hw2a hw2b hw3a hw3b hw4a hw4b
           have bg3 := bg2.set 3 (sC (some ⟨g2, 0, none⟩) (k + 1) cp2)
           have hw3 := owns_far (u := (sC (some ⟨g2, 0, none⟩) (k + 1) cp2)) (i := 3) hw2 bg2
           clear d3 f3 c3
           go_wp2
           go_roundw
           case rel =>
            refine ⟨k + 1, p + 3, _, oM, qh (by have := HPp.out; omega), by go_num, bg3, ?_, hx3⟩
            rw [chsV_succ, HQ.out]; exact hw3
           case measure => simp [intOf]; omega
         . have hx1 := hnx.drew.alloc (.cells #[ii q0, ii q1, ii q2] 192)
           have hw1 := (owns_nx3 hw (Nx.refl wr).drew).alloc (.cells #[ii q0, ii q1, ii q2] 192)
           have bz := (bg.nx (Nx.refl wr).drew).alloc (.cells #[ii q0, ii q1, ii q2] 192)
           have HNW := qh (news3 wr.drew 192 (ii q0) (ii q1) (ii q2))
           have hlt := bg.lt
           refine cSt fun K hK => ?_
           go_simp
           refine hK.out _ _ (by exact ⟨(hx1.cell (p := ⟨b, off + p, none⟩) hbw).trans m0, (hx1.cell (p := ⟨b, off + (p + 1), none⟩) hbw).trans m1, (hx1.cell (p := ⟨b, off + (p + 2), none⟩) hbw).trans m2⟩) ?_
           clear hK K
           refine nZ ?_
           refine hPc fun K hK => ?_
           go_simp
           refine hK.out _ _ (by exact ⟨(hx1.cell (p := ⟨b, off + p, none⟩) hbw).trans m0, (hx1.cell (p := ⟨b, off + (p + 1), none⟩) hbw).trans m1, (hx1.cell (p := ⟨b, off + (p + 2), none⟩) hbw).trans m2⟩) ?_
           clear hK K
           refine nZ ?_
           change HP _ _ _ _ _ _ (wr.drew.alloc (.cells #[ii q0, ii q1, ii q2] 192))
           generalize wr.drew.alloc (.cells #[ii q0, ii q1, ii q2] 192) = wz at *
           refine hPc fun K hK => ?_
           refine wp_append_own wz _ _ 120 rfl w1.heap.size 192 i0 _ 3 24 underlying120 hi0 hz0 hz1 hz2 rfl oM v k _ rfl hw1 ⟨wr.heap.size, 0, none⟩ 1 1 [ii q0, ii q1, ii q2] rfl rfl HNW.out HO.out (by unfold maxLen; omega) oM hx1.size ?_
           intro v2 w2 hw2 hg2 _
           obtain ⟨g2, cp2, rfl, _, _⟩ := hw2.form oM
           have hx2 : Nx w1 w2 := Below.grown hx1 hg2 hx1.size (fun k hk => (hw1.lt k hk).1)
           have bg2 : Box w2 gG 122 #[ii n0, ii n1, ii n2, v] := bz.grown hg2 (owns_ne hw1 bz)
           refine hK.out _ _ (by exact ⟨(hx2.cell (p := ⟨b, off + p, none⟩) hbw).trans m0, (hx2.cell (p := ⟨b, off + (p + 1), none⟩) hbw).trans m1, (hx2.cell (p := ⟨b, off + (p + 2), none⟩) hbw).trans m2⟩) ?_
           clear hK K
           refine nZ ?_
           refine hPr ?_
           obtain ⟨_, _, _, d3⟩ := bg2.d4
           have f3 := bg2.frozen 3
           refine hPc fun K hK => ?_
           go_simp
           have hx3 := hx2.setCell (p := ⟨gG, 3, none⟩) hgG (sC (some ⟨g2, 0, none⟩) (k + 1) cp2)
           refine hK.out _ _ (by exact ⟨(hx3.cell (p := ⟨b, off + p, none⟩) hbw).trans m0, (hx3.cell (p := ⟨b, off + (p + 1), none⟩) hbw).trans m1, (hx3.cell (p := ⟨b, off + (p + 2), none⟩) hbw).trans m2⟩) ?_
           clear hK K
           refine nZ ?_
           refine HP.done ?_
           clear hw1a hw1b hw1c hw2a hw2b hw3a hw3b hw4a hw4b
           have bg3 := bg2.set 3 (sC (some ⟨g2, 0, none⟩) (k + 1) cp2)
           have hw3 := owns_far (u := (sC (some ⟨g2, 0, none⟩) (k + 1) cp2)) (i := 3) hw2 bg2
           clear d3 f3 c3
           go_wp2
           go_roundw
           case rel =>
            refine ⟨k + 1, p + 3, _, oM, qh (by have := HPp.out; omega), by go_num, bg3, ?_, hx3⟩
            rw [chsV_succ, HQ.out]; exact hw3
           case measure => simp [intOf]; omega
       . obtain rfl : p = ns.length := oM
         have hkN : k = ns.length / 3 - 1 := by have := HPp.out; omega
         have hlen := chOf_len ns k
         have hw' : wr.ownsRow w1.heap.size 192 3 v (chOf ns k).length (chsV (chOf ns k)) := by rw [hlen]; exact hw
         obtain ⟨A2, cp9, rfl, hSl⟩ := owns_slC hw'
         have HQ4 := qh (show sgOf ns = (n0, n1, n2, chOf ns k) by unfold sgOf; rw [Hn0.out, Hn1.out, Hn2.out, <- hkN])
         have hcl9 : (chOf ns k).length <= 1048576 := by rw [hlen]; have := HNL.out; omega
         have bw := b1.nx hnx
         have hxr := hxw.trans hnx
         have hgl : w.heap.size < w1.heap.size := b1.lt
         clear hw hw' hlen hkN
         obtain ⟨x0, x1, x2, x3⟩ := bg.d4
         go_wp2_with fail
         refine (specSegOK_c n0 n1 n2 A2 cp9 _ (chOf ns k) _ hSl.row nle hcl9).mono ?_
         rintro e w5 ⟨rfl, hnx5⟩
         have b5 := bw.nx hnx5
         have bg5 := bg.nx hnx5
         have hx5 := hxr.trans hnx5
         have hS5 := hSl.nx hnx5
         clear x0 x1 x2 x3
         obtain ⟨x0, x1, x2, x3⟩ := bg5.d4
         cases hf : segB n0 n1 n2 (chOf ns k) with
         | false =>
           have HF := qh (rdG_no HN.out (by unfold g4B; rw [HQ4.out]; exact hf))
           clear hf
           obtain ⟨c0, c1, c2, c3⟩ := b5.d4
           have f0 := b5.frozen 0
           have f1 := b5.frozen 1
           have f2 := b5.frozen 2
           have f3 := b5.frozen 3
           go_wp2
           have q := (put4_box b5 (ii 0) (ii 0) (ii 0) (nsl))
           have hnf := (put4_nx hx5 (Nat.le_refl w.heap.size) (ii 0) (ii 0) (ii 0) (nsl))
           change bodyPost _ _ _ _ _ (put4 w5 w.heap.size (ii 0) (ii 0) (ii 0) (nsl))
           change Box (put4 w5 w.heap.size (ii 0) (ii 0) (ii 0) (nsl)) _ _ _ at q
           generalize put4 w5 w.heap.size (ii 0) (ii 0) (ii 0) (nsl) = Wf at *
           obtain ⟨g0, g1, g2, g3⟩ := q.d4
           exact bodyPost_ret (v := .tuple #[.agg #[ii 0, ii 0, ii 0, nsl], .bool false]) (by simp [results, results197, go_sem, g0, g1, g2, g3]) rfl (RetST.no HF.out hnf)
           | true =>
           have HF := qh (rdG_yes HN.out HOL.out (by unfold g4B; rw [HQ4.out]; exact hf))
           clear hf
           obtain ⟨c0, c1, c2, c3⟩ := b5.d4
           have f0 := b5.frozen 0
           have f1 := b5.frozen 1
           have f2 := b5.frozen 2
           have f3 := b5.frozen 3
           go_wp2
           have q := (put4_box b5 (ii n0) (ii n1) (ii n2) (sC A2 (chOf ns k).length cp9))
           have hnf := (put4_nx hx5 (Nat.le_refl w.heap.size) (ii n0) (ii n1) (ii n2) (sC A2 (chOf ns k).length cp9))
           have hsf := (hS5.put4 hgl (ii n0) (ii n1) (ii n2) (sC A2 (chOf ns k).length cp9))
           change Sl (put4 w5 w.heap.size (ii n0) (ii n1) (ii n2) (sC A2 (chOf ns k).length cp9)) _ _ _ _ _ at hsf
           change bodyPost _ _ _ _ _ (put4 w5 w.heap.size (ii n0) (ii n1) (ii n2) (sC A2 (chOf ns k).length cp9))
           change Box (put4 w5 w.heap.size (ii n0) (ii n1) (ii n2) (sC A2 (chOf ns k).length cp9)) _ _ _ at q
           generalize put4 w5 w.heap.size (ii n0) (ii n1) (ii n2) (sC A2 (chOf ns k).length cp9) = Wf at *
           obtain ⟨g0, g1, g2, g3⟩ := q.d4
           exact bodyPost_ret (v := .tuple #[.agg #[ii n0, ii n1, ii n2, sC A2 (chOf ns k).length cp9], .bool true]) (by simp [results, results197, go_sem, g0, g1, g2, g3]) rfl (RetST.yes HF.out HQ4.out (hsf.low oM) hnf)
    . refine cSt fun K hK => ?_
      go_simp
      refine hK.out _ _ (by exact ⟨(((Nx.refl w1).drew.alloc (.cells #[ii 0, ii 0, ii 0, nsl] 122)).cell (p := ⟨b, off, none⟩) hb).trans k0, (((Nx.refl w1).drew.alloc (.cells #[ii 0, ii 0, ii 0, nsl] 122)).cell (p := ⟨b, off + 1, none⟩) hb).trans k1, (((Nx.refl w1).drew.alloc (.cells #[ii 0, ii 0, ii 0, nsl] 122)).cell (p := ⟨b, off + 2, none⟩) hb).trans k2⟩) ?_
      clear hK K
      refine nZ ?_
      refine hPc fun K hK => ?_
      go_simp
      refine hK.out _ _ (by exact ⟨((((Nx.refl w1).drew.alloc (.cells #[ii 0, ii 0, ii 0, nsl] 122)).alloc (.cells #[] 192)).cell (p := ⟨b, off, none⟩) hb).trans k0, ((((Nx.refl w1).drew.alloc (.cells #[ii 0, ii 0, ii 0, nsl] 122)).alloc (.cells #[] 192)).cell (p := ⟨b, off + 1, none⟩) hb).trans k1, ((((Nx.refl w1).drew.alloc (.cells #[ii 0, ii 0, ii 0, nsl] 122)).alloc (.cells #[] 192)).cell (p := ⟨b, off + 2, none⟩) hb).trans k2⟩) ?_
      clear hK K
      refine nZ ?_
      refine hPr ?_
      refine hPc fun K hK => ?_
      go_simp
      refine hK.out _ _ (by exact ⟨((((Nx.refl w1).drew.alloc (.cells #[ii n0, ii n1, ii n2, sC (some ⟨(w1.heap.size + 1), 0, none⟩) 0 0] 122)).alloc (.cells #[] 192)).cell (p := ⟨b, off, none⟩) hb).trans k0, ((((Nx.refl w1).drew.alloc (.cells #[ii n0, ii n1, ii n2, sC (some ⟨(w1.heap.size + 1), 0, none⟩) 0 0] 122)).alloc (.cells #[] 192)).cell (p := ⟨b, off + 1, none⟩) hb).trans k1, ((((Nx.refl w1).drew.alloc (.cells #[ii n0, ii n1, ii n2, sC (some ⟨(w1.heap.size + 1), 0, none⟩) 0 0] 122)).alloc (.cells #[] 192)).cell (p := ⟨b, off + 2, none⟩) hb).trans k2⟩) ?_
      clear hK K
      refine nZ ?_
      refine HP.done ?_
      clear k0 k1 k2 hm0 hm1 hm2 hi0' hi1' hi2'
      have bg0 : Box (World.drew ((w1.alloc (.cells #[ii n0, ii n1, ii n2, sC (some ⟨(w1.heap.size + 1), 0, none⟩) 0 0] 122)).alloc (.cells #[] 192))) w1.heap.size 122 #[ii n0, ii n1, ii n2, sC (some ⟨(w1.heap.size + 1), 0, none⟩) 0 0] := (Box.new w1 _ _).alloc (.cells #[] 192)
      have hw0 : World.ownsRow (World.drew ((w1.alloc (.cells #[ii n0, ii n1, ii n2, sC (some ⟨(w1.heap.size + 1), 0, none⟩) 0 0] 122)).alloc (.cells #[] 192))) w1.heap.size 192 3 (sC (some ⟨(w1.heap.size + 1), 0, none⟩) 0 0) 0 [] := by have := owns_new03 (w1.alloc (.cells #[ii n0, ii n1, ii n2, sC (some ⟨(w1.heap.size + 1), 0, none⟩) 0 0] 122)) (B := w1.heap.size) (by simp); simp only [World.size_alloc] at this; exact this
      have hx3 : Nx w1 (World.drew ((w1.alloc (.cells #[ii n0, ii n1, ii n2, sC (some ⟨(w1.heap.size + 1), 0, none⟩) 0 0] 122)).alloc (.cells #[] 192))) := (((Nx.refl w1).drew.alloc (.cells #[ii n0, ii n1, ii n2, sC (some ⟨(w1.heap.size + 1), 0, none⟩) 0 0] 122)).alloc (.cells #[] 192))
      have hgG : w1.heap.size <= w1.heap.size := oM
      change Exit.then _ _ _ _ (World.drew ((w1.alloc (.cells #[ii n0, ii n1, ii n2, sC (some ⟨(w1.heap.size + 1), 0, none⟩) 0 0] 122)).alloc (.cells #[] 192)))
      generalize (World.drew ((w1.alloc (.cells #[ii n0, ii n1, ii n2, sC (some ⟨(w1.heap.size + 1), 0, none⟩) 0 0] 122)).alloc (.cells #[] 192))) = w3 at *
      go_wp2
      go_loopw [9] (fun i wr => SegLoop w1 w1.heap.size n0 n1 n2 ns i wr) (fun i _ => ns.length - (intOf i).toNat)
      case atStart => exact ⟨0, 3, _, hl3, qh rfl, rfl, bg0, hw0, hx3⟩
      case round =>
       obtain ⟨k, p, v, hp, HPp, rfl, bg, hw, hnx⟩ := hrel
       clear bg0 hx3 hw0
       by_cases hlt : p < ns.length
       . have hp3 : p + 3 <= ns.length := by have := HPp.out; have := HNN.out; omega
         have hn9 : ns.length <= 65536 := HNL.out
         obtain ⟨q0, Hq0⟩ := nM (ns.getD p 0)
         obtain ⟨q1, Hq1⟩ := nM (ns.getD (p + 1) 0)
         obtain ⟨q2, Hq2⟩ := nM (ns.getD (p + 2) 0)
         have m0 : w1.cell? ⟨b, off + p, none⟩ = some (ii q0) := by have := HCL.out p oM; unfold intAt at this; rw [Hq0.out] at this; exact this
         have m1 : w1.cell? ⟨b, off + (p + 1), none⟩ = some (ii q1) := by have := HCL.out (p + 1) oM; unfold intAt at this; rw [Hq1.out] at this; exact this
         have m2 : w1.cell? ⟨b, off + (p + 2), none⟩ = some (ii q2) := by have := HCL.out (p + 2) oM; unfold intAt at this; rw [Hq2.out] at this; exact this
         have HQ := qh (show chV (chN3 ns k) = [ii q0, ii q1, ii q2] by
          unfold chV chN3; rw [<- HPp.out, Hq0.out, Hq1.out, Hq2.out])
         have HO : Hid (∀ u ∈ [Value.int .i64 (q0 : Int), ii q1, ii q2], u.oneCell' = true) := qh (fun u hu => by simp only [List.mem_cons, List.not_mem_nil, or_false] at hu; rcases hu with rfl | rfl | rfl <;> rfl)
         have hbw := hb
         have hk9 : k <= 100000 := by have := HPp.out; omega
         obtain ⟨_, _, _, c3⟩ := bg.d4
         have hw1a : (p : Int) + 1 < (ns.length : Int) := oM
         have hw1b : (p : Int) + 2 < (ns.length : Int) := oM
         have hw1c : (p : Int) < (ns.length : Int) := oM
         have hw2a : ((p : Int) + 1).toNat = p + 1 := oM
         have hw2b : ((p : Int) + 2).toNat = p + 2 := oM
         have hw3a : (0 : Int) <= (p : Int) + 1 := oM
         have hw3b : (0 : Int) <= (p : Int) + 2 := oM
         have hw4a : IntKind.i64.wrap ((p : Int) + 1) = (p : Int) + 1 := IntWalk.i64_in _ oM
         have hw4b : IntKind.i64.wrap ((p : Int) + 2) = (p : Int) + 2 := IntWalk.i64_in _ oM
         go_wp2_with fail
         refine wp_planA (.t 0 (.t 2 (.t 3 (.t 4 (.t 5 (.t 6 (.t 7 (.t 8 (.t 9 (.t 10 (.t 11 (.t 12 (.t 13 (.t 14 (.t 15 (.t 16 (.b 1 (.c 17 (.c 18 (.t 19 (.c 20 .e)))) 17 (.c 1 (.c 18 (.t 19 (.c 20 .e))))))))))))))))))))) (fun w' => CC w' b (off + p) (ii q0) /\ CC w' b (off + (p + 1)) (ii q1) /\ CC w' b (off + (p + 2)) (ii q2)) (by exact ⟨(hnx.drew.cell (p := ⟨b, off + p, none⟩) hbw).trans m0, (hnx.drew.cell (p := ⟨b, off + (p + 1), none⟩) hbw).trans m1, (hnx.drew.cell (p := ⟨b, off + (p + 2), none⟩) hbw).trans m2⟩) ?_
         simp only [psOf, List.getD_cons_zero, List.getD_cons_succ]
         refine hPr ?_
         refine HP.both ?_ ?_
         . have hx1 := hnx.drew.alloc (.cells #[ii q0, ii q1, ii q2] 192)
           have hw1 := (owns_nx3 hw (Nx.refl wr).drew).alloc (.cells #[ii q0, ii q1, ii q2] 192)
           have bz := (bg.nx (Nx.refl wr).drew).alloc (.cells #[ii q0, ii q1, ii q2] 192)
           have HNW := qh (news3 wr.drew 192 (ii q0) (ii q1) (ii q2))
           have hlt := bg.lt
           refine cSt fun K hK => ?_
           go_simp
           refine hK.out _ _ (by exact ⟨(hnx.drew.cell (p := ⟨b, off + p, none⟩) hbw).trans m0, (hnx.drew.cell (p := ⟨b, off + (p + 1), none⟩) hbw).trans m1, (hnx.drew.cell (p := ⟨b, off + (p + 2), none⟩) hbw).trans m2⟩) ?_
           clear hK K
           refine nZ ?_
           refine hPc fun K hK => ?_
           go_simp
           refine hK.out _ _ (by exact ⟨(hx1.cell (p := ⟨b, off + p, none⟩) hbw).trans m0, (hx1.cell (p := ⟨b, off + (p + 1), none⟩) hbw).trans m1, (hx1.cell (p := ⟨b, off + (p + 2), none⟩) hbw).trans m2⟩) ?_
           clear hK K
           refine nZ ?_
           change HP _ _ _ _ _ _ (wr.drew.alloc (.cells #[ii q0, ii q1, ii q2] 192))
           generalize wr.drew.alloc (.cells #[ii q0, ii q1, ii q2] 192) = wz at *
           refine hPc fun K hK => ?_
           refine wp_append_own wz _ _ 120 rfl w1.heap.size 192 i0 _ 3 24 underlying120 hi0 hz0 hz1 hz2 rfl oM v k _ rfl hw1 ⟨wr.heap.size, 0, none⟩ 1 1 [ii q0, ii q1, ii q2] rfl rfl HNW.out HO.out (by unfold maxLen; omega) oM hx1.size ?_
           intro v2 w2 hw2 hg2 _
           obtain ⟨g2, cp2, rfl, _, _⟩ := hw2.form oM
           have hx2 : Nx w1 w2 := Below.grown hx1 hg2 hx1.size (fun k hk => (hw1.lt k hk).1)
           have bg2 : Box w2 w1.heap.size 122 #[ii n0, ii n1, ii n2, v] := bz.grown hg2 (owns_ne hw1 bz)
           refine hK.out _ _ (by exact ⟨(hx2.cell (p := ⟨b, off + p, none⟩) hbw).trans m0, (hx2.cell (p := ⟨b, off + (p + 1), none⟩) hbw).trans m1, (hx2.cell (p := ⟨b, off + (p + 2), none⟩) hbw).trans m2⟩) ?_
           clear hK K
           refine nZ ?_
           refine hPr ?_
           obtain ⟨_, _, _, d3⟩ := bg2.d4
           have f3 := bg2.frozen 3
           refine hPc fun K hK => ?_
           go_simp
           have hx3 := hx2.setCell (p := ⟨w1.heap.size, 3, none⟩) hgG (sC (some ⟨g2, 0, none⟩) (k + 1) cp2)
           refine hK.out _ _ (by exact ⟨(hx3.cell (p := ⟨b, off + p, none⟩) hbw).trans m0, (hx3.cell (p := ⟨b, off + (p + 1), none⟩) hbw).trans m1, (hx3.cell (p := ⟨b, off + (p + 2), none⟩) hbw).trans m2⟩) ?_
           clear hK K
           refine nZ ?_
           refine HP.done ?_
           clear hw1a hw1b hw1c hw2a hw2b hw3a hw3b hw4a hw4b
           have bg3 := bg2.set 3 (sC (some ⟨g2, 0, none⟩) (k + 1) cp2)
           have hw3 := owns_far (u := (sC (some ⟨g2, 0, none⟩) (k + 1) cp2)) (i := 3) hw2 bg2
           clear d3 f3 c3
           go_wp2
           go_roundw
           case rel =>
            refine ⟨k + 1, p + 3, _, oM, qh (by have := HPp.out; omega), by go_num, bg3, ?_, hx3⟩
            rw [chsV_succ, HQ.out]; exact hw3
           case measure => simp [intOf]; omega
         . have hx1 := hnx.drew.alloc (.cells #[ii q0, ii q1, ii q2] 192)
           have hw1 := (owns_nx3 hw (Nx.refl wr).drew).alloc (.cells #[ii q0, ii q1, ii q2] 192)
           have bz := (bg.nx (Nx.refl wr).drew).alloc (.cells #[ii q0, ii q1, ii q2] 192)
           have HNW := qh (news3 wr.drew 192 (ii q0) (ii q1) (ii q2))
           have hlt := bg.lt
           refine cSt fun K hK => ?_
           go_simp
           refine hK.out _ _ (by exact ⟨(hx1.cell (p := ⟨b, off + p, none⟩) hbw).trans m0, (hx1.cell (p := ⟨b, off + (p + 1), none⟩) hbw).trans m1, (hx1.cell (p := ⟨b, off + (p + 2), none⟩) hbw).trans m2⟩) ?_
           clear hK K
           refine nZ ?_
           refine hPc fun K hK => ?_
           go_simp
           refine hK.out _ _ (by exact ⟨(hx1.cell (p := ⟨b, off + p, none⟩) hbw).trans m0, (hx1.cell (p := ⟨b, off + (p + 1), none⟩) hbw).trans m1, (hx1.cell (p := ⟨b, off + (p + 2), none⟩) hbw).trans m2⟩) ?_
           clear hK K
           refine nZ ?_
           change HP _ _ _ _ _ _ (wr.drew.alloc (.cells #[ii q0, ii q1, ii q2] 192))
           generalize wr.drew.alloc (.cells #[ii q0, ii q1, ii q2] 192) = wz at *
           refine hPc fun K hK => ?_
           refine wp_append_own wz _ _ 120 rfl w1.heap.size 192 i0 _ 3 24 underlying120 hi0 hz0 hz1 hz2 rfl oM v k _ rfl hw1 ⟨wr.heap.size, 0, none⟩ 1 1 [ii q0, ii q1, ii q2] rfl rfl HNW.out HO.out (by unfold maxLen; omega) oM hx1.size ?_
           intro v2 w2 hw2 hg2 _
           obtain ⟨g2, cp2, rfl, _, _⟩ := hw2.form oM
           have hx2 : Nx w1 w2 := Below.grown hx1 hg2 hx1.size (fun k hk => (hw1.lt k hk).1)
           have bg2 : Box w2 w1.heap.size 122 #[ii n0, ii n1, ii n2, v] := bz.grown hg2 (owns_ne hw1 bz)
           refine hK.out _ _ (by exact ⟨(hx2.cell (p := ⟨b, off + p, none⟩) hbw).trans m0, (hx2.cell (p := ⟨b, off + (p + 1), none⟩) hbw).trans m1, (hx2.cell (p := ⟨b, off + (p + 2), none⟩) hbw).trans m2⟩) ?_
           clear hK K
           refine nZ ?_
           refine hPr ?_
           obtain ⟨_, _, _, d3⟩ := bg2.d4
           have f3 := bg2.frozen 3
           refine hPc fun K hK => ?_
           go_simp
           have hx3 := hx2.setCell (p := ⟨w1.heap.size, 3, none⟩) hgG (sC (some ⟨g2, 0, none⟩) (k + 1) cp2)
           refine hK.out _ _ (by exact ⟨(hx3.cell (p := ⟨b, off + p, none⟩) hbw).trans m0, (hx3.cell (p := ⟨b, off + (p + 1), none⟩) hbw).trans m1, (hx3.cell (p := ⟨b, off + (p + 2), none⟩) hbw).trans m2⟩) ?_
           clear hK K
           refine nZ ?_
           refine HP.done ?_
           clear hw1a hw1b hw1c hw2a hw2b hw3a hw3b hw4a hw4b
           have bg3 := bg2.set 3 (sC (some ⟨g2, 0, none⟩) (k + 1) cp2)
           have hw3 := owns_far (u := (sC (some ⟨g2, 0, none⟩) (k + 1) cp2)) (i := 3) hw2 bg2
           clear d3 f3 c3
           go_wp2
           go_roundw
           case rel =>
            refine ⟨k + 1, p + 3, _, oM, qh (by have := HPp.out; omega), by go_num, bg3, ?_, hx3⟩
            rw [chsV_succ, HQ.out]; exact hw3
           case measure => simp [intOf]; omega
       . obtain rfl : p = ns.length := oM
         have hkN : k = ns.length / 3 - 1 := by have := HPp.out; omega
         have hlen := chOf_len ns k
         have hw' : wr.ownsRow w1.heap.size 192 3 v (chOf ns k).length (chsV (chOf ns k)) := by rw [hlen]; exact hw
         obtain ⟨A2, cp9, rfl, hSl⟩ := owns_slC hw'
         have HQ4 := qh (show sgOf ns = (n0, n1, n2, chOf ns k) by unfold sgOf; rw [Hn0.out, Hn1.out, Hn2.out, <- hkN])
         have hcl9 : (chOf ns k).length <= 1048576 := by rw [hlen]; have := HNL.out; omega
         have bw := b1.nx hnx
         have hxr := hxw.trans hnx
         have hgl : w.heap.size < w1.heap.size := b1.lt
         clear hw hw' hlen hkN
         obtain ⟨x0, x1, x2, x3⟩ := bg.d4
         go_wp2_with fail
         refine (specSegOK_c n0 n1 n2 A2 cp9 _ (chOf ns k) _ hSl.row nle hcl9).mono ?_
         rintro e w5 ⟨rfl, hnx5⟩
         have b5 := bw.nx hnx5
         have bg5 := bg.nx hnx5
         have hx5 := hxr.trans hnx5
         have hS5 := hSl.nx hnx5
         clear x0 x1 x2 x3
         obtain ⟨x0, x1, x2, x3⟩ := bg5.d4
         cases hf : segB n0 n1 n2 (chOf ns k) with
         | false =>
           have HF := qh (rdG_no HN.out (by unfold g4B; rw [HQ4.out]; exact hf))
           clear hf
           obtain ⟨c0, c1, c2, c3⟩ := b5.d4
           have f0 := b5.frozen 0
           have f1 := b5.frozen 1
           have f2 := b5.frozen 2
           have f3 := b5.frozen 3
           go_wp2
           have q := (put4_box b5 (ii 0) (ii 0) (ii 0) (nsl))
           have hnf := (put4_nx hx5 (Nat.le_refl w.heap.size) (ii 0) (ii 0) (ii 0) (nsl))
           change bodyPost _ _ _ _ _ (put4 w5 w.heap.size (ii 0) (ii 0) (ii 0) (nsl))
           change Box (put4 w5 w.heap.size (ii 0) (ii 0) (ii 0) (nsl)) _ _ _ at q
           generalize put4 w5 w.heap.size (ii 0) (ii 0) (ii 0) (nsl) = Wf at *
           obtain ⟨g0, g1, g2, g3⟩ := q.d4
           exact bodyPost_ret (v := .tuple #[.agg #[ii 0, ii 0, ii 0, nsl], .bool false]) (by simp [results, results197, go_sem, g0, g1, g2, g3]) rfl (RetST.no HF.out hnf)
           | true =>
           have HF := qh (rdG_yes HN.out HOL.out (by unfold g4B; rw [HQ4.out]; exact hf))
           clear hf
           obtain ⟨c0, c1, c2, c3⟩ := b5.d4
           have f0 := b5.frozen 0
           have f1 := b5.frozen 1
           have f2 := b5.frozen 2
           have f3 := b5.frozen 3
           go_wp2
           have q := (put4_box b5 (ii n0) (ii n1) (ii n2) (sC A2 (chOf ns k).length cp9))
           have hnf := (put4_nx hx5 (Nat.le_refl w.heap.size) (ii n0) (ii n1) (ii n2) (sC A2 (chOf ns k).length cp9))
           have hsf := (hS5.put4 hgl (ii n0) (ii n1) (ii n2) (sC A2 (chOf ns k).length cp9))
           change Sl (put4 w5 w.heap.size (ii n0) (ii n1) (ii n2) (sC A2 (chOf ns k).length cp9)) _ _ _ _ _ at hsf
           change bodyPost _ _ _ _ _ (put4 w5 w.heap.size (ii n0) (ii n1) (ii n2) (sC A2 (chOf ns k).length cp9))
           change Box (put4 w5 w.heap.size (ii n0) (ii n1) (ii n2) (sC A2 (chOf ns k).length cp9)) _ _ _ at q
           generalize put4 w5 w.heap.size (ii n0) (ii n1) (ii n2) (sC A2 (chOf ns k).length cp9) = Wf at *
           obtain ⟨g0, g1, g2, g3⟩ := q.d4
           exact bodyPost_ret (v := .tuple #[.agg #[ii n0, ii n1, ii n2, sC A2 (chOf ns k).length cp9], .bool true]) (by simp [results, results197, go_sem, g0, g1, g2, g3]) rfl (RetST.yes HF.out HQ4.out (hsf.low oM) hnf)
end
end Go.Proofs.YtieoiailjjnnoaaGreatDoor
