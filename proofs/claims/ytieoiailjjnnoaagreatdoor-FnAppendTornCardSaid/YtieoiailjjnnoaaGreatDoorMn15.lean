/-
  Texts of the proof, in their order.
  Conditions: those of each.
-/
import Derived.Test.YtieoiailjjnnoaaGreatDoorMn14
import Derived.Deep.QuietTactic
import Derived.BigQuiet
import Derived.Laws.StructEq
import Derived.Test.YtieoiailjjnnoaaGreatDoorRows
import Derived.LaidHandle
import Derived.Lay
import Derived.HandedShaped
import Derived.Shelf.Vars
import Derived.ProofKit
import Derived.LaidMore
import Derived.OpenShut
import Derived.OpenVars
import Derived.Stop.Joined
import Derived.Stop.LaidTwo
import Derived.Lib.LaidTab
import Derived.LaidLaws
import Derived.ShutString
import Derived.ChangeOld
import Derived.Below
namespace Go.Proofs.YtieoiailjjnnoaaGreatDoor
set_option linter.unusedVariables false
open _root_.Go.Proofs.Tryz
set_option maxRecDepth 100000
set_option maxHeartbeats 16000000
section
open Go.RowKit
theorem wOk_slot {s : Int} {t : BA} (hs : s = 0 \/ s = 1) (ht : t.size <= 300) : [(1 - s, t)].all wOk = true := by
 have h1 : secB (1 - s) = true := by
  unfold secB
  rcases hs with rfl | rfl <;> decide
 have h2 : sOk t = true := decide_eq_true ht
 simp [wOk, h1, h2]
theorem SlS.putT {w : World} {lo n gd i : Nat} {A : Option Addr} {ss : List BA} {t : TypeId} {cs : Array Value} (h : SlS w lo A n ss) (hb : Box w gd t cs) (hne : 9 ≠ t) (v : Value) : SlS (w.setCell ⟨gd, i, none⟩ v) lo A n ss :=
 ⟨h.1, fun hn => by obtain ⟨g, e, hl, ho⟩ := h.2 hn; exact ⟨g, e, hl, Own.far ho (Own.ne_type (box_own hb) ho hne) v⟩⟩
theorem setRg (w : World) (p : Addr) (v : Value) : Rg p.block (p.block + 1) w (w.setCell p v) := (Rg.of_nx (Nx.refl w)).setCell nle (Nat.lt_succ_self _) v
theorem vaultDisk_c (g : Nat) (A : Option Addr) (n c B k0 : Nat) (ys : List Nat) (w : World) (hb : SrcR w g A n c k0) (h : U8s w B A n ys) (hB : B <= g) (hn : n <= 1048576) (hk0 : k0 <= 700000) :
 Calls Tryz.prog 64 #[.pointer (some ⟨g, 0, none⟩)] w fun e w' => ∃ (A1 : Option Addr) (c1 : Nat) (A2 : Option Addr) (c2 : Nat) (ss : List BA) (V : Vl), e = .returned (.agg #[sC A1 64 c1, sC A2 0 c2]) /\ Dv ss V 41 /\ SlS w' w.heap.size A1 64 ss /\ SrcR w' g A n c (k0 + 700) /\ Rg g (g + 1) w w' := by
 have hz0 := hb.lt
 have zr := Box.new w 35 #[nsl, nsl]
 have zt : Rg g (g + 1) w (w.alloc (.cells #[nsl, nsl] 35)) := Rg.of_nx ((Nx.refl w).alloc _)
 have zs := hb.nx ((Nx.refl w).alloc (.cells #[nsl, nsl] 35))
 go_enter func64, ntmps64
 go_wp2_with fail
 generalize w.alloc (.cells #[nsl, nsl] 35) = W at *
 clear hb
 refine (content_c g A n c B k0 ys W zs (h.rg zt hB (Nat.le_of_lt hz0)) hB hn oM).mono ?_
 rintro e w1 ⟨Ac, cc, xs, rfl, hx8, hsm, hSc, zs2, rr⟩
 have hWl := zr.lt
 replace zr := zr.rg rr (.inr oM)
 replace zt := zt.trans rr
 replace zs := zs2
 clear rr zs2
 have hc := hsm.cont hx8
 have hDv := Dv.fm hc
 have hF := l05Format_c Ac cc w1.heap.size xs w1 hSc.row nle hc
 rw [hx8] at hF
 have HF := qh hF
 clear hF hSc hx8 hsm hc
 go_wp2_with fail
 refine HF.out.mono ?_
 rintro e w2 ⟨Ad, nn, cd, A2, mm, c2, rfl, zS, hW, hk⟩
 obtain rfl : 64 = nn := (fmT_len xs 8).symm.trans zS.1
 obtain rfl : 0 = mm := hW.1
 have hlo := zr.lt
 clear hW HF
 replace zr := zr.nx hk
 replace zt := zt.trans (Rg.of_nx hk)
 replace zs := zs.nx hk
 clear hk
 replace zS := zS.low (lo' := w.heap.size + 1) oM
 have zd := Box.new w2 35 #[sC Ad 64 cd, sC A2 0 c2]
 have hk := (Nx.refl w2).alloc (.cells #[sC Ad 64 cd, sC A2 0 c2] 35)
 have hgd : w.heap.size < w2.heap.size := zr.lt
 replace zr := zr.nx hk
 replace zt := zt.trans (Rg.of_nx hk)
 replace zs := zs.nx hk
 replace zS := zS.nx hk
 clear hk
 go_wp2_with fail
 generalize w2.alloc (.cells #[sC Ad 64 cd, sC A2 0 c2] 35) = w3 at *
 generalize w2.heap.size = gd at *
 refine (size_c g A n c (k0 + 24) w3 zs hn).mono ?_
 rintro e w4 ⟨m, rfl, hm, hk⟩
 replace zr := zr.nx hk
 replace zt := zt.trans (Rg.of_nx hk)
 replace zs := zs.nx hk
 replace zS := zS.nx hk
 replace zd := zd.nx hk
 clear hk
 obtain ⟨m5, Hm5⟩ := nM (m + 5 : Nat)
 have hw5 : IntKind.i64.wrap ((m : Int) + 5) = (m5 : Int) := by have := Hm5.out; rw [IntWalk.i64_in _ oM]; omega
 go_wp2_with fail
 refine (nextR_c m5 g A n c (k0 + 24) B ys w4 (by have := Hm5.out; omega) (by have := Hm5.out; omega) zs (h.rg zt hB (Nat.le_of_lt hz0)) hB hn oM).mono ?_
 rintro e w5 ⟨j0, rfl, hj0, zs2, rr⟩
 replace zr := zr.rg rr (.inr oM)
 replace zt := zt.trans rr
 replace zs := zs2
 replace zS := zS.rg rr oM
 replace zd := zd.rg rr (.inr oM)
 clear rr zs2
 have hj20 : j0 <= 20 := by have := Hm5.out; omega
 clear hw5 hj0
 go_wp2_with fail
 go_loopw [4, 5] (fun tm i wr => ∃ (T j : Nat) (Ad : Option Addr) (cd : Nat) (A2 : Option Addr) (c2 : Nat) (ss : List BA) (V : Vl), j <= 20 /\ tm = ii (T : Int) /\ i = ii (j : Int) /\ T <= 9 * (20 - j) /\ Hid (Dv ss V (1 + 2 * ((20 - j : Nat) : Int))) /\ SrcR wr g A n c (k0 + 27 + 30 * (20 - j)) /\ Rg g (g + 1) w wr /\ Box wr w.heap.size 35 #[nsl, nsl] /\ Box wr gd 35 #[sC Ad 64 cd, sC A2 0 c2] /\ SlS wr (w.heap.size + 1) Ad 64 ss) (fun _ i _ => (intOf i).toNat)
 case atStart => exact ⟨0, j0, Ad, cd, A2, c2, _, _, hj20, rfl, rfl, oM, qh (hDv.more oM), zs.more oM, zt, zr, zd, zS⟩
 case round =>
  clear zs zt zr zd zS hDv
  obtain ⟨T, j, Ad, cd, A2, c2, ss, V, hj, rfl, rfl, hT, HD, zs, zt, zr, zd, zS⟩ := hrel
  obtain ⟨K, HK⟩ := nM (1 + 2 * ((20 - j : Nat) : Int) : Int)
  rw [HK.out] at HD
  obtain ⟨k1, Hk1⟩ := nM (k0 + 27 + 30 * (20 - j))
  rw [Hk1.out] at zs
  have hK : K <= 41 := by have := HK.out; omega
  have hk1 : k1 <= 800000 := by have := Hk1.out; omega
  by_cases hlt : 0 < j
  case neg =>
   have HJ := qh (show j = 0 by omega)
   have hdj : decide (0 < (j : Int)) = false := by simp; omega
   have hdj2 : decide (0 < j) = false := by simp; omega
   clear hlt
   have zdy0 := zd.c0
   have zdy1 := zd.c1
   have zdyl := zd.lt
   have hdi := HD.out.disk
   have h64 := (diskB_len64 hdi).1
   go_wp2_with fail
   clear zdy0 zdy1 zdyl
   refine (l01Own_c Ad A2 64 cd 0 c2 wr.heap.size ss [] wr zS.strs ⟨rfl, fun h => absurd h oM⟩ nle oM oM).mono ?_
   rintro e w6 ⟨Ao, nn, co, Ao2, mm, co2, rfl, hS6, hW6, hk⟩
   obtain rfl : 64 = nn := h64.symm.trans hS6.1
   obtain rfl : 0 = mm := hW6.1
   have hle := zr.lt
   have zr6 := zr.nx hk
   have zt6 := zt.trans (Rg.of_nx hk)
   have zs6 := zs.nx hk
   have y0 := zr6.c0
   have y1 := zr6.c1
   have f0 := zr6.frozen 0
   have f1 := zr6.frozen 1
   have rl := zr6.lt
   go_wp2
   have rq := (zr6.set0 (sC Ao 64 co)).set1 (sC Ao2 0 co2)
   have rS := ((hS6.far (p := ⟨w.heap.size, 0, none⟩) hle (sC Ao 64 co)).far (p := ⟨w.heap.size, 1, none⟩) hle (sC Ao2 0 co2)).low (lo' := w.heap.size) oM
   have rs := (zs6.farU (p := ⟨w.heap.size, 0, none⟩) sM (sC Ao 64 co)).farU (p := ⟨w.heap.size, 1, none⟩) sM (sC Ao2 0 co2)
   have rt := (zt6.setNew8 (p := ⟨w.heap.size, 0, none⟩) (by simp) (sC Ao 64 co)).setNew8 (p := ⟨w.heap.size, 1, none⟩) (by simp) (sC Ao2 0 co2)
   generalize (w6.setCell ⟨w.heap.size, 0, none⟩ (sC Ao 64 co)).setCell ⟨w.heap.size, 1, none⟩ (sC Ao2 0 co2) = Wf at *
   have q0 := rq.c0
   have q1 := rq.c1
   exact bodyPost_ret (v := .agg #[sC Ao 64 co, sC Ao2 0 co2]) (by simp [results, results64, go_sem, q0, q1]) rfl ⟨Ao, co, Ao2, co2, ss, V, rfl, HD.out.more oM, rS, rs.more (by have := Hk1.out; omega), rt⟩
  have hdj : decide (0 < (j : Int)) = true := by simp; omega
  have hdj2 : decide (0 < j) = true := by simp; omega
  have hgdl := zd.lt
  have zdy0 := zd.c0
  have zdy1 := zd.c1
  have zdyl := zd.lt
  go_wp2_with fail
  clear zdy0 zdy1 zdyl
  refine (nextFrame_c g A n c B k1 ys Ad cd A2 c2 (w.heap.size + 1) ss V K wr zs (h.rg zt hB (Nat.le_of_lt hz0)) hB hn oM zS HD.out oM).mono ?_
  rintro e w6 ⟨p, q1, q2, q3, rfl, hf, zs2, rr⟩
  replace zs := zs2
  replace zt := zt.trans rr
  replace zr := zr.rg rr (.inr oM)
  replace zd := zd.rg rr (.inr oM)
  replace zS := zS.rg rr oM
  clear rr zs2
  have zf := Box.new w6 55 #[ii p, ii (q1 : Int), ii (q2 : Int), ii (q3 : Int)]
  have hk := (Nx.refl w6).alloc (.cells #[ii p, ii (q1 : Int), ii (q2 : Int), ii (q3 : Int)] 55)
  have hgf : gd < w6.heap.size := zd.lt
  replace zs := zs.nx hk
  replace zt := zt.trans (Rg.of_nx hk)
  replace zr := zr.nx hk
  replace zd := zd.nx hk
  replace zS := zS.nx hk
  clear hk
  go_wp2_with fail
  generalize w6.alloc (.cells #[ii p, ii (q1 : Int), ii (q2 : Int), ii (q3 : Int)] 55) = w7 at *
  generalize w6.heap.size = gf at *
  refine (nextR_c 9 g A n c (k1 + 18) B ys w7 oM oM zs (h.rg zt hB (Nat.le_of_lt hz0)) hB hn oM).mono ?_
  rintro e w8 ⟨x, rfl, hx, zs2, rr⟩
  replace zs := zs2
  replace zt := zt.trans rr
  replace zr := zr.rg rr (.inr oM)
  replace zd := zd.rg rr (.inr oM)
  replace zS := zS.rg rr oM
  replace zf := zf.rg rr (.inr oM)
  clear rr zs2
  obtain ⟨T2, HT2⟩ := nM (T + x : Nat)
  have hw2 : IntKind.i64.wrap ((T : Int) + (x : Int)) = (T2 : Int) := by have := HT2.out; rw [IntWalk.i64_in _ oM]; omega
  have hT2 : T2 <= 9 * (20 - (j - 1)) := by have := HT2.out; omega
  have HFr := qh (show frameB p (q1 : Int) (q2 : Int) (T2 : Int) = true by have := HT2.out; have := hf; unfold frameB inB; simp; omega)
  obtain ⟨zfy0, zfy1, zfy2, zfy3⟩ := zf.d4
  have zfyl := zf.lt
  have zff := zf.frozen 3
  have hgdf : gd ≠ gf := oM
  have hgfd : gf ≠ gd := oM
  have zdy0 := zd.c0
  have zdy1 := zd.c1
  have zdyl := zd.lt
  go_wp2_with fail
  clear zdy0 zdy1 zdyl
  clear zfy0 zfy1 zfy2 zfy3 zfyl
  clear zff hw2
  have zf2 := zf.set 3 (ii (T2 : Int))
  simp only [List.setIfInBounds_toArray, List.set_cons_zero, List.set_cons_succ] at zf2
  replace zs := zs.farU (p := ⟨gf, 3, none⟩) sM (ii (T2 : Int))
  replace zt := zt.setNew8 (p := ⟨gf, 3, none⟩) sM (ii (T2 : Int))
  replace zr := zr.far (p := ⟨gf, 3, none⟩) sM (ii (T2 : Int))
  replace zd := zd.far (p := ⟨gf, 3, none⟩) sM (ii (T2 : Int))
  replace zS := zS.putT (i := 3) zf dC (ii (T2 : Int))
  clear zf
  generalize w8.setCell ⟨gf, 3, none⟩ (ii (T2 : Int)) = w9 at *
  obtain ⟨ss2, V2, hse, hl2, hn2, hw2, hD2⟩ := HD.out.app oM HFr.out
  have HSE := qh hse
  have HD2 := qh hD2
  have HW2 := qh hw2
  clear hse hD2 hw2
  refine (l05Append_c Ad A2 64 cd 0 c2 w9.heap.size ss p (q2 : Int) (T2 : Int) q1 w9 zS.strs ⟨rfl, fun h => absurd h oM⟩ nle HD.out.disk HFr.out).mono ?_
  rintro e w10 ⟨Ax, nn, cx, Ax2, mm, cx2, rfl, hXS, hXW, hk⟩
  obtain rfl : 64 = nn := hl2.symm.trans hXS.1
  generalize apP ss p q1 (q2 : Int) (T2 : Int) = R at *
  obtain ⟨⟨R1, R2⟩, cR⟩ := R
  simp only at *
  obtain rfl : R2.length = mm := hXW.1
  clear zS zf2
  replace zs := zs.nx hk
  replace zt := zt.trans (Rg.of_nx hk)
  replace zr := zr.nx hk
  replace zd := zd.nx hk
  clear hk
  have hk := (Nx.refl w10).alloc (.cells #[sC Ax 64 cx, sC Ax2 R2.length cx2] 35)
  have hXS2 := hXS.below hk nle
  have hXW2 := hXW.below hk nle
  have hXl : w10.heap.size <= (w10.alloc (.cells #[sC Ax 64 cx, sC Ax2 R2.length cx2] 35)).heap.size := hk.size
  clear hXS hXW
  replace zs := zs.nx hk
  replace zt := zt.trans (Rg.of_nx hk)
  replace zr := zr.nx hk
  replace zd := zd.nx hk
  clear hk
  go_wp2_with fail
  generalize w10.alloc (.cells #[sC Ax 64 cx, sC Ax2 R2.length cx2] 35) = w11 at *
  refine (l01Flush_c Ax Ax2 cx R2.length cx2 w10.heap.size R1 R2 w11 hXS2 hXW2 hXl oM HW2.out).mono ?_
  rintro e w12 ⟨An, nn, cn, An2, mm, cn2, rfl, zS, hW, hk⟩
  rw [HSE.out] at zS
  obtain rfl : 64 = nn := (diskB_len64 HD2.out.disk).1.symm.trans zS.1
  obtain rfl : 0 = mm := hW.1
  have hdl := zd.lt
  clear hW hXS2 hXW2
  replace zs := zs.nx hk
  replace zt := zt.trans (Rg.of_nx hk)
  replace zr := zr.nx hk
  replace zd := zd.nx hk
  clear hk
  have zdy0 := zd.c0
  have zdy1 := zd.c1
  have zdyl := zd.lt
  have zdf0 := zd.frozen 0
  have zdf1 := zd.frozen 1
  go_wp2_with fail
  clear zdy0 zdy1 zdyl
  clear zdf0 zdf1
  replace zs := zs.farU (p := ⟨gd, 0, none⟩) sM (sC An 64 cn)
  replace zt := zt.setNew8 (p := ⟨gd, 0, none⟩) sM (sC An 64 cn)
  replace zr := zr.far (p := ⟨gd, 0, none⟩) sM (sC An 64 cn)
  replace zS := zS.far (p := ⟨gd, 0, none⟩) hdl (sC An 64 cn)
  replace zs := zs.farU (p := ⟨gd, 1, none⟩) sM (sC An2 0 cn2)
  replace zt := zt.setNew8 (p := ⟨gd, 1, none⟩) sM (sC An2 0 cn2)
  replace zr := zr.far (p := ⟨gd, 1, none⟩) sM (sC An2 0 cn2)
  replace zS := zS.far (p := ⟨gd, 1, none⟩) hdl (sC An2 0 cn2)
  replace zd := (zd.set0 (sC An 64 cn)).set1 (sC An2 0 cn2)
  replace zS := zS.low (lo' := w.heap.size + 1) oM
  generalize (w12.setCell ⟨gd, 0, none⟩ (sC An 64 cn)).setCell ⟨gd, 1, none⟩ (sC An2 0 cn2) = w13 at *
  refine (chanceU_c 4 g A n c (k1 + 21) B ys w13 oM oM zs (h.rg zt hB (Nat.le_of_lt hz0)) hB hn oM).mono ?_
  rintro e w14 ⟨ch, rfl, zs2, rr⟩
  replace zs := zs2
  replace zt := zt.trans rr
  replace zr := zr.rg rr (.inr oM)
  replace zd := zd.rg rr (.inr oM)
  replace zS := zS.rg rr oM
  clear rr zs2
  cases ch with
  | false =>
    go_wp2
    go_roundw
    case rel => exact ⟨T2, j - 1, An, cn, An2, cn2, ss2, V2, oM, rfl, by go_num, hT2, qh (HD2.out.more (by have := HK.out; omega)), zs.more (by have := Hk1.out; omega), zt, zr, zd, zS⟩
    case measure => simp [intOf]; omega
  | true =>
    have zdy0 := zd.c0
    have zdy1 := zd.c1
    have zdyl := zd.lt
    go_wp2_with fail
    clear zdy0 zdy1 zdyl
    obtain ⟨vg, vb, vp, vt, va0, vc0, xs, va1, vc1, ms, va2, vc2, gs, va3, vc3, im⟩ := V2
    have hVB := ldV_b HD2.out.disk
    rw [HD2.out.ld.v] at hVB
    have HVB := qh hVB
    clear hVB
    have HV := l05Load_c An An2 64 cn 0 cn2 w14.heap.size ss2 [] w14 zS.strs ⟨rfl, fun h => absurd h oM⟩ nle oM oM HD2.out.disk
    rw [HD2.out.ld.v] at HV
    have HV := qh HV
    refine HV.out.mono ?_
    clear HV
    intro e w15 hR
    obtain ⟨Bx, bx, Bm, bm, Bg, bg, gs2, Bi, bi, mid, rfl, hs, zP, hk⟩ := hR.un
    clear hR
    have HVN := qh (HVB.out.s hs).n
    have hPl : w14.heap.size <= w15.heap.size := hk.size
    have hg14 : g + 1 <= w14.heap.size := by have := zt.size; omega
    replace zs := zs.nx hk
    replace zt := zt.trans (Rg.of_nx hk)
    replace zr := zr.nx hk
    replace zd := zd.nx hk
    replace zS := zS.nx hk
    clear hk
    have zv := Box.new w15 49 #[ii vg, ii vb, ii vp, ii vt, sC Bx xs.length bx, sC Bm ms.length bm, sC Bg gs2.length bg, sC Bi im.length bi]
    have hk := (Nx.refl w15).alloc (.cells #[ii vg, ii vb, ii vp, ii vt, sC Bx xs.length bx, sC Bm ms.length bm, sC Bg gs2.length bg, sC Bi im.length bi] 49)
    have hdv : gd < w15.heap.size := zd.lt
    replace zs := zs.nx hk
    replace zt := zt.trans (Rg.of_nx hk)
    replace zr := zr.nx hk
    replace zd := zd.nx hk
    replace zS := zS.nx hk
    replace zP := zP.nx hk
    clear hk
    obtain ⟨zvy0, zvy1, zvy2, zvy3, zvy4, zvy5, zvy6, zvy7⟩ := zv.e8
    have zvyl := zv.lt
    by_cases hpt : vp = vt
    case neg =>
     have hpd : decide (vp = vt) = false := decide_eq_false hpt
     have hpd2 : (vp == vt) = false := by simp [hpt]
     clear hpt
     go_wp2
     go_roundw
     case rel => exact ⟨T2, j - 1, An, cn, An2, cn2, ss2, _, oM, rfl, by go_num, hT2, qh (HD2.out.more (by have := HK.out; omega)), zs.more (by have := Hk1.out; omega), zt, zr, zd, zS⟩
     case measure => simp [intOf]; omega
    subst hpt
    go_wp2_with fail
    clear zvy0 zvy1 zvy2 zvy3 zvy4 zvy5 zvy6 zvy7 zvyl
    generalize w15.alloc (.cells #[ii vg, ii vb, ii vp, ii vp, sC Bx xs.length bx, sC Bm ms.length bm, sC Bg gs2.length bg, sC Bi im.length bi] 49) = w16 at *
    generalize w15.heap.size = gv at *
    refine (l05Retained_c ⟨vg, vb, vp, vp, Bx, bx, xs, Bm, bm, ms, Bg, bg, gs2, Bi, bi, im⟩ w16.heap.size w16 zP.own.vlt nle HVN.out).mono ?_
    rintro e w17 ⟨Al, cl, rfl, _, zL, hk⟩
    have hg16 : g + 1 <= w16.heap.size := by have := zt.size; omega
    have hlen : (retL vb gs2).length = gs2.length + 1 := retL_len vb gs2
    have hg2 : gs2.length = gs.length := hs.len
    have hg20 := HVB.out.gs
    simp only at hg2 hg20
    have hvl := zv.lt
    replace zs := zs.nx hk
    replace zt := zt.trans (Rg.of_nx hk)
    replace zr := zr.nx hk
    replace zd := zd.nx hk
    replace zS := zS.nx hk
    replace zP := zP.nx hk
    replace zv := zv.nx hk
    clear hk
    obtain ⟨l1, Hl1⟩ : ∃ l1, Hid (l1 = gs2.length + 1) := ⟨_, qh rfl⟩
    rw [show (retL vb gs2).length = l1 by rw [hlen]; exact Hl1.out.symm]
    go_wp2_with fail
    refine (nextM_c l1 g A n c (k1 + 24) B ys w17 (by have := Hl1.out; omega) (by have := Hl1.out; omega) zs (h.rg zt hB (Nat.le_of_lt hz0)) hB hn oM).mono ?_
    rintro e w18 ⟨y, rfl, hy, zs2, rr⟩
    replace zs := zs2
    replace zt := zt.trans rr
    replace zr := zr.rg rr (.inr oM)
    replace zd := zd.rg rr (.inr oM)
    replace zS := zS.rg rr oM
    replace zP := zP.rg rr (.inr oM)
    replace zv := zv.rg rr (.inr oM)
    replace zL := (zL.sr.rg rr (.inr oM)).sl
    clear rr zs2
    have HL1 := Hl1.out
    have hret : retL vb gs2 = retL vb gs := retL_v hs.gs vb
    rw [hret] at zL
    have zLi : Ins w18 w18.heap.size Al (retL vb gs) := zL.row
    obtain ⟨lb, lf, rfl, hlb, hlc⟩ := zLi.at_ (k := y) (by rw [retL_len]; omega)
    have hy1 : (y : Int) < (l1 : Int) := oM
    have hy2 : (0 : Int) <= (y : Int) := oM
    have HRT := qh (isRet_at (b := vb) (gs := gs) (k := y) oM)
    generalize (retL vb gs).getD y 0 = t at hlc HRT
    obtain ⟨hsu, hdv⟩ := HD2.out.aim oM rfl HRT.out
    have HSU := qh hsu
    have HDV := qh hdv
    clear hsu hdv HL1 hlen hret zLi
    obtain ⟨zvy0, zvy1, zvy2, zvy3, zvy4, zvy5, zvy6, zvy7⟩ := zv.e8
    have zvyl := zv.lt
    have zvf := zv.frozen 3
    have zdy0 := zd.c0
    have zdy1 := zd.c1
    have zdyl := zd.lt
    have hdvl : gd ≠ gv := oM
    have hdvl2 : gv ≠ gd := oM
    go_wp2_with fail
    clear zdy0 zdy1 zdyl
    clear zvy0 zvy1 zvy2 zvy3 zvy4 zvy5 zvy6 zvy7 zvyl
    clear zvf hlc hlb zL
    replace zs := zs.farU (p := ⟨gv, 3, none⟩) sM (ii t)
    replace zt := zt.setNew8 (p := ⟨gv, 3, none⟩) sM (ii t)
    replace zr := zr.far (p := ⟨gv, 3, none⟩) sM (ii t)
    replace zd := zd.far (p := ⟨gv, 3, none⟩) hdvl (ii t)
    replace zS := zS.putT (i := 3) zv dC (ii t)
    replace zP := zP.rg (setRg w18 ⟨gv, 3, none⟩ (ii t)) (.inl nle)
    clear zv
    generalize w18.setCell ⟨gv, 3, none⟩ (ii t) = w19 at *
    refine (l04Put_c An An2 64 cn 0 cn2 w19.heap.size ss2 [] vg vb vp t Bx Bm bx bm xs ms w19 zS.strs ⟨rfl, fun h => absurd h oM⟩ zP.tab.sl.row zP.mks.sl.row nle oM oM oM (by rw [readP_nil]; have := sOk_at (diskB_len64 HD2.out.disk).2.2.1 0; omega) (by rw [readP_nil]; have := sOk_at (diskB_len64 HD2.out.disk).2.2.1 1; omega) _ _ HD2.out.ld.nu HSU.out).mono ?_
    rintro e w20 ⟨A5, n5, c5, rfl, hW5, hk⟩
    obtain rfl : 1 = n5 := hW5.1
    replace zs := zs.nx hk
    replace zt := zt.trans (Rg.of_nx hk)
    replace zr := zr.nx hk
    replace zd := zd.nx hk
    replace zS := zS.nx hk
    replace zP := zP.nx hk
    clear hk
    go_wp2_with fail
    refine (l01Flush_c An A5 cn 1 c5 w20.heap.size ss2 _ w20 zS.strs hW5.wrs nle oM (wOk_slot HD2.out.ld.slot (supT_size HSU.out))).mono ?_
    rintro e w21 ⟨Aq, nn, cq, Aq2, mm, cq2, rfl, zS2, hW, hk⟩
    replace zS2 : SlS w21 w20.heap.size Aq nn (ss2.set (1 - sltV ss2 []).toNat (supT (vg + 1) vb vp t xs ms)) := zS2
    obtain rfl : 64 = nn := (diskB_len64 HDV.out.disk).1.symm.trans zS2.1
    obtain rfl : 0 = mm := hW.1
    clear hW hW5 zS zP
    have hdl := zd.lt
    replace zs := zs.nx hk
    replace zt := zt.trans (Rg.of_nx hk)
    replace zr := zr.nx hk
    replace zd := zd.nx hk
    clear hk
    have zS := zS2
    clear zS2
    have zdy0 := zd.c0
    have zdy1 := zd.c1
    have zdyl := zd.lt
    have zdf0 := zd.frozen 0
    have zdf1 := zd.frozen 1
    go_wp2_with fail
    clear zdy0 zdy1 zdyl
    clear zdf0 zdf1
    replace zs := zs.farU (p := ⟨gd, 0, none⟩) sM (sC Aq 64 cq)
    replace zt := zt.setNew8 (p := ⟨gd, 0, none⟩) sM (sC Aq 64 cq)
    replace zr := zr.far (p := ⟨gd, 0, none⟩) sM (sC Aq 64 cq)
    replace zS := zS.far (p := ⟨gd, 0, none⟩) hdl (sC Aq 64 cq)
    replace zs := zs.farU (p := ⟨gd, 1, none⟩) sM (sC Aq2 0 cq2)
    replace zt := zt.setNew8 (p := ⟨gd, 1, none⟩) sM (sC Aq2 0 cq2)
    replace zr := zr.far (p := ⟨gd, 1, none⟩) sM (sC Aq2 0 cq2)
    replace zS := zS.far (p := ⟨gd, 1, none⟩) hdl (sC Aq2 0 cq2)
    replace zd := (zd.set0 (sC Aq 64 cq)).set1 (sC Aq2 0 cq2)
    replace zS := zS.low (lo' := w.heap.size + 1) oM
    generalize (w21.setCell ⟨gd, 0, none⟩ (sC Aq 64 cq)).setCell ⟨gd, 1, none⟩ (sC Aq2 0 cq2) = w22 at *
    go_wp2
    go_roundw
    case rel => exact ⟨T2, j - 1, Aq, cq, Aq2, cq2, _, _, oM, rfl, by go_num, hT2, qh (HDV.out.more (by have := HK.out; omega)), zs.more (by have := Hk1.out; omega), zt, zr, zd, zS⟩
    case measure => simp [intOf]; omega
def RetWS (w : World) (ss : List BA) (ws : List (Int × BA)) (b p t : Int) (xs : List Int) (ms : List Mrk) (o : Option (U6 × Int)) (e : Ending) (w' : World) : Prop :=
 Nx w w' /\ (o = none -> e = .returned (.tuple #[.agg #[nsl, nsl], slE 1 19])) /\ (∀ u s, o = some (u, s) -> u.1 = 999999 -> e = .returned (.tuple #[.agg #[nsl, nsl], slE s 7])) /\
 ∀ u s, o = some (u, s) -> u.1 ≠ 999999 -> ∃ A n c A2 n2 c2, e = .returned (.tuple #[.agg #[sC A n c, sC A2 n2 c2], .nilIface]) /\ SlS w' w.heap.size A n (settleTo kpAll ss ws ws.length) /\ SlW w' w.heap.size A2 n2 ([] ++ [(1 - s, nxtS u b p t xs ms)])
section
variable {w w' : World} {ss : List BA} {ws : List (Int × BA)} {b p t : Int} {xs : List Int} {ms : List Mrk} {o : Option (U6 × Int)} {u : U6} {s : Int}
theorem RetWS.no (h : o = none) (hn : Nx w w') : RetWS w ss ws b p t xs ms o (.returned (.tuple #[.agg #[nsl, nsl], slE 1 19])) w' :=
 ⟨hn, (fun _ => rfl), (fun u s h2 => by rw [h] at h2; cases h2), fun u s h2 => by rw [h] at h2; cases h2⟩
theorem RetWS.full (h : o = some (u, s)) (h9 : u.1 = 999999) (hn : Nx w w') : RetWS w ss ws b p t xs ms o (.returned (.tuple #[.agg #[nsl, nsl], slE s 7])) w' :=
 ⟨hn, (fun h2 => by rw [h] at h2; cases h2), (fun u' s' h2 _ => by rw [h] at h2; cases h2; rfl), fun u' s' h2 h3 => by rw [h] at h2; cases h2; exact absurd h9 h3⟩
theorem RetWS.yes {A A2 : Option Addr} {n c n2 c2 : Nat} {R1 : List BA} (h : o = some (u, s)) (h9 : u.1 ≠ 999999 /\ R1 = settleTo kpAll ss ws ws.length) (hS : SlS w' w.heap.size A n R1) (hW : SlW w' w.heap.size A2 n2 ([] ++ [(1 - s, nxtS u b p t xs ms)])) (hn : Nx w w') :
 RetWS w ss ws b p t xs ms o (.returned (.tuple #[.agg #[sC A n c, sC A2 n2 c2], .nilIface])) w' :=
 ⟨hn, (fun h2 => by rw [h] at h2; cases h2), (fun u' s' h2 h3 => by rw [h] at h2; cases h2; exact absurd h3 h9.1), fun u' s' h2 _ => by rw [h] at h2; cases h2; rw [h9.2] at hS; exact ⟨A, n, c, A2, n2, c2, rfl, hS, hW⟩⟩
end
theorem withSuper_c (A A2 : Option Addr) (n c n2 c2 B : Nat) (ss : List BA) (ws : List (Int × BA)) (g b p t : Int) (Ax Am : Option Addr) (cx cm : Nat) (xs : List Int) (ms : List Mrk) (w : World) (a0 a1 : Addr) (h : Strs w B A n ss) (h2 : Wrs w B A2 n2 ws) (hs : Ins w B Ax xs) (hmk : Mks w B Am ms) (hB : B <= w.heap.size) (hD : diskB ss ws = true) (hO : superB g b p t xs ms = true)
 (hE : Er w a0 a1) (hM : Mx w) (hEt : Et w) (hT : Tab w) :
 Calls Tryz.prog 54 #[.agg #[sC A n c, sC A2 n2 c2], .agg #[ii g, ii b, ii p, ii t, sC Ax xs.length cx, sC Am ms.length cm]] w (RetWS w ss ws b p t xs ms (newU (rdU (readP ss ws 0)) (rdU (readP ss ws 1)))) := by
 have HD := qh hD
 have HO := qh hO
 clear hD hO
 obtain rfl : n = 64 := by rw [<- h.1]; exact (diskB_len64 HD.out).1
 have HL64 := qh (diskB_len64 HD.out).1
 have hn80 : n2 <= 80 := by rw [<- h2.1]; exact (diskB_len64 HD.out).2.1
 have HWo := qh (diskB_len64 HD.out).2.2.2
 have e0 : Box (((w.alloc (.cells #[sC A 64 c, sC A2 n2 c2] 35)).alloc (.cells #[ii g, ii b, ii p, ii t, sC Ax xs.length cx, sC Am ms.length cm] 26)).alloc (.cells #[nsl, nsl] 35)) w.heap.size 35 #[sC A 64 c, sC A2 n2 c2] := ((Box.new w _ _).alloc _).alloc _
 have b0 : Box (((w.alloc (.cells #[sC A 64 c, sC A2 n2 c2] 35)).alloc (.cells #[ii g, ii b, ii p, ii t, sC Ax xs.length cx, sC Am ms.length cm] 26)).alloc (.cells #[nsl, nsl] 35)) (w.heap.size + 1) 26 #[ii g, ii b, ii p, ii t, sC Ax xs.length cx, sC Am ms.length cm] := by have := (Box.new (w.alloc (.cells #[sC A 64 c, sC A2 n2 c2] 35)) 26 #[ii g, ii b, ii p, ii t, sC Ax xs.length cx, sC Am ms.length cm]).alloc (.cells #[nsl, nsl] 35); rwa [World.size_alloc] at this
 have r0 : Box (((w.alloc (.cells #[sC A 64 c, sC A2 n2 c2] 35)).alloc (.cells #[ii g, ii b, ii p, ii t, sC Ax xs.length cx, sC Am ms.length cm] 26)).alloc (.cells #[nsl, nsl] 35)) (w.heap.size + 1 + 1) 35 #[nsl, nsl] := by have := Box.new ((w.alloc (.cells #[sC A 64 c, sC A2 n2 c2] 35)).alloc (.cells #[ii g, ii b, ii p, ii t, sC Ax xs.length cx, sC Am ms.length cm] 26)) 35 #[nsl, nsl]; rwa [World.size_alloc, World.size_alloc] at this
 have hx0 := (((Nx.refl w).alloc (.cells #[sC A 64 c, sC A2 n2 c2] 35)).alloc (.cells #[ii g, ii b, ii p, ii t, sC Ax xs.length cx, sC Am ms.length cm] 26)).alloc (.cells #[nsl, nsl] 35)
 go_enter func54, ntmps54
 go_wp2_with fail
 generalize (((w.alloc (.cells #[sC A 64 c, sC A2 n2 c2] 35)).alloc (.cells #[ii g, ii b, ii p, ii t, sC Ax xs.length cx, sC Am ms.length cm] 26)).alloc (.cells #[nsl, nsl] 35)) = W at *
 obtain ⟨gS, HgS⟩ := nM (w.heap.size + 1)
 obtain ⟨gD, HgD⟩ := nM (w.heap.size + 1 + 1)
 have hgS : w.heap.size <= gS := by have := HgS.out; omega
 have hgD : w.heap.size <= gD := by have := HgD.out; omega
 have hneE : w.heap.size ≠ gD := by have := HgD.out; omega
 have hneE2 : w.heap.size ≠ gS := by have := HgS.out; omega
 have hneS : gS ≠ gD := by have := HgS.out; have := HgD.out; omega
 rw [HgD.out, HgS.out]
 rw [HgS.out] at b0
 rw [HgD.out] at r0
 refine (newestSuper_c A A2 64 c n2 c2 B ss ws _ a0 a1 (h.below hx0 hB) (h2.below hx0 hB) (ntr hB hx0.size) oM oM oM (by have := readP_size HD.out 0; omega) (by have := readP_size HD.out 1; omega) (hE.nx hx0) (hM.nx hx0) (hEt.nx hx0)).mono ?_
 rintro e w2 ⟨hnx2, h1', h3⟩
 have e2 := e0.nx hnx2
 have b2 := b0.nx hnx2
 have r2 := r0.nx hnx2
 have hx2 := hx0.trans hnx2
 clear e0 b0 r0 hx0 hnx2
 cases hu : newU (rdU (readP ss ws 0)) (rdU (readP ss ws 1)) with
 | none =>
   have he := h1' hu
   unfold slE at he
   subst he
   have HU := qh hu
   clear h1' h3 hu
   have m0 := r2.c0
   have m1 := r2.c1
   have mf0 := r2.frozen 0
   have mf1 := r2.frozen 1
   have mlt := r2.lt
   go_wp2
   have rq := ((r2.set0 (nsl)).set1 (nsl))
   have hnf := ((hx2.setCell (p := ⟨gD, 0, none⟩) hgD (nsl)).setCell (p := ⟨gD, 1, none⟩) hgD (nsl))
   replace rq := rq.alloc (.cells #[ii 0, ii 0, ii 0, ii 0, nsl, nsl] 26)
   replace hnf := hnf.alloc (.cells #[ii 0, ii 0, ii 0, ii 0, nsl, nsl] 26)
   change bodyPost _ _ _ _ _ (World.alloc ((w2.setCell ⟨gD, 0, none⟩ (nsl)).setCell ⟨gD, 1, none⟩ (nsl)) (.cells #[ii 0, ii 0, ii 0, ii 0, nsl, nsl] 26))
   generalize (World.alloc ((w2.setCell ⟨gD, 0, none⟩ (nsl)).setCell ⟨gD, 1, none⟩ (nsl)) (.cells #[ii 0, ii 0, ii 0, ii 0, nsl, nsl] 26)) = Wf at *
   have q0 := rq.c0
   have q1 := rq.c1
   exact bodyPost_ret (v := .tuple #[.agg #[nsl, nsl], .iface 159 (.agg #[ii 1, ii 19])]) (by simp [results, results54, go_sem, q0, q1]) rfl (RetWS.no HU.out hnf)
 | some us =>
   obtain ⟨u, s⟩ := us
   have hsl := newU_slot hu
   have hgn := newU_gen rfl rfl hu
   obtain ⟨Bx, dx, Bm, dm, he, hfit⟩ := h3 u s hu
   have HU := qh hu
   clear h1' h3 hfit hu
   by_cases h9 : u.1 = 999999
   . have H9 := qh h9
     obtain ⟨ug, ub, up, uq, uxs, ums⟩ := u
     have h9' : (ug == 999999) = true := beq_iff_eq.2 h9
     replace he : e = .returned (.tuple #[.agg #[ii ug, ii ub, ii up, ii uq, sC Bx uxs.length dx, sC Bm ums.length dm], ii s, .nilIface]) := he
     subst he
     clear h9
     have m0 := r2.c0
     have m1 := r2.c1
     have mf0 := r2.frozen 0
     have mf1 := r2.frozen 1
     have mlt := r2.lt
     go_wp2
     have rq := ((r2.set0 (nsl)).set1 (nsl))
     have hnf := ((hx2.setCell (p := ⟨gD, 0, none⟩) hgD (nsl)).setCell (p := ⟨gD, 1, none⟩) hgD (nsl))
     replace rq := rq.alloc (.cells #[ii ug, ii ub, ii up, ii uq, sC Bx uxs.length dx, sC Bm ums.length dm] 26)
     replace hnf := hnf.alloc (.cells #[ii ug, ii ub, ii up, ii uq, sC Bx uxs.length dx, sC Bm ums.length dm] 26)
     change bodyPost _ _ _ _ _ (World.alloc ((w2.setCell ⟨gD, 0, none⟩ (nsl)).setCell ⟨gD, 1, none⟩ (nsl)) (.cells #[ii ug, ii ub, ii up, ii uq, sC Bx uxs.length dx, sC Bm ums.length dm] 26))
     generalize (World.alloc ((w2.setCell ⟨gD, 0, none⟩ (nsl)).setCell ⟨gD, 1, none⟩ (nsl)) (.cells #[ii ug, ii ub, ii up, ii uq, sC Bx uxs.length dx, sC Bm ums.length dm] 26)) = Wf at *
     have q0 := rq.c0
     have q1 := rq.c1
     exact bodyPost_ret (v := .tuple #[.agg #[nsl, nsl], .iface 159 (.agg #[ii s, ii 7])]) (by simp [results, results54, go_sem, q0, q1]) rfl (RetWS.full HU.out H9.out hnf)
   . have H9 : Hid (u.1 ≠ 999999 /\ settleTo kpAll ss ws n2 = settleTo kpAll ss ws ws.length) := qh ⟨h9, by rw [h2.1]⟩
     have HOK' := qh (nxt_super HO.out hgn h9)
     obtain ⟨ug, ub, up, uq, uxs, ums⟩ := u
     have HOK : Hid (superB (ug + 1) b p t xs ms = true) := HOK'
     replace hgn : 1 <= ug /\ ug <= 999999 := hgn
     have h9' : (ug == 999999) = false := beq_eq_false_iff_ne.2 h9
     replace he : e = .returned (.tuple #[.agg #[ii ug, ii ub, ii up, ii uq, sC Bx uxs.length dx, sC Bm ums.length dm], ii s, .nilIface]) := he
     subst he
     clear h9
     obtain ⟨y0, y1, y2, y3, y4, y5⟩ := b2.d6
     have yf := b2.frozen 0
     have ylt := b2.lt
     go_wp2_with fail
     have e3 := (e2.far (p := ⟨gS, 0, none⟩) hneE2 (ii (ug + 1))).alloc (.cells #[ii ug, ii ub, ii up, ii uq, sC Bx uxs.length dx, sC Bm ums.length dm] 26)
     have b3 := (b2.set 0 (ii (ug + 1))).alloc (.cells #[ii ug, ii ub, ii up, ii uq, sC Bx uxs.length dx, sC Bm ums.length dm] 26)
     have r3 := (r2.far (p := ⟨gS, 0, none⟩) hneS.symm (ii (ug + 1))).alloc (.cells #[ii ug, ii ub, ii up, ii uq, sC Bx uxs.length dx, sC Bm ums.length dm] 26)
     have hx3 := (hx2.setCell (p := ⟨gS, 0, none⟩) hgS (ii (ug + 1))).alloc (.cells #[ii ug, ii ub, ii up, ii uq, sC Bx uxs.length dx, sC Bm ums.length dm] 26)
     simp only [List.setIfInBounds_toArray, List.set_cons_zero] at b3
     clear y0 y1 y2 y3 y4 y5 yf ylt e2 b2 r2 hx2
     generalize (w2.setCell ⟨gS, 0, none⟩ (ii (ug + 1))).alloc (.cells #[ii ug, ii ub, ii up, ii uq, sC Bx uxs.length dx, sC Bm ums.length dm] 26) = w3 at *
     refine wp_planA (.t 0 (.t 2 (.t 4 (.c 1 (.c 3 (.c 5 (.c 6 (.c 7 (.t 8 .e))))))))) (fun w' => (CC w' w.heap.size 0 (sC A 64 c) /\ CC w' w.heap.size 1 (sC A2 n2 c2)) /\ (CC w' gS 0 (ii (ug + 1)) /\ CC w' gS 1 (ii b) /\ CC w' gS 2 (ii p) /\ CC w' gS 3 (ii t) /\ CC w' gS 4 (sC Ax xs.length cx) /\ CC w' gS 5 (sC Am ms.length cm))) (by exact ⟨⟨e3.c0, e3.c1⟩, b3.d6⟩) ?_
     simp only [psOf, List.getD_cons_zero, List.getD_cons_succ]
     refine hPr ?_
     refine hPc fun K hK => ?_
     go_simp
     refine (flushed_c A A2 c n2 c2 B ss ws _ (h.below hx3.drew hB) (h2.below hx3.drew hB) (ntr hB hx3.drew.size) oM HWo.out).mono ?_; rintro e w5 ⟨A5, n5, c5, A6, n6, c6, rfl, hSF, hWF, hny5⟩; obtain rfl : n5 = 64 := (by rw [<- hSF.1, settleTo_len]; exact HL64.out); obtain rfl : n6 = 0 := hWF.1.symm; have e5 := e3.nx (Nx.drew_r hny5); have b5 := b3.nx (Nx.drew_r hny5); have r5 := r3.nx (Nx.drew_r hny5); have hx5 := hx3.trans (Nx.drew_r hny5)
     go_wp2_with fail
     refine hK.out _ _ (by exact ⟨⟨e5.c0, e5.c1⟩, b5.d6⟩) ?_
     clear hK K
     refine nZ ?_
     refine hPc fun K hK => ?_
     go_simp
     refine (otherSlot_c s _ (by rcases hsl with rfl | rfl <;> omega) (by rcases hsl with rfl | rfl <;> omega)).mono ?_; rintro e w6 ⟨rfl, hq6⟩; have hny6 : Nx w5 w6 := hq6 ▸ Nx.refl _; have e6 := e5.nx hny6; have b6 := b5.nx hny6; have r6 := r5.nx hny6; have hx6 := hx5.trans hny6; have hSF := hSF.nx hny6; have hWF := hWF.nx hny6; clear hq6
     go_wp2_with fail
     refine hK.out _ _ (by exact ⟨⟨e6.c0, e6.c1⟩, b6.d6⟩) ?_
     clear hK K
     refine nZ ?_
     refine hPc fun K hK => ?_
     go_simp
     refine (superText_c (ug + 1) b p t Ax Am cx cm B xs ms _ (hs.below hx6 hB) (hmk.below hx6 hB) (ntr hB hx6.size) HOK.out (hT.nx hx6)).mono ?_; rintro e w7 ⟨rfl, hny7⟩; have e7 := e6.nx hny7; have b7 := b6.nx hny7; have r7 := r6.nx hny7; have hx7 := hx6.trans hny7; have hSF := hSF.nx hny7; have hWF := hWF.nx hny7
     go_wp2_with fail
     refine hK.out _ _ (by exact ⟨⟨e7.c0, e7.c1⟩, b7.d6⟩) ?_
     clear hK K
     refine nZ ?_
     refine hPc fun K hK => ?_
     go_simp
     refine (written_c A5 A6 64 c5 0 c6 _ _ [] (1 - s) _ _ hSF.strs hWF.wrs nle oM oM).mono ?_; rintro e w8 ⟨A8, n8, c8, A9, n9, c9, rfl, hS8, hW8, hny8⟩; have hlt9 : gD < w7.heap.size := r7.lt; have e8 := e7.nx hny8; have b8 := b7.nx hny8; have r8 := r7.nx hny8; have hx8 := hx7.trans hny8
     go_wp2_with fail
     refine hK.out _ _ (by exact ⟨⟨e8.c0, e8.c1⟩, b8.d6⟩) ?_
     clear hK K
     refine nZ ?_
     have m0 := r8.c0
     have m1 := r8.c1
     have mf0 := r8.frozen 0
     have mf1 := r8.frozen 1
     have mlt := r8.lt
     refine hPc fun K hK => ?_
     go_simp
     refine hK.out _ _ (by exact ⟨⟨((e8.far (p := ⟨gD, 0, none⟩) hneE _).far (p := ⟨gD, 1, none⟩) hneE _).c0, ((e8.far (p := ⟨gD, 0, none⟩) hneE _).far (p := ⟨gD, 1, none⟩) hneE _).c1⟩, ((b8.far (p := ⟨gD, 0, none⟩) hneS _).far (p := ⟨gD, 1, none⟩) hneS _).d6⟩) ?_
     clear hK K
     refine nZ ?_
     refine hPr ?_
     refine HP.done ?_
     clear m0 m1 mf0 mf1
     go_wp2
     have rq := ((r8.set0 (sC A8 n8 c8)).set1 (sC A9 n9 c9))
     have hnf := ((hx8.setCell (p := ⟨gD, 0, none⟩) hgD (sC A8 n8 c8)).setCell (p := ⟨gD, 1, none⟩) hgD (sC A9 n9 c9))
     have hSf := ((hS8.far (p := ⟨gD, 0, none⟩) hlt9 (sC A8 n8 c8)).far (p := ⟨gD, 1, none⟩) hlt9 (sC A9 n9 c9))
     have hWf := ((hW8.far (p := ⟨gD, 0, none⟩) hlt9 (sC A8 n8 c8)).far (p := ⟨gD, 1, none⟩) hlt9 (sC A9 n9 c9))
     change bodyPost _ _ _ _ _ ((w8.setCell ⟨gD, 0, none⟩ (sC A8 n8 c8)).setCell ⟨gD, 1, none⟩ (sC A9 n9 c9))
     generalize ((w8.setCell ⟨gD, 0, none⟩ (sC A8 n8 c8)).setCell ⟨gD, 1, none⟩ (sC A9 n9 c9)) = Wf at *
     have q0 := rq.c0
     have q1 := rq.c1
     exact bodyPost_ret (v := .tuple #[.agg #[sC A8 n8 c8, sC A9 n9 c9], .nilIface]) (by simp [results, results54, go_sem, q0, q1]) rfl (RetWS.yes HU.out H9.out (hSf.low oM) (hWf.low oM) hnf)
def wwP (ss : List BA) (p : Int) (n : Nat) (v t : Int) : (List BA × List (Int × BA)) × Int :=
 if apC (ldV ss []).1 (ldV ss []).2 p = 0 then (apD ss (ldV ss []).1 p n v t, 0) else (([], []), apC (ldV ss []).1 (ldV ss []).2 p)
theorem wwP_no {ss : List BA} {p v t : Int} {n : Nat} {V : Vl} {cd k : Int} (h : ldV ss [] = (V, cd)) (hc : apC V cd p = k) (h0 : k ≠ 0) : wwP ss p n v t = (([], []), k) := by
 unfold wwP; rw [h]; simp only; rw [hc, if_neg h0]
theorem wwP_yes {ss : List BA} {p v t : Int} {n : Nat} {V : Vl} {cd : Int} (h : ldV ss [] = (V, cd)) (hc : apC V cd p = 0) : wwP ss p n v t = (apD ss V p n v t, 0) := by
 unfold wwP; rw [h]; simp only; rw [if_pos hc]
theorem RetDiskCode.nil {w w' : World} {R : (List BA × List (Int × BA)) × Int} {k : Int} (h : R = (([], []), k)) (hx : Nx w w') : RetDiskCode w R.1.1 R.1.2 R.2 (.returned (.tuple #[.agg #[nsl, nsl], ii k])) w' := by
 rw [h]
 exact ⟨none, 0, 0, none, 0, 0, rfl, ⟨rfl, fun h => absurd h dC⟩, ⟨rfl, fun h => absurd h dC⟩, hx⟩
def WsR (w' : World) (lo : Nat) (g s : Int) (ss : List BA) (R2 : List (Int × BA)) (x9 : Int) (s9 : BA) (Da : Option Addr) (dn : Nat) (Db : Option Addr) (en : Nat) (E : Value) : Prop :=
 (g = 999999 /\ E = slE s 7) \/ (g ≠ 999999 /\ E = .nilIface /\ SlS w' lo Da dn (settleTo kpAll ss ([] ++ [(x9, s9)]) 1) /\ SlW w' lo Db en R2)
section
variable {w' w2 : World} {lo lo' dn en gz : Nat} {g s x9 : Int} {ss : List BA} {R2 : List (Int × BA)} {s9 : BA} {Da Db : Option Addr} {E a b : Value}
theorem WsR.nx (h : WsR w' lo g s ss R2 x9 s9 Da dn Db en E) (hk : Nx w' w2) : WsR w2 lo g s ss R2 x9 s9 Da dn Db en E := h.imp id fun ⟨h1, h2, h3, h4⟩ => ⟨h1, h2, h3.nx hk, h4.nx hk⟩
theorem WsR.low (h : WsR w' lo g s ss R2 x9 s9 Da dn Db en E) (hl : lo' <= lo) : WsR w' lo' g s ss R2 x9 s9 Da dn Db en E := h.imp id fun ⟨h1, h2, h3, h4⟩ => ⟨h1, h2, h3.low hl, h4.low hl⟩
theorem WsR.two (h : WsR w' lo g s ss R2 x9 s9 Da dn Db en E) (hb : Box w' gz 35 #[a, b]) (v0 v1 : Value) : WsR ((w'.setCell ⟨gz, 0, none⟩ v0).setCell ⟨gz, 1, none⟩ v1) lo g s ss R2 x9 s9 Da dn Db en E := h.imp id fun ⟨h1, h2, h3, h4⟩ => ⟨h1, h2, h3.twoW hb v0 v1, h4.twoW hb v0 v1⟩
end
theorem RetWS.one {w w' : World} {ss : List BA} {x9 : Int} {s9 : BA} {g b p t : Int} {xs X : List Int} {ms : List Mrk} {e : Ending} {b' p' t' : Int} {ms' : List Mrk} {s : Int} {o : Option (U6 × Int)} (hr : RetWS w ss ([] ++ [(x9, s9)]) b p t X ms o e w') (h : o = some ((g, b', p', t', xs, ms'), s)) :
 Nx w w' /\ ∃ Da dn dc Db en ec E, e = .returned (.tuple #[.agg #[sC Da dn dc, sC Db en ec], E]) /\ WsR w' w.heap.size g s ss [(1 - s, supT (g + 1) b p t X ms)] x9 s9 Da dn Db en E := by
 obtain ⟨hn, _, h7, h0⟩ := hr
 refine ⟨hn, ?_⟩
 by_cases hg : g = 999999
 . exact ⟨none, 0, 0, none, 0, 0, _, h7 _ _ h hg, .inl ⟨hg, rfl⟩⟩
 . obtain ⟨A, n, c, A2, n2, c2, he, hS, hW⟩ := h0 _ _ h hg
   exact ⟨A, n, c, A2, n2, c2, _, he, .inr ⟨hg, rfl, hS, hW⟩⟩
theorem mergeWW {G : Nat -> Option Addr -> Nat -> Nat -> Option Addr -> Nat -> Nat -> Value -> World -> Option Addr -> Nat -> Option Addr -> Nat -> Option Addr -> Nat -> Option Addr -> Nat -> Prop} {F : Nat -> Option Addr -> Nat -> Nat -> Option Addr -> Nat -> Nat -> Value -> World -> Prop} {R : Prop} (main : (∀ g A n c B m d E W Aq cq A8 c8 A9 c9 As cs, F g A n c B m d E W -> G g A n c B m d E W Aq cq A8 c8 A9 c9 As cs) -> R) (key : ∀ g A n c B m d E W Aq cq A8 c8 A9 c9 As cs, F g A n c B m d E W -> G g A n c B m d E W Aq cq A8 c8 A9 c9 As cs) : R := main key
theorem withWrite_c (A A2 : Option Addr) (n c n2 c2 B : Nat) (ss : List BA) (p v t : Int) (n0 : Nat) (w : World) (a0 a1 : Addr) (h : Strs w B A n ss) (h2 : Wrs w B A2 n2 []) (hB : B <= w.heap.size) (hD : diskB ss [] = true) (hf : frameB p (n0 : Int) v t = true)
 (hE : Er w a0 a1) (hM : Mx w) (hEt : Et w) (hT : Tab w) :
 Calls Tryz.prog 75 #[.agg #[sC A n c, sC A2 n2 c2], .agg #[ii p, ii (n0 : Int), ii v, ii t]] w (RetDiskCode w (wwP ss p n0 v t).1.1 (wwP ss p n0 v t).1.2 (wwP ss p n0 v t).2) := by
 have HD := qh hD
 have HF := qh hf
 obtain rfl : n = 64 := by rw [<- h.1]; exact (diskB_len64 hD).1
 obtain rfl : n2 = 0 := h2.1.symm
 obtain ⟨⟨V, cd⟩, HL⟩ := nM (ldV ss [])
 have HcdL := qh (ldV_code ss [])
 rw [HL.out] at HcdL
 have HV := fun w1 h1 h2 h3 h4 h5 h6 => diskVault_c A A2 64 c 0 c2 B ss [] w1 a0 a1 h1 h2 h3 oM oM hD h4 h5 h6
 rw [HL.out] at HV
 have HV := qh HV
 obtain ⟨R, HR⟩ := nM (wwP ss p n0 v t)
 have HN := qh (fun k (hc : apC V cd p = k) (h0 : k ≠ 0) => HR.out.symm.trans (wwP_no HL.out hc h0))
 rw [HR.out]
 clear hD hf
 have e0 : Box (((w.alloc (.cells #[sC A 64 c, sC A2 0 c2] 35)).alloc (.cells #[ii p, ii (n0 : Int), ii v, ii t] 55)).alloc (.cells #[nsl, nsl] 35)) w.heap.size 35 #[sC A 64 c, sC A2 0 c2] := ((Box.new w _ _).alloc _).alloc _
 have f0 : Box (((w.alloc (.cells #[sC A 64 c, sC A2 0 c2] 35)).alloc (.cells #[ii p, ii (n0 : Int), ii v, ii t] 55)).alloc (.cells #[nsl, nsl] 35)) (w.heap.size + 1) 55 #[ii p, ii (n0 : Int), ii v, ii t] := by have := (Box.new (w.alloc (.cells #[sC A 64 c, sC A2 0 c2] 35)) 55 #[ii p, ii (n0 : Int), ii v, ii t]).alloc (.cells #[nsl, nsl] 35); rwa [World.size_alloc] at this
 have r0 : Box (((w.alloc (.cells #[sC A 64 c, sC A2 0 c2] 35)).alloc (.cells #[ii p, ii (n0 : Int), ii v, ii t] 55)).alloc (.cells #[nsl, nsl] 35)) (w.heap.size + 1 + 1) 35 #[nsl, nsl] := by have := Box.new ((w.alloc (.cells #[sC A 64 c, sC A2 0 c2] 35)).alloc (.cells #[ii p, ii (n0 : Int), ii v, ii t] 55)) 35 #[nsl, nsl]; rwa [World.size_alloc, World.size_alloc] at this
 have hx0 := (((Nx.refl w).alloc (.cells #[sC A 64 c, sC A2 0 c2] 35)).alloc (.cells #[ii p, ii (n0 : Int), ii v, ii t] 55)).alloc (.cells #[nsl, nsl] 35)
 have y0 := e0.c0
 have y1 := e0.c1
 go_enter func75, ntmps75
 go_wp2_with fail
 generalize ((w.alloc (.cells #[sC A 64 c, sC A2 0 c2] 35)).alloc (.cells #[ii p, ii (n0 : Int), ii v, ii t] 55)).alloc (.cells #[nsl, nsl] 35) = W at *
 obtain ⟨gF, HgF⟩ := nM (w.heap.size + 1)
 obtain ⟨gR, HgR⟩ := nM (w.heap.size + 1 + 1)
 have hgR : w.heap.size <= gR := by have := HgR.out; omega
 rw [HgR.out] at r0 ⊢
 rw [HgF.out] at f0 ⊢
 clear y0 y1
 refine (HV.out W (h.below hx0 hB) (h2.below hx0 hB) (ntr hB hx0.size) (hE.nx hx0) (hM.nx hx0) (hEt.nx hx0)).mono ?_
 rintro e w1 ⟨V1, mid, rfl, hs, hp, hk⟩
 have hx1 := hx0.trans hk
 have e1 := e0.nx hk
 have f1 := f0.nx hk
 have r1 := r0.nx hk
 have hp1 := hp.low hx0.size
 clear e0 f0 r0 hk hp
 simp only [Vl.v, Vl.cells]
 have bv := Box.new w1 49 #[ii V1.g, ii V1.b, ii V1.p, ii V1.t, sC V1.A V1.xs.length V1.c, sC V1.A2 V1.ms.length V1.c2, sC V1.A3 V1.gs.length V1.c3, sC V1.A4 V1.im.length V1.c4]
 have hkv := (Nx.refl w1).alloc (.cells #[ii V1.g, ii V1.b, ii V1.p, ii V1.t, sC V1.A V1.xs.length V1.c, sC V1.A2 V1.ms.length V1.c2, sC V1.A3 V1.gs.length V1.c3, sC V1.A4 V1.im.length V1.c4] 49)
 have e2 := e1.nx hkv
 have f2 := f1.nx hkv
 have r2 := r1.nx hkv
 have hx2 := hx1.trans hkv
 have hp2 := hp1.nx hkv
 have zv : w1.heap.size < (w1.alloc (.cells #[ii V1.g, ii V1.b, ii V1.p, ii V1.t, sC V1.A V1.xs.length V1.c, sC V1.A2 V1.ms.length V1.c2, sC V1.A3 V1.gs.length V1.c3, sC V1.A4 V1.im.length V1.c4] 49)).heap.size := by simp
 clear e1 f1 r1 hp1 hkv
 have hsz1 := hx1.size
 clear hx1
 rcases Decidable.em (cd = 0) with h0 | h0
 rotate_left
 . have m0 := r2.c0
   have m1 := r2.c1
   have mf0 := r2.frozen 0
   have mf1 := r2.frozen 1
   have HR2 := qh (HN.out cd (apC_code h0) h0)
   go_wp2_with fail
   generalize (w1.alloc (.cells #[ii V1.g, ii V1.b, ii V1.p, ii V1.t, sC V1.A V1.xs.length V1.c, sC V1.A2 V1.ms.length V1.c2, sC V1.A3 V1.gs.length V1.c3, sC V1.A4 V1.im.length V1.c4] 49)) = w2 at *
   have rq := (r2.set0 (nsl)).set1 (nsl)
   have hnf := (hx2.setCell (p := ⟨gR, 0, none⟩) hgR (nsl)).setCell (p := ⟨gR, 1, none⟩) hgR (nsl)
   generalize (w2.setCell ⟨gR, 0, none⟩ (nsl)).setCell ⟨gR, 1, none⟩ (nsl) = Wf at *
   clear m0 m1 mf0 mf1
   have q0 := rq.c0
   have q1 := rq.c1
   go_wp2
   exact bodyPost_ret (v := .tuple #[.agg #[nsl, nsl], ii cd]) (by simp [results, results75, go_sem, q0, q1]) rfl (RetDiskCode.nil HR2.out hnf)
 obtain rfl : cd = 0 := h0
 obtain ⟨y0, y1, y2, y3, y4, y5, y6, y7⟩ := bv.e8
 go_wp2_with fail
 generalize (w1.alloc (.cells #[ii V1.g, ii V1.b, ii V1.p, ii V1.t, sC V1.A V1.xs.length V1.c, sC V1.A2 V1.ms.length V1.c2, sC V1.A3 V1.gs.length V1.c3, sC V1.A4 V1.im.length V1.c4] 49)) = w2 at *
 clear y0 y1 y2 y3 y4 y5 y6 y7
 obtain ⟨gV, HgV⟩ := nM (w1.heap.size)
 have hgV : w.heap.size <= gV := by have := HgV.out; omega
 rw [HgV.out] at bv ⊢
 have HLY := qh (ldV_ldY HL.out)
 have HsV : Hid (VlS V V1) := qh hs
 have HY := qh (HsV.out.y HLY.out.ok)
 clear hs
 have hv2 := qh hp2.own.vlt
 have H8 := qh HY.out.l8
 refine (view_c V1 w2.heap.size w2 hv2.out.img nle H8.out).mono ?_
 rintro e w3 ⟨rfl, hk⟩
 have hx3 := hx2.trans hk
 have e3 := e2.nx hk
 have f3 := f2.nx hk
 have r3 := r2.nx hk
 have hp3 := hp2.nx hk
 have bv3 := bv.nx hk
 simp only [Vl.w, Vl.wcells]
 have rz := Box.new w3 107 #[ii 0, ii 0, ii 0, ii 0, nsl, nsl, nsl, ii 0, ii 0, ii 0, ii 0, ii 0, ii 0, ii 0, ii 0]
 have bw := rz.row #[ii V1.g, ii V1.b, ii V1.p, ii V1.t, sC V1.A V1.xs.length V1.c, sC V1.A2 V1.ms.length V1.c2, sC V1.A3 V1.gs.length V1.c3, inAt V1.im 0, inAt V1.im 1, inAt V1.im 2, inAt V1.im 3, inAt V1.im 4, inAt V1.im 5, inAt V1.im 6, inAt V1.im 7]
 have hkv := ((Nx.refl w3).alloc (.cells #[ii 0, ii 0, ii 0, ii 0, nsl, nsl, nsl, ii 0, ii 0, ii 0, ii 0, ii 0, ii 0, ii 0, ii 0] 107)).setRow (g := w3.heap.size) nle #[ii V1.g, ii V1.b, ii V1.p, ii V1.t, sC V1.A V1.xs.length V1.c, sC V1.A2 V1.ms.length V1.c2, sC V1.A3 V1.gs.length V1.c3, inAt V1.im 0, inAt V1.im 1, inAt V1.im 2, inAt V1.im 3, inAt V1.im 4, inAt V1.im 5, inAt V1.im 6, inAt V1.im 7]
 have zw : w3.heap.size < ((w3.alloc (.cells #[ii 0, ii 0, ii 0, ii 0, nsl, nsl, nsl, ii 0, ii 0, ii 0, ii 0, ii 0, ii 0, ii 0, ii 0] 107)).setRow w3.heap.size #[ii V1.g, ii V1.b, ii V1.p, ii V1.t, sC V1.A V1.xs.length V1.c, sC V1.A2 V1.ms.length V1.c2, sC V1.A3 V1.gs.length V1.c3, inAt V1.im 0, inAt V1.im 1, inAt V1.im 2, inAt V1.im 3, inAt V1.im 4, inAt V1.im 5, inAt V1.im 6, inAt V1.im 7]).heap.size := by rw [size_setRow]; simp
 have e4 := e3.nx hkv
 have f4 := f3.nx hkv
 have r4 := r3.nx hkv
 have hx4 := hx3.trans hkv
 have hp4 := hp3.nx hkv
 have bv4 := bv3.nx hkv
 clear e2 f2 r2 hx2 hp2 e3 f3 r3 hp3 hkv hk bv bv3
 go_wp2_with (refine wpList_store_row rfl _ _ _ rfl w3.heap.size #[ii V1.g, ii V1.b, ii V1.p, ii V1.t, sC V1.A V1.xs.length V1.c, sC V1.A2 V1.ms.length V1.c2, sC V1.A3 V1.gs.length V1.c3, inAt V1.im 0, inAt V1.im 1, inAt V1.im 2, inAt V1.im 3, inAt V1.im 4, inAt V1.im 5, inAt V1.im 6, inAt V1.im 7] rfl rfl 107 #[ii 0, ii 0, ii 0, ii 0, nsl, nsl, nsl, ii 0, ii 0, ii 0, ii 0, ii 0, ii 0, ii 0, ii 0] rz (by kernel_rfl) rfl (by simp [Value.oneCell', inAt]) ?_)
 clear rz
 have hs3 := hx3.size
 clear hx3
 generalize ((w3.alloc (.cells #[ii 0, ii 0, ii 0, ii 0, nsl, nsl, nsl, ii 0, ii 0, ii 0, ii 0, ii 0, ii 0, ii 0, ii 0] 107)).setRow w3.heap.size #[ii V1.g, ii V1.b, ii V1.p, ii V1.t, sC V1.A V1.xs.length V1.c, sC V1.A2 V1.ms.length V1.c2, sC V1.A3 V1.gs.length V1.c3, inAt V1.im 0, inAt V1.im 1, inAt V1.im 2, inAt V1.im 3, inAt V1.im 4, inAt V1.im 5, inAt V1.im 6, inAt V1.im 7]) = w4 at *
 obtain ⟨gW, HgW⟩ := nM (w3.heap.size)
 have hgW : w.heap.size <= gW := by have := HgW.out; omega
 rw [HgW.out] at bw zw ⊢
 have hn4 : V1.gs.length <= 1048576 := by have := HY.out.n4; omega
 have HTp : Hid (V.tip = V1.tip) := qh HsV.out.tip.symm
 have HTc := qh (fun (w' : World) (hx : Nx w4 w') => tip_c V1 w4.heap.size w' (hp4.own.vlt.sgs.below hx nle) hx.size hn4)
 have HTi := HY.out.tipIn
 obtain ⟨T, HT⟩ := nM (tipV V1.b V1.gs)
 rw [HT.out] at HTc HTi
 have hw1 : IntKind.i64.wrap (T + 1) = T + 1 := IntWalk.i64_in _ oM
 go_wp2_with fail
 refine wp_planA (.t 0 (.t 1 (.t 2 (.c 3 (.t 4 (.t 5 .e)))))) (fun w' => (CC w' gW 0 (ii V1.g) /\ CC w' gW 1 (ii V1.b) /\ CC w' gW 2 (ii V1.p) /\ CC w' gW 3 (ii V1.t) /\ CC w' gW 4 (sC V1.A V1.xs.length V1.c) /\ CC w' gW 5 (sC V1.A2 V1.ms.length V1.c2) /\ CC w' gW 6 (sC V1.A3 V1.gs.length V1.c3) /\ CC w' gW 7 (inAt V1.im 0) /\ CC w' gW 8 (inAt V1.im 1) /\ CC w' gW 9 (inAt V1.im 2) /\ CC w' gW 10 (inAt V1.im 3) /\ CC w' gW 11 (inAt V1.im 4) /\ CC w' gW 12 (inAt V1.im 5) /\ CC w' gW 13 (inAt V1.im 6) /\ CC w' gW 14 (inAt V1.im 7)) /\ CC w' gF 0 (ii p)) (by exact ⟨bw.e15, f4.cell 0⟩) ?_
 simp only [psOf, List.getD_cons_zero, List.getD_cons_succ]
 refine hPr ?_
 refine hPc fun K hK => ?_
 go_simp
 refine (HTc.out w4.drew (Nx.refl _).drew).mono ?_; rintro e w5 ⟨rfl, hk⟩; have hx5 := (Nx.refl w4).drew.trans hk; have bw5 := bw.nx hx5; have f5 := f4.nx hx5
 go_wp2_with fail
 refine hK.out _ _ (by exact ⟨bw5.e15, f5.cell 0⟩) ?_
 clear hK K
 refine nZ ?_
 refine hPr ?_
 refine HP.done ?_
 have r5 := r4.nx hx5
 have hxw5 := hx4.trans hx5
 by_cases h1 : p <= T
 . have hd1 : decide (p <= T) = true := decide_eq_true h1
   have m0 := r5.c0
   have m1 := r5.c1
   have mf0 := r5.frozen 0
   have mf1 := r5.frozen 1
   have HR2 := qh (HN.out 9 (apC_there (by rw [(show V.tip = T from HTp.out.trans HT.out)]; exact h1)) dC)
   go_wp2_with fail
   have rq := (r5.set0 (nsl)).set1 (nsl)
   have hnf := (hxw5.setCell (p := ⟨gR, 0, none⟩) hgR (nsl)).setCell (p := ⟨gR, 1, none⟩) hgR (nsl)
   generalize (w5.setCell ⟨gR, 0, none⟩ (nsl)).setCell ⟨gR, 1, none⟩ (nsl) = Wf at *
   clear m0 m1 mf0 mf1
   have q0 := rq.c0
   have q1 := rq.c1
   go_wp2
   exact bodyPost_ret (v := .tuple #[.agg #[nsl, nsl], ii 9]) (by simp [results, results75, go_sem, q0, q1]) rfl (RetDiskCode.nil HR2.out hnf)
 have hd1 : decide (p <= T) = false := decide_eq_false h1
 go_wp2_with fail
 refine wp_planA (.t 0 (.t 1 (.t 2 (.c 3 (.t 4 (.t 5 (.t 6 .e))))))) (fun w' => (CC w' gW 0 (ii V1.g) /\ CC w' gW 1 (ii V1.b) /\ CC w' gW 2 (ii V1.p) /\ CC w' gW 3 (ii V1.t) /\ CC w' gW 4 (sC V1.A V1.xs.length V1.c) /\ CC w' gW 5 (sC V1.A2 V1.ms.length V1.c2) /\ CC w' gW 6 (sC V1.A3 V1.gs.length V1.c3) /\ CC w' gW 7 (inAt V1.im 0) /\ CC w' gW 8 (inAt V1.im 1) /\ CC w' gW 9 (inAt V1.im 2) /\ CC w' gW 10 (inAt V1.im 3) /\ CC w' gW 11 (inAt V1.im 4) /\ CC w' gW 12 (inAt V1.im 5) /\ CC w' gW 13 (inAt V1.im 6) /\ CC w' gW 14 (inAt V1.im 7)) /\ CC w' gF 0 (ii p)) (by exact ⟨bw5.e15, f5.cell 0⟩) ?_
 simp only [psOf, List.getD_cons_zero, List.getD_cons_succ]
 refine hPr ?_
 refine hPc fun K hK => ?_
 go_simp
 refine (HTc.out w5.drew (hx5.trans (Nx.refl _).drew)).mono ?_; rintro e w6 ⟨rfl, hk⟩; have hx6 := (Nx.refl w5).drew.trans hk; have bw6 := bw5.nx hx6; have f6 := f5.nx hx6
 go_wp2_with fail
 refine hK.out _ _ (by exact ⟨bw6.e15, f6.cell 0⟩) ?_
 clear hK K
 refine nZ ?_
 refine hPr ?_
 refine HP.done ?_
 have r6 := r5.nx hx6
 have hxw6 := hxw5.trans hx6
 by_cases h7 : T + 1 < p
 . have hd7 : decide (T + 1 < p) = true := decide_eq_true h7
   have m0 := r6.c0
   have m1 := r6.c1
   have mf0 := r6.frozen 0
   have mf1 := r6.frozen 1
   have HR2 := qh (HN.out 17 (apC_gap (by rw [(show V.tip = T from HTp.out.trans HT.out)]; exact h7)) dC)
   go_wp2_with fail
   have rq := (r6.set0 (nsl)).set1 (nsl)
   have hnf := (hxw6.setCell (p := ⟨gR, 0, none⟩) hgR (nsl)).setCell (p := ⟨gR, 1, none⟩) hgR (nsl)
   generalize (w6.setCell ⟨gR, 0, none⟩ (nsl)).setCell ⟨gR, 1, none⟩ (nsl) = Wf at *
   clear m0 m1 mf0 mf1
   have q0 := rq.c0
   have q1 := rq.c1
   go_wp2
   exact bodyPost_ret (v := .tuple #[.agg #[nsl, nsl], ii 17]) (by simp [results, results75, go_sem, q0, q1]) rfl (RetDiskCode.nil HR2.out hnf)
 have hd7 : decide (T + 1 < p) = false := decide_eq_false h7
 have y6 := bw6.cell 6
 by_cases h20 : V1.gs.length = 20
 . have Hp := qh (show p = V.tip + 1 by rw [(show V.tip = T from HTp.out.trans HT.out)]; omega)
   have Hl := qh (show V.gs.length = 20 from HsV.out.len.symm.trans h20)
   have m0 := r6.c0
   have m1 := r6.c1
   have mf0 := r6.frozen 0
   have mf1 := r6.frozen 1
   have HR2 := qh (HN.out 7 (apC_full Hp.out (.inl Hl.out)) dC)
   go_wp2_with fail
   have rq := (r6.set0 (nsl)).set1 (nsl)
   have hnf := (hxw6.setCell (p := ⟨gR, 0, none⟩) hgR (nsl)).setCell (p := ⟨gR, 1, none⟩) hgR (nsl)
   generalize (w6.setCell ⟨gR, 0, none⟩ (nsl)).setCell ⟨gR, 1, none⟩ (nsl) = Wf at *
   clear m0 m1 mf0 mf1
   have q0 := rq.c0
   have q1 := rq.c1
   go_wp2
   exact bodyPost_ret (v := .tuple #[.agg #[nsl, nsl], ii 7]) (by simp [results, results75, go_sem, q0, q1]) rfl (RetDiskCode.nil HR2.out hnf)
 have hd20 : decide ((V1.gs.length : Int) = 20) = false := decide_eq_false oM
 have h20' := h20
 have y0 := bw6.cell 0
 have y1 := bw6.cell 1
 have y2 := bw6.cell 2
 have y3 := bw6.cell 3
 have y4 := bw6.cell 4
 have y5 := bw6.cell 5
 go_wp2_with fail
 clear y0 y1 y2 y3 y4 y5 y6
 have hi6 := (hp4.nx (hx5.trans hx6)).own.vlt.tab
 refine (superFree_c V1.g V1.b V1.p V1.t V1.A V1.A2 V1.c V1.c2 w6.heap.size V1.xs V1.ms w6 hi6 nle (by have := HY.out.len; omega)).mono ?_
 rintro e w7 ⟨A7, c7, rfl, hc7, hS7, hx7⟩
 have HfL := qh (freeTo_some (xs := V1.xs) (by have := (tbB_yes (superB_yes HY.out.super).2.2.2.2.1).1; omega))
 obtain ⟨b7, o7, rfl, hb7, q7⟩ := Ins.at_ (k := 0) hS7.row HfL.out
 obtain ⟨L7, HL7⟩ := nM ((freeTo V1.xs 54).length)
 have hL7 : 0 < L7 := HL7.out ▸ HfL.out
 rw [HL7.out]
 have hL8 : (0 : Int) < (L7 : Int) := oM
 change w7.cell? ⟨b7, o7, none⟩ = some (ii (freeS V1.xs)) at q7
 have kx : Nx w4 w7 := hx5.trans (hx6.trans hx7)
 have zE : Box w7 w.heap.size 35 #[sC A 64 c, sC A2 0 c2] := e4.nx kx
 have zF := f6.nx hx7
 have zV := bw6.nx hx7
 have zR := r6.nx hx7
 have zP := hp4.nx kx
 have zX : Nx w w7 := hxw6.trans hx7
 clear e4 f6 bw6 r6 hp4 hxw6 kx hx5 hx6 hx7 f5 bw5 r5 hxw5
 have Hp1 := qh (show p = V1.tip + 1 from (show p = T + 1 by omega).trans (congrArg (· + 1) (show T = V1.tip from HT.out.symm)))
 have h20 : Hid (V.gs.length ≠ 20) := qh (by rw [<- HsV.out.len]; exact h20')
 have HP0 := qh (show p = V.tip + 1 from Hp1.out.trans (congrArg (· + 1) HsV.out.tip))
 have HS1 : Hid (superB V1.g V1.b V1.p V1.t (V1.xs ++ [freeS V1.xs]) V1.ms = true) := qh (by rw [HsV.out.g, HsV.out.b, HsV.out.p, HsV.out.t, HsV.out.xs, HsV.out.ms]; exact HLY.out.table h20.out)
 have HXL : Hid (V1.xs.length <= 1048575) := qh (by rw [HsV.out.xs]; have := HLY.out.room h20.out; omega)
 have HFr := qh (frameB_yes HF.out)
 obtain ⟨m9, Hm9⟩ := nM (lastM V1.gs t)
 obtain ⟨o9, Ho9⟩ := nM (V1.top.getD n0 0)
 have HGR : Hid (segB (p - 1) p m9 [((n0 : Int), v, o9)] = true) := qh (by rw [<- Hm9.out, <- Ho9.out]; exact (newG_nxt HY.out HF.out Hp1.out).seg)
 have HGT : Hid (sealS (numsS (segN (p - 1) p m9 [((n0 : Int), v, o9)])) = segT (newG V p n0 v t)) := qh (by rw [<- Hm9.out, <- Ho9.out, <- HsV.out.newG]; rfl)
 obtain ⟨x9, Hx9⟩ := nM (freeS V1.xs)
 obtain ⟨s9, Hs9⟩ := nM (segT (newG V p n0 v t))
 have HXe : Hid (freeS V.xs = x9) := qh (by rw [<- HsV.out.xs]; exact Hx9.out)
 rw [Hs9.out] at HGT
 obtain ⟨X9, HX9⟩ := nM (V1.xs ++ [x9])
 rw [Hx9.out, HX9.out] at HS1
 rw [Hx9.out] at q7
 have HDp : Hid (diskB ss ([] ++ [(x9, s9)]) = true) := qh (by rw [<- HXe.out, <- Hs9.out]; exact HLY.out.put HD.out h20.out)
 obtain ⟨z9, Hz9⟩ := nM (sltV ss [])
 have HNU : Hid (newU (rdU (readP ss ([] ++ [(x9, s9)]) 0)) (rdU (readP ss ([] ++ [(x9, s9)]) 1)) = some ((V1.g, V1.b, V1.p, V1.t, V1.xs, V1.ms), z9)) := qh (by rw [<- HXe.out, <- Hz9.out, HLY.out.newest h20.out, HsV.out.g, HsV.out.b, HsV.out.p, HsV.out.t, HsV.out.xs, HsV.out.ms])
 go_wp2_with fail
 clear q7
 clear HTc HTi HTp hw1 hd1 hd7 hd20 h1 h7 hS7 HfL HL7 hi6 hsz1 hs3 hn4 HT
 refine mergeWW (F := fun gz Da dn dc Db en ec E Wq => Box Wq gz 35 #[sC Da dn dc, sC Db en ec] /\ Box Wq gR 35 #[nsl, nsl] /\ Nx w Wq /\ WsR Wq w.heap.size V1.g z9 ss [(1 - z9, supT (V1.g + 1) V1.b V1.p V1.t X9 V1.ms)] x9 s9 Da dn Db en E) (G := ?_) (fun key => ?_) ?_
 rotate_left
 . have kd : Nx w7 w7.drew := (Nx.refl w7).drew
   replace zE := zE.nx kd; replace zF := zF.nx kd; replace zV := zV.nx kd; replace zR := zR.nx kd; replace zP := zP.nx kd; replace zX := zX.trans kd
   clear kd
   refine wp_planA (.t 0 (.t 1 (.t 2 (.t 3 (.t 7 (.t 8 (.t 9 (.b 4 (.b 5 (.b 6 (.b 10 (.b 11 (.t 12 (.t 13 (.t 14 (.c 15 (.c 16 (.t 17 .e)))))) 15 (.c 11 (.t 12 (.t 13 (.t 14 (.c 16 (.t 17 .e))))))) 15 (.c 10 (.c 11 (.t 12 (.t 13 (.t 14 (.c 16 (.t 17 .e)))))))) 15 (.c 6 (.c 10 (.c 11 (.t 12 (.t 13 (.t 14 (.c 16 (.t 17 .e))))))))) 15 (.c 5 (.c 6 (.c 10 (.c 11 (.t 12 (.t 13 (.t 14 (.c 16 (.t 17 .e)))))))))) 15 (.c 4 (.c 5 (.c 6 (.c 10 (.c 11 (.t 12 (.t 13 (.t 14 (.c 16 (.t 17 .e)))))))))))))))))) (fun w' => (CC w' w.heap.size 0 (sC A 64 c) /\ CC w' w.heap.size 1 (sC A2 0 c2)) /\ (CC w' gW 0 (ii V1.g) /\ CC w' gW 1 (ii V1.b) /\ CC w' gW 2 (ii V1.p) /\ CC w' gW 3 (ii V1.t) /\ CC w' gW 4 (sC V1.A V1.xs.length V1.c) /\ CC w' gW 5 (sC V1.A2 V1.ms.length V1.c2) /\ CC w' gW 6 (sC V1.A3 V1.gs.length V1.c3) /\ CC w' gW 7 (inAt V1.im 0) /\ CC w' gW 8 (inAt V1.im 1) /\ CC w' gW 9 (inAt V1.im 2) /\ CC w' gW 10 (inAt V1.im 3) /\ CC w' gW 11 (inAt V1.im 4) /\ CC w' gW 12 (inAt V1.im 5) /\ CC w' gW 13 (inAt V1.im 6) /\ CC w' gW 14 (inAt V1.im 7)) /\ (CC w' gF 0 (ii p) /\ CC w' gF 1 (ii (n0 : Int)) /\ CC w' gF 2 (ii v) /\ CC w' gF 3 (ii t))) (by exact ⟨⟨zE.c0, zE.c1⟩, zV.e15, zF.d4⟩) ?_
   simp only [psOf, List.getD_cons_zero, List.getD_cons_succ]
   generalize w7.drew = wv at *
   repeat' (first
    | (have hDn := hDone; have rc0 := bz.cell 0; have rf0 := bz.frozen 0; have rc1 := bz.cell 1; have rf1 := bz.frozen 1; have rlt := bz.lt; (with_reducible refine HP.call ?_); refine cSt fun K hK => ?_; go_simp; refine hK.out _ _ (by exact ⟨⟨((zE.far (p := ⟨gz, 0, none⟩) hnE (sC Da dn dc)).far (p := ⟨gz, 1, none⟩) hnE (sC Db en ec)).c0, ((zE.far (p := ⟨gz, 0, none⟩) hnE (sC Da dn dc)).far (p := ⟨gz, 1, none⟩) hnE (sC Db en ec)).c1⟩, ((zV.far (p := ⟨gz, 0, none⟩) hnV (sC Da dn dc)).far (p := ⟨gz, 1, none⟩) hnV (sC Db en ec)).e15, ((zF.far (p := ⟨gz, 0, none⟩) hnF (sC Da dn dc)).far (p := ⟨gz, 1, none⟩) hnF (sC Db en ec)).d4⟩) ?_; clear hK K; (try simp only [Act.put, qqA, qqB, qqC]); clear rc0 rf0 rc1 rf1; repeat (first | (refine HP.tk ?_; (try simp only [Act.put, qqA, qqB, qqC])) | (refine HP.sk ?_; (try simp only [Act.put, qqA, qqB, qqC]))); refine HP.done ?_; have rq := (bz.set0 (sC Da dn dc)).set1 (sC Db en ec); have rR := ((zR.far (p := ⟨gz, 0, none⟩) hnR (sC Da dn dc)).far (p := ⟨gz, 1, none⟩) hnR (sC Db en ec)); have rX := (zX.setCell (p := ⟨gz, 0, none⟩) hgz (sC Da dn dc)).setCell (p := ⟨gz, 1, none⟩) hgz (sC Db en ec); have rW := hWs.two bz (sC Da dn dc) (sC Db en ec); generalize (wv.setCell ⟨gz, 0, none⟩ (sC Da dn dc)).setCell ⟨gz, 1, none⟩ (sC Db en ec) = Wf at *; exact key gz Da dn dc Db en ec E Wf Aq cq A8 c8 A9 c9 As cs ⟨rq, rR, rX, rW⟩)
    | (with_reducible refine HP.both ?_ ?_)
    | (with_reducible refine HP.three ?_ ?_ ?_)
    | (with_reducible refine HP.call ?_)
    | (refine HP.tk ?_; (try simp only [Act.put, qqA, qqB, qqC]))
    | (refine HP.sk ?_; (try simp only [Act.put, qqA, qqB, qqC]))
    | (refine cSt fun K hK => ?_; go_simp; first
      | ((with_reducible refine callAt 155 ?_); have HC := viewSegOf_c V1 p v t n0 wv.heap.size wv zP.own.vlt.sgs nle HY.out (by have := HFr.out.2.1; omega) (by have := HFr.out.1; omega) (by have := HFr.out.1; omega); rw [Hm9.out, Ho9.out] at HC; refine HC.mono ?_; clear HC; rintro e wv ⟨Aq, cq, rfl, hSq, hk⟩; (try replace bz := bz.nx hk); replace zE := zE.nx hk; replace zF := zF.nx hk; replace zV := zV.nx hk; replace zR := zR.nx hk; replace zP := zP.nx hk; replace zX := zX.trans hk; (try replace hS8 := hS8.nx hk); (try replace hW8 := hW8.nx hk); (try replace hSs := hSs.nx hk); (try replace hWs := hWs.nx hk); clear hk; go_wp2_with fail; refine hK.out _ _ (by exact ⟨⟨zE.c0, zE.c1⟩, zV.e15, zF.d4⟩) ?_; clear hK K; (try simp only [Act.put, qqA, qqB, qqC]))
      | ((with_reducible refine callAt 156 ?_); refine (segTextM_c (p - 1) p m9 Aq cq wv.heap.size [((n0 : Int), v, o9)] wv hSq.row nle HGR.out).mono ?_; rintro e wv ⟨he, hk⟩; rw [HGT.out] at he; subst he; (try replace bz := bz.nx hk); replace zE := zE.nx hk; replace zF := zF.nx hk; replace zV := zV.nx hk; replace zR := zR.nx hk; replace zP := zP.nx hk; replace zX := zX.trans hk; (try replace hSq := hSq.nx hk); (try replace hS8 := hS8.nx hk); (try replace hW8 := hW8.nx hk); (try replace hSs := hSs.nx hk); (try replace hWs := hWs.nx hk); clear hk; go_wp2_with fail; refine hK.out _ _ (by exact ⟨⟨zE.c0, zE.c1⟩, zV.e15, zF.d4⟩) ?_; clear hK K; (try simp only [Act.put, qqA, qqB, qqC]))
      | ((with_reducible refine callAt 125 ?_); refine (written_c A A2 64 c 0 c2 B ss [] x9 s9 wv (h.below zX hB) (h2.below zX hB) (ntr hB zX.size) oM oM).mono ?_; rintro e wv ⟨A8, n8, c8, A9, n9, c9, rfl, hS8, hW8, hk⟩; obtain rfl : n8 = 64 := hS8.1.symm.trans h.1; obtain rfl : n9 = 1 := hW8.1.symm; (try replace bz := bz.nx hk); replace zE := zE.nx hk; replace zF := zF.nx hk; replace zV := zV.nx hk; replace zR := zR.nx hk; replace zP := zP.nx hk; replace zX := zX.trans hk; (try replace hSq := hSq.nx hk); (try replace hSs := hSs.nx hk); (try replace hWs := hWs.nx hk); clear hk; go_wp2_with fail; refine hK.out _ _ (by exact ⟨⟨zE.c0, zE.c1⟩, zV.e15, zF.d4⟩) ?_; clear hK K; (try simp only [Act.put, qqA, qqB, qqC]))
      | ((with_reducible refine callAt 157 ?_); have HC := withSector_c V1.g V1.b V1.p V1.t V1.A V1.A2 V1.c V1.c2 wv.heap.size V1.xs V1.ms x9 wv zP.own.vlt.tab nle HXL.out; unfold RetSec at HC; rw [HX9.out] at HC; refine HC.mono ?_; clear HC; rintro e wv ⟨As, cs, rfl, _, hSs, hk⟩; (try replace bz := bz.nx hk); replace zE := zE.nx hk; replace zF := zF.nx hk; replace zV := zV.nx hk; replace zR := zR.nx hk; replace zP := zP.nx hk; replace zX := zX.trans hk; (try replace hSq := hSq.nx hk); (try replace hS8 := hS8.nx hk); (try replace hW8 := hW8.nx hk); (try replace hWs := hWs.nx hk); clear hk; go_wp2_with fail; refine hK.out _ _ (by exact ⟨⟨zE.c0, zE.c1⟩, zV.e15, zF.d4⟩) ?_; clear hK K; (try simp only [Act.put, qqA, qqB, qqC]))
      | ((with_reducible refine callAt 54 ?_); refine (withSuper_c A8 A9 64 c8 1 c9 wv.heap.size ss ([] ++ [(x9, s9)]) V1.g V1.b V1.p V1.t As V1.A2 cs V1.c2 X9 V1.ms wv a0 a1 hS8.strs hW8.wrs hSs.row zP.own.vlt.mks nle HDp.out HS1.out (hE.nx zX) (hM.nx zX) (hEt.nx zX) (hT.nx zX)).mono ?_; intro e wv hrw; obtain ⟨hk, Da, dn, dc, Db, en, ec, E, rfl, hWs⟩ := hrw.one HNU.out; clear hrw; replace hWs := hWs.low zX.size; have hDone := True.intro; (try replace bz := bz.nx hk); replace zE := zE.nx hk; replace zF := zF.nx hk; replace zV := zV.nx hk; replace zR := zR.nx hk; replace zP := zP.nx hk; replace zX := zX.trans hk; (try replace hSq := hSq.nx hk); (try replace hS8 := hS8.nx hk); (try replace hW8 := hW8.nx hk); (try replace hSs := hSs.nx hk); clear hk; go_wp2_with fail; refine hK.out _ _ (by exact ⟨⟨zE.c0, zE.c1⟩, zV.e15, zF.d4⟩) ?_; clear hK K; (try simp only [Act.put, qqA, qqB, qqC]))
      | (have bz := Box.new wv 35 #[nsl, nsl]; have hz := (Nx.refl wv).alloc (.cells #[nsl, nsl] 35); have hnE := Nat.ne_of_lt zE.lt; have hnV := Nat.ne_of_lt zV.lt; have hnF := Nat.ne_of_lt zF.lt; have hnR := Nat.ne_of_lt zR.lt; have hgz := zX.size; (try replace bz := bz.nx hz); replace zE := zE.nx hz; replace zF := zF.nx hz; replace zV := zV.nx hz; replace zR := zR.nx hz; replace zP := zP.nx hz; replace zX := zX.trans hz; (try replace hSq := hSq.nx hz); (try replace hS8 := hS8.nx hz); (try replace hW8 := hW8.nx hz); (try replace hSs := hSs.nx hz); (try replace hWs := hWs.nx hz); refine hK.out _ _ (by exact ⟨⟨zE.c0, zE.c1⟩, zV.e15, zF.d4⟩) ?_; clear hK K; (try simp only [Act.put, qqA, qqB, qqC]); clear hz; change HP _ _ _ _ _ _ (wv.alloc (.cells #[nsl, nsl] 35)); generalize wv.heap.size = gz at *; generalize wv.alloc (.cells #[nsl, nsl] 35) = wv at *)))
 intro gz Da dn dc Db en ec E Wq Aq cq A8 c8 A9 c9 As cs ⟨zB, zR, zX, hWR⟩
 rcases hWR with ⟨hg, rfl⟩ | ⟨hg, rfl, hSd, hWd⟩
 . have HR2 := qh (HN.out 7 (apC_full HP0.out (.inr (HsV.out.g.symm.trans hg))) dC)
   have m0 := zR.c0
   have m1 := zR.c1
   have mf0 := zR.frozen 0
   have mf1 := zR.frozen 1
   unfold slE
   go_wp2_with fail
   refine (slotCode_c z9 7 _ (hEt.nx zX)).mono ?_
   rintro e w9 ⟨rfl, hk⟩
   replace zR := zR.nx hk
   replace zX := zX.trans hk
   replace m0 := zR.c0
   replace m1 := zR.c1
   replace mf0 := zR.frozen 0
   replace mf1 := zR.frozen 1
   clear hk
   go_wp2_with fail
   have rq := (zR.set0 (nsl)).set1 (nsl)
   have hnf := (zX.setCell (p := ⟨gR, 0, none⟩) hgR (nsl)).setCell (p := ⟨gR, 1, none⟩) hgR (nsl)
   generalize (w9.setCell ⟨gR, 0, none⟩ (nsl)).setCell ⟨gR, 1, none⟩ (nsl) = Wf at *
   clear m0 m1 mf0 mf1
   have q0 := rq.c0
   have q1 := rq.c1
   go_wp2
   exact bodyPost_ret (v := .tuple #[.agg #[nsl, nsl], ii 7]) (by simp [results, results75, go_sem, q0, q1]) rfl (RetDiskCode.nil HR2.out hnf)
 have HR2 : Hid (R = ((settleTo kpAll ss ([] ++ [(x9, s9)]) 1, [(1 - z9, supT (V1.g + 1) V1.b V1.p V1.t X9 V1.ms)]), 0)) := qh (by
  rw [<- HR.out, wwP_yes HL.out (apC_yes HP0.out h20.out (by rw [<- HsV.out.g]; exact hg))]
  unfold apD
  rw [HXe.out, Hs9.out, Hz9.out, <- HX9.out, settle_put, HsV.out.g, HsV.out.b, HsV.out.p, HsV.out.t, HsV.out.xs, HsV.out.ms])
 have m0 := zR.c0
 have m1 := zR.c1
 have mf0 := zR.frozen 0
 have mf1 := zR.frozen 1
 have n0' := zB.c0
 have n1' := zB.c1
 go_wp2_with fail
 have rq := (zR.set0 (sC Da dn dc)).set1 (sC Db en ec)
 have hnf := (zX.setCell (p := ⟨gR, 0, none⟩) hgR (sC Da dn dc)).setCell (p := ⟨gR, 1, none⟩) hgR (sC Db en ec)
 have hSf := hSd.twoW zR (sC Da dn dc) (sC Db en ec)
 have hWf := hWd.twoW zR (sC Da dn dc) (sC Db en ec)
 generalize (Wq.setCell ⟨gR, 0, none⟩ (sC Da dn dc)).setCell ⟨gR, 1, none⟩ (sC Db en ec) = Wf at *
 clear m0 m1 mf0 mf1 n0' n1'
 have q0 := rq.c0
 have q1 := rq.c1
 exact bodyPost_ret (v := .tuple #[.agg #[sC Da dn dc, sC Db en ec], ii 0]) (by simp [results, results75, go_sem, q0, q1]) rfl (RetDiskCode.mk HR2.out hSf hWf hnf)
theorem askD_disk {ss : List BA} {ws : List (Int × BA)} {p b v t : Int} (h : diskB ss ws = false) : askD ss ws p b v t = false := by unfold askD; rw [h]; rfl
theorem askD_wait {ss : List BA} {ws : List (Int × BA)} {p b v t : Int} (h : ws.length ≠ 0) : askD ss ws p b v t = false := by unfold askD; rw [decide_eq_false h]; simp
theorem askD_of {ss : List BA} {ws : List (Int × BA)} {p b v t : Int} (h : diskB ss ws = true) (h2 : ws.length = 0) : askD ss ws p b v t = frameB p b v t := by unfold askD; rw [h, decide_eq_true h2]; rfl
def idleB (ss : List BA) (ws : List (Int × BA)) : Bool := diskB ss ws && decide (ws.length = 0)
theorem l05Ask_c (A A2 : Option Addr) (n c n2 c2 B : Nat) (ss : List BA) (ws : List (Int × BA)) (p b v t : Int) (w : World) (h : Strs w B A n ss) (h2 : Wrs w B A2 n2 ws) (hB : B <= w.heap.size) (hn : n <= 1048576) (hn2 : n2 <= 1048576) :
 Calls Tryz.prog 76 #[.agg #[sC A n c, sC A2 n2 c2], .agg #[ii p, ii b, ii v, ii t]] w fun e w' => e = .returned (.bool (askD ss ws p b v t)) /\ Nx w w' := by
 have e0 : Box ((w.alloc (.cells #[sC A n c, sC A2 n2 c2] 35)).alloc (.cells #[ii p, ii b, ii v, ii t] 55)) w.heap.size 35 #[sC A n c, sC A2 n2 c2] := (Box.new w _ _).alloc _
 have f0 : Box ((w.alloc (.cells #[sC A n c, sC A2 n2 c2] 35)).alloc (.cells #[ii p, ii b, ii v, ii t] 55)) (w.heap.size + 1) 55 #[ii p, ii b, ii v, ii t] := by have := Box.new (w.alloc (.cells #[sC A n c, sC A2 n2 c2] 35)) 55 #[ii p, ii b, ii v, ii t]; rwa [World.size_alloc] at this
 have hx0 := ((Nx.refl w).alloc (.cells #[sC A n c, sC A2 n2 c2] 35)).alloc (.cells #[ii p, ii b, ii v, ii t] 55)
 have hl := h2.1
 go_enter func76, ntmps76
 go_wp2_with fail
 generalize (w.alloc (.cells #[sC A n c, sC A2 n2 c2] 35)).alloc (.cells #[ii p, ii b, ii v, ii t] 55) = W at *
 refine (specDiskOK_c A A2 n c n2 c2 B ss ws W (h.below hx0 hB) (h2.below hx0 hB) (ntr hB hx0.size) hn hn2).mono ?_
 rintro e w1 ⟨rfl, hk⟩
 have e1 := e0.nx hk
 have f1 := f0.nx hk
 have hx1 := hx0.trans hk
 cases hD : diskB ss ws with
 | false =>
   have HA := qh (askD_disk (p := p) (b := b) (v := v) (t := t) hD)
   clear hD
   go_wp2
   go_ret
   exact ⟨ret_bool HA.out.symm, hx1⟩
 | true =>
   have z1 := e1.c1
   by_cases h0 : n2 = 0
   case neg =>
    have HA := qh (askD_wait (ss := ss) (p := p) (b := b) (v := v) (t := t) (show ws.length ≠ 0 by omega))
    have hd : ((n2 : Int) == 0) = false := by rw [beq_eq_false_iff_ne]; omega
    clear hD
    go_wp2
    go_ret
    exact ⟨ret_bool HA.out.symm, hx1⟩
   have HA := qh (askD_of (p := p) (b := b) (v := v) (t := t) hD (show ws.length = 0 by omega))
   have hd : ((n2 : Int) == 0) = true := by rw [beq_iff_eq]; omega
   obtain ⟨y0, y1, y2, y3⟩ := f1.d4
   clear hD
   go_wp2_with fail
   refine (specFrameOK_c p b v t w1).mono ?_
   rintro e w2 ⟨rfl, hk2⟩
   go_wp2
   go_ret
   exact ⟨ret_bool HA.out.symm, hx1.trans hk2⟩
theorem isIdle_c (A A2 : Option Addr) (n c n2 c2 B : Nat) (ss : List BA) (ws : List (Int × BA)) (w : World) (h : Strs w B A n ss) (h2 : Wrs w B A2 n2 ws) (hB : B <= w.heap.size) (hn : n <= 1048576) (hn2 : n2 <= 1048576) :
 Calls Tryz.prog 73 #[.agg #[sC A n c, sC A2 n2 c2]] w fun e w' => e = .returned (.bool (idleB ss ws)) /\ Nx w w' := by
 have e0 := Box.new w 35 #[sC A n c, sC A2 n2 c2]
 have hx0 := (Nx.refl w).alloc (.cells #[sC A n c, sC A2 n2 c2] 35)
 have hl := h2.1
 go_enter func73, ntmps73
 go_wp2_with fail
 generalize w.alloc (.cells #[sC A n c, sC A2 n2 c2] 35) = W at *
 refine (isRight_c A A2 n c n2 c2 B ss ws W (h.below hx0 hB) (h2.below hx0 hB) (ntr hB hx0.size) hn hn2).mono ?_
 rintro e w1 ⟨rfl, hk⟩
 have e1 := e0.nx hk
 have hx1 := hx0.trans hk
 cases hD : diskB ss ws with
 | false =>
   have HA : Hid (idleB ss ws = false) := qh (by unfold idleB; rw [hD]; rfl)
   clear hD
   go_wp2
   go_ret
   exact ⟨ret_bool HA.out.symm, hx1⟩
 | true =>
   have z1 := e1.c1
   have HA : Hid (idleB ss ws = decide (ws.length = 0)) := qh (by unfold idleB; rw [hD]; rfl)
   clear hD
   by_cases h0 : n2 = 0
   . have hd : ((n2 : Int) == 0) = true := by rw [beq_iff_eq]; omega
     have HB : Hid (decide (ws.length = 0) = true) := qh (decide_eq_true oM)
     go_wp2
     go_ret
     exact ⟨ret_bool (by rw [HA.out, HB.out]), hx1⟩
   . have hd : ((n2 : Int) == 0) = false := by rw [beq_eq_false_iff_ne]; omega
     have HB : Hid (decide (ws.length = 0) = false) := qh (decide_eq_false oM)
     go_wp2
     go_ret
     exact ⟨ret_bool (by rw [HA.out, HB.out]), hx1⟩
theorem askD_yes {ss : List BA} {ws : List (Int × BA)} {p b v t : Int} (h : askD ss ws p b v t = true) : diskB ss [] = true /\ ws = [] /\ frameB p b v t = true /\ ∃ n : Nat, b = (n : Int) := by
 unfold askD at h
 simp only [Bool.and_eq_true, decide_eq_true_eq] at h
 have hw : ws = [] := List.length_eq_zero_iff.1 h.1.2
 subst hw
 exact ⟨h.1.1, rfl, h.2, b.toNat, (Int.toNat_of_nonneg (frameB_yes h.2).2.1.1).symm⟩
theorem apC_zero {V : Vl} {cd p : Int} (h : apC V cd p = 0) : cd = 0 /\ p = V.tip + 1 /\ V.gs.length ≠ 20 /\ V.g ≠ 999999 := by
 unfold apC at h
 by_cases h0 : cd ≠ 0
 . rw [if_pos h0] at h; exact absurd h h0
 rw [if_neg h0] at h
 by_cases h1 : p <= V.tip
 . rw [if_pos h1] at h; exact absurd h dC
 rw [if_neg h1] at h
 by_cases h2 : V.tip + 1 < p
 . rw [if_pos h2] at h; exact absurd h dC
 rw [if_neg h2] at h
 by_cases h3 : V.gs.length = 20 \/ V.g = 999999
 . rw [if_pos h3] at h; exact absurd h dC
 exact ⟨oM, oM, fun e => h3 (.inl e), fun e => h3 (.inr e)⟩
theorem apP_disk {ss : List BA} {p v t : Int} {n : Nat} (hD : diskB ss [] = true) (hF : frameB p (n : Int) v t = true) : diskB (apP ss p n v t).1.1 (apP ss p n v t).1.2 = true := by
 obtain ⟨⟨V, cd⟩, hL⟩ : ∃ q, ldV ss [] = q := ⟨_, rfl⟩
 by_cases hc : apC V cd p = 0
 . rw [apP_yes hL hc]
   obtain ⟨h0, h1, h2, h3⟩ := apC_zero hc
   subst h0
   have hA : Asked ss V p n v t := ⟨hD, ldV_ldY hL, hF, h1, h2, h3⟩
   exact hA.disk1
 . rw [apP_no hL rfl hc]; exact hD
theorem ww_ap_no {ss : List BA} {p v t k : Int} {n : Nat} (h : (wwP ss p n v t).2 = k) (h0 : k ≠ 0) : apP ss p n v t = ((ss, []), k) := by
 by_cases hc : apC (ldV ss []).1 (ldV ss []).2 p = 0
 . unfold wwP at h; rw [if_pos hc] at h; exact absurd h.symm h0
 . unfold wwP at h; rw [if_neg hc] at h
   unfold apP; rw [if_neg hc, <- h]
theorem ww_ap_yes {ss : List BA} {p v t cd : Int} {n : Nat} {P1 : List BA} {P2 : List (Int × BA)} (h : (wwP ss p n v t).2 = 0) (h2 : apP ss p n v t = ((P1, P2), cd)) : wwP ss p n v t = ((P1, P2), 0) /\ cd = 0 := by
 by_cases hc : apC (ldV ss []).1 (ldV ss []).2 p = 0
 . unfold apP at h2; rw [if_pos hc] at h2
   unfold wwP; rw [if_pos hc]
   injection h2 with h3 h4
   exact ⟨by rw [h3], h4.symm⟩
 . unfold wwP at h; rw [if_neg hc] at h; exact absurd h hc
theorem specAppendWrite_c (A A2 : Option Addr) (n c n2 c2 B : Nat) (ss : List BA) (ws : List (Int × BA)) (p b v t : Int) (w : World) (h : Strs w B A n ss) (h2 : Wrs w B A2 n2 ws) (hB : B <= w.heap.size) (hn : n <= 1048576) (hn2 : n2 <= 1048576) :
 Calls Tryz.prog 26 #[.agg #[sC A n c, sC A2 n2 c2], .agg #[ii p, ii b, ii v, ii t]] w (RetDiskCode w (awP ss ws p b v t).1.1 (awP ss ws p b v t).1.2 (awP ss ws p b v t).2) := by
 obtain ⟨R, HR⟩ := nM (awP ss ws p b v t)
 rw [HR.out]
 have HR : Hid ((if askD ss ws p b v t then ((settleTo kpAll (apP ss p b.toNat v t).1.1 (apP ss p b.toNat v t).1.2 (apP ss p b.toNat v t).1.2.length, []), (apP ss p b.toNat v t).2) else (([], []), 1)) = R) := qh HR.out
 have zE : Box (((w.alloc (.cells #[sC A n c, sC A2 n2 c2] 35)).alloc (.cells #[ii p, ii b, ii v, ii t] 55)).alloc (.cells #[nsl, nsl] 35)) w.heap.size 35 #[sC A n c, sC A2 n2 c2] := ((Box.new w _ _).alloc _).alloc _
 have zF : Box (((w.alloc (.cells #[sC A n c, sC A2 n2 c2] 35)).alloc (.cells #[ii p, ii b, ii v, ii t] 55)).alloc (.cells #[nsl, nsl] 35)) (w.heap.size + 1) 55 #[ii p, ii b, ii v, ii t] := by have := (Box.new (w.alloc (.cells #[sC A n c, sC A2 n2 c2] 35)) 55 #[ii p, ii b, ii v, ii t]).alloc (.cells #[nsl, nsl] 35); rwa [World.size_alloc] at this
 have zR : Box (((w.alloc (.cells #[sC A n c, sC A2 n2 c2] 35)).alloc (.cells #[ii p, ii b, ii v, ii t] 55)).alloc (.cells #[nsl, nsl] 35)) (w.heap.size + 1 + 1) 35 #[nsl, nsl] := by have := Box.new ((w.alloc (.cells #[sC A n c, sC A2 n2 c2] 35)).alloc (.cells #[ii p, ii b, ii v, ii t] 55)) 35 #[nsl, nsl]; rwa [World.size_alloc, World.size_alloc] at this
 have zX := (((Nx.refl w).alloc (.cells #[sC A n c, sC A2 n2 c2] 35)).alloc (.cells #[ii p, ii b, ii v, ii t] 55)).alloc (.cells #[nsl, nsl] 35)
 have hgR : w.heap.size <= w.heap.size + 1 + 1 := oM
 obtain ⟨gR, HgR⟩ := nM (w.heap.size + 1 + 1)
 go_enter func26, ntmps26
 have y0 := zE.c0
 have y1 := zE.c1
 obtain ⟨x0, x1, x2, x3⟩ := zF.d4
 go_wp2_with fail
 generalize (((w.alloc (.cells #[sC A n c, sC A2 n2 c2] 35)).alloc (.cells #[ii p, ii b, ii v, ii t] 55)).alloc (.cells #[nsl, nsl] 35)) = W at *
 rw [HgR.out] at zR hgR ⊢
 clear y0 y1 x0 x1 x2 x3
 refine (l05Ask_c A A2 n c n2 c2 B ss ws p b v t W (h.below zX hB) (h2.below zX hB) (ntr hB zX.size) hn hn2).mono ?_
 rintro e w1 ⟨rfl, hk⟩
 replace zE := zE.nx hk; replace zF := zF.nx hk; replace zR := zR.nx hk; replace zX := zX.trans hk; clear hk
 cases hA : askD ss ws p b v t with
 | false =>
   have HR2 : Hid (R = (([], []), 1)) := qh (by rw [<- HR.out, hA]; rfl)
   clear hA
   have m0 := zR.c0
   have m1 := zR.c1
   have mf0 := zR.frozen 0
   have mf1 := zR.frozen 1
   go_wp2_with fail
   have rq := (zR.set0 (nsl)).set1 (nsl)
   have hnf := (zX.setCell (p := ⟨gR, 0, none⟩) hgR (nsl)).setCell (p := ⟨gR, 1, none⟩) hgR (nsl)
   generalize (w1.setCell ⟨gR, 0, none⟩ (nsl)).setCell ⟨gR, 1, none⟩ (nsl) = Wf at *
   clear m0 m1 mf0 mf1
   have q0 := rq.c0
   have q1 := rq.c1
   go_wp2
   exact bodyPost_ret (v := .tuple #[.agg #[nsl, nsl], ii 1]) (by simp [results, results26, go_sem, q0, q1]) rfl (RetDiskCode.nil HR2.out hnf)
 | true =>
 obtain ⟨hD, hw0, hF, n0, hb0⟩ := askD_yes hA
 subst hw0 hb0
 have HR2 : Hid (R = ((settleTo kpAll (apP ss p n0 v t).1.1 (apP ss p n0 v t).1.2 (apP ss p n0 v t).1.2.length, []), (apP ss p n0 v t).2)) := qh (by rw [<- HR.out, hA]; rfl)
 have HAD := qh (apP_disk (p := p) (v := v) (t := t) (n := n0) hD hF)
 have HD := qh hD
 have HFr := qh hF
 clear hA HR hD hF
 obtain rfl : n = 64 := by rw [<- h.1]; exact (diskB_len64 HD.out).1
 obtain rfl : n2 = 0 := h2.1.symm
 have y0 := zE.c0
 have y1 := zE.c1
 obtain ⟨x0, x1, x2, x3⟩ := zF.d4
 go_wp2_with fail
 clear y0 y1 x0 x1 x2 x3
 refine (l05Append_c A A2 64 c 0 c2 B ss p v t n0 w1 (h.below zX hB) (h2.below zX hB) (ntr hB zX.size) HD.out HFr.out).mono ?_
 rintro e w2 ⟨Aa, an, ac, Ba, bn, bc, rfl, hSa, hWa, hk⟩
 replace zE := zE.nx hk; replace zF := zF.nx hk; replace zR := zR.nx hk; replace zX := zX.trans hk; clear hk
 obtain ⟨⟨⟨P1, P2⟩, cd⟩, HP⟩ := nM (apP ss p n0 v t)
 rw [HP.out] at hSa hWa HR2 HAD ⊢
 simp only at hSa hWa ⊢
 obtain rfl : an = 64 := by rw [<- hSa.1]; exact (diskB_len64 HAD.out).1
 have hb80 : bn <= 80 := by rw [<- hWa.1]; exact (diskB_len64 HAD.out).2.1
 have HWo := qh (diskB_len64 HAD.out).2.2.2
 have HR3 : Hid (R = ((settleTo kpAll P1 P2 bn, []), cd)) := qh (by rw [HR2.out, <- hWa.1])
 go_wp2_with fail
 have hk := (Nx.refl w2).alloc (.cells #[sC Aa 64 ac, sC Ba bn bc] 35)
 replace hSa := hSa.below hk nle
 replace hWa := hWa.below hk nle
 have hs2 := hk.size
 replace zE := zE.nx hk; replace zF := zF.nx hk; replace zR := zR.nx hk; replace zX := zX.trans hk; clear hk
 change Calls _ _ _ (w2.alloc (.cells #[sC Aa 64 ac, sC Ba bn bc] 35)) _
 generalize w2.alloc (.cells #[sC Aa 64 ac, sC Ba bn bc] 35) = w3 at *
 refine (l01Flush_c Aa Ba ac bn bc w2.heap.size P1 P2 w3 hSa hWa hs2 hb80 HWo.out).mono ?_
 rintro e w4 ⟨A8, n8, c8, A9, n9, c9, rfl, hS8, hW8, hk⟩
 have hz3 := zX.size
 replace zE := zE.nx hk; replace zF := zF.nx hk; replace zR := zR.nx hk; replace zX := zX.trans hk; clear hk
 replace hS8 := hS8.low (lo' := w.heap.size) hz3
 replace hW8 := hW8.low (lo' := w.heap.size) hz3
 have m0 := zR.c0
 have m1 := zR.c1
 have mf0 := zR.frozen 0
 have mf1 := zR.frozen 1
 go_wp2_with fail
 have rq := (zR.set0 (sC A8 n8 c8)).set1 (sC A9 n9 c9)
 have hnf := (zX.setCell (p := ⟨gR, 0, none⟩) hgR (sC A8 n8 c8)).setCell (p := ⟨gR, 1, none⟩) hgR (sC A9 n9 c9)
 have hSf := hS8.twoW zR (sC A8 n8 c8) (sC A9 n9 c9)
 have hWf := hW8.twoW zR (sC A8 n8 c8) (sC A9 n9 c9)
 generalize (w4.setCell ⟨gR, 0, none⟩ (sC A8 n8 c8)).setCell ⟨gR, 1, none⟩ (sC A9 n9 c9) = Wf at *
 clear m0 m1 mf0 mf1
 have q0 := rq.c0
 have q1 := rq.c1
 go_wp2
 exact bodyPost_ret (v := .tuple #[.agg #[sC A8 n8 c8, sC A9 n9 c9], ii cd]) (by simp [results, results26, go_sem, q0, q1]) rfl (RetDiskCode.mk HR3.out hSf hWf hnf)
theorem specAppendTorn_c (A A2 : Option Addr) (n c n2 c2 B : Nat) (ss : List BA) (ws : List (Int × BA)) (p b v t : Int) (A3 : Option Addr) (m c3 : Nat) (bs : List Bool) (w : World) (h : Strs w B A n ss) (h2 : Wrs w B A2 n2 ws) (hB : B <= w.heap.size) (hn : n <= 1048576) (hn2 : n2 <= 1048576) (h3 : Bls w B A3 m bs) (hm2 : m <= 1048576) :
 Calls Tryz.prog 31 #[.agg #[sC A n c, sC A2 n2 c2], .agg #[ii p, ii b, ii v, ii t], sC A3 m c3] w (RetDiskCode w (awT ss ws p b v t bs).1.1 (awT ss ws p b v t bs).1.2 (awT ss ws p b v t bs).2) := by
 obtain ⟨R, HR⟩ := nM (awT ss ws p b v t bs)
 rw [HR.out]
 by_cases hlong : 4096 < bs.length
 . have hd0 : decide (4096 < (m : Int)) = true := decide_eq_true (by have := h3.1; omega)
   have HR2 : Hid (R = (([], []), 2)) := qh (by rw [<- HR.out]; unfold awT; rw [if_pos hlong])
   have zE : Box (((w.alloc (.cells #[sC A n c, sC A2 n2 c2] 35)).alloc (.cells #[ii p, ii b, ii v, ii t] 55)).alloc (.cells #[nsl, nsl] 35)) w.heap.size 35 #[sC A n c, sC A2 n2 c2] := ((Box.new w _ _).alloc _).alloc _
   have zF : Box (((w.alloc (.cells #[sC A n c, sC A2 n2 c2] 35)).alloc (.cells #[ii p, ii b, ii v, ii t] 55)).alloc (.cells #[nsl, nsl] 35)) (w.heap.size + 1) 55 #[ii p, ii b, ii v, ii t] := by have := (Box.new (w.alloc (.cells #[sC A n c, sC A2 n2 c2] 35)) 55 #[ii p, ii b, ii v, ii t]).alloc (.cells #[nsl, nsl] 35); rwa [World.size_alloc] at this
   have zR : Box (((w.alloc (.cells #[sC A n c, sC A2 n2 c2] 35)).alloc (.cells #[ii p, ii b, ii v, ii t] 55)).alloc (.cells #[nsl, nsl] 35)) (w.heap.size + 1 + 1) 35 #[nsl, nsl] := by have := Box.new ((w.alloc (.cells #[sC A n c, sC A2 n2 c2] 35)).alloc (.cells #[ii p, ii b, ii v, ii t] 55)) 35 #[nsl, nsl]; rwa [World.size_alloc, World.size_alloc] at this
   have zX := (((Nx.refl w).alloc (.cells #[sC A n c, sC A2 n2 c2] 35)).alloc (.cells #[ii p, ii b, ii v, ii t] 55)).alloc (.cells #[nsl, nsl] 35)
   have hgR : w.heap.size <= w.heap.size + 1 + 1 := oM
   obtain ⟨gR, HgR⟩ := nM (w.heap.size + 1 + 1)
   rw [HgR.out] at zR hgR
   go_enter func31, ntmps31
   have m0 := zR.c0
   have m1 := zR.c1
   have mf0 := zR.frozen 0
   have mf1 := zR.frozen 1
   rw [<- HgR.out] at m0 m1 mf0 mf1 zR hgR
   go_wp2
   have rq := (zR.set0 (nsl)).set1 (nsl)
   have hnf := (zX.setCell (p := ⟨w.heap.size + 1 + 1, 0, none⟩) hgR (nsl)).setCell (p := ⟨w.heap.size + 1 + 1, 1, none⟩) hgR (nsl)
   exact bodyPost_ret (v := .tuple #[.agg #[nsl, nsl], ii 2]) (by simp [results, results31, go_sem]) rfl (RetDiskCode.nil HR2.out ((((Nx.refl _).alloc _).alloc _).alloc _))
 have hd0 : decide (4096 < (m : Int)) = false := decide_eq_false (by have := h3.1; omega)
 have HR : Hid ((if askD ss ws p b v t then ((settleTo (kpC bs) (apP ss p b.toNat v t).1.1 (apP ss p b.toNat v t).1.2 (apP ss p b.toNat v t).1.2.length, []), (apP ss p b.toNat v t).2) else (([], []), 1)) = R) := qh (by rw [<- HR.out]; unfold awT; rw [if_neg hlong])
 have HLn := qh hlong
 clear hlong
 have zE : Box (((w.alloc (.cells #[sC A n c, sC A2 n2 c2] 35)).alloc (.cells #[ii p, ii b, ii v, ii t] 55)).alloc (.cells #[nsl, nsl] 35)) w.heap.size 35 #[sC A n c, sC A2 n2 c2] := ((Box.new w _ _).alloc _).alloc _
 have zF : Box (((w.alloc (.cells #[sC A n c, sC A2 n2 c2] 35)).alloc (.cells #[ii p, ii b, ii v, ii t] 55)).alloc (.cells #[nsl, nsl] 35)) (w.heap.size + 1) 55 #[ii p, ii b, ii v, ii t] := by have := (Box.new (w.alloc (.cells #[sC A n c, sC A2 n2 c2] 35)) 55 #[ii p, ii b, ii v, ii t]).alloc (.cells #[nsl, nsl] 35); rwa [World.size_alloc] at this
 have zR : Box (((w.alloc (.cells #[sC A n c, sC A2 n2 c2] 35)).alloc (.cells #[ii p, ii b, ii v, ii t] 55)).alloc (.cells #[nsl, nsl] 35)) (w.heap.size + 1 + 1) 35 #[nsl, nsl] := by have := Box.new ((w.alloc (.cells #[sC A n c, sC A2 n2 c2] 35)).alloc (.cells #[ii p, ii b, ii v, ii t] 55)) 35 #[nsl, nsl]; rwa [World.size_alloc, World.size_alloc] at this
 have zX := (((Nx.refl w).alloc (.cells #[sC A n c, sC A2 n2 c2] 35)).alloc (.cells #[ii p, ii b, ii v, ii t] 55)).alloc (.cells #[nsl, nsl] 35)
 have hgR : w.heap.size <= w.heap.size + 1 + 1 := oM
 obtain ⟨gR, HgR⟩ := nM (w.heap.size + 1 + 1)
 go_enter func31, ntmps31
 have y0 := zE.c0
 have y1 := zE.c1
 obtain ⟨x0, x1, x2, x3⟩ := zF.d4
 go_wp2_with fail
 generalize (((w.alloc (.cells #[sC A n c, sC A2 n2 c2] 35)).alloc (.cells #[ii p, ii b, ii v, ii t] 55)).alloc (.cells #[nsl, nsl] 35)) = W at *
 rw [HgR.out] at zR hgR ⊢
 clear y0 y1 x0 x1 x2 x3
 refine (l05Ask_c A A2 n c n2 c2 B ss ws p b v t W (h.below zX hB) (h2.below zX hB) (ntr hB zX.size) hn hn2).mono ?_
 rintro e w1 ⟨rfl, hk⟩
 replace zE := zE.nx hk; replace zF := zF.nx hk; replace zR := zR.nx hk; replace zX := zX.trans hk; clear hk
 cases hA : askD ss ws p b v t with
 | false =>
   have HR2 : Hid (R = (([], []), 1)) := qh (by rw [<- HR.out, hA]; rfl)
   clear hA
   have m0 := zR.c0
   have m1 := zR.c1
   have mf0 := zR.frozen 0
   have mf1 := zR.frozen 1
   go_wp2_with fail
   have rq := (zR.set0 (nsl)).set1 (nsl)
   have hnf := (zX.setCell (p := ⟨gR, 0, none⟩) hgR (nsl)).setCell (p := ⟨gR, 1, none⟩) hgR (nsl)
   generalize (w1.setCell ⟨gR, 0, none⟩ (nsl)).setCell ⟨gR, 1, none⟩ (nsl) = Wf at *
   clear m0 m1 mf0 mf1
   have q0 := rq.c0
   have q1 := rq.c1
   go_wp2
   exact bodyPost_ret (v := .tuple #[.agg #[nsl, nsl], ii 1]) (by simp [results, results31, go_sem, q0, q1]) rfl (RetDiskCode.nil HR2.out hnf)
 | true =>
 obtain ⟨hD, hw0, hF, n0, hb0⟩ := askD_yes hA
 subst hw0 hb0
 have HR2 : Hid (R = ((settleTo (kpC bs) (apP ss p n0 v t).1.1 (apP ss p n0 v t).1.2 (apP ss p n0 v t).1.2.length, []), (apP ss p n0 v t).2)) := qh (by rw [<- HR.out, hA]; rfl)
 have HAD := qh (apP_disk (p := p) (v := v) (t := t) (n := n0) hD hF)
 have HD := qh hD
 have HFr := qh hF
 clear hA HR hD hF
 obtain rfl : n = 64 := by rw [<- h.1]; exact (diskB_len64 HD.out).1
 obtain rfl : n2 = 0 := h2.1.symm
 have y0 := zE.c0
 have y1 := zE.c1
 obtain ⟨x0, x1, x2, x3⟩ := zF.d4
 go_wp2_with fail
 clear y0 y1 x0 x1 x2 x3
 refine (l05Append_c A A2 64 c 0 c2 B ss p v t n0 w1 (h.below zX hB) (h2.below zX hB) (ntr hB zX.size) HD.out HFr.out).mono ?_
 rintro e w2 ⟨Aa, an, ac, Ba, bn, bc, rfl, hSa, hWa, hk⟩
 replace zE := zE.nx hk; replace zF := zF.nx hk; replace zR := zR.nx hk; replace zX := zX.trans hk; clear hk
 obtain ⟨⟨⟨P1, P2⟩, cd⟩, HP⟩ := nM (apP ss p n0 v t)
 rw [HP.out] at hSa hWa HR2 HAD ⊢
 simp only at hSa hWa ⊢
 obtain rfl : an = 64 := by rw [<- hSa.1]; exact (diskB_len64 HAD.out).1
 have hb80 : bn <= 80 := by rw [<- hWa.1]; exact (diskB_len64 HAD.out).2.1
 have HWo := qh (diskB_len64 HAD.out).2.2.2
 have HR3 : Hid (R = ((settleTo (kpC bs) P1 P2 bn, []), cd)) := qh (by rw [HR2.out, <- hWa.1])
 go_wp2_with fail
 have hk := (Nx.refl w2).alloc (.cells #[sC Aa 64 ac, sC Ba bn bc] 35)
 replace hSa := hSa.below hk nle
 replace hWa := hWa.below hk nle
 have hs2 := hk.size
 replace zE := zE.nx hk; replace zF := zF.nx hk; replace zR := zR.nx hk; replace zX := zX.trans hk; clear hk
 change Calls _ _ _ (w2.alloc (.cells #[sC Aa 64 ac, sC Ba bn bc] 35)) _
 generalize w2.alloc (.cells #[sC Aa 64 ac, sC Ba bn bc] 35) = w3 at *
 refine (l01Crash_c Aa Ba ac bn bc w3.heap.size A3 m c3 bs P1 P2 w3 (hSa.more hs2) (hWa.more hs2) ((h3.below zX hB).more (ntr hB zX.size)) hm2 nle hb80 HWo.out).mono ?_
 rintro e w4 ⟨A8, n8, c8, A9, n9, c9, rfl, hS8, hW8, hk⟩
 have hz3 := zX.size
 replace zE := zE.nx hk; replace zF := zF.nx hk; replace zR := zR.nx hk; replace zX := zX.trans hk; clear hk
 replace hS8 := hS8.low (lo' := w.heap.size) hz3
 replace hW8 := hW8.low (lo' := w.heap.size) hz3
 have m0 := zR.c0
 have m1 := zR.c1
 have mf0 := zR.frozen 0
 have mf1 := zR.frozen 1
 go_wp2_with fail
 have rq := (zR.set0 (sC A8 n8 c8)).set1 (sC A9 n9 c9)
 have hnf := (zX.setCell (p := ⟨gR, 0, none⟩) hgR (sC A8 n8 c8)).setCell (p := ⟨gR, 1, none⟩) hgR (sC A9 n9 c9)
 have hSf := hS8.twoW zR (sC A8 n8 c8) (sC A9 n9 c9)
 have hWf := hW8.twoW zR (sC A8 n8 c8) (sC A9 n9 c9)
 generalize (w4.setCell ⟨gR, 0, none⟩ (sC A8 n8 c8)).setCell ⟨gR, 1, none⟩ (sC A9 n9 c9) = Wf at *
 clear m0 m1 mf0 mf1
 have q0 := rq.c0
 have q1 := rq.c1
 go_wp2
 exact bodyPost_ret (v := .tuple #[.agg #[sC A8 n8 c8, sC A9 n9 c9], ii cd]) (by simp [results, results31, go_sem, q0, q1]) rfl (RetDiskCode.mk HR3.out hSf hWf hnf)
theorem specAppendTorn_r (A A2 : Option Addr) (n c n2 c2 B : Nat) (ss : List BA) (ws : List (Int × BA)) (p b v t : Int) (A3 : Option Addr) (m c3 : Nat) (bs : List Bool) (w : World) (R1 : List BA) (R2 : List (Int × BA)) (cd : Int) (HP : awT ss ws p b v t bs = ((R1, R2), cd)) (h : Strs w B A n ss) (h2 : Wrs w B A2 n2 ws) (hB : B <= w.heap.size) (hn : n <= 1048576) (hn2 : n2 <= 1048576) (h3 : Bls w B A3 m bs) (hm2 : m <= 1048576) :
 Calls Tryz.prog 31 #[.agg #[sC A n c, sC A2 n2 c2], .agg #[ii p, ii b, ii v, ii t], sC A3 m c3] w (RetDiskCode w R1 R2 cd) := by
 have := specAppendTorn_c A A2 n c n2 c2 B ss ws p b v t A3 m c3 bs w h h2 hB hn hn2 h3 hm2
 rw [HP] at this
 exact this
theorem implAppendWrite_c (A A2 : Option Addr) (n c n2 c2 B : Nat) (ss : List BA) (ws : List (Int × BA)) (p b v t : Int) (w : World) (a0 a1 : Addr) (h : Strs w B A n ss) (h2 : Wrs w B A2 n2 ws) (hB : B <= w.heap.size) (hn : n <= 1048576) (hn2 : n2 <= 1048576) (hE : Er w a0 a1) (hM : Mx w) (hEt : Et w) (hT : Tab w) :
 Calls Tryz.prog 25 #[.agg #[sC A n c, sC A2 n2 c2], .agg #[ii p, ii b, ii v, ii t]] w (RetDiskCode w (awP ss ws p b v t).1.1 (awP ss ws p b v t).1.2 (awP ss ws p b v t).2) := by
 obtain ⟨R, HR⟩ := nM (awP ss ws p b v t)
 rw [HR.out]
 have HR : Hid ((if askD ss ws p b v t then ((settleTo kpAll (apP ss p b.toNat v t).1.1 (apP ss p b.toNat v t).1.2 (apP ss p b.toNat v t).1.2.length, []), (apP ss p b.toNat v t).2) else (([], []), 1)) = R) := qh HR.out
 have zE : Box (((w.alloc (.cells #[sC A n c, sC A2 n2 c2] 35)).alloc (.cells #[ii p, ii b, ii v, ii t] 55)).alloc (.cells #[nsl, nsl] 35)) w.heap.size 35 #[sC A n c, sC A2 n2 c2] := ((Box.new w _ _).alloc _).alloc _
 have zF : Box (((w.alloc (.cells #[sC A n c, sC A2 n2 c2] 35)).alloc (.cells #[ii p, ii b, ii v, ii t] 55)).alloc (.cells #[nsl, nsl] 35)) (w.heap.size + 1) 55 #[ii p, ii b, ii v, ii t] := by have := (Box.new (w.alloc (.cells #[sC A n c, sC A2 n2 c2] 35)) 55 #[ii p, ii b, ii v, ii t]).alloc (.cells #[nsl, nsl] 35); rwa [World.size_alloc] at this
 have zR : Box (((w.alloc (.cells #[sC A n c, sC A2 n2 c2] 35)).alloc (.cells #[ii p, ii b, ii v, ii t] 55)).alloc (.cells #[nsl, nsl] 35)) (w.heap.size + 1 + 1) 35 #[nsl, nsl] := by have := Box.new ((w.alloc (.cells #[sC A n c, sC A2 n2 c2] 35)).alloc (.cells #[ii p, ii b, ii v, ii t] 55)) 35 #[nsl, nsl]; rwa [World.size_alloc, World.size_alloc] at this
 have zX := (((Nx.refl w).alloc (.cells #[sC A n c, sC A2 n2 c2] 35)).alloc (.cells #[ii p, ii b, ii v, ii t] 55)).alloc (.cells #[nsl, nsl] 35)
 have hgR : w.heap.size <= w.heap.size + 1 + 1 := oM
 obtain ⟨gR, HgR⟩ := nM (w.heap.size + 1 + 1)
 go_enter func25, ntmps25
 have y0 := zE.c0
 have y1 := zE.c1
 obtain ⟨x0, x1, x2, x3⟩ := zF.d4
 go_wp2_with fail
 generalize (((w.alloc (.cells #[sC A n c, sC A2 n2 c2] 35)).alloc (.cells #[ii p, ii b, ii v, ii t] 55)).alloc (.cells #[nsl, nsl] 35)) = W at *
 rw [HgR.out] at zR hgR ⊢
 clear y0 y1 x0 x1 x2 x3
 refine (isIdle_c A A2 n c n2 c2 B ss ws W (h.below zX hB) (h2.below zX hB) (ntr hB zX.size) hn hn2).mono ?_
 rintro e w1 ⟨rfl, hk⟩
 replace zE := zE.nx hk; replace zF := zF.nx hk; replace zR := zR.nx hk; replace zX := zX.trans hk; clear hk
 cases hI : idleB ss ws with
 | false =>
   have HR2 : Hid (R = (([], []), 1)) := qh (by rw [<- HR.out, show askD ss ws p b v t = false from by unfold askD; unfold idleB at hI; rw [hI]; rfl]; rfl)
   clear hI
   have m0 := zR.c0
   have m1 := zR.c1
   have mf0 := zR.frozen 0
   have mf1 := zR.frozen 1
   go_wp2_with fail
   have rq := (zR.set0 (nsl)).set1 (nsl)
   have hnf := (zX.setCell (p := ⟨gR, 0, none⟩) hgR (nsl)).setCell (p := ⟨gR, 1, none⟩) hgR (nsl)
   generalize (w1.setCell ⟨gR, 0, none⟩ (nsl)).setCell ⟨gR, 1, none⟩ (nsl) = Wf at *
   clear m0 m1 mf0 mf1
   have q0 := rq.c0
   have q1 := rq.c1
   go_wp2
   exact bodyPost_ret (v := .tuple #[.agg #[nsl, nsl], ii 1]) (by simp [results, results25, go_sem, q0, q1]) rfl (RetDiskCode.nil HR2.out hnf)
 | true =>
 have HI := qh hI
 clear hI
 obtain ⟨x0, x1, x2, x3⟩ := zF.d4
 go_wp2_with fail
 clear x0 x1 x2 x3
 refine (frameRight_c p b v t w1).mono ?_
 rintro e w1b ⟨rfl, hk⟩
 replace zE := zE.nx hk; replace zF := zF.nx hk; replace zR := zR.nx hk; replace zX := zX.trans hk; clear hk
 cases hFr : frameB p b v t with
 | false =>
   have HR2 : Hid (R = (([], []), 1)) := qh (by rw [<- HR.out, show askD ss ws p b v t = false from by unfold askD; rw [hFr, Bool.and_false]]; rfl)
   clear hFr
   have m0 := zR.c0
   have m1 := zR.c1
   have mf0 := zR.frozen 0
   have mf1 := zR.frozen 1
   go_wp2_with fail
   have rq := (zR.set0 (nsl)).set1 (nsl)
   have hnf := (zX.setCell (p := ⟨gR, 0, none⟩) hgR (nsl)).setCell (p := ⟨gR, 1, none⟩) hgR (nsl)
   generalize (w1b.setCell ⟨gR, 0, none⟩ (nsl)).setCell ⟨gR, 1, none⟩ (nsl) = Wf at *
   clear m0 m1 mf0 mf1
   have q0 := rq.c0
   have q1 := rq.c1
   go_wp2
   exact bodyPost_ret (v := .tuple #[.agg #[nsl, nsl], ii 1]) (by simp [results, results25, go_sem, q0, q1]) rfl (RetDiskCode.nil HR2.out hnf)
 | true =>
 have hA : askD ss ws p b v t = true := by have := HI.out; unfold askD; unfold idleB at this; rw [this, hFr]; rfl
 obtain ⟨hD, hw0, hF, n0, hb0⟩ := askD_yes hA
 subst hw0 hb0
 have HR2 : Hid (R = ((settleTo kpAll (apP ss p n0 v t).1.1 (apP ss p n0 v t).1.2 (apP ss p n0 v t).1.2.length, []), (apP ss p n0 v t).2)) := qh (by rw [<- HR.out, hA]; rfl)
 have HAD := qh (apP_disk (p := p) (v := v) (t := t) (n := n0) hD hF)
 have HD := qh hD
 have HFr := qh hF
 clear hA HR hD hF hFr
 obtain rfl : n = 64 := by rw [<- h.1]; exact (diskB_len64 HD.out).1
 obtain rfl : n2 = 0 := h2.1.symm
 have y0 := zE.c0
 have y1 := zE.c1
 obtain ⟨x0, x1, x2, x3⟩ := zF.d4
 go_wp2_with fail
 clear y0 y1 x0 x1 x2 x3
 refine (withWrite_c A A2 64 c 0 c2 B ss p v t n0 w1b a0 a1 (h.below zX hB) (h2.below zX hB) (ntr hB zX.size) HD.out HFr.out (hE.nx zX) (hM.nx zX) (hEt.nx zX) (hT.nx zX)).mono ?_
 rintro e w2 ⟨Aa, an, ac, Ba, bn, bc, rfl, hSa, hWa, hk⟩
 have hz1 := zX.size
 replace zE := zE.nx hk; replace zF := zF.nx hk; replace zR := zR.nx hk; replace zX := zX.trans hk; clear hk
 obtain ⟨k, Hk⟩ := nM ((wwP ss p n0 v t).2)
 rw [Hk.out]
 rcases Decidable.em (k = 0) with h0 | h0
 rotate_left
 . have HR3 : Hid (R = ((ss, []), k)) := qh (by rw [HR2.out, (ww_ap_no (Hk.out) h0)]; rfl)
   have hk := (Nx.refl w2).alloc (.cells #[sC Aa an ac, sC Ba bn bc] 35)
   replace zE := zE.nx hk; replace zF := zF.nx hk; replace zR := zR.nx hk; replace zX := zX.trans hk; clear hk
   have y0 := zE.c0
   have y1 := zE.c1
   go_wp2_with fail
   clear y0 y1
   generalize w2.alloc (.cells #[sC Aa an ac, sC Ba bn bc] 35) = w3 at *
   refine (copied_c A A2 64 c 0 c2 B ss [] w3 (h.below zX hB) (h2.below zX hB) (ntr hB zX.size) oM oM).mono ?_
   rintro e w4 ⟨A8, n8, c8, A9, n9, c9, rfl, hS8, hW8, hk⟩
   have hz3 := zX.size
   replace zE := zE.nx hk; replace zF := zF.nx hk; replace zR := zR.nx hk; replace zX := zX.trans hk; clear hk
   replace hS8 := hS8.low (lo' := w.heap.size) hz3
   replace hW8 := hW8.low (lo' := w.heap.size) hz3
   have m0 := zR.c0
   have m1 := zR.c1
   have mf0 := zR.frozen 0
   have mf1 := zR.frozen 1
   go_wp2_with fail
   have rq := (zR.set0 (sC A8 n8 c8)).set1 (sC A9 n9 c9)
   have hnf := (zX.setCell (p := ⟨gR, 0, none⟩) hgR (sC A8 n8 c8)).setCell (p := ⟨gR, 1, none⟩) hgR (sC A9 n9 c9)
   have hSf := hS8.twoW zR (sC A8 n8 c8) (sC A9 n9 c9)
   have hWf := hW8.twoW zR (sC A8 n8 c8) (sC A9 n9 c9)
   generalize (w4.setCell ⟨gR, 0, none⟩ (sC A8 n8 c8)).setCell ⟨gR, 1, none⟩ (sC A9 n9 c9) = Wf at *
   clear m0 m1 mf0 mf1
   have q0 := rq.c0
   have q1 := rq.c1
   go_wp2
   exact bodyPost_ret (v := .tuple #[.agg #[sC A8 n8 c8, sC A9 n9 c9], ii k]) (by simp [results, results25, go_sem, q0, q1]) rfl (RetDiskCode.mk HR3.out hSf hWf hnf)
 obtain rfl : k = 0 := h0
 obtain ⟨⟨⟨P1, P2⟩, cd⟩, HP⟩ := nM (apP ss p n0 v t)
 have Hww : Hid (wwP ss p n0 v t = ((P1, P2), 0) /\ cd = 0) := qh (ww_ap_yes Hk.out HP.out)
 obtain rfl : cd = 0 := Hww.out.2
 rw [Hww.out.1] at hSa hWa
 rw [HP.out] at HR2 HAD
 simp only at hSa hWa
 obtain rfl : an = 64 := by rw [<- hSa.1]; exact (diskB_len64 HAD.out).1
 have hb80 : bn <= 80 := by rw [<- hWa.1]; exact (diskB_len64 HAD.out).2.1
 have HWo := qh (diskB_len64 HAD.out).2.2.2
 have HR3 : Hid (R = ((settleTo kpAll P1 P2 bn, []), 0)) := qh (by rw [HR2.out, <- hWa.1])
 have hk := (Nx.refl w2).alloc (.cells #[sC Aa 64 ac, sC Ba bn bc] 35)
 replace hSa := hSa.nx hk
 replace hWa := hWa.nx hk
 replace zE := zE.nx hk; replace zF := zF.nx hk; replace zR := zR.nx hk; replace zX := zX.trans hk; clear hk
 have u0 := (Box.new w2 35 #[sC Aa 64 ac, sC Ba bn bc]).c0
 have u1 := (Box.new w2 35 #[sC Aa 64 ac, sC Ba bn bc]).c1
 go_wp2_with fail
 clear u0 u1
 generalize w2.alloc (.cells #[sC Aa 64 ac, sC Ba bn bc] 35) = w3 at *
 refine (flushed_c Aa Ba ac bn bc w3.heap.size P1 P2 w3 hSa.strs hWa.wrs nle hb80 HWo.out).mono ?_
 rintro e w4 ⟨A8, n8, c8, A9, n9, c9, rfl, hS8, hW8, hk⟩
 have hz3 := zX.size
 replace zE := zE.nx hk; replace zF := zF.nx hk; replace zR := zR.nx hk; replace zX := zX.trans hk; clear hk
 replace hS8 := hS8.low (lo' := w.heap.size) hz3
 replace hW8 := hW8.low (lo' := w.heap.size) hz3
 have m0 := zR.c0
 have m1 := zR.c1
 have mf0 := zR.frozen 0
 have mf1 := zR.frozen 1
 go_wp2_with fail
 have rq := (zR.set0 (sC A8 n8 c8)).set1 (sC A9 n9 c9)
 have hnf := (zX.setCell (p := ⟨gR, 0, none⟩) hgR (sC A8 n8 c8)).setCell (p := ⟨gR, 1, none⟩) hgR (sC A9 n9 c9)
 have hSf := hS8.twoW zR (sC A8 n8 c8) (sC A9 n9 c9)
 have hWf := hW8.twoW zR (sC A8 n8 c8) (sC A9 n9 c9)
 generalize (w4.setCell ⟨gR, 0, none⟩ (sC A8 n8 c8)).setCell ⟨gR, 1, none⟩ (sC A9 n9 c9) = Wf at *
 clear m0 m1 mf0 mf1
 have q0 := rq.c0
 have q1 := rq.c1
 go_wp2
 exact bodyPost_ret (v := .tuple #[.agg #[sC A8 n8 c8, sC A9 n9 c9], ii 0]) (by simp [results, results25, go_sem, q0, q1]) rfl (RetDiskCode.mk HR3.out hSf hWf hnf)
theorem implAppendWrite_r (A A2 : Option Addr) (n c n2 c2 B : Nat) (ss : List BA) (ws : List (Int × BA)) (p b v t : Int) (w : World) (a0 a1 : Addr) (R1 : List BA) (R2 : List (Int × BA)) (cd : Int) (HP : awP ss ws p b v t = ((R1, R2), cd)) (h : Strs w B A n ss) (h2 : Wrs w B A2 n2 ws) (hB : B <= w.heap.size) (hn : n <= 1048576) (hn2 : n2 <= 1048576) (hE : Er w a0 a1) (hM : Mx w) (hEt : Et w) (hT : Tab w) :
 Calls Tryz.prog 25 #[.agg #[sC A n c, sC A2 n2 c2], .agg #[ii p, ii b, ii v, ii t]] w (RetDiskCode w R1 R2 cd) := by
 have := implAppendWrite_c A A2 n c n2 c2 B ss ws p b v t w a0 a1 h h2 hB hn hn2 hE hM hEt hT
 rw [HP] at this
 exact this
theorem implAppendTorn_c (A A2 : Option Addr) (n c n2 c2 B : Nat) (ss : List BA) (ws : List (Int × BA)) (p b v t : Int) (A3 : Option Addr) (m c3 : Nat) (bs : List Bool) (w : World) (a0 a1 : Addr) (h : Strs w B A n ss) (h2 : Wrs w B A2 n2 ws) (hB : B <= w.heap.size) (hn : n <= 1048576) (hn2 : n2 <= 1048576) (h3 : Bls w B A3 m bs) (hm2 : m <= 1048576) (hE : Er w a0 a1) (hM : Mx w) (hEt : Et w) (hT : Tab w) :
 Calls Tryz.prog 29 #[.agg #[sC A n c, sC A2 n2 c2], .agg #[ii p, ii b, ii v, ii t], sC A3 m c3] w (RetDiskCode w (awT ss ws p b v t bs).1.1 (awT ss ws p b v t bs).1.2 (awT ss ws p b v t bs).2) := by
 obtain ⟨R, HR⟩ := nM (awT ss ws p b v t bs)
 rw [HR.out]
 by_cases hlong : 4096 < bs.length
 . have hd0 : decide (4096 < (m : Int)) = true := decide_eq_true (by have := h3.1; omega)
   have HR2 : Hid (R = (([], []), 2)) := qh (by rw [<- HR.out]; unfold awT; rw [if_pos hlong])
   have zE : Box (((w.alloc (.cells #[sC A n c, sC A2 n2 c2] 35)).alloc (.cells #[ii p, ii b, ii v, ii t] 55)).alloc (.cells #[nsl, nsl] 35)) w.heap.size 35 #[sC A n c, sC A2 n2 c2] := ((Box.new w _ _).alloc _).alloc _
   have zF : Box (((w.alloc (.cells #[sC A n c, sC A2 n2 c2] 35)).alloc (.cells #[ii p, ii b, ii v, ii t] 55)).alloc (.cells #[nsl, nsl] 35)) (w.heap.size + 1) 55 #[ii p, ii b, ii v, ii t] := by have := (Box.new (w.alloc (.cells #[sC A n c, sC A2 n2 c2] 35)) 55 #[ii p, ii b, ii v, ii t]).alloc (.cells #[nsl, nsl] 35); rwa [World.size_alloc] at this
   have zR : Box (((w.alloc (.cells #[sC A n c, sC A2 n2 c2] 35)).alloc (.cells #[ii p, ii b, ii v, ii t] 55)).alloc (.cells #[nsl, nsl] 35)) (w.heap.size + 1 + 1) 35 #[nsl, nsl] := by have := Box.new ((w.alloc (.cells #[sC A n c, sC A2 n2 c2] 35)).alloc (.cells #[ii p, ii b, ii v, ii t] 55)) 35 #[nsl, nsl]; rwa [World.size_alloc, World.size_alloc] at this
   have zX := (((Nx.refl w).alloc (.cells #[sC A n c, sC A2 n2 c2] 35)).alloc (.cells #[ii p, ii b, ii v, ii t] 55)).alloc (.cells #[nsl, nsl] 35)
   have hgR : w.heap.size <= w.heap.size + 1 + 1 := oM
   obtain ⟨gR, HgR⟩ := nM (w.heap.size + 1 + 1)
   rw [HgR.out] at zR hgR
   go_enter func29, ntmps29
   have m0 := zR.c0
   have m1 := zR.c1
   have mf0 := zR.frozen 0
   have mf1 := zR.frozen 1
   rw [<- HgR.out] at m0 m1 mf0 mf1 zR hgR
   go_wp2
   have rq := (zR.set0 (nsl)).set1 (nsl)
   have hnf := (zX.setCell (p := ⟨w.heap.size + 1 + 1, 0, none⟩) hgR (nsl)).setCell (p := ⟨w.heap.size + 1 + 1, 1, none⟩) hgR (nsl)
   exact bodyPost_ret (v := .tuple #[.agg #[nsl, nsl], ii 2]) (by simp [results, results29, go_sem]) rfl (RetDiskCode.nil HR2.out ((((Nx.refl _).alloc _).alloc _).alloc _))
 have hd0 : decide (4096 < (m : Int)) = false := decide_eq_false (by have := h3.1; omega)
 have HR : Hid ((if askD ss ws p b v t then ((settleTo (kpC bs) (apP ss p b.toNat v t).1.1 (apP ss p b.toNat v t).1.2 (apP ss p b.toNat v t).1.2.length, []), (apP ss p b.toNat v t).2) else (([], []), 1)) = R) := qh (by rw [<- HR.out]; unfold awT; rw [if_neg hlong])
 have HLn := qh hlong
 clear hlong
 have zE : Box (((w.alloc (.cells #[sC A n c, sC A2 n2 c2] 35)).alloc (.cells #[ii p, ii b, ii v, ii t] 55)).alloc (.cells #[nsl, nsl] 35)) w.heap.size 35 #[sC A n c, sC A2 n2 c2] := ((Box.new w _ _).alloc _).alloc _
 have zF : Box (((w.alloc (.cells #[sC A n c, sC A2 n2 c2] 35)).alloc (.cells #[ii p, ii b, ii v, ii t] 55)).alloc (.cells #[nsl, nsl] 35)) (w.heap.size + 1) 55 #[ii p, ii b, ii v, ii t] := by have := (Box.new (w.alloc (.cells #[sC A n c, sC A2 n2 c2] 35)) 55 #[ii p, ii b, ii v, ii t]).alloc (.cells #[nsl, nsl] 35); rwa [World.size_alloc] at this
 have zR : Box (((w.alloc (.cells #[sC A n c, sC A2 n2 c2] 35)).alloc (.cells #[ii p, ii b, ii v, ii t] 55)).alloc (.cells #[nsl, nsl] 35)) (w.heap.size + 1 + 1) 35 #[nsl, nsl] := by have := Box.new ((w.alloc (.cells #[sC A n c, sC A2 n2 c2] 35)).alloc (.cells #[ii p, ii b, ii v, ii t] 55)) 35 #[nsl, nsl]; rwa [World.size_alloc, World.size_alloc] at this
 have zX := (((Nx.refl w).alloc (.cells #[sC A n c, sC A2 n2 c2] 35)).alloc (.cells #[ii p, ii b, ii v, ii t] 55)).alloc (.cells #[nsl, nsl] 35)
 have hgR : w.heap.size <= w.heap.size + 1 + 1 := oM
 obtain ⟨gR, HgR⟩ := nM (w.heap.size + 1 + 1)
 go_enter func29, ntmps29
 have y0 := zE.c0
 have y1 := zE.c1
 obtain ⟨x0, x1, x2, x3⟩ := zF.d4
 go_wp2_with fail
 generalize (((w.alloc (.cells #[sC A n c, sC A2 n2 c2] 35)).alloc (.cells #[ii p, ii b, ii v, ii t] 55)).alloc (.cells #[nsl, nsl] 35)) = W at *
 rw [HgR.out] at zR hgR ⊢
 clear y0 y1 x0 x1 x2 x3
 refine (isIdle_c A A2 n c n2 c2 B ss ws W (h.below zX hB) (h2.below zX hB) (ntr hB zX.size) hn hn2).mono ?_
 rintro e w1 ⟨rfl, hk⟩
 replace zE := zE.nx hk; replace zF := zF.nx hk; replace zR := zR.nx hk; replace zX := zX.trans hk; clear hk
 cases hI : idleB ss ws with
 | false =>
   have HR2 : Hid (R = (([], []), 1)) := qh (by rw [<- HR.out, show askD ss ws p b v t = false from by unfold askD; unfold idleB at hI; rw [hI]; rfl]; rfl)
   clear hI
   have m0 := zR.c0
   have m1 := zR.c1
   have mf0 := zR.frozen 0
   have mf1 := zR.frozen 1
   go_wp2_with fail
   have rq := (zR.set0 (nsl)).set1 (nsl)
   have hnf := (zX.setCell (p := ⟨gR, 0, none⟩) hgR (nsl)).setCell (p := ⟨gR, 1, none⟩) hgR (nsl)
   generalize (w1.setCell ⟨gR, 0, none⟩ (nsl)).setCell ⟨gR, 1, none⟩ (nsl) = Wf at *
   clear m0 m1 mf0 mf1
   have q0 := rq.c0
   have q1 := rq.c1
   go_wp2
   exact bodyPost_ret (v := .tuple #[.agg #[nsl, nsl], ii 1]) (by simp [results, results29, go_sem, q0, q1]) rfl (RetDiskCode.nil HR2.out hnf)
 | true =>
 have HI := qh hI
 clear hI
 obtain ⟨x0, x1, x2, x3⟩ := zF.d4
 go_wp2_with fail
 clear x0 x1 x2 x3
 refine (frameRight_c p b v t w1).mono ?_
 rintro e w1b ⟨rfl, hk⟩
 replace zE := zE.nx hk; replace zF := zF.nx hk; replace zR := zR.nx hk; replace zX := zX.trans hk; clear hk
 cases hFr : frameB p b v t with
 | false =>
   have HR2 : Hid (R = (([], []), 1)) := qh (by rw [<- HR.out, show askD ss ws p b v t = false from by unfold askD; rw [hFr, Bool.and_false]]; rfl)
   clear hFr
   have m0 := zR.c0
   have m1 := zR.c1
   have mf0 := zR.frozen 0
   have mf1 := zR.frozen 1
   go_wp2_with fail
   have rq := (zR.set0 (nsl)).set1 (nsl)
   have hnf := (zX.setCell (p := ⟨gR, 0, none⟩) hgR (nsl)).setCell (p := ⟨gR, 1, none⟩) hgR (nsl)
   generalize (w1b.setCell ⟨gR, 0, none⟩ (nsl)).setCell ⟨gR, 1, none⟩ (nsl) = Wf at *
   clear m0 m1 mf0 mf1
   have q0 := rq.c0
   have q1 := rq.c1
   go_wp2
   exact bodyPost_ret (v := .tuple #[.agg #[nsl, nsl], ii 1]) (by simp [results, results29, go_sem, q0, q1]) rfl (RetDiskCode.nil HR2.out hnf)
 | true =>
 have hA : askD ss ws p b v t = true := by have := HI.out; unfold askD; unfold idleB at this; rw [this, hFr]; rfl
 obtain ⟨hD, hw0, hF, n0, hb0⟩ := askD_yes hA
 subst hw0 hb0
 have HR2 : Hid (R = ((settleTo (kpC bs) (apP ss p n0 v t).1.1 (apP ss p n0 v t).1.2 (apP ss p n0 v t).1.2.length, []), (apP ss p n0 v t).2)) := qh (by rw [<- HR.out, hA]; rfl)
 have HAD := qh (apP_disk (p := p) (v := v) (t := t) (n := n0) hD hF)
 have HD := qh hD
 have HFr := qh hF
 clear hA HR hD hF hFr
 obtain rfl : n = 64 := by rw [<- h.1]; exact (diskB_len64 HD.out).1
 obtain rfl : n2 = 0 := h2.1.symm
 have y0 := zE.c0
 have y1 := zE.c1
 obtain ⟨x0, x1, x2, x3⟩ := zF.d4
 go_wp2_with fail
 clear y0 y1 x0 x1 x2 x3
 refine (withWrite_c A A2 64 c 0 c2 B ss p v t n0 w1b a0 a1 (h.below zX hB) (h2.below zX hB) (ntr hB zX.size) HD.out HFr.out (hE.nx zX) (hM.nx zX) (hEt.nx zX) (hT.nx zX)).mono ?_
 rintro e w2 ⟨Aa, an, ac, Ba, bn, bc, rfl, hSa, hWa, hk⟩
 have hz1 := zX.size
 replace zE := zE.nx hk; replace zF := zF.nx hk; replace zR := zR.nx hk; replace zX := zX.trans hk; clear hk
 obtain ⟨k, Hk⟩ := nM ((wwP ss p n0 v t).2)
 rw [Hk.out]
 rcases Decidable.em (k = 0) with h0 | h0
 rotate_left
 . have HR3 : Hid (R = ((ss, []), k)) := qh (by rw [HR2.out, (ww_ap_no (Hk.out) h0)]; rfl)
   have hk := (Nx.refl w2).alloc (.cells #[sC Aa an ac, sC Ba bn bc] 35)
   replace zE := zE.nx hk; replace zF := zF.nx hk; replace zR := zR.nx hk; replace zX := zX.trans hk; clear hk
   have y0 := zE.c0
   have y1 := zE.c1
   go_wp2_with fail
   clear y0 y1
   generalize w2.alloc (.cells #[sC Aa an ac, sC Ba bn bc] 35) = w3 at *
   refine (copied_c A A2 64 c 0 c2 B ss [] w3 (h.below zX hB) (h2.below zX hB) (ntr hB zX.size) oM oM).mono ?_
   rintro e w4 ⟨A8, n8, c8, A9, n9, c9, rfl, hS8, hW8, hk⟩
   have hz3 := zX.size
   replace zE := zE.nx hk; replace zF := zF.nx hk; replace zR := zR.nx hk; replace zX := zX.trans hk; clear hk
   replace hS8 := hS8.low (lo' := w.heap.size) hz3
   replace hW8 := hW8.low (lo' := w.heap.size) hz3
   have m0 := zR.c0
   have m1 := zR.c1
   have mf0 := zR.frozen 0
   have mf1 := zR.frozen 1
   go_wp2_with fail
   have rq := (zR.set0 (sC A8 n8 c8)).set1 (sC A9 n9 c9)
   have hnf := (zX.setCell (p := ⟨gR, 0, none⟩) hgR (sC A8 n8 c8)).setCell (p := ⟨gR, 1, none⟩) hgR (sC A9 n9 c9)
   have hSf := hS8.twoW zR (sC A8 n8 c8) (sC A9 n9 c9)
   have hWf := hW8.twoW zR (sC A8 n8 c8) (sC A9 n9 c9)
   generalize (w4.setCell ⟨gR, 0, none⟩ (sC A8 n8 c8)).setCell ⟨gR, 1, none⟩ (sC A9 n9 c9) = Wf at *
   clear m0 m1 mf0 mf1
   have q0 := rq.c0
   have q1 := rq.c1
   go_wp2
   exact bodyPost_ret (v := .tuple #[.agg #[sC A8 n8 c8, sC A9 n9 c9], ii k]) (by simp [results, results29, go_sem, q0, q1]) rfl (RetDiskCode.mk HR3.out hSf hWf hnf)
 obtain rfl : k = 0 := h0
 obtain ⟨⟨⟨P1, P2⟩, cd⟩, HP⟩ := nM (apP ss p n0 v t)
 have Hww : Hid (wwP ss p n0 v t = ((P1, P2), 0) /\ cd = 0) := qh (ww_ap_yes Hk.out HP.out)
 obtain rfl : cd = 0 := Hww.out.2
 rw [Hww.out.1] at hSa hWa
 rw [HP.out] at HR2 HAD
 simp only at hSa hWa
 obtain rfl : an = 64 := by rw [<- hSa.1]; exact (diskB_len64 HAD.out).1
 have hb80 : bn <= 80 := by rw [<- hWa.1]; exact (diskB_len64 HAD.out).2.1
 have HWo := qh (diskB_len64 HAD.out).2.2.2
 have HR3 : Hid (R = ((settleTo (kpC bs) P1 P2 bn, []), 0)) := qh (by rw [HR2.out, <- hWa.1])
 have hk := (Nx.refl w2).alloc (.cells #[sC Aa 64 ac, sC Ba bn bc] 35)
 replace hSa := hSa.nx hk
 replace hWa := hWa.nx hk
 replace zE := zE.nx hk; replace zF := zF.nx hk; replace zR := zR.nx hk; replace zX := zX.trans hk; clear hk
 have u0 := (Box.new w2 35 #[sC Aa 64 ac, sC Ba bn bc]).c0
 have u1 := (Box.new w2 35 #[sC Aa 64 ac, sC Ba bn bc]).c1
 go_wp2_with fail
 clear u0 u1
 generalize w2.alloc (.cells #[sC Aa 64 ac, sC Ba bn bc] 35) = w3 at *
 have hCr := implCrashDisk_r Aa Ba 64 ac bn bc w3.heap.size P1 P2 A3 m c3 bs w3 (settleTo (kpC bs) P1 P2 bn) [] 0 (by rw [crP_ok HLn.out HAD.out, hWa.1]) hSa.strs hWa.wrs nle oM oM ((h3.below zX hB).more (ntr hB zX.size)) hm2
 refine hCr.mono ?_
 rintro e w4 ⟨A8, n8, c8, A9, n9, c9, rfl, hS8, hW8, hk⟩
 have hz3 := zX.size
 replace zE := zE.nx hk; replace zF := zF.nx hk; replace zR := zR.nx hk; replace zX := zX.trans hk; clear hk
 replace hS8 := hS8.low (lo' := w.heap.size) hz3
 replace hW8 := hW8.low (lo' := w.heap.size) hz3
 have m0 := zR.c0
 have m1 := zR.c1
 have mf0 := zR.frozen 0
 have mf1 := zR.frozen 1
 go_wp2_with fail
 have rq := (zR.set0 (sC A8 n8 c8)).set1 (sC A9 n9 c9)
 have hnf := (zX.setCell (p := ⟨gR, 0, none⟩) hgR (sC A8 n8 c8)).setCell (p := ⟨gR, 1, none⟩) hgR (sC A9 n9 c9)
 have hSf := hS8.twoW zR (sC A8 n8 c8) (sC A9 n9 c9)
 have hWf := hW8.twoW zR (sC A8 n8 c8) (sC A9 n9 c9)
 generalize (w4.setCell ⟨gR, 0, none⟩ (sC A8 n8 c8)).setCell ⟨gR, 1, none⟩ (sC A9 n9 c9) = Wf at *
 clear m0 m1 mf0 mf1
 have q0 := rq.c0
 have q1 := rq.c1
 go_wp2
 exact bodyPost_ret (v := .tuple #[.agg #[sC A8 n8 c8, sC A9 n9 c9], ii 0]) (by simp [results, results29, go_sem, q0, q1]) rfl (RetDiskCode.mk HR3.out hSf hWf hnf)
theorem implAppendTorn_r (A A2 : Option Addr) (n c n2 c2 B : Nat) (ss : List BA) (ws : List (Int × BA)) (p b v t : Int) (A3 : Option Addr) (m c3 : Nat) (bs : List Bool) (w : World) (a0 a1 : Addr) (R1 : List BA) (R2 : List (Int × BA)) (cd : Int) (HP : awT ss ws p b v t bs = ((R1, R2), cd)) (h : Strs w B A n ss) (h2 : Wrs w B A2 n2 ws) (hB : B <= w.heap.size) (hn : n <= 1048576) (hn2 : n2 <= 1048576) (h3 : Bls w B A3 m bs) (hm2 : m <= 1048576) (hE : Er w a0 a1) (hM : Mx w) (hEt : Et w) (hT : Tab w) :
 Calls Tryz.prog 29 #[.agg #[sC A n c, sC A2 n2 c2], .agg #[ii p, ii b, ii v, ii t], sC A3 m c3] w (RetDiskCode w R1 R2 cd) := by
 have := implAppendTorn_c A A2 n c n2 c2 B ss ws p b v t A3 m c3 bs w a0 a1 h h2 hB hn hn2 h3 hm2 hE hM hEt hT
 rw [HP] at this
 exact this
theorem awP_ask {ss : List BA} {p v t : Int} {n : Nat} (hd : diskB ss [] = true) (hf : frameB p (n : Int) v t = true) : awP ss [] p (n : Int) v t = ((settleTo kpAll (apP ss p n v t).1.1 (apP ss p n v t).1.2 (apP ss p n v t).1.2.length, []), (apP ss p n v t).2) := by
 have h : askD ss [] p (n : Int) v t = true := by unfold askD; rw [hd, hf]; rfl
 unfold awP
 rw [h]; rfl
theorem awP_yes {ss : List BA} {V : Vl} {p v t : Int} {n : Nat} (h : Asked ss V p n v t) : awP ss [] p (n : Int) v t = (((apS ss V p n v t).set (1 - sltV ss []).toNat (apU V), []), 0) := by
 rw [awP_ask h.disk h.frame, apP_yes h.ld.v (apC_yes h.next h.room h.gen)]; rfl
theorem ldA_of {ss : List BA} {V : Vl} (hd : diskB ss [] = true) (hl : LdY ss [] V) : ldA ss [] = (V, 0) := (ldA_yes hd).trans hl.v

theorem frame_c (g : Nat) (A : Option Addr) (n c B : Nat) (ys : List Nat) (w : World) (hb : SrcR w g A n c 0) (h : U8s w B A n ys) (hB : B <= g) (hn : n <= 1048576) :
 Calls Tryz.prog 69 #[.pointer (some ⟨g, 0, none⟩)] w fun e w' => ∃ q : F4, e = .returned (vF q) /\ frameB q.1 q.2.1 q.2.2.1 q.2.2.2 = true /\ Rg g (g + 1) w w' := by
 have hz0 := hb.lt
 have b0 := Box.new w 55 #[ii 0, ii 0, ii 0, ii 0]
 have hx0 := (Nx.refl w).alloc (.cells #[ii 0, ii 0, ii 0, ii 0] 55)
 have s0 := hb.nx hx0
 have u0 := h.below hx0 oM
 have r0 : Rg g (g + 1) w (w.alloc (.cells #[ii 0, ii 0, ii 0, ii 0] 55)) := Rg.of_nx hx0
 clear hb h hx0
 go_enter func69, ntmps69
 go_wp2_with fail
 generalize w.alloc (.cells #[ii 0, ii 0, ii 0, ii 0] 55) = W at *
 refine (nextR_c 20 g A n c 0 B ys _ oM oM s0 u0 hB hn oM).mono ?_
 rintro e w1 ⟨v0, rfl, hv0, s1, r1⟩
 have b1 := b0.rg r1 (.inr oM)
 have u1 := u0.rg r1 hB (Nat.le_of_lt s0.lt)
 have t1 := r0.trans r1
 clear b0 u0 r0 r1 s0
 go_wp2_with fail
 refine (nextR_c 8 g A n c (0 + 3) B ys _ oM oM s1 u1 hB hn oM).mono ?_
 rintro e w2 ⟨v1, rfl, hv1, s2, r2⟩
 have b2 := b1.rg r2 (.inr oM)
 have u2 := u1.rg r2 hB (Nat.le_of_lt s1.lt)
 have t2 := t1.trans r2
 clear b1 u1 t1 r2 s1
 go_wp2_with fail
 refine (nextR_c 900 g A n c (0 + 3 + 3) B ys _ oM oM s2 u2 hB hn oM).mono ?_
 rintro e w3 ⟨v2, rfl, hv2, s3, r3⟩
 have b3 := b2.rg r3 (.inr oM)
 have u3 := u2.rg r3 hB (Nat.le_of_lt s2.lt)
 have t3 := t2.trans r3
 clear b2 u2 t2 r3 s2
 go_wp2_with fail
 refine (nextR_c 200 g A n c (0 + 3 + 3 + 3) B ys _ oM oM s3 u3 hB hn oM).mono ?_
 rintro e w4 ⟨v3, rfl, hv3, s4, r4⟩
 have b4 := b3.rg r4 (.inr oM)
 have t4 := t3.trans r4
 clear b3 u3 t3 r4 s3
 obtain ⟨c0, c1, c2, c3⟩ := b4.d4
 have f0 := b4.frozen 0
 have f1 := b4.frozen 1
 have f2 := b4.frozen 2
 have f3 := b4.frozen 3
 go_wp2
 have q := put4_box b4 (ii (1 + (v0 : Int))) (ii v1) (ii v2) (ii v3)
 have hnf := (((t4.setNew8 (p := ⟨w.heap.size, 0, none⟩) nle (ii (1 + (v0 : Int)))).setNew8 (p := ⟨w.heap.size, 1, none⟩) nle (ii v1)).setNew8 (p := ⟨w.heap.size, 2, none⟩) nle (ii v2)).setNew8 (p := ⟨w.heap.size, 3, none⟩) nle (ii v3)
 change Rg _ _ _ (put4 w4 w.heap.size (ii (1 + (v0 : Int))) (ii v1) (ii v2) (ii v3)) at hnf
 change bodyPost _ _ _ _ _ (put4 w4 w.heap.size (ii (1 + (v0 : Int))) (ii v1) (ii v2) (ii v3))
 generalize put4 w4 w.heap.size (ii (1 + (v0 : Int))) (ii v1) (ii v2) (ii v3) = Wf at *
 obtain ⟨g0, g1, g2, g3⟩ := q.d4
 refine bodyPost_ret (v := .agg #[ii (1 + (v0 : Int)), ii v1, ii v2, ii v3]) (by simp [results, results69, go_sem, g0, g1, g2, g3]) rfl ⟨(1 + v0, v1, v2, v3), ?_, ?_, hnf⟩
 . rw [show (1 : Int) + (v0 : Int) = ((1 + v0 : Nat) : Int) by omega]; rfl
 . show frameB ((1 + v0 : Nat) : Int) v1 v2 v3 = true
   unfold frameB inB; simp; omega
theorem frameDrawn_c (A : Option Addr) (n c : Nat) (ys : List Nat) (w : World) (h : U8s w w.heap.size A n ys) (hn : n <= 1048576) :
 Calls Tryz.prog 23 #[sC A n c] w fun e w' => ∃ q : F4, e = .returned (vF q) /\ frameB q.1 q.2.1 q.2.2.1 q.2.2.2 = true /\ Nx w w' := by
 go_enter func23, ntmps23
 go_wp2_with fail
 have b0 := Box.new w 55 #[ii 0, ii 0, ii 0, ii 0]
 have hx0 := (Nx.refl w).alloc (.cells #[ii 0, ii 0, ii 0, ii 0] 55)
 have u0 := h.below hx0 nle
 generalize w.alloc (.cells #[ii 0, ii 0, ii 0, ii 0] 55) = W at *
 have hz := b0.lt
 refine (l00Source_c A n c _ hn).mono ?_
 rintro e w1 ⟨rfl, s1, hnx1⟩
 have u1 := u0.below hnx1 oM
 go_wp2_with fail
 refine (frame_c W.heap.size A n c w.heap.size ys _ ⟨0, n % 1000, oM, oM, s1⟩ u1 oM hn).mono ?_
 rintro e w2 ⟨⟨q0, q1, q2, q3⟩, rfl, hf, r2⟩
 have HF := qh hf
 clear hf
 have b2 := (b0.nx hnx1).rg r2 (.inl hz)
 have hx2 := Rg.nx_of (hx0.trans hnx1) r2 oM
 clear u0 u1 b0 hx0 hnx1 r2 s1
 rw [show vF (q0, q1, q2, q3) = .agg #[ii q0, ii q1, ii q2, ii q3] from rfl]
 obtain ⟨c0, c1, c2, c3⟩ := b2.d4
 have f0 := b2.frozen 0
 have f1 := b2.frozen 1
 have f2 := b2.frozen 2
 have f3 := b2.frozen 3
 go_wp2
 have q := put4_box b2 (ii q0) (ii q1) (ii q2) (ii q3)
 have hnf := put4_nx hx2 (Nat.le_refl w.heap.size) (ii q0) (ii q1) (ii q2) (ii q3)
 change bodyPost _ _ _ _ _ (put4 w2 w.heap.size (ii q0) (ii q1) (ii q2) (ii q3))
 generalize put4 w2 w.heap.size (ii q0) (ii q1) (ii q2) (ii q3) = Wf at *
 obtain ⟨g0, g1, g2, g3⟩ := q.d4
 exact bodyPost_ret (v := .agg #[ii q0, ii q1, ii q2, ii q3]) (by simp [results, results23, go_sem, g0, g1, g2, g3]) rfl ⟨(q0, q1, q2, q3), rfl, HF.out, hnf⟩
section
variable {α : Type} {p : α -> α -> Bool} {d : α} {l m : List α} {k : Nat}
end
theorem sameTexts_c (A A2 : Option Addr) (n c c2 B : Nat) (ss : List BA) (w : World) (h : Strs w B A n ss) (h2 : Strs w B A2 n ss) (hB : B <= w.heap.size) (hn : n <= 1048576) :
 Calls Tryz.prog 63 #[sC A n c, sC A2 n c2] w fun e w' => e = .returned (.bool true) /\ Nx w w' := by
 go_enter func63, ntmps63
 go_wp2
 go_loopw [5] (fun i wr => ∃ k : Nat, k <= n /\ i = ii k /\ Nx w wr) (fun i _ => n - (intOf i).toNat)
 case atStart => exact ⟨0, Nat.zero_le _, rfl, Nx.refl _⟩
 case round =>
  obtain ⟨k, hk, rfl, hnx⟩ := hrel
  by_cases hlt : k < n
  . obtain ⟨b, off, rfl, hb, hc⟩ := (h.below hnx hB).at_ hlt
    obtain ⟨b2, off2, rfl, hb2, hc2⟩ := (h2.below hnx hB).at_ hlt
    generalize ss.getD k ByteArray.empty = s at hc hc2
    go_wp2
    go_quiet (fail)
    go_wp2
    go_roundw
    case rel => exact ⟨k + 1, oM, by go_num, hnx.drewN _⟩
    case measure => simp [intOf]; omega
  . go_wp2
    go_ret
    exact ⟨rfl, hnx⟩
theorem sameDisk_c (A A2 A3 A4 : Option Addr) (n c c3 c2 c4 B : Nat) (ss : List BA) (w : World) (h : Strs w B A n ss) (h3 : Strs w B A3 n ss)
 (hB : B <= w.heap.size) (hn : n <= 1048576) :
 Calls Tryz.prog 18 #[.agg #[sC A n c, sC A2 0 c2], .agg #[sC A3 n c3, sC A4 0 c4]] w fun e w' => e = .returned (.bool true) /\ Nx w w' := by
 go_enter func18, ntmps18
 go_wp2_with fail
 have b0 := (Box.new w 35 #[sC A n c, sC A2 0 c2]).alloc (.cells #[sC A3 n c3, sC A4 0 c4] 35)
 have b1 := Box.new (w.alloc (.cells #[sC A n c, sC A2 0 c2] 35)) 35 #[sC A3 n c3, sC A4 0 c4]
 have hnx0 := ((Nx.refl w).alloc (.cells #[sC A n c, sC A2 0 c2] 35)).alloc (.cells #[sC A3 n c3, sC A4 0 c4] 35)
 simp only [World.size_alloc] at b1
 generalize ((w.alloc (.cells #[sC A n c, sC A2 0 c2] 35)).alloc (.cells #[sC A3 n c3, sC A4 0 c4] 35)) = W at *
 refine (sameTexts_c A A3 n c c3 B ss _ (h.below hnx0 hB) (h3.below hnx0 hB) (ntr hB hnx0.size) hn).mono ?_
 rintro e w1 ⟨rfl, hnx1⟩
 have b0' := b0.nx hnx1
 have b1' := b1.nx hnx1
 have c00 := b0'.c0
 have c01 := b0'.c1
 have c10 := b1'.c0
 have c11 := b1'.c1
 have hnx2 := hnx0.trans hnx1
 go_wp2
 go_loopw [5] (fun i wr => i = ii 0 /\ wr = w1) (fun i _ => 0)
 case atStart => exact ⟨rfl, rfl⟩
 case round =>
  obtain ⟨rfl, rfl⟩ := hrel
  go_wp2
  go_ret
  exact ⟨rfl, hnx2⟩

theorem vaultDiskOf_c (A : Option Addr) (n c : Nat) (ys : List Nat) (w : World) (B : Nat) (h : U8s w B A n ys) (hB : B <= w.heap.size) (hn : n <= 1048576) :
 Calls Tryz.prog 20 #[sC A n c] w fun e w' => ∃ (A1 : Option Addr) (c1 : Nat) (A2 : Option Addr) (c2 : Nat) (ss : List BA) (V : Vl), e = .returned (.agg #[sC A1 64 c1, sC A2 0 c2]) /\ Dv ss V 41 /\ SlS w' w.heap.size A1 64 ss /\ Nx w w' := by
 go_enter func20, ntmps20
 go_wp2_with fail
 have b0 := Box.new w 35 #[nsl, nsl]
 have hx0 := (Nx.refl w).alloc (.cells #[nsl, nsl] 35)
 have u0 := h.below hx0 hB
 generalize w.alloc (.cells #[nsl, nsl] 35) = W at *
 have hz := b0.lt
 refine (l00Source_c A n c _ hn).mono ?_
 rintro e w1 ⟨rfl, s1, hnx1⟩
 have u1 := u0.below hnx1 oM
 have hz1 := hnx1.size
 go_wp2_with fail
 refine (vaultDisk_c W.heap.size A n c B 0 ys _ ⟨0, n % 1000, oM, oM, s1⟩ u1 oM hn oM).mono ?_
 rintro e w2 ⟨A1, c1, A2, c2, ss, V, rfl, hd, hS, _, r2⟩
 have HD := qh hd
 clear hd
 have b2 := (b0.nx hnx1).rg r2 (.inl hz)
 have hx2 := Rg.nx_of (hx0.trans hnx1) r2 oM
 have hgl : w.heap.size < w1.heap.size := oM
 clear u0 u1 b0 hx0 hnx1 r2 s1
 have y0 := b2.c0
 have y1 := b2.c1
 have f0 := b2.frozen 0
 have f1 := b2.frozen 1
 go_wp2
 obtain ⟨q0, q1, rS, rW, rx⟩ := fin_box c1 c2 b2 hS (⟨rfl, fun h => absurd h oM⟩ : SlW w2 w1.heap.size A2 0 []) hgl hgl hx2 nle
 generalize (w2.setCell ⟨w.heap.size, 0, none⟩ (sC A1 64 c1)).setCell ⟨w.heap.size, 1, none⟩ (sC A2 0 c2) = Wf at *
 exact bodyPost_ret (v := .agg #[sC A1 64 c1, sC A2 0 c2]) (by simp [results, results20, go_sem, q0, q1]) rfl ⟨A1, c1, A2, c2, ss, V, rfl, HD.out, rS, rx⟩
structure TnOut (ss R F : List BA) (V W U : Vl) (T : Int) (n : Nat) (v t : Int) : Prop where
 whole : awP ss [] (T + 1) (n : Int) v t = ((F, []), 0)
 len : F.length = 64
 ld : ldA R [] = (W, 0)
 ldF : ldA F [] = (U, 0)
 ok : W.ok = true
 two : W = V \/ (W = U /\ W.g ≠ V.g)
theorem awT_ask {ss : List BA} {p v t : Int} {n : Nat} {bs : List Bool} (hb : bs.length < 4) (hd : diskB ss [] = true) (hf : frameB p (n : Int) v t = true) :
 awT ss [] p (n : Int) v t bs = ((settleTo (kpC bs) (apP ss p n v t).1.1 (apP ss p n v t).1.2 (apP ss p n v t).1.2.length, []), (apP ss p n v t).2) := by
 have h : askD ss [] p (n : Int) v t = true := by unfold askD; rw [hd, hf]; rfl
 unfold awT
 rw [if_neg oM, h]; rfl
theorem tn_out {ss : List BA} {V : Vl} {n : Nat} {v t : Int} (bs : List Bool) (hb : bs.length < 4) (h : Dv ss V 41) (hf : ∀ p, 1 <= p -> p <= 1000 -> frameB p (n : Int) v t = true) :
 ∃ R cd, awT ss [] (V.tip + 1) (n : Int) v t bs = ((R, []), cd) /\ R.length = 64 /\ ((cd = 7 /\ R = ss) \/ (cd = 0 /\ ∃ F W U, TnOut ss R F V W U V.tip n v t)) := by
 have hti := h.ld.ok.tipIn
 have ht0 : 0 <= V.tip := hti.1
 have ht := h.tip
 have hg := h.gen
 have hfr := hf (V.tip + 1) oM oM
 have h64 := (diskB_len64 h.disk).1
 by_cases h20 : V.gs.length = 20
 . refine ⟨ss, 7, ?_, h64, .inl ⟨rfl, rfl⟩⟩
   rw [awT_ask hb h.disk hfr, apP_no h.ld.v (apC_full rfl (.inl h20)) dC]; rfl
 . have hA : Asked ss V (V.tip + 1) n v t := ⟨h.disk, h.ld, hfr, rfl, h20, oM⟩
   have e : awT ss [] (V.tip + 1) (n : Int) v t bs = ((settleTo (kpC bs) (apS ss V (V.tip + 1) n v t) [(1 - sltV ss [], apU V)] 1, []), 0) := by
    rw [awT_ask hb h.disk hfr, apP_yes h.ld.v (apC_yes rfl h20 oM)]; rfl
   have hF := diskB_len64 hA.diskF
   have hS := diskB_len64 hA.diskS
   have e2 : settleTo (kpC bs) (apS ss V (V.tip + 1) n v t) [(1 - sltV ss [], apU V)] 1 = if kpC bs 0 = true then (apS ss V (V.tip + 1) n v t).set (1 - sltV ss []).toNat (apU V) else apS ss V (V.tip + 1) n v t := rfl
   rw [e2] at e
   by_cases hk : kpC bs 0 = true
   . rw [if_pos hk] at e
     exact ⟨_, 0, e, hF.1, .inr ⟨rfl, _, _, _, awP_yes hA, hF.1, ldA_of hA.diskF hA.ldF, ldA_of hA.diskF hA.ldF, hA.y.b, .inr ⟨rfl, by show V.g + 1 ≠ V.g; omega⟩⟩⟩
   . rw [if_neg hk] at e
     exact ⟨_, 0, e, hS.1, .inr ⟨rfl, _, _, _, awP_yes hA, hF.1, ldA_of hA.diskS hA.keep, ldA_of hA.diskF hA.ldF, h.ld.ok.b, .inl rfl⟩⟩
theorem neqM_run (s : BA) (x : Int) (W : World) : (binOp .neq 136 (.agg #[.string s, ii x]) (.agg #[.string s, ii x])).run Tryz.prog W = .ok (.bool false) W := by
 have h1 := fun d => run_equalIn_struct (P := Tryz.prog) W d 136 #[.string s, ii x] #[.string s, ii x] (by kernel_rfl) (by kernel_rfl)
 simp only [binOp]
 simp [Op.equal, Op.maxDepth, h1, go_sem]
theorem neqC_run (x y z : Int) (W : World) : (binOp .neq 192 (.agg #[ii x, ii y, ii z]) (.agg #[ii x, ii y, ii z])).run Tryz.prog W = .ok (.bool false) W := by
 have h1 := fun d => run_equalIn_struct (P := Tryz.prog) W d 192 #[ii x, ii y, ii z] #[ii x, ii y, ii z] (by kernel_rfl) (by kernel_rfl)
 simp only [binOp]
 simp [Op.equal, Op.maxDepth, h1, go_sem]
theorem equalI_y (A A2 : Option Addr) (c c2 B : Nat) (xs : List Int) (w : World) (h : Ins w B A xs) (h2 : Ins w B A2 xs) (hB : B <= w.heap.size) (hn : xs.length <= 1048576) :
 Calls Tryz.prog 85 #[sC A xs.length c, sC A2 xs.length c2] w fun e w' => e = .returned (.bool true) /\ Nx w w' := by
 go_enter func85, ntmps85
 go_wp2
 go_loopw [13] (fun i wr => ∃ k : Nat, k <= xs.length /\ i = ii k /\ Nx w wr) (fun i _ => xs.length - (intOf i).toNat)
 case atStart => exact ⟨0, Nat.zero_le _, rfl, Nx.refl _⟩
 case round =>
  obtain ⟨k, hk, rfl, hnx⟩ := hrel
  by_cases hlt : k < xs.length
  . obtain ⟨b, off, rfl, hb, hc⟩ := (h.below hnx hB).at_ hlt
    obtain ⟨b2, off2, rfl, hb2, hc2⟩ := (h2.below hnx hB).at_ hlt
    generalize xs.getD k 0 = x at hc hc2
    go_wp2
    go_quiet (fail)
    go_wp2
    go_roundw
    case rel => exact ⟨k + 1, oM, by go_num, hnx.drewN _⟩
    case measure => simp [intOf]; omega
  . go_wp2
    go_ret
    exact ⟨rfl, hnx⟩
theorem equalM_y (A A2 : Option Addr) (c c2 B : Nat) (ms : List Mrk) (w : World) (h : Mks w B A ms) (h2 : Mks w B A2 ms) (hB : B <= w.heap.size) (hn : ms.length <= 1048576) :
 Calls Tryz.prog 164 #[sC A ms.length c, sC A2 ms.length c2] w fun e w' => e = .returned (.bool true) /\ Nx w w' := by
 go_enter func164, ntmps164
 go_wp2
 go_loopw [13] (fun i wr => ∃ k : Nat, k <= ms.length /\ i = ii k /\ Nx w wr) (fun i _ => ms.length - (intOf i).toNat)
 case atStart => exact ⟨0, Nat.zero_le _, rfl, Nx.refl _⟩
 case round =>
  obtain ⟨k, hk, rfl, hnx⟩ := hrel
  by_cases hlt : k < ms.length
  . obtain ⟨b, off, rfl, hb, hc, hd⟩ := (h.below hnx hB).at_ hlt
    obtain ⟨b2, off2, rfl, hb2, hc2, hd2⟩ := (h2.below hnx hB).at_ hlt
    generalize (ms.getD k mrZ).1 = x at hc hc2
    generalize (ms.getD k mrZ).2 = y at hd hd2
    have hr := neqM_run x y
    go_wp2
    go_quiet (fail)
    go_wp2
    go_roundw
    case rel => exact ⟨k + 1, oM, by go_num, hnx.drewN _⟩
    case measure => simp [intOf]; omega
  . go_wp2
    go_ret
    exact ⟨rfl, hnx⟩
theorem equalC_y (A A2 : Option Addr) (c c2 B : Nat) (cs : List Chg) (w : World) (h : Chs w B A cs) (h2 : Chs w B A2 cs) (hB : B <= w.heap.size) (hn : cs.length <= 1048576) :
 Calls Tryz.prog 165 #[sC A cs.length c, sC A2 cs.length c2] w fun e w' => e = .returned (.bool true) /\ Nx w w' := by
 go_enter func165, ntmps165
 go_wp2
 go_loopw [13] (fun i wr => ∃ k : Nat, k <= cs.length /\ i = ii k /\ Nx w wr) (fun i _ => cs.length - (intOf i).toNat)
 case atStart => exact ⟨0, Nat.zero_le _, rfl, Nx.refl _⟩
 case round =>
  obtain ⟨k, hk, rfl, hnx⟩ := hrel
  by_cases hlt : k < cs.length
  . obtain ⟨b, off, rfl, hb, hc, hd, he⟩ := (h.below hnx hB).at_ hlt
    obtain ⟨b2, off2, rfl, hb2, hc2, hd2, he2⟩ := (h2.below hnx hB).at_ hlt
    generalize (cs.getD k chZ).1 = x at hc hc2
    generalize (cs.getD k chZ).2.1 = y at hd hd2
    generalize (cs.getD k chZ).2.2 = z at he he2
    have hr := neqC_run x y z
    go_wp2
    go_quiet (fail)
    go_wp2
    go_roundw
    case rel => exact ⟨k + 1, oM, by go_num, hnx.drewN _⟩
    case measure => simp [intOf]; omega
  . go_wp2
    go_ret
    exact ⟨rfl, hnx⟩
theorem segLike_y (f t m : Int) (A A2 : Option Addr) (c c2 B : Nat) (cs : List Chg) (w : World) (h : Chs w B A cs) (h2 : Chs w B A2 cs) (hB : B <= w.heap.size) (hn : cs.length <= 1048576) :
 Calls Tryz.prog 84 #[.agg #[ii f, ii t, ii m, sC A cs.length c], .agg #[ii f, ii t, ii m, sC A2 cs.length c2]] w fun e w' => e = .returned (.bool true) /\ Nx w w' := by
 have hx := ((Nx.refl w).alloc (.cells #[ii f, ii t, ii m, sC A cs.length c] 122)).alloc (.cells #[ii f, ii t, ii m, sC A2 cs.length c2] 122)
 go_enter func84, ntmps84
 go_wp2_with fail
 generalize (w.alloc (.cells #[ii f, ii t, ii m, sC A cs.length c] 122)).alloc (.cells #[ii f, ii t, ii m, sC A2 cs.length c2] 122) = W at *
 refine (equalC_y A A2 c c2 B cs W (h.below hx hB) (h2.below hx hB) (ntr hB hx.size) hn).mono ?_
 rintro e w1 ⟨rfl, hk⟩
 go_wp2
 go_ret
 exact ⟨rfl, hx.trans hk⟩
theorem equalF_y (A A2 : Option Addr) (c c2 B : Nat) (gs hs : List SgR) (w : World) (h : Sgs w B A gs) (h2 : Sgs w B A2 hs) (hv : gs.map SgR.v = hs.map SgR.v) (hB : B <= w.heap.size) (hn : gs.length <= 1048576) (hm : ∀ k, k < gs.length -> (gs.getD k sgZ).cs.length <= 1048576) :
 Calls Tryz.prog 83 #[sC A gs.length c, sC A2 hs.length c2, .func (Fn.func 84) #[] #[]] w fun e w' => e = .returned (.bool true) /\ Nx w w' := by
 have hl : hs.length = gs.length := (v_len hv).symm
 have HV := qh (fun k => v_parts hv k)
 have HM := qh hm
 obtain ⟨n, Hn⟩ := nM (gs.length)
 rw [hl, Hn.out]
 rw [Hn.out] at hn
 clear hv hm
 go_enter func83, ntmps83
 go_wp2
 go_loopw [17] (fun i wr => ∃ k : Nat, k <= n /\ i = ii k /\ Nx w wr) (fun i _ => n - (intOf i).toNat)
 case atStart => exact ⟨0, Nat.zero_le _, rfl, Nx.refl _⟩
 case round =>
  obtain ⟨k, hk, rfl, hnx⟩ := hrel
  by_cases hlt : k < n
  . have hlk : k < gs.length := by have := Hn.out; omega
    have hlk2 : k < hs.length := oM
    have hC := h.chs k hlk
    have hD := h2.chs k hlk2
    have hmk := HM.out k hlk
    obtain ⟨v1, v2, v3, v4⟩ := HV.out k
    obtain ⟨b, off, rfl, hb, p0, p1, p2, p3⟩ := (h.row.below hnx hB).at4 hlk
    obtain ⟨b2, off2, rfl, hb2, r0, r1, r2, r3⟩ := (h2.row.below hnx hB).at4 hlk2
    rw [v1] at p0
    rw [v2] at p1
    rw [v3] at p2
    rw [v4] at p3 hC hmk
    generalize (gs.getD k sgZ).A = Ac at p3 hC
    generalize (gs.getD k sgZ).c = cc at p3
    generalize hs.getD k sgZ = s at p0 p1 p2 p3 r0 r1 r2 r3 hC hD hmk
    obtain ⟨f, t, m, Ad, cd, cs⟩ := s
    simp only at p0 p1 p2 p3 r0 r1 r2 r3 hC hD hmk
    clear v1 v2 v3 v4 hlk hlk2
    have hbw : b < wr.heap.size := by have := hnx.size; omega
    have hbw2 : b2 < wr.heap.size := by have := hnx.size; omega
    have hx := (hnx.alloc (.cells #[ii f, ii t, ii m, sC Ac cs.length cc] 122)).alloc (.cells #[ii f, ii t, ii m, sC Ad cs.length cd] 122)
    go_wp2_with fail
    refine (segLike_y f t m Ac Ad cc cd B cs _ (hC.below hx hB) (hD.below hx hB) (ntr hB hx.size) hmk).mono ?_
    rintro e w5 ⟨rfl, hk⟩
    go_wp2
    go_roundw
    case rel => exact ⟨k + 1, oM, by go_num, hx.trans hk⟩
    case measure => simp [intOf]; omega
  . go_wp2
    go_ret
    exact ⟨rfl, hnx⟩
theorem superLike_y (g b p t : Int) (A A2 A3 A4 : Option Addr) (c c2 c3 c4 B : Nat) (xs : List Int) (ms : List Mrk) (w : World) (h : Ins w B A xs) (h2 : Mks w B A2 ms) (h3 : Ins w B A3 xs) (h4 : Mks w B A4 ms) (hB : B <= w.heap.size) (hn : xs.length <= 1048576) (hn2 : ms.length <= 1048576) :
 Calls Tryz.prog 82 #[.agg #[ii g, ii b, ii p, ii t, sC A xs.length c, sC A2 ms.length c2], .agg #[ii g, ii b, ii p, ii t, sC A3 xs.length c3, sC A4 ms.length c4]] w fun e w' => e = .returned (.bool true) /\ Nx w w' := by
 have b0 := (Box.new w 26 #[ii g, ii b, ii p, ii t, sC A xs.length c, sC A2 ms.length c2]).alloc (.cells #[ii g, ii b, ii p, ii t, sC A3 xs.length c3, sC A4 ms.length c4] 26)
 have b1 := Box.new (w.alloc (.cells #[ii g, ii b, ii p, ii t, sC A xs.length c, sC A2 ms.length c2] 26)) 26 #[ii g, ii b, ii p, ii t, sC A3 xs.length c3, sC A4 ms.length c4]
 simp only [World.size_alloc] at b1
 have hx := ((Nx.refl w).alloc (.cells #[ii g, ii b, ii p, ii t, sC A xs.length c, sC A2 ms.length c2] 26)).alloc (.cells #[ii g, ii b, ii p, ii t, sC A3 xs.length c3, sC A4 ms.length c4] 26)
 go_enter func82, ntmps82
 go_wp2_with fail
 generalize (w.alloc (.cells #[ii g, ii b, ii p, ii t, sC A xs.length c, sC A2 ms.length c2] 26)).alloc (.cells #[ii g, ii b, ii p, ii t, sC A3 xs.length c3, sC A4 ms.length c4] 26) = W at *
 refine (equalI_y A A3 c c3 B xs W (h.below hx hB) (h3.below hx hB) (ntr hB hx.size) hn).mono ?_
 rintro e w1 ⟨rfl, hk⟩
 have hx1 := hx.trans hk
 have c0 := b0.nx hk
 have c1 := b1.nx hk
 obtain ⟨x0, x1, x2, x3, x4, x5⟩ := c0.d6
 obtain ⟨y0, y1, y2, y3, y4, y5⟩ := c1.d6
 clear hx hk b0 b1
 go_wp2_with fail
 refine (equalM_y A2 A4 c2 c4 B ms w1 (h2.below hx1 hB) (h4.below hx1 hB) (ntr hB hx1.size) hn2).mono ?_
 rintro e w2 ⟨rfl, hk⟩
 go_wp2
 go_ret
 exact ⟨rfl, hx1.trans hk⟩
theorem superLike_n (g b p t g2 b2 p2 t2 : Int) (A A2 A3 A4 : Option Addr) (c c2 c3 c4 : Nat) (xs xs2 : List Int) (ms ms2 : List Mrk) (w : World) (h : g ≠ g2) :
 Calls Tryz.prog 82 #[.agg #[ii g, ii b, ii p, ii t, sC A xs.length c, sC A2 ms.length c2], .agg #[ii g2, ii b2, ii p2, ii t2, sC A3 xs2.length c3, sC A4 ms2.length c4]] w fun e w' => e = .returned (.bool false) /\ Nx w w' := by
 have hx := ((Nx.refl w).alloc (.cells #[ii g, ii b, ii p, ii t, sC A xs.length c, sC A2 ms.length c2] 26)).alloc (.cells #[ii g2, ii b2, ii p2, ii t2, sC A3 xs2.length c3, sC A4 ms2.length c4] 26)
 have hd : decide (g = g2) = false := decide_eq_false h
 have hd2 : (g == g2) = false := by simp [h]
 clear h
 go_enter func82, ntmps82
 go_wp2
 go_ret
 exact ⟨rfl, hx⟩
theorem sameVault_n (V U : Vl) (w : World) (h : V.g ≠ U.g) :
 Calls Tryz.prog 32 #[V.v, U.v] w fun e w' => e = .returned (.bool false) /\ Nx w w' := by
 have hx := ((Nx.refl w).alloc (.cells #[ii V.g, ii V.b, ii V.p, ii V.t, sC V.A V.xs.length V.c, sC V.A2 V.ms.length V.c2, sC V.A3 V.gs.length V.c3, sC V.A4 V.im.length V.c4] 49)).alloc (.cells #[ii U.g, ii U.b, ii U.p, ii U.t, sC U.A U.xs.length U.c, sC U.A2 U.ms.length U.c2, sC U.A3 U.gs.length U.c3, sC U.A4 U.im.length U.c4] 49)
 simp only [Vl.v, Vl.cells]
 go_enter func32, ntmps32
 go_wp2_with fail
 generalize (w.alloc (.cells #[ii V.g, ii V.b, ii V.p, ii V.t, sC V.A V.xs.length V.c, sC V.A2 V.ms.length V.c2, sC V.A3 V.gs.length V.c3, sC V.A4 V.im.length V.c4] 49)).alloc (.cells #[ii U.g, ii U.b, ii U.p, ii U.t, sC U.A U.xs.length U.c, sC U.A2 U.ms.length U.c2, sC U.A3 U.gs.length U.c3, sC U.A4 U.im.length U.c4] 49) = W at *
 refine (superLike_n _ _ _ _ _ _ _ _ V.A V.A2 U.A U.A2 V.c V.c2 U.c U.c2 V.xs U.xs V.ms U.ms W h).mono ?_
 rintro e w1 ⟨rfl, hk⟩
 go_wp2
 go_ret
 exact ⟨rfl, hx.trans hk⟩
theorem sameVault_y (V U : Vl) (B : Nat) (w : World) (h : Vlt w B V) (h2 : Vlt w B U) (hs : VlS V U) (hB : B <= w.heap.size) (hn : VlN V 1048576) :
 Calls Tryz.prog 32 #[V.v, U.v] w fun e w' => e = .returned (.bool true) /\ Nx w w' := by
 obtain ⟨g', b', p', t', A, c, xs', A2, c2, ms', A3, c3, gs, A4, c4, im'⟩ := V
 obtain ⟨g, b, p, t, A', c', xs, A2', c2', ms, A3', c3', gs', A4', c4', im⟩ := U
 obtain ⟨e1, e2, e3, e4, e5, e6, e7, e8⟩ := hs
 simp only at e1 e2 e3 e4 e5 e6 e7 e8
 subst e1 e2 e3 e4 e5 e6 e8
 have HVV := qh e7.symm
 clear e7
 obtain ⟨a1, a2, a3, a4⟩ := h
 obtain ⟨d1, d2, d3, d4⟩ := h2
 obtain ⟨hn, hn2, hn3, hn4, hn5⟩ := hn
 simp only [Vl.v, Vl.cells] at *
 have b0 := (Box.new w 49 #[ii g, ii b, ii p, ii t, sC A xs.length c, sC A2 ms.length c2, sC A3 gs.length c3, sC A4 im.length c4]).alloc (.cells #[ii g, ii b, ii p, ii t, sC A' xs.length c', sC A2' ms.length c2', sC A3' gs'.length c3', sC A4' im.length c4'] 49)
 have b1 := Box.new (w.alloc (.cells #[ii g, ii b, ii p, ii t, sC A xs.length c, sC A2 ms.length c2, sC A3 gs.length c3, sC A4 im.length c4] 49)) 49 #[ii g, ii b, ii p, ii t, sC A' xs.length c', sC A2' ms.length c2', sC A3' gs'.length c3', sC A4' im.length c4']
 simp only [World.size_alloc] at b1
 have hx := ((Nx.refl w).alloc (.cells #[ii g, ii b, ii p, ii t, sC A xs.length c, sC A2 ms.length c2, sC A3 gs.length c3, sC A4 im.length c4] 49)).alloc (.cells #[ii g, ii b, ii p, ii t, sC A' xs.length c', sC A2' ms.length c2', sC A3' gs'.length c3', sC A4' im.length c4'] 49)
 go_enter func32, ntmps32
 go_wp2_with fail
 generalize (w.alloc (.cells #[ii g, ii b, ii p, ii t, sC A xs.length c, sC A2 ms.length c2, sC A3 gs.length c3, sC A4 im.length c4] 49)).alloc (.cells #[ii g, ii b, ii p, ii t, sC A' xs.length c', sC A2' ms.length c2', sC A3' gs'.length c3', sC A4' im.length c4'] 49) = W at *
 refine (superLike_y g b p t A A2 A' A2' c c2 c' c2' B xs ms W (a1.below hx hB) (a2.below hx hB) (d1.below hx hB) (d2.below hx hB) (ntr hB hx.size) hn hn2).mono ?_
 rintro e w1 ⟨rfl, hk⟩
 have hx1 := hx.trans hk
 have c0 := b0.nx hk
 have c1 := b1.nx hk
 obtain ⟨x0, x1, x2, x3, x4, x5, x6, x7⟩ := c0.e8
 obtain ⟨y0, y1, y2, y3, y4, y5, y6, y7⟩ := c1.e8
 clear hx hk b0 b1
 go_wp2_with fail
 refine (equalF_y A3 A3' c3 c3' B gs gs' w1 (a3.below hx1 hB) (d3.below hx1 hB) HVV.out (ntr hB hx1.size) hn3 hn4).mono ?_
 rintro e w2 ⟨rfl, hk⟩
 have hx2 := hx1.trans hk
 have c2' := c0.nx hk
 have c3' := c1.nx hk
 obtain ⟨x0, x1, x2, x3, x4, x5, x6, x7⟩ := c2'.e8
 obtain ⟨y0, y1, y2, y3, y4, y5, y6, y7⟩ := c3'.e8
 clear hk c0 c1
 go_wp2_with fail
 refine (equalI_y A4 A4' c4 c4' B im w2 (a4.below hx2 hB) (d4.below hx2 hB) (ntr hB hx2.size) hn5).mono ?_
 rintro e w3 ⟨rfl, hk⟩
 go_wp2
 go_ret
 exact ⟨rfl, hx2.trans hk⟩
theorem VlS.both {V a b : Vl} (h : VlS V a) (k : VlS V b) : VlS a b := ⟨k.g.trans h.g.symm, k.b.trans h.b.symm, k.p.trans h.p.symm, k.t.trans h.t.symm, k.xs.trans h.xs.symm, k.ms.trans h.ms.symm, k.gs.trans h.gs.symm, k.im.trans h.im.symm⟩
theorem mergeTn {G F : Nat -> Option Addr -> Nat -> Option Addr -> Nat -> Option Addr -> Nat -> Nat -> World -> Prop} {R : Prop} (main : (∀ g A c B d K m k W, F g A c B d K m k W -> G g A c B d K m k W) -> R) (key : ∀ g A c B d K m k W, F g A c B d K m k W -> G g A c B d K m k W) : R := main key
theorem lawAppendTorn (A : Option Addr) (n c : Nat) (ys : List Nat) (A2 : Option Addr) (n2 c2 : Nat) (zs : List Nat) (w : World) (a0 a1 : Addr) (hE : Er w a0 a1) (hM : Mx w) (hEt : Et w) (hT : Tab w) (h : U8s w w.heap.size A n ys) (hn9 : n <= 2 ^ 63 - 1) (h2 : U8s w w.heap.size A2 n2 zs) (hn29 : n2 <= 2 ^ 63 - 1) :
 Calls Tryz.prog 5 #[sC A n c, sC A2 n2 c2] w fun e w' => e = .returned (.bool true) /\ Nx w w' := by
 by_cases hl : n <= 1048576
 case neg =>
  have hd0 : decide (1048576 < (n : Int)) = true := by simp; omega
  go_enter func5, ntmps5
  go_wp2
  go_ret
  exact ⟨rfl, Nx.refl _⟩
 have hd0 : decide (1048576 < (n : Int)) = false := by simp; omega
 by_cases hl2 : n2 <= 1048576
 case neg =>
  have hd1 : decide (1048576 < (n2 : Int)) = true := by simp; omega
  go_enter func5, ntmps5
  go_wp2
  go_ret
  exact ⟨rfl, Nx.refl _⟩
 have hd1 : decide (1048576 < (n2 : Int)) = false := by simp; omega
 go_enter func5, ntmps5
 go_wp2_with fail
 clear hd0 hd1
 refine (vaultDiskOf_c A n c ys _ w.heap.size h nle hl).mono ?_
 rintro e w1 ⟨D1, d1, D2, d2, ss, V, rfl, hDv, hS, hX⟩
 have HD := qh hDv
 have HLd := qh (ldA_of hDv.disk hDv.ld)
 have HVB := qh (show VlB V by have := ldA_b ss []; rwa [HLd.out] at this)
 clear hDv h
 go_wp2_with fail
 have D := Dk.new (c := d1) (c2 := d2) hS (⟨rfl, fun h => absurd h oM⟩ : SlW _ _ D2 0 [])
 have k0 := (Nx.refl w1).alloc (.cells #[sC D1 64 d1, sC D2 0 d2] 35)
 clear hS
 generalize w1.alloc (.cells #[sC D1 64 d1, sC D2 0 d2] 35) = w2 at *
 generalize w1.heap.size = gD at *
 replace hX := hX.trans k0
 have hld := implLoadVault_c D1 D2 64 d1 0 d2 _ ss [] w2 a0 a1 D.strs D.wrs nle oM oM (hE.nx hX) (hM.nx hX) (hEt.nx hX)
 rw [HLd.out] at hld
 have Hld := qh hld
 clear hld
 refine Hld.out.mono ?_
 clear Hld
 rintro e w3 ⟨v1, vm, rfl, vS, vP, k1⟩
 have vB := qh (HVB.out.s vS)
 simp only [Vl.v, Vl.cells]
 have vlo : w2.heap.size <= w3.heap.size := k1.size
 have vb := Box.new w3 49 #[ii v1.g, ii v1.b, ii v1.p, ii v1.t, sC v1.A v1.xs.length v1.c, sC v1.A2 v1.ms.length v1.c2, sC v1.A3 v1.gs.length v1.c3, sC v1.A4 v1.im.length v1.c4]
 have k2 := (Nx.refl w3).alloc (.cells #[ii v1.g, ii v1.b, ii v1.p, ii v1.t, sC v1.A v1.xs.length v1.c, sC v1.A2 v1.ms.length v1.c2, sC v1.A3 v1.gs.length v1.c3, sC v1.A4 v1.im.length v1.c4] 49)
 replace D := D.nx k1
 have Dy0 := D.c0
 have Dy1 := D.c1
 have Dyl := D.2.2.lt
 go_wp2_with fail
 clear Dy0 Dy1 Dyl
 generalize w3.alloc (.cells #[ii v1.g, ii v1.b, ii v1.p, ii v1.t, sC v1.A v1.xs.length v1.c, sC v1.A2 v1.ms.length v1.c2, sC v1.A3 v1.gs.length v1.c3, sC v1.A4 v1.im.length v1.c4] 49) = w4 at *
 generalize w3.heap.size = gv at *
 have hvok : V.ok = true := HD.out.ld.ok.b
 have hv1ok : v1.ok = true := vS.ok.symm ▸ hvok
 have HV1 := qh hv1ok
 have Htip : v1.tip = V.tip := vS.tip
 have HTR := qh (tipR_yes hv1ok)
 obtain ⟨T, HT⟩ := nM (V.tip)
 have hT0 : 0 <= T := by rw [<- HT.out]; exact HD.out.ld.ok.tipIn.1
 have hT4 : T <= 41 := by rw [<- HT.out]; exact HD.out.tip
 have HTR2 := qh (show tipR v1 = (T, 0) by rw [HTR.out]; have : tipV v1.b v1.gs = T := Htip.trans HT.out; rw [this])
 clear hvok hv1ok Htip HTR
 replace vP := vP.nx k2
 refine (implTipOf_c v1 _ w4 vP.own.vlt nle vB.out.n vP.cap vP.cap3 vB.out.mka).mono ?_
 rintro e w5 ⟨rfl, k3⟩
 rw [HTR2.out]
 replace vb := vb.nx k3
 obtain ⟨vby0, vby1, vby2, vby3, vby4, vby5, vby6, vby7⟩ := vb.e8
 have vbyl := vb.lt
 go_wp2_with fail
 clear vby0 vby1 vby2 vby3 vby4 vby5 vby6 vby7 vbyl
 replace hX := hX.trans (k1.trans (k2.trans k3))
 refine (frameDrawn_c A2 n2 c2 zs w5 ((h2.below hX nle).more hX.size) hl2).mono ?_
 rintro e w6 ⟨⟨f0, f1, f2, f3⟩, rfl, hfr, k4⟩
 simp only [vF]
 replace hfr : frameB (f0 : Int) (f1 : Int) (f2 : Int) (f3 : Int) = true := hfr
 have hf1 : f1 <= 7 := by unfold frameB inB at hfr; simp at hfr; omega
 have HF := qh (show ∀ p : Int, 1 <= p -> p <= 1000 -> frameB p (f1 : Int) (f2 : Int) (f3 : Int) = true from fun p h1 h2 => by unfold frameB inB at hfr ⊢; simp at hfr ⊢; omega)
 clear hfr
 obtain ⟨T1, HT1⟩ := nM (T + 1)
 have hw1 : IntKind.i64.wrap (T + 1) = T1 := by rw [IntWalk.i64_in _ oM]; exact HT1.out
 obtain ⟨T3, HT3⟩ := nM (T + 3)
 have hw3 : IntKind.i64.wrap (T + 3) = T3 := by rw [IntWalk.i64_in _ oM]; exact HT3.out
 go_wp2_with fail
 have fb := Box.new w6 55 #[ii T1, ii (f1 : Int), ii (f2 : Int), ii (f3 : Int)]
 have k5 := (Nx.refl w6).alloc (.cells #[ii T1, ii (f1 : Int), ii (f2 : Int), ii (f3 : Int)] 55)
 generalize w6.alloc (.cells #[ii T1, ii (f1 : Int), ii (f2 : Int), ii (f3 : Int)] 55) = w7 at *
 generalize w6.heap.size = gf at *
 obtain ⟨R, cd, hAT, hRl, hOut⟩ : ∃ R cd, awT ss [] T1 (f1 : Int) (f2 : Int) (f3 : Int) (keepsOf zs) = ((R, []), cd) /\ R.length = 64 /\ ((cd = 7 /\ R = ss) \/ (cd = 0 /\ ∃ F W U, TnOut ss R F V W U T f1 (f2 : Int) (f3 : Int))) := by
  rw [<- HT1.out, <- HT.out]
  exact tn_out (keepsOf zs) (keepsOf_len zs) HD.out HF.out
 have HAT := qh hAT
 have HOut := qh hOut
 have HRl := qh hRl
 have hkl := keepsOf_len zs
 clear hAT hOut hRl
 replace D := D.nx (k2.trans (k3.trans (k4.trans k5)))
 replace hX := hX.trans (k4.trans k5)
 refine mergeTn (F := (fun gq Aq cq Bq dq Kq mq kq Wq => Box Wq gq 35 #[sC Aq 64 cq, sC Bq 0 dq] /\ SlS Wq w7.heap.size Aq 64 R /\ w7.heap.size <= gq /\ Nx w7 Wq)) (G := ?_) (fun key => ?_) ?_
 rotate_left
 . have kd : Nx w7 w7.drew := (Nx.refl _).drew
   have hXs := kd
   replace D := D.nx kd
   replace fb := fb.nx kd
   replace hX := hX.trans kd
   clear kd
   refine wp_planA (.t 0 (.t 1 (.t 2 (.b 3 (.b 4 (.t 5 (.t 6 (.t 7 (.c 8 (.c 9 (.t 10 .e)))))) 8 (.c 4 (.t 5 (.t 6 (.t 7 (.c 9 (.t 10 .e))))))) 8 (.c 3 (.c 4 (.t 5 (.t 6 (.t 7 (.c 9 (.t 10 .e))))))))))) (fun w' => (CC w' gD 0 (sC D1 64 d1) /\ CC w' gD 1 (sC D2 0 d2)) /\ (CC w' gf 0 (ii T1) /\ CC w' gf 1 (ii (f1 : Int)) /\ CC w' gf 2 (ii (f2 : Int)) /\ CC w' gf 3 (ii (f3 : Int)))) (by exact ⟨⟨D.c0, D.c1⟩, fb.d4⟩) ?_
   simp only [psOf, List.getD_cons_zero, List.getD_cons_succ]
   generalize w7.drew = wv at *
   repeat' (first
    | (have hDn := hDone; have rc0 := bz.cell 0; have rf0 := bz.frozen 0; have rc1 := bz.cell 1; have rf1 := bz.frozen 1; have rlt := bz.lt; (with_reducible refine HP.call ?_); refine cSt fun K hK => ?_; go_simp; refine hK.out _ _ (by exact ⟨⟨((D.2.2.far (p := ⟨gz, 0, none⟩) hnD (sC X9 64 x9)).far (p := ⟨gz, 1, none⟩) hnD (sC Y9 0 y9)).c0, ((D.2.2.far (p := ⟨gz, 0, none⟩) hnD (sC X9 64 x9)).far (p := ⟨gz, 1, none⟩) hnD (sC Y9 0 y9)).c1⟩, ((fb.far (p := ⟨gz, 0, none⟩) hnf (sC X9 64 x9)).far (p := ⟨gz, 1, none⟩) hnf (sC Y9 0 y9)).d4⟩) ?_; clear hK K; (try simp only [Act.put, qqA, qqB, qqC]); clear rc0 rf0 rc1 rf1; repeat (first | (refine HP.tk ?_; (try simp only [Act.put, qqA, qqB, qqC])) | (refine HP.sk ?_; (try simp only [Act.put, qqA, qqB, qqC]))); refine HP.done ?_; have rq := (bz.set0 (sC X9 64 x9)).set1 (sC Y9 0 y9); have hnf2 := (hXs.setCell (p := ⟨gz, 0, none⟩) hgz (sC X9 64 x9)).setCell (p := ⟨gz, 1, none⟩) hgz (sC Y9 0 y9); have hSf := hS.twoW bz (sC X9 64 x9) (sC Y9 0 y9); generalize (wv.setCell ⟨gz, 0, none⟩ (sC X9 64 x9)).setCell ⟨gz, 1, none⟩ (sC Y9 0 y9) = Wf at *; exact key gz X9 x9 Y9 y9 K1 km kc Wf ⟨rq, hSf, hgz, hnf2⟩)
    | (with_reducible refine HP.both ?_ ?_)
    | (with_reducible refine HP.three ?_ ?_ ?_)
    | (with_reducible refine HP.call ?_)
    | (refine HP.tk ?_; (try simp only [Act.put, qqA, qqB, qqC]))
    | (refine HP.sk ?_; (try simp only [Act.put, qqA, qqB, qqC]))
    | (refine cSt fun K hK => ?_; go_simp; first
      | ((with_reducible refine callAt 30 ?_); refine (keepsOf_c A2 n2 c2 _ zs _ ((h2.below hX nle).more hX.size) nle hl2).mono ?_; rintro e wv ⟨K1, km, kc, rfl, kB, hv⟩; replace D := D.nx hv; replace fb := fb.nx hv; replace hX := hX.trans hv; replace hXs := hXs.trans hv; (try replace bz := bz.nx hv); (try replace hS := hS.nx hv); clear hv; go_wp2_with fail; refine hK.out _ _ (by exact ⟨⟨D.c0, D.c1⟩, fb.d4⟩) ?_; clear hK K; (try simp only [Act.put, qqA, qqB, qqC]))
      | ((with_reducible refine callAt 29 ?_); refine (implAppendTorn_r D1 D2 64 d1 0 d2 _ ss [] T1 (f1 : Int) (f2 : Int) (f3 : Int) K1 km kc (keepsOf zs) _ a0 a1 R [] cd HAT.out D.strs D.wrs nle oM oM kB.bls (by have := kB.1; omega) (hE.nx hX) (hM.nx hX) (hEt.nx hX) (hT.nx hX)).mono ?_; rintro e wv ⟨X9, nn, x9, Y9, mm, y9, rfl, hS, sW, hv⟩; obtain rfl : 64 = nn := HRl.out.symm.trans hS.1; obtain rfl : 0 = mm := sW.1; clear sW; replace hS := hS.low (lo' := w7.heap.size) (by have := hXs.size; omega); have hDone := True.intro; replace D := D.nx hv; replace fb := fb.nx hv; replace hX := hX.trans hv; replace hXs := hXs.trans hv; (try replace bz := bz.nx hv); (try replace kB := kB.nx hv); clear hv; go_wp2_with fail; refine hK.out _ _ (by exact ⟨⟨D.c0, D.c1⟩, fb.d4⟩) ?_; clear hK K; (try simp only [Act.put, qqA, qqB, qqC]))
      | (have bz := Box.new wv 35 #[nsl, nsl]; have hz := (Nx.refl wv).alloc (.cells #[nsl, nsl] 35); have hnD := Nat.ne_of_lt D.2.2.lt; have hnf := Nat.ne_of_lt fb.lt; have hgz := hXs.size; replace D := D.nx hz; replace fb := fb.nx hz; replace hX := hX.trans hz; replace hXs := hXs.trans hz; (try replace bz := bz.nx hz); (try replace kB := kB.nx hz); (try replace hS := hS.nx hz); refine hK.out _ _ (by exact ⟨⟨D.c0, D.c1⟩, fb.d4⟩) ?_; clear hK K; (try simp only [Act.put, qqA, qqB, qqC]); clear hz; change HP _ _ _ _ _ _ (wv.alloc (.cells #[nsl, nsl] 35)); generalize wv.heap.size = gz at *; generalize wv.alloc (.cells #[nsl, nsl] 35) = wv at *)))
 intro gX X1 x1 X2 x2 K8 m8 q8 w8 ⟨bX, xS, hgX, k6⟩
 go_wp2_with fail
 replace D := D.nx k6
 replace fb := fb.nx k6
 replace hX := hX.trans k6
 refine mergeTn (F := (fun gq Aq cq Bq dq Kq mq kq Wq => Box Wq gq 35 #[sC Aq 64 cq, sC Bq 0 dq] /\ SlS Wq w8.heap.size Aq 64 R /\ w8.heap.size <= gq /\ Nx w8 Wq)) (G := ?_) (fun key => ?_) ?_
 rotate_left
 . have kd : Nx w8 w8.drew := (Nx.refl _).drew
   have hXs := kd
   replace D := D.nx kd
   replace fb := fb.nx kd
   replace hX := hX.trans kd
   clear kd
   refine wp_planA (.t 0 (.t 1 (.t 2 (.b 3 (.b 4 (.t 5 (.t 6 (.t 7 (.c 8 (.c 9 (.t 10 .e)))))) 8 (.c 4 (.t 5 (.t 6 (.t 7 (.c 9 (.t 10 .e))))))) 8 (.c 3 (.c 4 (.t 5 (.t 6 (.t 7 (.c 9 (.t 10 .e))))))))))) (fun w' => (CC w' gD 0 (sC D1 64 d1) /\ CC w' gD 1 (sC D2 0 d2)) /\ (CC w' gf 0 (ii T1) /\ CC w' gf 1 (ii (f1 : Int)) /\ CC w' gf 2 (ii (f2 : Int)) /\ CC w' gf 3 (ii (f3 : Int)))) (by exact ⟨⟨D.c0, D.c1⟩, fb.d4⟩) ?_
   simp only [psOf, List.getD_cons_zero, List.getD_cons_succ]
   generalize w8.drew = wv at *
   repeat' (first
    | (have hDn := hDone; have rc0 := bz.cell 0; have rf0 := bz.frozen 0; have rc1 := bz.cell 1; have rf1 := bz.frozen 1; have rlt := bz.lt; (with_reducible refine HP.call ?_); refine cSt fun K hK => ?_; go_simp; refine hK.out _ _ (by exact ⟨⟨((D.2.2.far (p := ⟨gz, 0, none⟩) hnD (sC X9 64 x9)).far (p := ⟨gz, 1, none⟩) hnD (sC Y9 0 y9)).c0, ((D.2.2.far (p := ⟨gz, 0, none⟩) hnD (sC X9 64 x9)).far (p := ⟨gz, 1, none⟩) hnD (sC Y9 0 y9)).c1⟩, ((fb.far (p := ⟨gz, 0, none⟩) hnf (sC X9 64 x9)).far (p := ⟨gz, 1, none⟩) hnf (sC Y9 0 y9)).d4⟩) ?_; clear hK K; (try simp only [Act.put, qqA, qqB, qqC]); clear rc0 rf0 rc1 rf1; repeat (first | (refine HP.tk ?_; (try simp only [Act.put, qqA, qqB, qqC])) | (refine HP.sk ?_; (try simp only [Act.put, qqA, qqB, qqC]))); refine HP.done ?_; have rq := (bz.set0 (sC X9 64 x9)).set1 (sC Y9 0 y9); have hnf2 := (hXs.setCell (p := ⟨gz, 0, none⟩) hgz (sC X9 64 x9)).setCell (p := ⟨gz, 1, none⟩) hgz (sC Y9 0 y9); have hSf := hS.twoW bz (sC X9 64 x9) (sC Y9 0 y9); generalize (wv.setCell ⟨gz, 0, none⟩ (sC X9 64 x9)).setCell ⟨gz, 1, none⟩ (sC Y9 0 y9) = Wf at *; exact key gz X9 x9 Y9 y9 K1 km kc Wf ⟨rq, hSf, hgz, hnf2⟩)
    | (with_reducible refine HP.both ?_ ?_)
    | (with_reducible refine HP.three ?_ ?_ ?_)
    | (with_reducible refine HP.call ?_)
    | (refine HP.tk ?_; (try simp only [Act.put, qqA, qqB, qqC]))
    | (refine HP.sk ?_; (try simp only [Act.put, qqA, qqB, qqC]))
    | (refine cSt fun K hK => ?_; go_simp; first
      | ((with_reducible refine callAt 30 ?_); refine (keepsOf_c A2 n2 c2 _ zs _ ((h2.below hX nle).more hX.size) nle hl2).mono ?_; rintro e wv ⟨K1, km, kc, rfl, kB, hv⟩; replace D := D.nx hv; replace fb := fb.nx hv; replace hX := hX.trans hv; replace hXs := hXs.trans hv; (try replace bz := bz.nx hv); (try replace hS := hS.nx hv); clear hv; go_wp2_with fail; refine hK.out _ _ (by exact ⟨⟨D.c0, D.c1⟩, fb.d4⟩) ?_; clear hK K; (try simp only [Act.put, qqA, qqB, qqC]))
      | ((with_reducible refine callAt 31 ?_); refine (specAppendTorn_r D1 D2 64 d1 0 d2 _ ss [] T1 (f1 : Int) (f2 : Int) (f3 : Int) K1 km kc (keepsOf zs) _ R [] cd HAT.out D.strs D.wrs nle oM oM kB.bls (by have := kB.1; omega) ).mono ?_; rintro e wv ⟨X9, nn, x9, Y9, mm, y9, rfl, hS, sW, hv⟩; obtain rfl : 64 = nn := HRl.out.symm.trans hS.1; obtain rfl : 0 = mm := sW.1; clear sW; replace hS := hS.low (lo' := w8.heap.size) (by have := hXs.size; omega); have hDone := True.intro; replace D := D.nx hv; replace fb := fb.nx hv; replace hX := hX.trans hv; replace hXs := hXs.trans hv; (try replace bz := bz.nx hv); (try replace kB := kB.nx hv); clear hv; go_wp2_with fail; refine hK.out _ _ (by exact ⟨⟨D.c0, D.c1⟩, fb.d4⟩) ?_; clear hK K; (try simp only [Act.put, qqA, qqB, qqC]))
      | (have bz := Box.new wv 35 #[nsl, nsl]; have hz := (Nx.refl wv).alloc (.cells #[nsl, nsl] 35); have hnD := Nat.ne_of_lt D.2.2.lt; have hnf := Nat.ne_of_lt fb.lt; have hgz := hXs.size; replace D := D.nx hz; replace fb := fb.nx hz; replace hX := hX.trans hz; replace hXs := hXs.trans hz; (try replace bz := bz.nx hz); (try replace kB := kB.nx hz); (try replace hS := hS.nx hz); refine hK.out _ _ (by exact ⟨⟨D.c0, D.c1⟩, fb.d4⟩) ?_; clear hK K; (try simp only [Act.put, qqA, qqB, qqC]); clear hz; change HP _ _ _ _ _ _ (wv.alloc (.cells #[nsl, nsl] 35)); generalize wv.heap.size = gz at *; generalize wv.alloc (.cells #[nsl, nsl] 35) = wv at *)))
 intro gY Y1 y1 Y2 y2 K9 m9 q9 w9 ⟨bY, yS, hgY, k7⟩
 replace bX := bX.nx k7
 have bXy0 := bX.c0
 have bXy1 := bX.c1
 have bXyl := bX.lt
 have bYy0 := bY.c0
 have bYy1 := bY.c1
 have bYyl := bY.lt
 go_wp2_with fail
 clear bXy0 bXy1 bXyl
 clear bYy0 bYy1 bYyl
 replace xS := xS.nx k7
 refine (sameDisk_c X1 X2 Y1 Y2 64 x1 y1 x2 y2 _ _ w9 xS.strs yS.strs nle oM).mono ?_
 rintro e wa ⟨rfl, k8⟩
 clear bY
 clear yS
 replace hX := hX.trans (k7.trans k8)
 replace D := D.nx (k7.trans k8)
 replace vP := vP.nx (k3.trans (k4.trans (k5.trans (k6.trans (k7.trans k8)))))
 replace vb := vb.nx (k4.trans (k5.trans (k6.trans (k7.trans k8))))
 replace fb := fb.nx (k7.trans k8)
 replace bX := bX.nx k8
 replace xS := xS.nx k8
 rcases HOut.out with ⟨rfl, hRs⟩ | ⟨rfl, F, W, U, hO⟩
 . subst hRs
   have bXy0 := bX.c0
   have bXy1 := bX.c1
   have bXyl := bX.lt
   have Dy0 := D.c0
   have Dy1 := D.c1
   have Dyl := D.2.2.lt
   go_wp2_with fail
   refine (sameDisk_c X1 X2 D1 D2 64 x1 d1 x2 d2 _ _ wa xS.strs D.strs nle oM).mono ?_
   rintro e wb ⟨rfl, hk⟩
   go_wp2
   go_ret
   exact ⟨rfl, hX.trans hk⟩
 have HO := qh hO
 clear hO HOut
 have HLw := qh HO.out.ld
 have HLu := qh HO.out.ldF
 have HBw := qh (show VlB W by have := ldA_b R []; rwa [HLw.out] at this)
 have HBu := qh (show VlB U by have := ldA_b F []; rwa [HLu.out] at this)
 have HAP := qh (show awP ss [] T1 (f1 : Int) (f2 : Int) (f3 : Int) = ((F, []), 0) by rw [<- HT1.out]; exact HO.out.whole)
 have HFl := qh HO.out.len
 have bXy0 := bX.c0
 have bXy1 := bX.c1
 have bXyl := bX.lt
 go_wp2_with fail
 clear bXy0 bXy1 bXyl
 have hld := implLoadVault_c X1 X2 64 x1 0 x2 _ R [] wa a0 a1 xS.strs (⟨rfl, fun h => absurd h oM⟩ : Wrs _ _ X2 0 []) nle oM oM (hE.nx hX) (hM.nx hX) (hEt.nx hX)
 rw [HLw.out] at hld
 have Hld := qh hld
 clear hld
 refine Hld.out.mono ?_
 clear Hld
 rintro e wb ⟨u1, um, rfl, uS, uP, k9⟩
 have uB := qh (HBw.out.s uS)
 simp only [Vl.v, Vl.cells]
 have ub := Box.new wb 49 #[ii u1.g, ii u1.b, ii u1.p, ii u1.t, sC u1.A u1.xs.length u1.c, sC u1.A2 u1.ms.length u1.c2, sC u1.A3 u1.gs.length u1.c3, sC u1.A4 u1.im.length u1.c4]
 have k10 := (Nx.refl wb).alloc (.cells #[ii u1.g, ii u1.b, ii u1.p, ii u1.t, sC u1.A u1.xs.length u1.c, sC u1.A2 u1.ms.length u1.c2, sC u1.A3 u1.gs.length u1.c3, sC u1.A4 u1.im.length u1.c4] 49)
 replace D := D.nx k9
 have Dy0 := D.c0
 have Dy1 := D.c1
 have Dyl := D.2.2.lt
 replace fb := fb.nx k9
 obtain ⟨fby0, fby1, fby2, fby3⟩ := fb.d4
 have fbyl := fb.lt
 go_wp2_with fail
 clear Dy0 Dy1 Dyl
 clear fby0 fby1 fby2 fby3 fbyl
 generalize wb.alloc (.cells #[ii u1.g, ii u1.b, ii u1.p, ii u1.t, sC u1.A u1.xs.length u1.c, sC u1.A2 u1.ms.length u1.c2, sC u1.A3 u1.gs.length u1.c3, sC u1.A4 u1.im.length u1.c4] 49) = wc at *
 generalize wb.heap.size = gu at *
 replace hX := hX.trans (k9.trans k10)
 replace D := D.nx k10
 refine (implAppendWrite_r D1 D2 64 d1 0 d2 _ ss [] T1 (f1 : Int) (f2 : Int) (f3 : Int) wc a0 a1 F [] 0 HAP.out D.strs D.wrs nle oM oM (hE.nx hX) (hM.nx hX) (hEt.nx hX) (hT.nx hX)).mono ?_
 rintro e wd ⟨Z1, nn, z1, Z2, mm, z2, rfl, zS, sW, k11⟩
 obtain rfl : 64 = nn := HFl.out.symm.trans zS.1
 obtain rfl : 0 = mm := sW.1
 clear sW
 go_wp2_with fail
 have Z := Dk.new (c := z1) (c2 := z2) zS (⟨rfl, fun h => absurd h oM⟩ : SlW _ _ Z2 0 [])
 have k12 := (Nx.refl wd).alloc (.cells #[sC Z1 64 z1, sC Z2 0 z2] 35)
 clear zS
 generalize wd.alloc (.cells #[sC Z1 64 z1, sC Z2 0 z2] 35) = we at *
 generalize wd.heap.size = gZ at *
 replace hX := hX.trans (k11.trans k12)
 have hld := implLoadVault_c Z1 Z2 64 z1 0 z2 _ F [] we a0 a1 Z.strs (⟨rfl, fun h => absurd h oM⟩ : Wrs _ _ Z2 0 []) nle oM oM (hE.nx hX) (hM.nx hX) (hEt.nx hX)
 rw [HLu.out] at hld
 have Hld := qh hld
 clear hld
 refine Hld.out.mono ?_
 clear Hld
 rintro e wf ⟨y1, ym, rfl, yS, yP, k13⟩
 have yB := qh (HBu.out.s yS)
 simp only [Vl.v, Vl.cells]
 have yb := Box.new wf 49 #[ii y1.g, ii y1.b, ii y1.p, ii y1.t, sC y1.A y1.xs.length y1.c, sC y1.A2 y1.ms.length y1.c2, sC y1.A3 y1.gs.length y1.c3, sC y1.A4 y1.im.length y1.c4]
 have k14 := (Nx.refl wf).alloc (.cells #[ii y1.g, ii y1.b, ii y1.p, ii y1.t, sC y1.A y1.xs.length y1.c, sC y1.A2 y1.ms.length y1.c2, sC y1.A3 y1.gs.length y1.c3, sC y1.A4 y1.im.length y1.c4] 49)
 replace ub := ub.nx (k11.trans (k12.trans k13))
 obtain ⟨uby0, uby1, uby2, uby3, uby4, uby5, uby6, uby7⟩ := ub.e8
 have ubyl := ub.lt
 replace vb := vb.nx (k9.trans (k10.trans (k11.trans (k12.trans k13))))
 obtain ⟨vby0, vby1, vby2, vby3, vby4, vby5, vby6, vby7⟩ := vb.e8
 have vbyl := vb.lt
 go_wp2_with fail
 clear uby0 uby1 uby2 uby3 uby4 uby5 uby6 uby7 ubyl
 clear vby0 vby1 vby2 vby3 vby4 vby5 vby6 vby7 vbyl
 generalize wf.alloc (.cells #[ii y1.g, ii y1.b, ii y1.p, ii y1.t, sC y1.A y1.xs.length y1.c, sC y1.A2 y1.ms.length y1.c2, sC y1.A3 y1.gs.length y1.c3, sC y1.A4 y1.im.length y1.c4] 49) = wg at *
 generalize wf.heap.size = gy at *
 have HU1 := qh (show u1.ok = true from uS.ok.symm ▸ HO.out.ok)
 replace hX := hX.trans (k13.trans k14)
 replace D := D.nx (k11.trans (k12.trans (k13.trans k14)))
 replace vP := vP.nx (k9.trans (k10.trans (k11.trans (k12.trans (k13.trans k14)))))
 replace vb := vb.nx k14
 replace fb := fb.nx (k10.trans (k11.trans (k12.trans (k13.trans k14))))
 replace bX := bX.nx (k9.trans (k10.trans (k11.trans (k12.trans (k13.trans k14)))))
 replace xS := xS.nx (k9.trans (k10.trans (k11.trans (k12.trans (k13.trans k14)))))
 replace uP := uP.nx (k10.trans (k11.trans (k12.trans (k13.trans k14))))
 replace ub := ub.nx k14
 replace Z := Z.nx (k13.trans k14)
 replace yP := yP.nx k14
 rcases HO.out.two with e | ⟨e, hne⟩
 . have hVS : VlS u1 v1 := (e ▸ uS).both vS
   refine (sameVault_y u1 v1 _ wg uP.own.vlt vP.own.vlt hVS nle uB.out.n).mono ?_
   rintro e wh ⟨rfl, k15⟩
   replace ub := ub.nx k15
   obtain ⟨uby0, uby1, uby2, uby3, uby4, uby5, uby6, uby7⟩ := ub.e8
   have ubyl := ub.lt
   go_wp2_with fail
   clear uby0 uby1 uby2 uby3 uby4 uby5 uby6 uby7 ubyl
   replace uP := uP.nx k15
   refine (implVaultOK_c u1 _ _ uP.own.vlt nle uB.out.n uP.cap uP.cap3 uB.out.mka).mono ?_
   rintro e wj ⟨rfl, hk⟩
   rw [HU1.out]
   go_wp2
   go_ret
   replace hX := hX.trans k15
   exact ⟨rfl, hX.trans hk⟩
 . have hVS : VlS u1 y1 := (e ▸ uS).both yS
   have hgn : u1.g ≠ v1.g := by rw [uS.g, vS.g]; exact hne
   refine (sameVault_n u1 v1 wg hgn).mono ?_
   rintro e wh ⟨rfl, k15⟩
   replace ub := ub.nx k15
   obtain ⟨uby0, uby1, uby2, uby3, uby4, uby5, uby6, uby7⟩ := ub.e8
   have ubyl := ub.lt
   replace yb := yb.nx k15
   obtain ⟨yby0, yby1, yby2, yby3, yby4, yby5, yby6, yby7⟩ := yb.e8
   have ybyl := yb.lt
   go_wp2_with fail
   clear uby0 uby1 uby2 uby3 uby4 uby5 uby6 uby7 ubyl
   clear yby0 yby1 yby2 yby3 yby4 yby5 yby6 yby7 ybyl
   replace uP := uP.nx k15
   replace yP := yP.nx k15
   refine (sameVault_y u1 y1 _ wh uP.own.vlt yP.own.vlt hVS nle uB.out.n).mono ?_
   rintro e wi ⟨rfl, k16⟩
   replace ub := ub.nx k16
   obtain ⟨uby0, uby1, uby2, uby3, uby4, uby5, uby6, uby7⟩ := ub.e8
   have ubyl := ub.lt
   go_wp2_with fail
   clear uby0 uby1 uby2 uby3 uby4 uby5 uby6 uby7 ubyl
   replace uP := uP.nx k16
   refine (implVaultOK_c u1 _ _ uP.own.vlt nle uB.out.n uP.cap uP.cap3 uB.out.mka).mono ?_
   rintro e wj ⟨rfl, hk⟩
   rw [HU1.out]
   go_wp2
   go_ret
   replace hX := hX.trans (k15.trans k16)
   exact ⟨rfl, hX.trans hk⟩
end
section
open Go.ChangeShapes Go.WideShapes Go.ChangeAt Go.WideMaps Go.WideElems Go.RowKit
theorem ownP : ownKnob Tryz.prog.godebug = none := by kernel_rfl
theorem laidOutP : laidOutB Tryz.prog = true := by kernel_rfl
theorem gLongP : Tryz.prog.globalNamed "loop.example/g00608/impl.errTextLong" = some 1 := by kernel_rfl
theorem gFormP : Tryz.prog.globalNamed "loop.example/g00608/impl.errTextForm" = some 0 := by kernel_rfl
theorem tLongP : (Tryz.prog.globals[1]?).map (·.type) = some 86 := by kernel_rfl
theorem tFormP : (Tryz.prog.globals[0]?).map (·.type) = some 86 := by kernel_rfl
theorem starP : "*" ++ "errors.errorString" = "*errors.errorString" := by decide
theorem rowEP (u : TypeId) (h : Tryz.prog.typeName? 3 u = some "*errors.errorString") : u = 290 :=
 typeName_ptr_named (nm := "errors.errorString") (by rw [starP]; kernel_rfl) (by kernel_rfl) dC u (by rw [starP]; exact h)
theorem cellsEP : Tryz.prog.cellsOf 308 = 1 := by kernel_rfl
theorem cellsSP : Tryz.prog.cellsOf 9 = 1 := by kernel_rfl
theorem etP : Tryz.prog.globalNamed "errors.errorType" = some 2 := by kernel_rfl
theorem rtP : (Tryz.prog.cutTypes.find? (·.1 == "internal/reflectlite.rtype")).map (·.2) = some 242 := by kernel_rfl
theorem oneRowP : ((List.range (420 - 100)).filter fun t => Tryz.prog.rowNamed t [101, 114, 114, 111, 114]) = [86] := by kernel_rfl
theorem sizeP : Tryz.prog.types.size = 420 - 100 := by kernel_rfl
noncomputable def typeWorld (os : Os) : World :=
 let w0 := World.holding Tryz.prog os ⟨#[], #[], []⟩
 { w0 with heap := w0.heap.modify 2 fun
  | .cells _ t frozen => .cells #[.iface 242 (.agg #[.pointer (some ⟨9, 86, none⟩)])] t frozen
  | o => o }
theorem et_of_handle {W : World} {l : List (String × DataW Unit)} (h : handlesMet Tryz.prog l W) (hl : ("errors.errorType", Rows.laid_errors_errorType) ∈ l) : Et W := by
 obtain ⟨name, u, ty, e1, e2, e3, e4, e5⟩ := h _ hl
 have en : name = [101, 114, 114, 111, 114] := (Option.some.inj e1).symm
 subst en
 obtain rfl := Option.some.inj (rtP.symm.trans e2)
 have hm : ty ∈ (List.range (420 - 100)).filter fun t => Tryz.prog.rowNamed t [101, 114, 114, 111, 114] := List.mem_filter.2 ⟨List.mem_range.2 (by rw [<- sizeP]; exact e3), e4⟩
 rw [oneRowP] at hm
 obtain rfl := List.mem_singleton.1 hm
 have hh : typeHandle Tryz.prog 86 = .pointer (some ⟨9, 86, none⟩) := by kernel_rfl
 rw [hh] at e5
 unfold Et
 simpa using World.var?_cell etP e5 0
theorem laid_over {w0 : World} {laid : List (String × DataW Unit)} (args : Array Value) (hf : w0.layFits Tryz.prog laid [] = true) (hi : w0.layIfaces Tryz.prog laid (w0.layVars Tryz.prog laid) = true) :
 laidMet Tryz.prog laid ((w0.layVars Tryz.prog laid).forCall (fun _ _ => 0) ⟨#[], args, []⟩).memory := by
 have e1 : (laid.filter fun x => (laid.map (·.1)).contains x.1) = laid := List.filter_eq_self.2 fun x hx => List.contains_iff_mem.2 (List.mem_map.2 ⟨x, hx, rfl⟩)
 have e2 : (laid.filter fun x => !(laid.map (·.1)).contains x.1) = [] := List.filter_eq_nil_iff.2 fun x hx => by rw [List.contains_iff_mem.2 (List.mem_map.2 ⟨x, hx, rfl⟩)]; simp
 have h : laidMet Tryz.prog laid (w0.layVars Tryz.prog laid) := laidMet_layVars (w0 := w0) (laid.map (·.1)) [] (by rw [e1]) (by rw [e1]; exact hf) (by rw [e1]; exact hi) (by rw [e2]; exact LaidIn.none)
 exact h.of_heap (by simp [World.memory, World.forCall, Input.heap])
def plainQ : List (String × DataW Unit) := [("math/bits.deBruijn32tab", Rows.laid_math_bits_deBruijn32tab), ("math/bits.deBruijn64tab", Rows.laid_math_bits_deBruijn64tab), ("internal/strconv.uint64pow10", Rows.laid_internal_strconv_uint64pow10), ("unicode/utf8.acceptRanges", Rows.laid_unicode_utf8_acceptRanges), ("loop.example/g00608/impl.errTextLong", Rows.laid_loop_example_g00608_impl_errTextLong), ("loop.example/g00608/impl.errTextForm", Rows.laid_loop_example_g00608_impl_errTextForm), ("unicode/utf8.first", Rows.laid_unicode_utf8_first)]
def laidP : List (String × DataW Unit) := [("math/bits.deBruijn32tab", Rows.laid_math_bits_deBruijn32tab), ("math/bits.deBruijn64tab", Rows.laid_math_bits_deBruijn64tab), ("internal/strconv.uint64pow10", Rows.laid_internal_strconv_uint64pow10), ("unicode/utf8.acceptRanges", Rows.laid_unicode_utf8_acceptRanges), ("errors.errorType", Rows.laid_errors_errorType), ("loop.example/g00608/impl.errTextLong", Rows.laid_loop_example_g00608_impl_errTextLong), ("loop.example/g00608/impl.errTextForm", Rows.laid_loop_example_g00608_impl_errTextForm), ("unicode/utf8.first", Rows.laid_unicode_utf8_first)]
noncomputable def worldP (os : Os) : World := (typeWorld os).layVars Tryz.prog plainQ
theorem worldP_os (os : Os) : (worldP os).os = os := World.layVars_os _ _ _
theorem door_metP (os : Os) (args : Array Value) : laidMetH Tryz.prog laidP ((worldP os).forCall (fun _ _ => 0) ⟨#[], args, []⟩).memory :=
 laidMetH_of_parts (laid_over (laid := plainQ) args (by kernel_rfl) (by kernel_rfl)) (by kernel_rfl)
theorem of_laidP {W : World} (h : laidMetH Tryz.prog laidP W) : (∃ a0 a1, Er W a0 a1) /\ Et W := by
 have h' : laidMet Tryz.prog plainQ W /\ handlesMet Tryz.prog [("errors.errorType", Rows.laid_errors_errorType)] W := h
 obtain ⟨a1, a0, s1, s0, c1, c0, t1, t0, hv1, hv0, _, _, _, _, _, _, hne, hb1, hb0⟩ := laid_sentinels2 (laidMet.tail (laidMet.tail (laidMet.tail (laidMet.tail h'.1)))) gLongP tLongP gFormP tFormP underlying86 rowEP underlying290 underlying308 rfl rfl underlying9 cellsEP cellsSP
 exact ⟨⟨a0, a1, World.var?_cell gFormP hv0 0, World.var?_cell gLongP hv1 0, hne.symm, ⟨c0, t0, hb0⟩, c1, t1, hb1⟩, et_of_handle h'.2 (List.mem_singleton.2 rfl)⟩
theorem pow_datum : (Rows.laid_internal_strconv_uint64pow10 : DataW Unit) = Lib.tabData .u64 Lib.pow10Tab := by kernel_rfl
theorem gPow : ∃ g, Tryz.prog.globalNamed "internal/strconv.uint64pow10" = some g /\ (Tryz.prog.globals[g]?).map (·.type) = some 280 := ⟨(Tryz.prog.globalNamed "internal/strconv.uint64pow10").getD 0, by kernel_rfl, by kernel_rfl⟩
theorem tab_of_laidP {W : World} (h : laidMetH Tryz.prog laidP W) : Tab W := by
 have h' : laidMet Tryz.prog plainQ W /\ handlesMet Tryz.prog [("errors.errorType", Rows.laid_errors_errorType)] W := h
 have h1 := laidMet.tail (laidMet.tail h'.1)
 rw [pow_datum] at h1
 obtain ⟨g, hg, hty⟩ := gPow
 exact Lib.tabIs_of_head hg hty underlying280 underlying268 (by kernel_rfl) (by kernel_rfl) h1
theorem mx_of_shaped {W : World} (h : W.ShapedOpen Tryz.prog) : Mx W := cell_of_shapedOpen_int (zero := #[ii 0]) h (of_decide_eq_true (by kernel_rfl)) (by kernel_rfl) rfl (by kernel_rfl) (by kernel_rfl) underlying3
variable {H : Type} {enc : TypeId × Value -> H}
theorem handed_shaped {a : Assume} {C : Checked} {os : Os} {f : FuncId} {fn : Func} {s : ChangeSpec} {conds : List PathCond} {apart fresh handsOn again : Bool} {X : World -> Array Value -> Prop}
 (hX : ∀ (w w' : World) (args : Array Value), w.heap = w'.heap -> X w args -> X w' args)
 (own : ownKnob C.prog.godebug = none) (started : os.Started) (noInit : C.prog.inits.idxOf? f = none) (hfn : C.prog.funcs[f]? = some fn)
 (witness : ∃ (w : World) (tape : Tape) (i : Input), w.os = os /\ (w.forCall tape i).Shaped C.prog /\ i.vars = [] /\ Input.okWide C.prog (w.forCall tape i) .any w.heap.size f i /\
  ((s.pre enc C.prog fn conds apart (w.forCall tape i).memory i.args /\ X (w.forCall tape i).memory i.args) /\ sizedMet enc C.prog fn (OpenSpec.ofChange s) apart (w.forCall tape i).memory i.args) /\ a.holds C.prog (lone (Frame.enter C.prog f i.args .normal) [] (w.forCall tape i)))
 (contract : ∀ (W : World) (base : Nat) (args : Array Value) (ds gs : List (DataW H)) (before : List MemPlace),
  (∀ (j : Nat) t v, fn.params[j]? = some t -> args[j]? = some v -> Value.okWide C.prog W .any base t v) ->
  DataW.Whole enc C.prog fn.params.toList s.vars apart W args.toList ds gs before ->
  W.ShapedOpen C.prog -> X W args ->
  Calls C.prog f args W fun e W' => ∃ v, e = .returned v /\ s.post enc C.prog fn apart fresh handsOn again W args v W') :
 ReturnsInHanded a C os f .any (fun w args => (s.pre enc C.prog fn conds apart w args /\ X w args) /\ sizedMet enc C.prog fn (OpenSpec.ofChange s) apart w args) (s.post enc C.prog fn apart fresh handsOn again) := by
 refine returnsInHanded_of_calls own started noInit witness ?_
 intro w tape i _ hsh _ hok hpre hholds
 obtain ⟨_, _, _, fn', hfn', _, _, _, _, hval⟩ := hok
 have e : fn' = fn := Option.some.inj (hfn'.symm.trans hfn)
 subst e
 obtain ⟨⟨⟨ds, gs, before, hw, hc⟩, hx⟩, hz⟩ := hpre
 have hw' := DataW.Whole.of_heap (w' := w.forCall tape i) (by rfl) hw
 refine (contract (w.forCall tape i) w.heap.size i.args ds gs before hval hw' hsh (hX _ _ _ (by rfl) hx)).mono fun e W' ⟨v, he, hp⟩ => ?_
 subst he
 exact ChangeSpec.post_blind hp
end
end Go.Proofs.YtieoiailjjnnoaaGreatDoor
