/-
  Texts of the proof, in their order.
  Conditions: those of each.
-/
import Derived.Test.YtieoiailjjnnoaaGreatDoorMn11
namespace Go.Proofs.YtieoiailjjnnoaaGreatDoor
set_option linter.unusedVariables false
open _root_.Go.Proofs.Tryz
set_option maxRecDepth 100000
set_option maxHeartbeats 16000000
section
open Go.RowKit
theorem owns_new03 (w : World) {B : Nat} (hB : B <= w.heap.size) : (w.alloc (.cells #[] 192)).ownsRow B 192 3 (sC (some ⟨w.heap.size, 0, none⟩) 0 0) 0 [] :=
 ⟨rfl, .inr ⟨_, 0, #[], rfl, hB, heap_alloc_new w _, oM, by unfold maxLen; omega, rfl, rfl⟩⟩
theorem l02Read_c (t : BA) (w : World) (ht : t.size <= 65536) : Calls Tryz.prog 197 #[.string t] w (RetST w (rdG t) (.bool false) (.bool true)) := by
 obtain ⟨i0, hi0, hz0, hz1, hz2⟩ := info_parts info_chg
 have b0 := Box.new w 122 #[ii 0, ii 0, ii 0, nsl]
 have hx0 := (Nx.refl w).alloc (.cells #[ii 0, ii 0, ii 0, nsl] 122)
 go_enter func197, ntmps197
 go_wp2_with fail
 generalize w.alloc (.cells #[ii 0, ii 0, ii 0, nsl] 122) = W at *
 refine (l02Open_c t _ oM).mono ?_
 rintro e w0 ⟨x, rfl, hxs, hxb, hnx0⟩
 go_wp2_with fail
 refine (l02Numbers_c x _ oM).mono ?_
 rintro e w1 ⟨A, n, c, rfl, hr, hnx1⟩
 have b1 := (b0.nx hnx0).nx hnx1
 have hxw := (hx0.trans hnx0).trans hnx1
 clear b0 hx0 hnx0 hnx1
 cases ho : opensB t with
 | false =>
   have HF := qh (rdG_none (rdN_no ho))
   clear ho hxb hr
   obtain ⟨c0, c1, c2, c3⟩ := b1.d4
   have f0 := b1.frozen 0
   have f1 := b1.frozen 1
   have f2 := b1.frozen 2
   have f3 := b1.frozen 3
   go_wp2
   have q := (put4_box b1 (ii 0) (ii 0) (ii 0) (nsl))
   have hnf := (put4_nx hxw (Nat.le_refl w.heap.size) (ii 0) (ii 0) (ii 0) (nsl))
   change bodyPost _ _ _ _ _ (put4 w1 w.heap.size (ii 0) (ii 0) (ii 0) (nsl))
   change Box (put4 w1 w.heap.size (ii 0) (ii 0) (ii 0) (nsl)) _ _ _ at q
   generalize put4 w1 w.heap.size (ii 0) (ii 0) (ii 0) (nsl) = Wf at *
   obtain ⟨g0, g1, g2, g3⟩ := q.d4
   exact bodyPost_ret (v := .tuple #[.agg #[ii 0, ii 0, ii 0, nsl], .bool false]) (by simp [results, results197, go_sem, g0, g1, g2, g3]) rfl (RetST.no HF.out hnf)
 | true =>
 obtain rfl := hxb ho
 have HR := qh (rdN_yes ho)
 clear ho hxb
 cases hn : numsO (bodyOf t).data.toList with
 | none =>
   have HF := qh (rdG_none (HR.out.trans hn))
   clear hr hn
   simp only [Option.isSome_none]
   obtain ⟨c0, c1, c2, c3⟩ := b1.d4
   have f0 := b1.frozen 0
   have f1 := b1.frozen 1
   have f2 := b1.frozen 2
   have f3 := b1.frozen 3
   go_wp2
   have q := (put4_box b1 (ii 0) (ii 0) (ii 0) (nsl))
   have hnf := (put4_nx hxw (Nat.le_refl w.heap.size) (ii 0) (ii 0) (ii 0) (nsl))
   change bodyPost _ _ _ _ _ (put4 w1 w.heap.size (ii 0) (ii 0) (ii 0) (nsl))
   change Box (put4 w1 w.heap.size (ii 0) (ii 0) (ii 0) (nsl)) _ _ _ at q
   generalize put4 w1 w.heap.size (ii 0) (ii 0) (ii 0) (nsl) = Wf at *
   obtain ⟨g0, g1, g2, g3⟩ := q.d4
   exact bodyPost_ret (v := .tuple #[.agg #[ii 0, ii 0, ii 0, nsl], .bool false]) (by simp [results, results197, go_sem, g0, g1, g2, g3]) rfl (RetST.no HF.out hnf)
 | some ns =>
   obtain ⟨rfl, hrow, _⟩ := hr ns hn
   have HN := qh (HR.out.trans hn)
   clear hr hn
   simp only [Option.isSome_some]
   have HNL := qh (rdN_len ht HN.out)
   by_cases hl3 : 3 <= ns.length
   case neg =>
    have HF := qh (rdG_len HN.out (okLen_no (fun h => hl3 h.1)))
    have hd3 : decide ((ns.length : Int) < 3) = true := by simp; omega
    obtain ⟨c0, c1, c2, c3⟩ := b1.d4
    have f0 := b1.frozen 0
    have f1 := b1.frozen 1
    have f2 := b1.frozen 2
    have f3 := b1.frozen 3
    go_wp2
    have q := (put4_box b1 (ii 0) (ii 0) (ii 0) (nsl))
    have hnf := (put4_nx hxw (Nat.le_refl w.heap.size) (ii 0) (ii 0) (ii 0) (nsl))
    change bodyPost _ _ _ _ _ (put4 w1 w.heap.size (ii 0) (ii 0) (ii 0) (nsl))
    change Box (put4 w1 w.heap.size (ii 0) (ii 0) (ii 0) (nsl)) _ _ _ at q
    generalize put4 w1 w.heap.size (ii 0) (ii 0) (ii 0) (nsl) = Wf at *
    obtain ⟨g0, g1, g2, g3⟩ := q.d4
    exact bodyPost_ret (v := .tuple #[.agg #[ii 0, ii 0, ii 0, nsl], .bool false]) (by simp [results, results197, go_sem, g0, g1, g2, g3]) rfl (RetST.no HF.out hnf)
   have hd3 : decide ((ns.length : Int) < 3) = false := by simp; omega
   by_cases hlm : ns.length % 3 = 0
   case neg =>
    have HF := qh (rdG_len HN.out (okLen_no (fun h => hlm h.2)))
    have hdm : decide (0 < (ns.length : Int) % 3) = true := by simp; omega
    obtain ⟨c0, c1, c2, c3⟩ := b1.d4
    have f0 := b1.frozen 0
    have f1 := b1.frozen 1
    have f2 := b1.frozen 2
    have f3 := b1.frozen 3
    go_wp2
    have q := (put4_box b1 (ii 0) (ii 0) (ii 0) (nsl))
    have hnf := (put4_nx hxw (Nat.le_refl w.heap.size) (ii 0) (ii 0) (ii 0) (nsl))
    change bodyPost _ _ _ _ _ (put4 w1 w.heap.size (ii 0) (ii 0) (ii 0) (nsl))
    change Box (put4 w1 w.heap.size (ii 0) (ii 0) (ii 0) (nsl)) _ _ _ at q
    generalize put4 w1 w.heap.size (ii 0) (ii 0) (ii 0) (nsl) = Wf at *
    obtain ⟨g0, g1, g2, g3⟩ := q.d4
    exact bodyPost_ret (v := .tuple #[.agg #[ii 0, ii 0, ii 0, nsl], .bool false]) (by simp [results, results197, go_sem, g0, g1, g2, g3]) rfl (RetST.no HF.out hnf)
   case pos =>
    have hdm : decide (0 < (ns.length : Int) % 3) = false := by simp; omega
    obtain ⟨N, hN⟩ : ∃ N, ns.length = 3 + 3 * N := ⟨ns.length / 3 - 1, oM⟩
    have HNN := qh hN
    have HOL := qh (okLen_yes hl3 hlm)
    clear hN hlm
    obtain ⟨b, off, rfl, hb, hcl⟩ := hrow.at0 oM
    obtain ⟨n0, Hn0⟩ := nM (ns.getD 0 0)
    obtain ⟨n1, Hn1⟩ := nM (ns.getD 1 0)
    obtain ⟨n2, Hn2⟩ := nM (ns.getD 2 0)
    have k0 : w1.cell? ⟨b, off, none⟩ = some (ii n0) := by have := hcl 0 oM; unfold intAt at this; rw [Hn0.out] at this; exact this
    have k1 : w1.cell? ⟨b, off + 1, none⟩ = some (ii n1) := by have := hcl 1 oM; unfold intAt at this; rw [Hn1.out] at this; exact this
    have k2 : w1.cell? ⟨b, off + 2, none⟩ = some (ii n2) := by have := hcl 2 oM; unfold intAt at this; rw [Hn2.out] at this; exact this
    have HCL := qh hcl
    have hi0' : (0 : Int) < (ns.length : Int) := oM
    have hi1' : (1 : Int) < (ns.length : Int) := oM
    have hi2' : (2 : Int) < (ns.length : Int) := oM
    have hm0 : 0 < ns.length := oM
    have hm1 : 1 < ns.length := oM
    have hm2 : 2 < ns.length := oM
    clear hcl hrow
    go_wp2_with fail
    refine wp_planA (.t 0 (.t 1 (.t 2 (.t 3 (.t 4 (.t 5 (.t 6 (.t 7 (.t 8 (.b 9 (.t 10 (.c 11 (.c 12 .e))) 11 (.c 9 (.t 10 (.c 12 .e))))))))))))) (fun w' => CC w' b off (ii n0) /\ CC w' b (off + 1) (ii n1) /\ CC w' b (off + 2) (ii n2)) (by exact ⟨k0, k1, k2⟩) ?_
    simp only [psOf, List.getD_cons_zero, List.getD_cons_succ]
    refine hPr ?_
    refine HP.both ?_ ?_
    . refine cSt fun K hK => ?_
      go_simp
      refine hK.out _ _ (by exact ⟨(((Nx.refl w1).drew.alloc (.cells #[] 192)).cell (p := ⟨b, off, none⟩) hb).trans k0, (((Nx.refl w1).drew.alloc (.cells #[] 192)).cell (p := ⟨b, off + 1, none⟩) hb).trans k1, (((Nx.refl w1).drew.alloc (.cells #[] 192)).cell (p := ⟨b, off + 2, none⟩) hb).trans k2⟩) ?_
      clear hK K
      refine nZ ?_
      refine hPr ?_
      refine hPc fun K hK => ?_
      go_simp
      refine hK.out _ _ (by exact ⟨((((Nx.refl w1).drew.alloc (.cells #[] 192)).alloc (.cells #[ii 0, ii 0, ii 0, nsl] 122)).cell (p := ⟨b, off, none⟩) hb).trans k0, ((((Nx.refl w1).drew.alloc (.cells #[] 192)).alloc (.cells #[ii 0, ii 0, ii 0, nsl] 122)).cell (p := ⟨b, off + 1, none⟩) hb).trans k1, ((((Nx.refl w1).drew.alloc (.cells #[] 192)).alloc (.cells #[ii 0, ii 0, ii 0, nsl] 122)).cell (p := ⟨b, off + 2, none⟩) hb).trans k2⟩) ?_
      clear hK K
      refine nZ ?_
      refine hPc fun K hK => ?_
      go_simp
      refine hK.out _ _ (by exact ⟨((((Nx.refl w1).drew.alloc (.cells #[] 192)).alloc (.cells #[ii n0, ii n1, ii n2, sC (some ⟨w1.heap.size, 0, none⟩) 0 0] 122)).cell (p := ⟨b, off, none⟩) hb).trans k0, ((((Nx.refl w1).drew.alloc (.cells #[] 192)).alloc (.cells #[ii n0, ii n1, ii n2, sC (some ⟨w1.heap.size, 0, none⟩) 0 0] 122)).cell (p := ⟨b, off + 1, none⟩) hb).trans k1, ((((Nx.refl w1).drew.alloc (.cells #[] 192)).alloc (.cells #[ii n0, ii n1, ii n2, sC (some ⟨w1.heap.size, 0, none⟩) 0 0] 122)).cell (p := ⟨b, off + 2, none⟩) hb).trans k2⟩) ?_
      clear hK K
      refine nZ ?_
      refine HP.done ?_
      clear k0 k1 k2 hm0 hm1 hm2 hi0' hi1' hi2'
      have bg0 : Box (World.drew ((w1.alloc (.cells #[] 192)).alloc (.cells #[ii n0, ii n1, ii n2, sC (some ⟨w1.heap.size, 0, none⟩) 0 0] 122))) (w1.heap.size + 1) 122 #[ii n0, ii n1, ii n2, sC (some ⟨w1.heap.size, 0, none⟩) 0 0] := by have := Box.new (w1.alloc (.cells #[] 192)) 122 #[ii n0, ii n1, ii n2, sC (some ⟨w1.heap.size, 0, none⟩) 0 0]; simp only [World.size_alloc] at this; exact this
      have hw0 : World.ownsRow (World.drew ((w1.alloc (.cells #[] 192)).alloc (.cells #[ii n0, ii n1, ii n2, sC (some ⟨w1.heap.size, 0, none⟩) 0 0] 122))) w1.heap.size 192 3 (sC (some ⟨w1.heap.size, 0, none⟩) 0 0) 0 [] := (owns_new03 w1 nle).alloc (.cells #[ii n0, ii n1, ii n2, sC (some ⟨w1.heap.size, 0, none⟩) 0 0] 122)
      have hx3 : Nx w1 (World.drew ((w1.alloc (.cells #[] 192)).alloc (.cells #[ii n0, ii n1, ii n2, sC (some ⟨w1.heap.size, 0, none⟩) 0 0] 122))) := (((Nx.refl w1).drew.alloc (.cells #[] 192)).alloc (.cells #[ii n0, ii n1, ii n2, sC (some ⟨w1.heap.size, 0, none⟩) 0 0] 122))
      have hgG : w1.heap.size <= (w1.heap.size + 1) := oM
      change Exit.then _ _ _ _ (World.drew ((w1.alloc (.cells #[] 192)).alloc (.cells #[ii n0, ii n1, ii n2, sC (some ⟨w1.heap.size, 0, none⟩) 0 0] 122)))
      generalize (World.drew ((w1.alloc (.cells #[] 192)).alloc (.cells #[ii n0, ii n1, ii n2, sC (some ⟨w1.heap.size, 0, none⟩) 0 0] 122))) = w3 at *
      obtain ⟨gG, HgG⟩ := nM ((w1.heap.size + 1))
      rw [HgG.out] at bg0 hgG ⊢
      go_wp2
      go_loopw [9] (fun i wr => SegLoop w1 gG n0 n1 n2 ns i wr) (fun i _ => ns.length - (intOf i).toNat)
      case atStart => exact ⟨0, 3, _, hl3, qh rfl, rfl, bg0, hw0, hx3⟩
      case round =>
       obtain ⟨k, p, v, hp, HPp, rfl, bg, hw, hnx⟩ := hrel
       clear bg0 hx3 hw0
       by_cases hlt : p < ns.length
       . have hp3 : p + 3 <= ns.length := by have := HPp.out; have := HNN.out; omega
         have hn9 : ns.length <= 65536 := HNL.out
         obtain ⟨q0, Hq0⟩ := nM (ns.getD p 0)
         obtain ⟨q1, Hq1⟩ := nM (ns.getD (p + 1) 0)
         obtain ⟨q2, Hq2⟩ := nM (ns.getD (p + 2) 0)
         have m0 : w1.cell? ⟨b, off + p, none⟩ = some (ii q0) := by have := HCL.out p oM; unfold intAt at this; rw [Hq0.out] at this; exact this
         have m1 : w1.cell? ⟨b, off + (p + 1), none⟩ = some (ii q1) := by have := HCL.out (p + 1) oM; unfold intAt at this; rw [Hq1.out] at this; exact this
         have m2 : w1.cell? ⟨b, off + (p + 2), none⟩ = some (ii q2) := by have := HCL.out (p + 2) oM; unfold intAt at this; rw [Hq2.out] at this; exact this
         have HQ := qh (show chV (chN3 ns k) = [ii q0, ii q1, ii q2] by
          unfold chV chN3; rw [<- HPp.out, Hq0.out, Hq1.out, Hq2.out])
         have HO : Hid (∀ u ∈ [Value.int .i64 (q0 : Int), ii q1, ii q2], u.oneCell' = true) := qh (fun u hu => by simp only [List.mem_cons, List.not_mem_nil, or_false] at hu; rcases hu with rfl | rfl | rfl <;> rfl)
         have hbw := hb
         have hk9 : k <= 100000 := by have := HPp.out; omega
         obtain ⟨_, _, _, c3⟩ := bg.d4
         have hw1a : (p : Int) + 1 < (ns.length : Int) := oM
         have hw1b : (p : Int) + 2 < (ns.length : Int) := oM
         have hw1c : (p : Int) < (ns.length : Int) := oM
         have hw2a : ((p : Int) + 1).toNat = p + 1 := oM
         have hw2b : ((p : Int) + 2).toNat = p + 2 := oM
         have hw3a : (0 : Int) <= (p : Int) + 1 := oM
         have hw3b : (0 : Int) <= (p : Int) + 2 := oM
         have hw4a : IntKind.i64.wrap ((p : Int) + 1) = (p : Int) + 1 := IntWalk.i64_in _ oM
         have hw4b : IntKind.i64.wrap ((p : Int) + 2) = (p : Int) + 2 := IntWalk.i64_in _ oM
         go_wp2_with fail
         refine wp_planA (.t 0 (.t 2 (.t 3 (.t 4 (.t 5 (.t 6 (.t 7 (.t 8 (.t 9 (.t 10 (.t 11 (.t 12 (.t 13 (.t 14 (.t 15 (.t 16 (.b 1 (.c 17 (.c 18 (.t 19 (.c 20 .e)))) 17 (.c 1 (.c 18 (.t 19 (.c 20 .e))))))))))))))))))))) (fun w' => CC w' b (off + p) (ii q0) /\ CC w' b (off + (p + 1)) (ii q1) /\ CC w' b (off + (p + 2)) (ii q2)) (by exact ⟨(hnx.drew.cell (p := ⟨b, off + p, none⟩) hbw).trans m0, (hnx.drew.cell (p := ⟨b, off + (p + 1), none⟩) hbw).trans m1, (hnx.drew.cell (p := ⟨b, off + (p + 2), none⟩) hbw).trans m2⟩) ?_
         simp only [psOf, List.getD_cons_zero, List.getD_cons_succ]
         refine hPr ?_
         refine HP.both ?_ ?_
         . have hx1 := hnx.drew.alloc (.cells #[ii q0, ii q1, ii q2] 192)
           have hw1 := (owns_nx3 hw (Nx.refl wr).drew).alloc (.cells #[ii q0, ii q1, ii q2] 192)
           have bz := (bg.nx (Nx.refl wr).drew).alloc (.cells #[ii q0, ii q1, ii q2] 192)
           have HNW := qh (news3 wr.drew 192 (ii q0) (ii q1) (ii q2))
           have hlt := bg.lt
           refine cSt fun K hK => ?_
           go_simp
           refine hK.out _ _ (by exact ⟨(hnx.drew.cell (p := ⟨b, off + p, none⟩) hbw).trans m0, (hnx.drew.cell (p := ⟨b, off + (p + 1), none⟩) hbw).trans m1, (hnx.drew.cell (p := ⟨b, off + (p + 2), none⟩) hbw).trans m2⟩) ?_
           clear hK K
           refine nZ ?_
           refine hPc fun K hK => ?_
           go_simp
           refine hK.out _ _ (by exact ⟨(hx1.cell (p := ⟨b, off + p, none⟩) hbw).trans m0, (hx1.cell (p := ⟨b, off + (p + 1), none⟩) hbw).trans m1, (hx1.cell (p := ⟨b, off + (p + 2), none⟩) hbw).trans m2⟩) ?_
           clear hK K
           refine nZ ?_
           change HP _ _ _ _ _ _ (wr.drew.alloc (.cells #[ii q0, ii q1, ii q2] 192))
           generalize wr.drew.alloc (.cells #[ii q0, ii q1, ii q2] 192) = wz at *
           refine hPc fun K hK => ?_
           refine wp_append_own wz _ _ 120 rfl w1.heap.size 192 i0 _ 3 24 underlying120 hi0 hz0 hz1 hz2 rfl oM v k _ rfl hw1 ⟨wr.heap.size, 0, none⟩ 1 1 [ii q0, ii q1, ii q2] rfl rfl HNW.out HO.out (by unfold maxLen; omega) oM hx1.size ?_
           intro v2 w2 hw2 hg2 _
           obtain ⟨g2, cp2, rfl, _, _⟩ := hw2.form oM
           have hx2 : Nx w1 w2 := Below.grown hx1 hg2 hx1.size (fun k hk => (hw1.lt k hk).1)
           have bg2 : Box w2 gG 122 #[ii n0, ii n1, ii n2, v] := bz.grown hg2 (owns_ne hw1 bz)
           refine hK.out _ _ (by exact ⟨(hx2.cell (p := ⟨b, off + p, none⟩) hbw).trans m0, (hx2.cell (p := ⟨b, off + (p + 1), none⟩) hbw).trans m1, (hx2.cell (p := ⟨b, off + (p + 2), none⟩) hbw).trans m2⟩) ?_
           clear hK K
           refine nZ ?_
           refine hPr ?_
           obtain ⟨_, _, _, d3⟩ := bg2.d4
           have f3 := bg2.frozen 3
           refine hPc fun K hK => ?_
           go_simp
           have hx3 := hx2.setCell (p := ⟨gG, 3, none⟩) hgG (sC (some ⟨g2, 0, none⟩) (k + 1) cp2)
           refine hK.out _ _ (by exact ⟨(hx3.cell (p := ⟨b, off + p, none⟩) hbw).trans m0, (hx3.cell (p := ⟨b, off + (p + 1), none⟩) hbw).trans m1, (hx3.cell (p := ⟨b, off + (p + 2), none⟩) hbw).trans m2⟩) ?_
           clear hK K
           refine nZ ?_
           refine HP.done ?_
           clear hw1a hw1b hw1c hw2a hw2b hw3a hw3b hw4a hw4b
           have bg3 := bg2.set 3 (sC (some ⟨g2, 0, none⟩) (k + 1) cp2)
           have hw3 := owns_far (u := (sC (some ⟨g2, 0, none⟩) (k + 1) cp2)) (i := 3) hw2 bg2
           clear d3 f3 c3
           go_wp2
           go_roundw
           case rel =>
            refine ⟨k + 1, p + 3, _, oM, qh (by have := HPp.out; omega), by go_num, bg3, ?_, hx3⟩
            rw [chsV_succ, HQ.out]; exact hw3
           case measure => simp [intOf]; omega
         . have hx1 := hnx.drew.alloc (.cells #[ii q0, ii q1, ii q2] 192)
           have hw1 := (owns_nx3 hw (Nx.refl wr).drew).alloc (.cells #[ii q0, ii q1, ii q2] 192)
           have bz := (bg.nx (Nx.refl wr).drew).alloc (.cells #[ii q0, ii q1, ii q2] 192)
           have HNW := qh (news3 wr.drew 192 (ii q0) (ii q1) (ii q2))
           have hlt := bg.lt
           refine cSt fun K hK => ?_
           go_simp
           refine hK.out _ _ (by exact ⟨(hx1.cell (p := ⟨b, off + p, none⟩) hbw).trans m0, (hx1.cell (p := ⟨b, off + (p + 1), none⟩) hbw).trans m1, (hx1.cell (p := ⟨b, off + (p + 2), none⟩) hbw).trans m2⟩) ?_
           clear hK K
           refine nZ ?_
           refine hPc fun K hK => ?_
           go_simp
           refine hK.out _ _ (by exact ⟨(hx1.cell (p := ⟨b, off + p, none⟩) hbw).trans m0, (hx1.cell (p := ⟨b, off + (p + 1), none⟩) hbw).trans m1, (hx1.cell (p := ⟨b, off + (p + 2), none⟩) hbw).trans m2⟩) ?_
           clear hK K
           refine nZ ?_
           change HP _ _ _ _ _ _ (wr.drew.alloc (.cells #[ii q0, ii q1, ii q2] 192))
           generalize wr.drew.alloc (.cells #[ii q0, ii q1, ii q2] 192) = wz at *
           refine hPc fun K hK => ?_
           refine wp_append_own wz _ _ 120 rfl w1.heap.size 192 i0 _ 3 24 underlying120 hi0 hz0 hz1 hz2 rfl oM v k _ rfl hw1 ⟨wr.heap.size, 0, none⟩ 1 1 [ii q0, ii q1, ii q2] rfl rfl HNW.out HO.out (by unfold maxLen; omega) oM hx1.size ?_
           intro v2 w2 hw2 hg2 _
           obtain ⟨g2, cp2, rfl, _, _⟩ := hw2.form oM
           have hx2 : Nx w1 w2 := Below.grown hx1 hg2 hx1.size (fun k hk => (hw1.lt k hk).1)
           have bg2 : Box w2 gG 122 #[ii n0, ii n1, ii n2, v] := bz.grown hg2 (owns_ne hw1 bz)
           refine hK.out _ _ (by exact ⟨(hx2.cell (p := ⟨b, off + p, none⟩) hbw).trans m0, (hx2.cell (p := ⟨b, off + (p + 1), none⟩) hbw).trans m1, (hx2.cell (p := ⟨b, off + (p + 2), none⟩) hbw).trans m2⟩) ?_
           clear hK K
           refine nZ ?_
           refine hPr ?_
           obtain ⟨_, _, _, d3⟩ := bg2.d4
           have f3 := bg2.frozen 3
           refine hPc fun K hK => ?_
           go_simp
           have hx3 := hx2.setCell (p := ⟨gG, 3, none⟩) hgG (sC (some ⟨g2, 0, none⟩) (k + 1) cp2)
           refine hK.out _ _ (by exact ⟨(hx3.cell (p := ⟨b, off + p, none⟩) hbw).trans m0, (hx3.cell (p := ⟨b, off + (p + 1), none⟩) hbw).trans m1, (hx3.cell (p := ⟨b, off + (p + 2), none⟩) hbw).trans m2⟩) ?_
           clear hK K
           refine nZ ?_
           refine HP.done ?_
           clear hw1a hw1b hw1c hw2a hw2b hw3a hw3b hw4a hw4b
           have bg3 := bg2.set 3 (sC (some ⟨g2, 0, none⟩) (k + 1) cp2)
           have hw3 := owns_far (u := (sC (some ⟨g2, 0, none⟩) (k + 1) cp2)) (i := 3) hw2 bg2
           clear d3 f3 c3
           go_wp2
           go_roundw
           case rel =>
            refine ⟨k + 1, p + 3, _, oM, qh (by have := HPp.out; omega), by go_num, bg3, ?_, hx3⟩
            rw [chsV_succ, HQ.out]; exact hw3
           case measure => simp [intOf]; omega
       . obtain rfl : p = ns.length := oM
         have hkN : k = ns.length / 3 - 1 := by have := HPp.out; omega
         have hlen := chOf_len ns k
         have hw' : wr.ownsRow w1.heap.size 192 3 v (chOf ns k).length (chsV (chOf ns k)) := by rw [hlen]; exact hw
         obtain ⟨A2, cp9, rfl, hSl⟩ := owns_slC hw'
         have HQ4 := qh (show sgOf ns = (n0, n1, n2, chOf ns k) by unfold sgOf; rw [Hn0.out, Hn1.out, Hn2.out, <- hkN])
         have hcl9 : (chOf ns k).length <= 1048576 := by rw [hlen]; have := HNL.out; omega
         have bw := b1.nx hnx
         have hxr := hxw.trans hnx
         have hgl : w.heap.size < w1.heap.size := b1.lt
         clear hw hw' hlen hkN
         obtain ⟨x0, x1, x2, x3⟩ := bg.d4
         go_wp2_with fail
         refine (specSegOK_c n0 n1 n2 A2 cp9 _ (chOf ns k) _ hSl.row nle hcl9).mono ?_
         rintro e w5 ⟨rfl, hnx5⟩
         have b5 := bw.nx hnx5
         have bg5 := bg.nx hnx5
         have hx5 := hxr.trans hnx5
         have hS5 := hSl.nx hnx5
         clear x0 x1 x2 x3
         obtain ⟨x0, x1, x2, x3⟩ := bg5.d4
         cases hf : segB n0 n1 n2 (chOf ns k) with
         | false =>
           have HF := qh (rdG_no HN.out (by unfold g4B; rw [HQ4.out]; exact hf))
           clear hf
           obtain ⟨c0, c1, c2, c3⟩ := b5.d4
           have f0 := b5.frozen 0
           have f1 := b5.frozen 1
           have f2 := b5.frozen 2
           have f3 := b5.frozen 3
           go_wp2
           have q := (put4_box b5 (ii 0) (ii 0) (ii 0) (nsl))
           have hnf := (put4_nx hx5 (Nat.le_refl w.heap.size) (ii 0) (ii 0) (ii 0) (nsl))
           change bodyPost _ _ _ _ _ (put4 w5 w.heap.size (ii 0) (ii 0) (ii 0) (nsl))
           change Box (put4 w5 w.heap.size (ii 0) (ii 0) (ii 0) (nsl)) _ _ _ at q
           generalize put4 w5 w.heap.size (ii 0) (ii 0) (ii 0) (nsl) = Wf at *
           obtain ⟨g0, g1, g2, g3⟩ := q.d4
           exact bodyPost_ret (v := .tuple #[.agg #[ii 0, ii 0, ii 0, nsl], .bool false]) (by simp [results, results197, go_sem, g0, g1, g2, g3]) rfl (RetST.no HF.out hnf)
           | true =>
           have HF := qh (rdG_yes HN.out HOL.out (by unfold g4B; rw [HQ4.out]; exact hf))
           clear hf
           obtain ⟨c0, c1, c2, c3⟩ := b5.d4
           have f0 := b5.frozen 0
           have f1 := b5.frozen 1
           have f2 := b5.frozen 2
           have f3 := b5.frozen 3
           go_wp2
           have q := (put4_box b5 (ii n0) (ii n1) (ii n2) (sC A2 (chOf ns k).length cp9))
           have hnf := (put4_nx hx5 (Nat.le_refl w.heap.size) (ii n0) (ii n1) (ii n2) (sC A2 (chOf ns k).length cp9))
           have hsf := (hS5.put4 hgl (ii n0) (ii n1) (ii n2) (sC A2 (chOf ns k).length cp9))
           change Sl (put4 w5 w.heap.size (ii n0) (ii n1) (ii n2) (sC A2 (chOf ns k).length cp9)) _ _ _ _ _ at hsf
           change bodyPost _ _ _ _ _ (put4 w5 w.heap.size (ii n0) (ii n1) (ii n2) (sC A2 (chOf ns k).length cp9))
           change Box (put4 w5 w.heap.size (ii n0) (ii n1) (ii n2) (sC A2 (chOf ns k).length cp9)) _ _ _ at q
           generalize put4 w5 w.heap.size (ii n0) (ii n1) (ii n2) (sC A2 (chOf ns k).length cp9) = Wf at *
           obtain ⟨g0, g1, g2, g3⟩ := q.d4
           exact bodyPost_ret (v := .tuple #[.agg #[ii n0, ii n1, ii n2, sC A2 (chOf ns k).length cp9], .bool true]) (by simp [results, results197, go_sem, g0, g1, g2, g3]) rfl (RetST.yes HF.out HQ4.out (hsf.low oM) hnf)
    . refine cSt fun K hK => ?_
      go_simp
      refine hK.out _ _ (by exact ⟨(((Nx.refl w1).drew.alloc (.cells #[ii 0, ii 0, ii 0, nsl] 122)).cell (p := ⟨b, off, none⟩) hb).trans k0, (((Nx.refl w1).drew.alloc (.cells #[ii 0, ii 0, ii 0, nsl] 122)).cell (p := ⟨b, off + 1, none⟩) hb).trans k1, (((Nx.refl w1).drew.alloc (.cells #[ii 0, ii 0, ii 0, nsl] 122)).cell (p := ⟨b, off + 2, none⟩) hb).trans k2⟩) ?_
      clear hK K
      refine nZ ?_
      refine hPc fun K hK => ?_
      go_simp
      refine hK.out _ _ (by exact ⟨((((Nx.refl w1).drew.alloc (.cells #[ii 0, ii 0, ii 0, nsl] 122)).alloc (.cells #[] 192)).cell (p := ⟨b, off, none⟩) hb).trans k0, ((((Nx.refl w1).drew.alloc (.cells #[ii 0, ii 0, ii 0, nsl] 122)).alloc (.cells #[] 192)).cell (p := ⟨b, off + 1, none⟩) hb).trans k1, ((((Nx.refl w1).drew.alloc (.cells #[ii 0, ii 0, ii 0, nsl] 122)).alloc (.cells #[] 192)).cell (p := ⟨b, off + 2, none⟩) hb).trans k2⟩) ?_
      clear hK K
      refine nZ ?_
      refine hPr ?_
      refine hPc fun K hK => ?_
      go_simp
      refine hK.out _ _ (by exact ⟨((((Nx.refl w1).drew.alloc (.cells #[ii n0, ii n1, ii n2, sC (some ⟨(w1.heap.size + 1), 0, none⟩) 0 0] 122)).alloc (.cells #[] 192)).cell (p := ⟨b, off, none⟩) hb).trans k0, ((((Nx.refl w1).drew.alloc (.cells #[ii n0, ii n1, ii n2, sC (some ⟨(w1.heap.size + 1), 0, none⟩) 0 0] 122)).alloc (.cells #[] 192)).cell (p := ⟨b, off + 1, none⟩) hb).trans k1, ((((Nx.refl w1).drew.alloc (.cells #[ii n0, ii n1, ii n2, sC (some ⟨(w1.heap.size + 1), 0, none⟩) 0 0] 122)).alloc (.cells #[] 192)).cell (p := ⟨b, off + 2, none⟩) hb).trans k2⟩) ?_
      clear hK K
      refine nZ ?_
      refine HP.done ?_
      clear k0 k1 k2 hm0 hm1 hm2 hi0' hi1' hi2'
      have bg0 : Box (World.drew ((w1.alloc (.cells #[ii n0, ii n1, ii n2, sC (some ⟨(w1.heap.size + 1), 0, none⟩) 0 0] 122)).alloc (.cells #[] 192))) w1.heap.size 122 #[ii n0, ii n1, ii n2, sC (some ⟨(w1.heap.size + 1), 0, none⟩) 0 0] := (Box.new w1 _ _).alloc (.cells #[] 192)
      have hw0 : World.ownsRow (World.drew ((w1.alloc (.cells #[ii n0, ii n1, ii n2, sC (some ⟨(w1.heap.size + 1), 0, none⟩) 0 0] 122)).alloc (.cells #[] 192))) w1.heap.size 192 3 (sC (some ⟨(w1.heap.size + 1), 0, none⟩) 0 0) 0 [] := by have := owns_new03 (w1.alloc (.cells #[ii n0, ii n1, ii n2, sC (some ⟨(w1.heap.size + 1), 0, none⟩) 0 0] 122)) (B := w1.heap.size) (by simp); simp only [World.size_alloc] at this; exact this
      have hx3 : Nx w1 (World.drew ((w1.alloc (.cells #[ii n0, ii n1, ii n2, sC (some ⟨(w1.heap.size + 1), 0, none⟩) 0 0] 122)).alloc (.cells #[] 192))) := (((Nx.refl w1).drew.alloc (.cells #[ii n0, ii n1, ii n2, sC (some ⟨(w1.heap.size + 1), 0, none⟩) 0 0] 122)).alloc (.cells #[] 192))
      have hgG : w1.heap.size <= w1.heap.size := oM
      change Exit.then _ _ _ _ (World.drew ((w1.alloc (.cells #[ii n0, ii n1, ii n2, sC (some ⟨(w1.heap.size + 1), 0, none⟩) 0 0] 122)).alloc (.cells #[] 192)))
      generalize (World.drew ((w1.alloc (.cells #[ii n0, ii n1, ii n2, sC (some ⟨(w1.heap.size + 1), 0, none⟩) 0 0] 122)).alloc (.cells #[] 192))) = w3 at *
      go_wp2
      go_loopw [9] (fun i wr => SegLoop w1 w1.heap.size n0 n1 n2 ns i wr) (fun i _ => ns.length - (intOf i).toNat)
      case atStart => exact ⟨0, 3, _, hl3, qh rfl, rfl, bg0, hw0, hx3⟩
      case round =>
       obtain ⟨k, p, v, hp, HPp, rfl, bg, hw, hnx⟩ := hrel
       clear bg0 hx3 hw0
       by_cases hlt : p < ns.length
       . have hp3 : p + 3 <= ns.length := by have := HPp.out; have := HNN.out; omega
         have hn9 : ns.length <= 65536 := HNL.out
         obtain ⟨q0, Hq0⟩ := nM (ns.getD p 0)
         obtain ⟨q1, Hq1⟩ := nM (ns.getD (p + 1) 0)
         obtain ⟨q2, Hq2⟩ := nM (ns.getD (p + 2) 0)
         have m0 : w1.cell? ⟨b, off + p, none⟩ = some (ii q0) := by have := HCL.out p oM; unfold intAt at this; rw [Hq0.out] at this; exact this
         have m1 : w1.cell? ⟨b, off + (p + 1), none⟩ = some (ii q1) := by have := HCL.out (p + 1) oM; unfold intAt at this; rw [Hq1.out] at this; exact this
         have m2 : w1.cell? ⟨b, off + (p + 2), none⟩ = some (ii q2) := by have := HCL.out (p + 2) oM; unfold intAt at this; rw [Hq2.out] at this; exact this
         have HQ := qh (show chV (chN3 ns k) = [ii q0, ii q1, ii q2] by
          unfold chV chN3; rw [<- HPp.out, Hq0.out, Hq1.out, Hq2.out])
         have HO : Hid (∀ u ∈ [Value.int .i64 (q0 : Int), ii q1, ii q2], u.oneCell' = true) := qh (fun u hu => by simp only [List.mem_cons, List.not_mem_nil, or_false] at hu; rcases hu with rfl | rfl | rfl <;> rfl)
         have hbw := hb
         have hk9 : k <= 100000 := by have := HPp.out; omega
         obtain ⟨_, _, _, c3⟩ := bg.d4
         have hw1a : (p : Int) + 1 < (ns.length : Int) := oM
         have hw1b : (p : Int) + 2 < (ns.length : Int) := oM
         have hw1c : (p : Int) < (ns.length : Int) := oM
         have hw2a : ((p : Int) + 1).toNat = p + 1 := oM
         have hw2b : ((p : Int) + 2).toNat = p + 2 := oM
         have hw3a : (0 : Int) <= (p : Int) + 1 := oM
         have hw3b : (0 : Int) <= (p : Int) + 2 := oM
         have hw4a : IntKind.i64.wrap ((p : Int) + 1) = (p : Int) + 1 := IntWalk.i64_in _ oM
         have hw4b : IntKind.i64.wrap ((p : Int) + 2) = (p : Int) + 2 := IntWalk.i64_in _ oM
         go_wp2_with fail
         refine wp_planA (.t 0 (.t 2 (.t 3 (.t 4 (.t 5 (.t 6 (.t 7 (.t 8 (.t 9 (.t 10 (.t 11 (.t 12 (.t 13 (.t 14 (.t 15 (.t 16 (.b 1 (.c 17 (.c 18 (.t 19 (.c 20 .e)))) 17 (.c 1 (.c 18 (.t 19 (.c 20 .e))))))))))))))))))))) (fun w' => CC w' b (off + p) (ii q0) /\ CC w' b (off + (p + 1)) (ii q1) /\ CC w' b (off + (p + 2)) (ii q2)) (by exact ⟨(hnx.drew.cell (p := ⟨b, off + p, none⟩) hbw).trans m0, (hnx.drew.cell (p := ⟨b, off + (p + 1), none⟩) hbw).trans m1, (hnx.drew.cell (p := ⟨b, off + (p + 2), none⟩) hbw).trans m2⟩) ?_
         simp only [psOf, List.getD_cons_zero, List.getD_cons_succ]
         refine hPr ?_
         refine HP.both ?_ ?_
         . have hx1 := hnx.drew.alloc (.cells #[ii q0, ii q1, ii q2] 192)
           have hw1 := (owns_nx3 hw (Nx.refl wr).drew).alloc (.cells #[ii q0, ii q1, ii q2] 192)
           have bz := (bg.nx (Nx.refl wr).drew).alloc (.cells #[ii q0, ii q1, ii q2] 192)
           have HNW := qh (news3 wr.drew 192 (ii q0) (ii q1) (ii q2))
           have hlt := bg.lt
           refine cSt fun K hK => ?_
           go_simp
           refine hK.out _ _ (by exact ⟨(hnx.drew.cell (p := ⟨b, off + p, none⟩) hbw).trans m0, (hnx.drew.cell (p := ⟨b, off + (p + 1), none⟩) hbw).trans m1, (hnx.drew.cell (p := ⟨b, off + (p + 2), none⟩) hbw).trans m2⟩) ?_
           clear hK K
           refine nZ ?_
           refine hPc fun K hK => ?_
           go_simp
           refine hK.out _ _ (by exact ⟨(hx1.cell (p := ⟨b, off + p, none⟩) hbw).trans m0, (hx1.cell (p := ⟨b, off + (p + 1), none⟩) hbw).trans m1, (hx1.cell (p := ⟨b, off + (p + 2), none⟩) hbw).trans m2⟩) ?_
           clear hK K
           refine nZ ?_
           change HP _ _ _ _ _ _ (wr.drew.alloc (.cells #[ii q0, ii q1, ii q2] 192))
           generalize wr.drew.alloc (.cells #[ii q0, ii q1, ii q2] 192) = wz at *
           refine hPc fun K hK => ?_
           refine wp_append_own wz _ _ 120 rfl w1.heap.size 192 i0 _ 3 24 underlying120 hi0 hz0 hz1 hz2 rfl oM v k _ rfl hw1 ⟨wr.heap.size, 0, none⟩ 1 1 [ii q0, ii q1, ii q2] rfl rfl HNW.out HO.out (by unfold maxLen; omega) oM hx1.size ?_
           intro v2 w2 hw2 hg2 _
           obtain ⟨g2, cp2, rfl, _, _⟩ := hw2.form oM
           have hx2 : Nx w1 w2 := Below.grown hx1 hg2 hx1.size (fun k hk => (hw1.lt k hk).1)
           have bg2 : Box w2 w1.heap.size 122 #[ii n0, ii n1, ii n2, v] := bz.grown hg2 (owns_ne hw1 bz)
           refine hK.out _ _ (by exact ⟨(hx2.cell (p := ⟨b, off + p, none⟩) hbw).trans m0, (hx2.cell (p := ⟨b, off + (p + 1), none⟩) hbw).trans m1, (hx2.cell (p := ⟨b, off + (p + 2), none⟩) hbw).trans m2⟩) ?_
           clear hK K
           refine nZ ?_
           refine hPr ?_
           obtain ⟨_, _, _, d3⟩ := bg2.d4
           have f3 := bg2.frozen 3
           refine hPc fun K hK => ?_
           go_simp
           have hx3 := hx2.setCell (p := ⟨w1.heap.size, 3, none⟩) hgG (sC (some ⟨g2, 0, none⟩) (k + 1) cp2)
           refine hK.out _ _ (by exact ⟨(hx3.cell (p := ⟨b, off + p, none⟩) hbw).trans m0, (hx3.cell (p := ⟨b, off + (p + 1), none⟩) hbw).trans m1, (hx3.cell (p := ⟨b, off + (p + 2), none⟩) hbw).trans m2⟩) ?_
           clear hK K
           refine nZ ?_
           refine HP.done ?_
           clear hw1a hw1b hw1c hw2a hw2b hw3a hw3b hw4a hw4b
           have bg3 := bg2.set 3 (sC (some ⟨g2, 0, none⟩) (k + 1) cp2)
           have hw3 := owns_far (u := (sC (some ⟨g2, 0, none⟩) (k + 1) cp2)) (i := 3) hw2 bg2
           clear d3 f3 c3
           go_wp2
           go_roundw
           case rel =>
            refine ⟨k + 1, p + 3, _, oM, qh (by have := HPp.out; omega), by go_num, bg3, ?_, hx3⟩
            rw [chsV_succ, HQ.out]; exact hw3
           case measure => simp [intOf]; omega
         . have hx1 := hnx.drew.alloc (.cells #[ii q0, ii q1, ii q2] 192)
           have hw1 := (owns_nx3 hw (Nx.refl wr).drew).alloc (.cells #[ii q0, ii q1, ii q2] 192)
           have bz := (bg.nx (Nx.refl wr).drew).alloc (.cells #[ii q0, ii q1, ii q2] 192)
           have HNW := qh (news3 wr.drew 192 (ii q0) (ii q1) (ii q2))
           have hlt := bg.lt
           refine cSt fun K hK => ?_
           go_simp
           refine hK.out _ _ (by exact ⟨(hx1.cell (p := ⟨b, off + p, none⟩) hbw).trans m0, (hx1.cell (p := ⟨b, off + (p + 1), none⟩) hbw).trans m1, (hx1.cell (p := ⟨b, off + (p + 2), none⟩) hbw).trans m2⟩) ?_
           clear hK K
           refine nZ ?_
           refine hPc fun K hK => ?_
           go_simp
           refine hK.out _ _ (by exact ⟨(hx1.cell (p := ⟨b, off + p, none⟩) hbw).trans m0, (hx1.cell (p := ⟨b, off + (p + 1), none⟩) hbw).trans m1, (hx1.cell (p := ⟨b, off + (p + 2), none⟩) hbw).trans m2⟩) ?_
           clear hK K
           refine nZ ?_
           change HP _ _ _ _ _ _ (wr.drew.alloc (.cells #[ii q0, ii q1, ii q2] 192))
           generalize wr.drew.alloc (.cells #[ii q0, ii q1, ii q2] 192) = wz at *
           refine hPc fun K hK => ?_
           refine wp_append_own wz _ _ 120 rfl w1.heap.size 192 i0 _ 3 24 underlying120 hi0 hz0 hz1 hz2 rfl oM v k _ rfl hw1 ⟨wr.heap.size, 0, none⟩ 1 1 [ii q0, ii q1, ii q2] rfl rfl HNW.out HO.out (by unfold maxLen; omega) oM hx1.size ?_
           intro v2 w2 hw2 hg2 _
           obtain ⟨g2, cp2, rfl, _, _⟩ := hw2.form oM
           have hx2 : Nx w1 w2 := Below.grown hx1 hg2 hx1.size (fun k hk => (hw1.lt k hk).1)
           have bg2 : Box w2 w1.heap.size 122 #[ii n0, ii n1, ii n2, v] := bz.grown hg2 (owns_ne hw1 bz)
           refine hK.out _ _ (by exact ⟨(hx2.cell (p := ⟨b, off + p, none⟩) hbw).trans m0, (hx2.cell (p := ⟨b, off + (p + 1), none⟩) hbw).trans m1, (hx2.cell (p := ⟨b, off + (p + 2), none⟩) hbw).trans m2⟩) ?_
           clear hK K
           refine nZ ?_
           refine hPr ?_
           obtain ⟨_, _, _, d3⟩ := bg2.d4
           have f3 := bg2.frozen 3
           refine hPc fun K hK => ?_
           go_simp
           have hx3 := hx2.setCell (p := ⟨w1.heap.size, 3, none⟩) hgG (sC (some ⟨g2, 0, none⟩) (k + 1) cp2)
           refine hK.out _ _ (by exact ⟨(hx3.cell (p := ⟨b, off + p, none⟩) hbw).trans m0, (hx3.cell (p := ⟨b, off + (p + 1), none⟩) hbw).trans m1, (hx3.cell (p := ⟨b, off + (p + 2), none⟩) hbw).trans m2⟩) ?_
           clear hK K
           refine nZ ?_
           refine HP.done ?_
           clear hw1a hw1b hw1c hw2a hw2b hw3a hw3b hw4a hw4b
           have bg3 := bg2.set 3 (sC (some ⟨g2, 0, none⟩) (k + 1) cp2)
           have hw3 := owns_far (u := (sC (some ⟨g2, 0, none⟩) (k + 1) cp2)) (i := 3) hw2 bg2
           clear d3 f3 c3
           go_wp2
           go_roundw
           case rel =>
            refine ⟨k + 1, p + 3, _, oM, qh (by have := HPp.out; omega), by go_num, bg3, ?_, hx3⟩
            rw [chsV_succ, HQ.out]; exact hw3
           case measure => simp [intOf]; omega
       . obtain rfl : p = ns.length := oM
         have hkN : k = ns.length / 3 - 1 := by have := HPp.out; omega
         have hlen := chOf_len ns k
         have hw' : wr.ownsRow w1.heap.size 192 3 v (chOf ns k).length (chsV (chOf ns k)) := by rw [hlen]; exact hw
         obtain ⟨A2, cp9, rfl, hSl⟩ := owns_slC hw'
         have HQ4 := qh (show sgOf ns = (n0, n1, n2, chOf ns k) by unfold sgOf; rw [Hn0.out, Hn1.out, Hn2.out, <- hkN])
         have hcl9 : (chOf ns k).length <= 1048576 := by rw [hlen]; have := HNL.out; omega
         have bw := b1.nx hnx
         have hxr := hxw.trans hnx
         have hgl : w.heap.size < w1.heap.size := b1.lt
         clear hw hw' hlen hkN
         obtain ⟨x0, x1, x2, x3⟩ := bg.d4
         go_wp2_with fail
         refine (specSegOK_c n0 n1 n2 A2 cp9 _ (chOf ns k) _ hSl.row nle hcl9).mono ?_
         rintro e w5 ⟨rfl, hnx5⟩
         have b5 := bw.nx hnx5
         have bg5 := bg.nx hnx5
         have hx5 := hxr.trans hnx5
         have hS5 := hSl.nx hnx5
         clear x0 x1 x2 x3
         obtain ⟨x0, x1, x2, x3⟩ := bg5.d4
         cases hf : segB n0 n1 n2 (chOf ns k) with
         | false =>
           have HF := qh (rdG_no HN.out (by unfold g4B; rw [HQ4.out]; exact hf))
           clear hf
           obtain ⟨c0, c1, c2, c3⟩ := b5.d4
           have f0 := b5.frozen 0
           have f1 := b5.frozen 1
           have f2 := b5.frozen 2
           have f3 := b5.frozen 3
           go_wp2
           have q := (put4_box b5 (ii 0) (ii 0) (ii 0) (nsl))
           have hnf := (put4_nx hx5 (Nat.le_refl w.heap.size) (ii 0) (ii 0) (ii 0) (nsl))
           change bodyPost _ _ _ _ _ (put4 w5 w.heap.size (ii 0) (ii 0) (ii 0) (nsl))
           change Box (put4 w5 w.heap.size (ii 0) (ii 0) (ii 0) (nsl)) _ _ _ at q
           generalize put4 w5 w.heap.size (ii 0) (ii 0) (ii 0) (nsl) = Wf at *
           obtain ⟨g0, g1, g2, g3⟩ := q.d4
           exact bodyPost_ret (v := .tuple #[.agg #[ii 0, ii 0, ii 0, nsl], .bool false]) (by simp [results, results197, go_sem, g0, g1, g2, g3]) rfl (RetST.no HF.out hnf)
           | true =>
           have HF := qh (rdG_yes HN.out HOL.out (by unfold g4B; rw [HQ4.out]; exact hf))
           clear hf
           obtain ⟨c0, c1, c2, c3⟩ := b5.d4
           have f0 := b5.frozen 0
           have f1 := b5.frozen 1
           have f2 := b5.frozen 2
           have f3 := b5.frozen 3
           go_wp2
           have q := (put4_box b5 (ii n0) (ii n1) (ii n2) (sC A2 (chOf ns k).length cp9))
           have hnf := (put4_nx hx5 (Nat.le_refl w.heap.size) (ii n0) (ii n1) (ii n2) (sC A2 (chOf ns k).length cp9))
           have hsf := (hS5.put4 hgl (ii n0) (ii n1) (ii n2) (sC A2 (chOf ns k).length cp9))
           change Sl (put4 w5 w.heap.size (ii n0) (ii n1) (ii n2) (sC A2 (chOf ns k).length cp9)) _ _ _ _ _ at hsf
           change bodyPost _ _ _ _ _ (put4 w5 w.heap.size (ii n0) (ii n1) (ii n2) (sC A2 (chOf ns k).length cp9))
           change Box (put4 w5 w.heap.size (ii n0) (ii n1) (ii n2) (sC A2 (chOf ns k).length cp9)) _ _ _ at q
           generalize put4 w5 w.heap.size (ii n0) (ii n1) (ii n2) (sC A2 (chOf ns k).length cp9) = Wf at *
           obtain ⟨g0, g1, g2, g3⟩ := q.d4
           exact bodyPost_ret (v := .tuple #[.agg #[ii n0, ii n1, ii n2, sC A2 (chOf ns k).length cp9], .bool true]) (by simp [results, results197, go_sem, g0, g1, g2, g3]) rfl (RetST.yes HF.out HQ4.out (hsf.low oM) hnf)
theorem merge4L {G : Nat -> Option Addr -> Nat -> World -> Prop} {F : Nat -> Option Addr -> Nat -> World -> Prop} {R : Prop} (main : (∀ g A c W, F g A c W -> G g A c W) -> R) (key : ∀ g A c W, F g A c W -> G g A c W) : R := main key
theorem merge2L {G : Nat -> World -> Prop} {F : Nat -> World -> Prop} {R : Prop} (main : (∀ g W, F g W -> G g W) -> R) (key : ∀ g W, F g W -> G g W) : R := main key
theorem slput4q {u : World} {lo g m : Nat} {A : Option Addr} {t t' : TypeId} {f : Nat -> Value} {a b c d : Value} (h : Sl u lo A t m f) (hb : Box u g t' #[a, b, c, d]) (ht : t' ≠ t) (v0 v1 v2 v3 : Value) : Sl (put4 u g v0 v1 v2 v3) lo A t m f :=
 (((h.far_ty (p := ⟨g, 0, none⟩) hb ht v0).far_ty (p := ⟨g, 1, none⟩) (hb.set 0 v0) ht v1).far_ty (p := ⟨g, 2, none⟩) ((hb.set 0 v0).set 1 v1) ht v2).far_ty (p := ⟨g, 3, none⟩) (((hb.set 0 v0).set 1 v1).set 2 v2) ht v3
theorem RowS.farB {w : World} {B g i : Nat} {v : Value} {gs : List SgR} {t : TypeId} {cs : Array Value} (h : RowS w B v gs) (hb : Box w g t cs) (ht : t ≠ 122) (x : Value) : RowS (w.setCell ⟨g, i, none⟩ x) B v gs :=
 World.ownsRow.kept (row := some g) h ⟨rfl, rfl, rfl, by simp [World.setCell], fun k hk hn => Below.heap_setCell _ _ _ _ (fun e => hn (by rw [e]))⟩ (.inr (fun e => h.ne hb.own ht e.symm))
theorem RowI.farB {w : World} {B g i : Nat} {v : Value} {xs : List Int} {t : TypeId} {cs : Array Value} (h : RowI w B v xs) (hb : Box w g t cs) (ht : t ≠ 3) (x : Value) : RowI (w.setCell ⟨g, i, none⟩ x) B v xs :=
 World.ownsRow.kept (row := some g) h ⟨rfl, rfl, rfl, by simp [World.setCell], fun k hk hn => Below.heap_setCell _ _ _ _ (fun e => hn (by rw [e]))⟩ (.inr (fun e => h.ne hb ht e.symm))
theorem ChO.farB {w : World} {B g i : Nat} {gs : List SgR} {t : TypeId} {cs : Array Value} (h : ChO w B gs) (hb : Box w g t cs) (ht : t ≠ 192) (x : Value) : ChO (w.setCell ⟨g, i, none⟩ x) B gs := fun k hk => (h k hk).far_ty (p := ⟨g, i, none⟩) hb ht x
theorem SgO.farB {w : World} {lo g i : Nat} {A : Option Addr} {gs : List SgR} {t : TypeId} {cs : Array Value} (h : SgO w lo A gs) (hb : Box w g t cs) (ht : t ≠ 122) (ht2 : t ≠ 192) (x : Value) : SgO (w.setCell ⟨g, i, none⟩ x) lo A gs :=
 ⟨h.row.far_ty (p := ⟨g, i, none⟩) hb ht x, fun k hk => (h.chs k hk).far_ty (p := ⟨g, i, none⟩) hb ht2 x⟩
theorem wp_addI {w : World} {o : Oper} {a : Act} {K : Act -> World -> Prop} {Q : Exit -> Act -> World -> Prop}
 (s x : Operand) (ho : o.op = .call { callee := .builtin .append, args := #[s, x], argTypes := #[23, 23] })
 (B gd : Nat) (v : Value) (xs : List Int) (x0 : Int) (hs : a.eval s = v) (hx : a.eval x = sC (some ⟨gd, 0, none⟩) 1 1) (hown : RowI w B v xs) (hbx : Box w gd 3 #[ii x0])
 (hl : xs.length <= 1048576) (hB : B <= w.heap.size)
 (hK : ∀ A' k' w', RowI w' B (sC A' (xs.length + 1) k') (xs ++ [x0]) -> GrewT 3 B w w' -> K (a.put o.dst (sC A' (xs.length + 1) k')) w') :
 o.wp Tryz.prog a w K Q := by
 obtain ⟨i0, hi0, hz0, hz1, hz2⟩ := info_parts info_int
 refine wp_append_own w s x 23 ho B 3 i0 _ 1 8 underlying23 hi0 hz0 hz1 hz2 rfl oM v xs.length _ hs hown ⟨gd, 0, none⟩ 1 1 [ii x0] hx rfl (fun j u hj => ?_) (fun u hu => by simp only [List.mem_cons, List.not_mem_nil, or_false] at hu; rcases hu with rfl; rfl) (by unfold maxLen; omega) oM hB ?_
 . rw [addr_add', Nat.zero_add, hbx.cell j]
   rw [<- hj]
   rcases j with _ | j <;> simp
 . intro v' w' hw' hg' _
   have hr : RowI w' B v' (xs ++ [x0]) := by
    unfold RowI iV
    rw [List.map_append, List.length_append]
    exact hw'
   obtain ⟨A', k', rfl, _⟩ := hr.sl
   rw [List.length_append] at hr ⊢
   have hrow : ∀ k, Value.ownBlock v = some k -> B <= k := fun k hk => (World.ownsRow.lt hown k hk).1
   refine hK A' k' w' hr ⟨fun b hb hbB => Below.grown hb hg' hb.size (fun k hk => ntr hbB (hrow k hk)), fun lo hi b hb hbB => ?_, fun g t xs' ht hbg => hbg.grown hg' (hown.ne hbg ht), hg'.size⟩
   refine ⟨hg'.os.trans hb.os, hg'.tape.trans hb.tape, hg'.output.trans hb.output, ntr hb.size hg'.size, fun k hk hr => (hg'.block k (Nat.lt_of_lt_of_le hk hb.size) fun e => ?_).trans (hb.block k hk hr)⟩
   have := hrow k e.symm
   omega
theorem l05Load_c (A A2 : Option Addr) (n c n2 c2 B : Nat) (ss : List BA) (ws : List (Int × BA)) (w : World) (h : Strs w B A n ss) (h2 : Wrs w B A2 n2 ws) (hB : B <= w.heap.size) (hn : n <= 1048576) (hn2 : n2 <= 1048576) (hD : diskB ss ws = true) :
 Calls Tryz.prog 137 #[.agg #[sC A n c, sC A2 n2 c2]] w (RetLd w (ldV ss ws)) := by
 have r0 : Box ((w.alloc (.cells #[sC A n c, sC A2 n2 c2] 35)).alloc (.cells #[ii 0, ii 0, ii 0, ii 0, nsl, nsl, nsl, nsl] 49)) (w.heap.size + 1) 49 #[ii 0, ii 0, ii 0, ii 0, nsl, nsl, nsl, nsl] := by have := Box.new (w.alloc (.cells #[sC A n c, sC A2 n2 c2] 35)) 49 #[ii 0, ii 0, ii 0, ii 0, nsl, nsl, nsl, nsl]; rwa [World.size_alloc] at this
 have e0 : Box ((w.alloc (.cells #[sC A n c, sC A2 n2 c2] 35)).alloc (.cells #[ii 0, ii 0, ii 0, ii 0, nsl, nsl, nsl, nsl] 49)) w.heap.size 35 #[sC A n c, sC A2 n2 c2] := (Box.new w _ _).alloc _
 have hx0 := ((Nx.refl w).alloc (.cells #[sC A n c, sC A2 n2 c2] 35)).alloc (.cells #[ii 0, ii 0, ii 0, ii 0, nsl, nsl, nsl, nsl] 49)
 go_enter func137, ntmps137
 go_wp2_with fail
 generalize (w.alloc (.cells #[sC A n c, sC A2 n2 c2] 35)).alloc (.cells #[ii 0, ii 0, ii 0, ii 0, nsl, nsl, nsl, nsl] 49) = W at *
 obtain ⟨gR, Hg⟩ := nM (w.heap.size + 1)
 have hgR : w.heap.size <= gR := by have := Hg.out; omega
 have hgR1 : w.heap.size < gR := by have := Hg.out; omega
 rw [Hg.out] at r0 ⊢
 have hltR0 := r0.lt
 have h1n : 64 <= n := by have := (diskB_len64 hD).1; have := h.1; omega
 have HD := qh hD
 have HDs := qh (fun a => readP_size hD a)
 clear hD
 have z0 := e0.c0
 have z1 := e0.c1
 go_wp2_with fail
 refine (l04Newest_c A A2 n c n2 c2 B ss ws _ (h.below hx0 hB) (h2.below hx0 hB) (ntr hB hx0.size) oM hn hn2 (by have := HDs.out 0; omega) (by have := HDs.out 1; omega)).mono ?_
 rintro e w2 ⟨hnx2, h1, h2'⟩
 have r2 := r0.nx hnx2
 have e2 := e0.nx hnx2
 have hw2 := hx0.trans hnx2
 have hltR : gR < W.heap.size := hltR0
 have hlt2 := r2.lt
 clear r0 e0 z0 z1 hltR0
 cases hu : newU (rdU (readP ss ws 0)) (rdU (readP ss ws 1)) with
 | none =>
   have HA := qh (ldV_none hu)
   obtain rfl := h1 hu
   clear h1 h2' hu
   have r3 := r2.alloc (.cells #[ii 0, ii 0, ii 0, ii 0, nsl, nsl] 26)
   have hx3 := hw2.alloc (.cells #[ii 0, ii 0, ii 0, ii 0, nsl, nsl] 26)
   have rq := r3.row #[ii 0, ii 0, ii 0, ii 0, nsl, nsl, nsl, nsl]
   have hnf := hx3.setRow hgR #[ii 0, ii 0, ii 0, ii 0, nsl, nsl, nsl, nsl]
   go_wp2_with (refine wpList_store_row rfl _ _ _ rfl gR #[ii 0, ii 0, ii 0, ii 0, nsl, nsl, nsl, nsl] rfl rfl 49 #[ii 0, ii 0, ii 0, ii 0, nsl, nsl, nsl, nsl] r3 (by kernel_rfl) rfl (by simp [Value.oneCell']) ?_)
   generalize (w2.alloc (.cells #[ii 0, ii 0, ii 0, ii 0, nsl, nsl] 26)).setRow gR #[ii 0, ii 0, ii 0, ii 0, nsl, nsl, nsl, nsl] = Wf at *
   obtain ⟨g0, g1, g2, g3, g4, g5, g6, g7⟩ := rq.e8
   exact bodyPost_ret (v := .tuple #[.agg #[ii 0, ii 0, ii 0, ii 0, nsl, nsl, nsl, nsl], ii 19]) (by simp [results, results137, go_sem, g0, g1, g2, g3, g4, g5, g6, g7]) rfl ⟨zVl, w.heap.size, by rw [HA.out]; rfl, by rw [HA.out]; exact VlS.refl _, VlP.zero _ hnf.size, hnf⟩
 | some us =>
   obtain ⟨⟨g, b, p, q, xs, ms⟩, sl⟩ := us
   obtain ⟨Ax, cx, Am, cm, he, hcc, hS1, hM1⟩ := h2' _ _ hu
   replace he : e = .returned (.tuple #[.agg #[ii g, ii b, ii p, ii q, sC Ax xs.length cx, sC Am ms.length cm], ii sl]) := he
   replace hS1 : SlI w2 W.heap.size Ax xs := hS1
   replace hM1 : SlM w2 W.heap.size Am ms := hM1
   replace hcc : xs.length <= cx := hcc
   have HCC := qh hcc
   have HU := qh hu
   have hsup := newU_super hu
   have HSup := qh hsup
   have htb := (superB_yes hsup).2.2.2.2.1
   have hsl := newU_slot hu
   have hd0 : decide (sl < 0) = false := decide_eq_false (by rcases hsl with rfl | rfl <;> omega)
   subst he
   clear h1 h2' hu hcc hsup hsl
   have Hta := qh (fun k (hk : k < xs.length) => tb_at htb hk)
   have hm20 := (tbB_yes htb).1
   have HSn := qh (fun k gs q (h1 : GsTo ss ws xs k gs) (h2 : k < xs.length) (h3 : ldG ss ws (xs.getD k 0) = some q) (A c) => h1.snoc h2 h3 A c)
   have HSg := qh (fun k (hk : k < xs.length) (hno : ldG ss ws (xs.getD k 0) = none) => ldV_seg HU.out hk hno)
   have HIg := qh (fun k (hk : k < 8) (hno : ldI ss ws k = none) => ldV_img HU.out hk hno)
   have HTab := qh hS1
   have HMks := qh hM1
   have hT3 := hS1.row
   obtain ⟨m, Hm⟩ := nM (xs.length)
   have h3' : ∀ k, k < m -> _ := fun k hk => (Ins.at_ (w := w2) (B := w2.heap.size) (A := Ax) (xs := xs) hT3 (k := k) (by rw [Hm.out]; exact hk))
   rw [Hm.out] at Hta hm20 HSn HSg
   clear htb hS1 hM1 hT3
   have s4 : Box ((((w2.alloc (.cells #[ii g, ii b, ii p, ii q, sC Ax xs.length cx, sC Am ms.length cm] 26)).alloc (.cells #[] 122)).alloc (.cells #[] 3)).alloc (.cells #[ii g, ii b, ii p, ii q, sC Ax xs.length cx, sC Am ms.length cm, sC (some ⟨w2.heap.size + 1, 0, none⟩) 0 0, sC (some ⟨w2.heap.size + 1 + 1, 0, none⟩) 0 0] 49)) w2.heap.size 26 #[ii g, ii b, ii p, ii q, sC Ax xs.length cx, sC Am ms.length cm] := (((Box.new w2 26 #[ii g, ii b, ii p, ii q, sC Ax xs.length cx, sC Am ms.length cm]).alloc _).alloc _).alloc _
   have v4 : Box ((((w2.alloc (.cells #[ii g, ii b, ii p, ii q, sC Ax xs.length cx, sC Am ms.length cm] 26)).alloc (.cells #[] 122)).alloc (.cells #[] 3)).alloc (.cells #[ii g, ii b, ii p, ii q, sC Ax xs.length cx, sC Am ms.length cm, sC (some ⟨w2.heap.size + 1, 0, none⟩) 0 0, sC (some ⟨w2.heap.size + 1 + 1, 0, none⟩) 0 0] 49)) (w2.heap.size + 1 + 1 + 1) 49 #[ii g, ii b, ii p, ii q, sC Ax xs.length cx, sC Am ms.length cm, sC (some ⟨w2.heap.size + 1, 0, none⟩) 0 0, sC (some ⟨w2.heap.size + 1 + 1, 0, none⟩) 0 0] := by have := Box.new (((w2.alloc (.cells #[ii g, ii b, ii p, ii q, sC Ax xs.length cx, sC Am ms.length cm] 26)).alloc (.cells #[] 122)).alloc (.cells #[] 3)) 49 #[ii g, ii b, ii p, ii q, sC Ax xs.length cx, sC Am ms.length cm, sC (some ⟨w2.heap.size + 1, 0, none⟩) 0 0, sC (some ⟨w2.heap.size + 1 + 1, 0, none⟩) 0 0]; rwa [World.size_alloc, World.size_alloc, World.size_alloc] at this
   have hrow4 : RowS ((((w2.alloc (.cells #[ii g, ii b, ii p, ii q, sC Ax xs.length cx, sC Am ms.length cm] 26)).alloc (.cells #[] 122)).alloc (.cells #[] 3)).alloc (.cells #[ii g, ii b, ii p, ii q, sC Ax xs.length cx, sC Am ms.length cm, sC (some ⟨w2.heap.size + 1, 0, none⟩) 0 0, sC (some ⟨w2.heap.size + 1 + 1, 0, none⟩) 0 0] 49)) w2.heap.size (sC (some ⟨w2.heap.size + 1, 0, none⟩) 0 0) [] := by
    have := ((RowS.new (w2.alloc (.cells #[ii g, ii b, ii p, ii q, sC Ax xs.length cx, sC Am ms.length cm] 26)) (B := w2.heap.size) (by simp)).nx ((Nx.refl _).alloc (.cells #[] 3))).nx ((Nx.refl _).alloc (.cells #[ii g, ii b, ii p, ii q, sC Ax xs.length cx, sC Am ms.length cm, sC (some ⟨w2.heap.size + 1, 0, none⟩) 0 0, sC (some ⟨w2.heap.size + 1 + 1, 0, none⟩) 0 0] 49))
    rwa [World.size_alloc] at this
   have hint4 : Box ((((w2.alloc (.cells #[ii g, ii b, ii p, ii q, sC Ax xs.length cx, sC Am ms.length cm] 26)).alloc (.cells #[] 122)).alloc (.cells #[] 3)).alloc (.cells #[ii g, ii b, ii p, ii q, sC Ax xs.length cx, sC Am ms.length cm, sC (some ⟨w2.heap.size + 1, 0, none⟩) 0 0, sC (some ⟨w2.heap.size + 1 + 1, 0, none⟩) 0 0] 49)) (w2.heap.size + 1 + 1) 3 #[] := by
    have := (Box.new ((w2.alloc (.cells #[ii g, ii b, ii p, ii q, sC Ax xs.length cx, sC Am ms.length cm] 26)).alloc (.cells #[] 122)) 3 #[]).alloc (.cells #[ii g, ii b, ii p, ii q, sC Ax xs.length cx, sC Am ms.length cm, sC (some ⟨w2.heap.size + 1, 0, none⟩) 0 0, sC (some ⟨w2.heap.size + 1 + 1, 0, none⟩) 0 0] 49)
    rwa [World.size_alloc, World.size_alloc] at this
   have hN4 : Nx w2 ((((w2.alloc (.cells #[ii g, ii b, ii p, ii q, sC Ax xs.length cx, sC Am ms.length cm] 26)).alloc (.cells #[] 122)).alloc (.cells #[] 3)).alloc (.cells #[ii g, ii b, ii p, ii q, sC Ax xs.length cx, sC Am ms.length cm, sC (some ⟨w2.heap.size + 1, 0, none⟩) 0 0, sC (some ⟨w2.heap.size + 1 + 1, 0, none⟩) 0 0] 49)) := ((((Nx.refl w2).alloc _).alloc _).alloc _).alloc _
   have y6 := s4.d6
   have z0 := (e2.nx hN4).c0
   have z1 := (e2.nx hN4).c1
   rw [Hm.out] at s4 v4 hrow4 hint4 hN4 y6 z0 z1 ⊢
   obtain ⟨y0, y1, y2, y3, y4, y5⟩ := y6
   go_wp2_with fail
   clear y0 y1 y2 y3 y4 y5 z0 z1
   generalize ((((w2.alloc (.cells #[ii g, ii b, ii p, ii q, sC Ax m cx, sC Am ms.length cm] 26)).alloc (.cells #[] 122)).alloc (.cells #[] 3)).alloc (.cells #[ii g, ii b, ii p, ii q, sC Ax m cx, sC Am ms.length cm, sC (some ⟨w2.heap.size + 1, 0, none⟩) 0 0, sC (some ⟨w2.heap.size + 1 + 1, 0, none⟩) 0 0] 49)) = W4 at *
   obtain ⟨gS, HgS⟩ := nM (w2.heap.size)
   obtain ⟨gA, HgA⟩ := nM (w2.heap.size + 1)
   obtain ⟨gI, HgI⟩ := nM (w2.heap.size + 1 + 1)
   obtain ⟨gV, HgV⟩ := nM (w2.heap.size + 1 + 1 + 1)
   have hgV2 : w2.heap.size <= gV := by have := HgV.out; omega
   have hgSV : gS ≠ gV := by have := HgV.out; have := HgS.out; omega
   rw [HgV.out, HgI.out, HgA.out] at v4
   rw [HgA.out] at hrow4
   rw [HgI.out] at hint4
   replace s4 : Box W4 gS 26 #[ii g, ii b, ii p, ii q, sC Ax m cx, sC Am ms.length cm] := by rw [<- HgS.out]; exact s4
   rw [HgV.out, HgS.out]
   go_loopw [7] (fun i wr => ∃ (k : Nat) (gs : List SgR) (u : Value), k <= m /\ i = ii k /\ RowS wr w2.heap.size u gs /\ ChO wr w2.heap.size gs /\ Dj gs /\ GsTo ss ws xs k gs /\ Nx w2 wr /\ Box wr gS 26 #[ii g, ii b, ii p, ii q, sC Ax m cx, sC Am ms.length cm] /\ Box wr gV 49 #[ii g, ii b, ii p, ii q, sC Ax m cx, sC Am ms.length cm, u, sC (some ⟨gI, 0, none⟩) 0 0] /\ Box wr gI 3 #[]) (fun i _ => m - (intOf i).toNat)
   case atStart => exact ⟨0, [], _, oM, rfl, hrow4, ChO.nil _ _, Dj.nil, GsTo.nil _ _ _, hN4, s4, v4, hint4⟩
   case round =>
    obtain ⟨k, gs, u, hk, rfl, hrow, hcho, hdj, hgs, hN, bS, bV, bI⟩ := hrel
    clear s4 v4 hrow4 hint4 hN4
    have HDj := qh hdj
    have HGs := qh hgs
    have Hlen := qh hgs.len
    clear hdj hgs
    have y4 := bS.d6.2.2.2.2.1
    by_cases hlt : k < m
    case neg =>
     obtain rfl : m = k := oM
     have HGm : Hid (GsTo ss ws xs xs.length gs) := qh (by rw [Hm.out]; exact HGs.out)
     obtain ⟨Ag, cg, rfl, hcg, hSg⟩ := hrow.sgoc hcho
     have HCG := qh hcg
     have HI0 : RowI wr w2.heap.size (sC (some ⟨gI, 0, none⟩) 0 0) [] := ⟨rfl, .inr ⟨gI, 0, #[], rfl, by have := HgI.out; omega, bI, by simp, by unfold maxLen; omega, rfl, rfl⟩⟩
     obtain ⟨ng, Hng⟩ := nM (gs.length)
     have hng9 : ng <= 20 := by have := Hng.out; have := Hlen.out; omega
     rw [Hng.out] at bV
     clear hcg hrow hcho
     go_wp2_with fail
     clear y4 bI
     go_loopw [10] (fun i wr => ∃ (j : Nat) (im : List Int) (u : Value), j <= 8 /\ i = ii j /\ RowI wr w2.heap.size u im /\ ImTo ss ws j im /\ SgO wr w2.heap.size Ag gs /\ Nx w2 wr /\ Box wr gS 26 #[ii g, ii b, ii p, ii q, sC Ax m cx, sC Am ms.length cm] /\ Box wr gV 49 #[ii g, ii b, ii p, ii q, sC Ax m cx, sC Am ms.length cm, sC Ag ng cg, u]) (fun i _ => 8 - (intOf i).toNat)
     case atStart => exact ⟨0, [], _, oM, rfl, HI0, ImTo.nil _ _, hSg, hN, bS, bV⟩
     case round =>
      obtain ⟨j, im, u, hj, rfl, hri, him, hSg2, hN2, bS2, bV2⟩ := hrel
      clear HI0 hSg hN bS bV
      have HIm := qh him
      have HlenI := qh him.len
      clear him
      have eR := e2.nx hN2
      by_cases hlt : j < 8
      case neg =>
       obtain rfl : j = 8 := oM
       obtain ⟨Ai, ci, rfl, hci, hSi⟩ := hri.slc
       have HIl : Hid (im.length = 8) := qh HlenI.out
       have r5 := r2.nx hN2
       have hx5 := hw2.trans hN2
       have hP6 : VlP wr W.heap.size w2.heap.size wr.heap.size ⟨g, b, p, q, Ax, cx, xs, Am, cm, ms, Ag, cg, gs, Ai, ci, im⟩ :=
        ⟨HTab.out.sr.nx hN2, HMks.out.sr.nx hN2, hSg2.row.sr, fun k hk => (hSg2.chs k hk).sr, hSi.sr, HDj.out, HCC.out, HCG.out, hnx2.size, hN2.size⟩
       obtain ⟨x0, x1, x2, x3, x4, x5, x6, x7⟩ := bV2.e8
       obtain ⟨hNs, hAm⟩ := ld_small HD.out HSup.out HGm.out HIm.out Ax cx Am cm Ag cg Ai ci
       have HW := qh (ldW_s (g := g) (b := b) (p := p) (t := q) (ms := ms) HGm.out HIm.out Ax cx Am cm Ag cg Ai ci)
       have HOk := qh (ldOk_of (u := (g, b, p, q, xs, ms)) HGm.out HIm.out)
       have hcall := specVaultOK_c ⟨g, b, p, q, Ax, cx, xs, Am, cm, ms, Ag, cg, gs, Ai, ci, im⟩ wr.heap.size wr (hP6.own.vlt) nle hNs HCC.out hAm
       simp only [Vl.v, Vl.cells] at hcall
       rw [Hm.out, Hng.out] at hcall
       have HCl := qh hcall
       clear hcall hNs hAm hri hSg2 hSi
       go_wp2_with fail
       refine HCl.out.mono ?_
       rintro e w7 ⟨rfl, hk7⟩
       rw [<- HW.out.ok]
       have r7 := r5.nx hk7
       have hx7 := hx5.trans hk7
       have hP7 := (hP6.nx hk7).up hk7.size
       have v7 := bV2.nx hk7
       clear r5 hx5 hP6 bV2 bS2 x0 x1 x2 x3 x4 x5 x6 x7 HCl
       obtain ⟨x0, x1, x2, x3, x4, x5, x6, x7⟩ := v7.e8
       cases hv : (ldW ss ws (g, b, p, q, xs, ms)).ok with
       | false =>
         have HA := qh (ldV_wrong HU.out hv)
         clear hv x0 x1 x2 x3 x4 x5 x6 x7
         have rq := r7.row #[ii 0, ii 0, ii 0, ii 0, nsl, nsl, nsl, nsl]
         have hnf := hx7.setRow hgR #[ii 0, ii 0, ii 0, ii 0, nsl, nsl, nsl, nsl]
         go_wp2_with (refine wpList_store_row rfl _ _ _ rfl gR #[ii 0, ii 0, ii 0, ii 0, nsl, nsl, nsl, nsl] rfl rfl 49 #[ii 0, ii 0, ii 0, ii 0, nsl, nsl, nsl, nsl] r7 (by kernel_rfl) rfl (by simp [Value.oneCell']) ?_)
         generalize w7.setRow gR #[ii 0, ii 0, ii 0, ii 0, nsl, nsl, nsl, nsl] = Wf at *
         obtain ⟨g0, g1, g2, g3, g4, g5, g6, g7⟩ := rq.e8
         exact bodyPost_ret (v := .tuple #[.agg #[ii 0, ii 0, ii 0, ii 0, nsl, nsl, nsl, nsl], ii 10]) (by simp [results, results137, go_sem, g0, g1, g2, g3, g4, g5, g6, g7]) rfl ⟨zVl, w.heap.size, by rw [HA.out]; rfl, by rw [HA.out]; exact VlS.refl _, VlP.zero _ hnf.size, hnf⟩
       | true =>
         have HA := qh (ldV_yes HU.out HOk.out hv)
         clear hv
         have rq := r7.row #[ii g, ii b, ii p, ii q, sC Ax m cx, sC Am ms.length cm, sC Ag ng cg, sC Ai im.length ci]
         have hnf := hx7.setRow hgR #[ii g, ii b, ii p, ii q, sC Ax m cx, sC Am ms.length cm, sC Ag ng cg, sC Ai im.length ci]
         have hvf := hP7.rowfar hltR #[ii g, ii b, ii p, ii q, sC Ax m cx, sC Am ms.length cm, sC Ag ng cg, sC Ai im.length ci]
         have hzf := size_setRow w7 gR #[ii g, ii b, ii p, ii q, sC Ax m cx, sC Am ms.length cm, sC Ag ng cg, sC Ai im.length ci]
         go_wp2_with (refine wpList_store_row rfl _ _ _ rfl gR #[ii g, ii b, ii p, ii q, sC Ax m cx, sC Am ms.length cm, sC Ag ng cg, sC Ai im.length ci] rfl rfl 49 #[ii 0, ii 0, ii 0, ii 0, nsl, nsl, nsl, nsl] r7 (by kernel_rfl) rfl (by simp [Value.oneCell']) ?_)
         generalize w7.setRow gR #[ii g, ii b, ii p, ii q, sC Ax m cx, sC Am ms.length cm, sC Ag ng cg, sC Ai im.length ci] = Wf at *
         obtain ⟨g0, g1, g2, g3, g4, g5, g6, g7⟩ := rq.e8
         exact bodyPost_ret (v := .tuple #[.agg #[ii g, ii b, ii p, ii q, sC Ax m cx, sC Am ms.length cm, sC Ag ng cg, sC Ai im.length ci], ii 0]) (by simp [results, results137, go_sem, g0, g1, g2, g3, g4, g5, g6, g7]) rfl ⟨⟨g, b, p, q, Ax, cx, xs, Am, cm, ms, Ag, cg, gs, Ai, ci, im⟩, w2.heap.size, by rw [HA.out]; unfold Vl.v Vl.cells; simp only; rw [Hm.out, Hng.out], by rw [HA.out]; exact HW.out, (hvf.low hx0.size).up oM, hnf⟩
      have HJ : Hid (ldI ss ws j = oneN (rdN (readP ss ws (2 + j)))) := qh rfl
      have z0 := eR.c0
      have z1 := eR.c1
      go_wp2_with fail
      rw [show ((2 : Int) + (j : Int)) = ((2 + j : Nat) : Int) by omega]
      refine (l01Read_c A A2 n c n2 c2 B (2 + j) ss ws _ (h.below (hw2.trans hN2) hB) (h2.below (hw2.trans hN2) hB) (ntr hB (hw2.trans hN2).size) oM hn hn2).mono ?_
      rintro e w5 ⟨rfl, hk5⟩
      clear z0 z1
      go_wp2_with fail
      refine (l02Open_c (readP ss ws (2 + j)) _ (by have := HDs.out (2 + j); omega)).mono ?_
      rintro e w6 ⟨x, rfl, hxs, hxo, hk6⟩
      have hx9 : x.size <= 65536 := by have := HDs.out (2 + j); omega
      have HXo := qh hxo
      clear hxo hxs
      go_wp2_with fail
      refine (l02Numbers_c x _ hx9).mono ?_
      rintro e w8 ⟨An, nn, cn, rfl, hyes, hk8⟩
      have hk := (hk5.trans hk6).trans hk8
      have hri8 := hri.nx hk
      have hSg8 := hSg2.nx hk
      have hN8 := hN2.trans hk
      have bS8 := bS2.nx hk
      have bV8 := bV2.nx hk
      have r8 := r2.nx hN8
      have hx8 := hw2.trans hN8
      clear hri hSg2 hN2 bS2 bV2 eR hk hk5 hk6 hk8
      cases ho : opensB (readP ss ws (2 + j)) with
      | false =>
        have HA : Hid (ldV ss ws = (zVl, 10)) := qh (HIg.out j hlt (by rw [HJ.out, rdN_no ho]; rfl))
        clear ho hyes
        have rq := r8.row #[ii 0, ii 0, ii 0, ii 0, nsl, nsl, nsl, nsl]
        have hnf := hx8.setRow hgR #[ii 0, ii 0, ii 0, ii 0, nsl, nsl, nsl, nsl]
        go_wp2_with (refine wpList_store_row rfl _ _ _ rfl gR #[ii 0, ii 0, ii 0, ii 0, nsl, nsl, nsl, nsl] rfl rfl 49 #[ii 0, ii 0, ii 0, ii 0, nsl, nsl, nsl, nsl] r8 (by kernel_rfl) rfl (by simp [Value.oneCell']) ?_)
        generalize w8.setRow gR #[ii 0, ii 0, ii 0, ii 0, nsl, nsl, nsl, nsl] = Wf at *
        obtain ⟨g0, g1, g2, g3, g4, g5, g6, g7⟩ := rq.e8
        exact bodyPost_ret (v := .tuple #[.agg #[ii 0, ii 0, ii 0, ii 0, nsl, nsl, nsl, nsl], ii 10]) (by simp [results, results137, go_sem, g0, g1, g2, g3, g4, g5, g6, g7]) rfl ⟨zVl, w.heap.size, by rw [HA.out]; rfl, by rw [HA.out]; exact VlS.refl _, VlP.zero _ hnf.size, hnf⟩
      | true =>
        obtain rfl := HXo.out ho
        cases hr : numsO (bodyOf (readP ss ws (2 + j))).data.toList with
        | none =>
          have HA : Hid (ldV ss ws = (zVl, 10)) := qh (HIg.out j hlt (by rw [HJ.out, rdN_yes ho, hr]; rfl))
          clear ho hr hyes
          simp only [Option.isSome_none]
          have rq := r8.row #[ii 0, ii 0, ii 0, ii 0, nsl, nsl, nsl, nsl]
          have hnf := hx8.setRow hgR #[ii 0, ii 0, ii 0, ii 0, nsl, nsl, nsl, nsl]
          go_wp2_with (refine wpList_store_row rfl _ _ _ rfl gR #[ii 0, ii 0, ii 0, ii 0, nsl, nsl, nsl, nsl] rfl rfl 49 #[ii 0, ii 0, ii 0, ii 0, nsl, nsl, nsl, nsl] r8 (by kernel_rfl) rfl (by simp [Value.oneCell']) ?_)
          generalize w8.setRow gR #[ii 0, ii 0, ii 0, ii 0, nsl, nsl, nsl, nsl] = Wf at *
          obtain ⟨g0, g1, g2, g3, g4, g5, g6, g7⟩ := rq.e8
          exact bodyPost_ret (v := .tuple #[.agg #[ii 0, ii 0, ii 0, ii 0, nsl, nsl, nsl, nsl], ii 10]) (by simp [results, results137, go_sem, g0, g1, g2, g3, g4, g5, g6, g7]) rfl ⟨zVl, w.heap.size, by rw [HA.out]; rfl, by rw [HA.out]; exact VlS.refl _, VlP.zero _ hnf.size, hnf⟩
        | some ns =>
          obtain ⟨rfl, hR, hcn⟩ := hyes ns hr
          by_cases h1 : ns.length = 1
          case neg =>
           have HA : Hid (ldV ss ws = (zVl, 10)) := qh (HIg.out j hlt (by rw [HJ.out, rdN_yes ho, hr]; exact oneN_no h1))
           have hne : ((ns.length : Int) != 1) = true := by rw [bne_iff_ne]; omega
           clear ho hr hyes hR
           simp only [Option.isSome_some]
           have rq := r8.row #[ii 0, ii 0, ii 0, ii 0, nsl, nsl, nsl, nsl]
           have hnf := hx8.setRow hgR #[ii 0, ii 0, ii 0, ii 0, nsl, nsl, nsl, nsl]
           go_wp2_with (refine wpList_store_row rfl _ _ _ rfl gR #[ii 0, ii 0, ii 0, ii 0, nsl, nsl, nsl, nsl] rfl rfl 49 #[ii 0, ii 0, ii 0, ii 0, nsl, nsl, nsl, nsl] r8 (by kernel_rfl) rfl (by simp [Value.oneCell']) ?_)
           generalize w8.setRow gR #[ii 0, ii 0, ii 0, ii 0, nsl, nsl, nsl, nsl] = Wf at *
           obtain ⟨g0, g1, g2, g3, g4, g5, g6, g7⟩ := rq.e8
           exact bodyPost_ret (v := .tuple #[.agg #[ii 0, ii 0, ii 0, ii 0, nsl, nsl, nsl, nsl], ii 10]) (by simp [results, results137, go_sem, g0, g1, g2, g3, g4, g5, g6, g7]) rfl ⟨zVl, w.heap.size, by rw [HA.out]; rfl, by rw [HA.out]; exact VlS.refl _, VlP.zero _ hnf.size, hnf⟩
          obtain ⟨x, rfl⟩ : ∃ x, ns = [x] := by
           match ns, h1 with
           | [x], _ => exact ⟨x, rfl⟩
          have HF : Hid (ldI ss ws j = some (x : Int)) := qh (by rw [HJ.out, rdN_yes ho, hr]; rfl)
          obtain ⟨bb, off, rfl, hbb, hcell⟩ := hR (by simp)
          have p0 : w8.cell? ⟨bb, off, none⟩ = some (ii (x : Int)) := hcell 0 (by simp)
          have HI1 := qh (HIm.out.snoc HF.out)
          clear ho hr hyes hR hcell h1
          simp only [Option.isSome_some, List.length_cons, List.length_nil, Nat.zero_add] at hcn ⊢
          go_wp2_with fail
          have hxd : Nx w8 w8.drew := (Nx.refl w8).drew
          have hriD := hri8.nx hxd
          have hSgD := hSg8.nx hxd
          have hND := hN8.trans hxd
          have bSD := bS8.nx hxd
          have bVD := bV8.nx hxd
          have p0D : w8.drew.cell? ⟨bb, off, none⟩ = some (ii (x : Int)) := p0
          clear p0 hri8 hSg8 hN8 bS8 bV8 hxd r8 hx8
          refine wp_region_plan (.t 0 (.t 2 (.t 3 (.b 1 (.c 4 (.c 5 (.c 6 (.t 7 (.c 8 .e))))) 4 (.b 1 (.c 5 (.c 6 (.t 7 (.c 8 .e)))) 5 (.c 1 (.c 6 (.t 7 (.c 8 .e))))))))) (fun _ => True) (by kernel_rfl) (by kernel_rfl) rfl (by kernel_rfl) (fun _ _ d _ _ h => by cases d <;> exact h) trivial ?_
          simp only [psOf, List.getD_cons_zero, List.getD_cons_succ]
          generalize w8.drew = W0 at *
          have hz3 := (Nx.refl W0).alloc (.cells #[ii (x : Int)] 3)
          have HR3 := qh (hriD.nx hz3)
          have HB3 := qh (Box.new W0 3 #[ii (x : Int)])
          have bVA := bVD.nx hz3
          have bSA := bSD.nx hz3
          have hSgA := hSgD.nx hz3
          have hNA := hND.trans hz3
          have hsz3 := hNA.size
          have hl9 : im.length <= 1048576 := by have := HlenI.out; omega
          obtain ⟨_, _, _, _, _, _, _, x7⟩ := bVD.e8
          obtain ⟨_, _, _, _, _, _, _, x7a⟩ := bVA.e8
          clear hriD hSgD hND bSD hz3
          refine hPr ?_
          refine HP.both ?_ ?_
          . refine cSt fun K hK => ?_
            go_simp
            refine hK.out _ _ (by exact trivial) ?_
            clear hK K
            refine nZ ?_
            refine hPc fun K hK => ?_
            go_simp
            refine hK.out _ _ (by exact trivial) ?_
            clear hK K
            refine nZ ?_
            refine hPc fun K hK => ?_
            go_simp
            refine hK.out _ _ (by exact trivial) ?_
            clear hK K
            refine nZ ?_
            refine hPc fun K hK => ?_
            refine wp_addI _ _ rfl w2.heap.size W0.heap.size _ im (x : Int) rfl rfl HR3.out HB3.out hl9 hsz3 ?_
            intro A9 k9 w9 hr9 hgr
            have hN9 := hgr.nx w2 hNA nle
            have bV9 := hgr.box _ _ _ dC bVA
            have bS9 := hgr.box _ _ _ dC bSA
            have hSg9 : SgO w9 w2.heap.size Ag gs := ⟨hSgA.row.grew hgr dC, fun k hk => (hSgA.chs k hk).grew hgr dC⟩
            clear HR3 HB3 hgr bVA bSA hSgA hNA x7 x7a p0D bVD hsz3
            obtain ⟨_, _, _, _, _, _, _, x7⟩ := bV9.e8
            have xf7 := bV9.frozen 7
            refine hK.out _ _ (by exact trivial) ?_
            clear hK K
            try simp only [Act.put]
            refine hPr ?_
            refine HP.call ?_
            have HriZ := qh (hr9.farB (i := 7) bV9 dC (sC A9 (im.length + 1) k9))
            have HSgZ := qh (hSg9.farB (i := 7) bV9 dC dC (sC A9 (im.length + 1) k9))
            have HNZ := qh (hN9.setCell (p := ⟨gV, 7, none⟩) hgV2 (sC A9 (im.length + 1) k9))
            have HSZ := qh (bS9.far (p := ⟨gV, 7, none⟩) hgSV (sC A9 (im.length + 1) k9))
            have HVZ := qh (bV9.set 7 (sC A9 (im.length + 1) k9))
            clear hr9 hSg9 hN9 bS9
            refine cSt fun K hK => ?_
            go_simp
            refine hK.out _ _ (by exact trivial) ?_
            clear hK K
            refine nZ ?_
            refine HP.done ?_
            go_wp2
            go_roundw
            case rel => exact ⟨j + 1, im ++ [(x : Int)], _, oM, by go_num, HriZ.out, HI1.out, HSgZ.out, HNZ.out, HSZ.out, HVZ.out⟩
            case measure => simp [intOf]; omega
          . refine cSt fun K hK => ?_
            go_simp
            refine hK.out _ _ (by exact trivial) ?_
            clear hK K
            refine nZ ?_
            refine HP.both ?_ ?_
            . refine cSt fun K hK => ?_
              go_simp
              refine hK.out _ _ (by exact trivial) ?_
              clear hK K
              refine nZ ?_
              refine hPc fun K hK => ?_
              go_simp
              refine hK.out _ _ (by exact trivial) ?_
              clear hK K
              refine nZ ?_
              refine hPc fun K hK => ?_
              refine wp_addI _ _ rfl w2.heap.size W0.heap.size _ im (x : Int) rfl rfl HR3.out HB3.out hl9 hsz3 ?_
              intro A9 k9 w9 hr9 hgr
              have hN9 := hgr.nx w2 hNA nle
              have bV9 := hgr.box _ _ _ dC bVA
              have bS9 := hgr.box _ _ _ dC bSA
              have hSg9 : SgO w9 w2.heap.size Ag gs := ⟨hSgA.row.grew hgr dC, fun k hk => (hSgA.chs k hk).grew hgr dC⟩
              clear HR3 HB3 hgr bVA bSA hSgA hNA x7 x7a p0D bVD hsz3
              obtain ⟨_, _, _, _, _, _, _, x7⟩ := bV9.e8
              have xf7 := bV9.frozen 7
              refine hK.out _ _ (by exact trivial) ?_
              clear hK K
              try simp only [Act.put]
              refine hPr ?_
              refine HP.call ?_
              have HriZ := qh (hr9.farB (i := 7) bV9 dC (sC A9 (im.length + 1) k9))
              have HSgZ := qh (hSg9.farB (i := 7) bV9 dC dC (sC A9 (im.length + 1) k9))
              have HNZ := qh (hN9.setCell (p := ⟨gV, 7, none⟩) hgV2 (sC A9 (im.length + 1) k9))
              have HSZ := qh (bS9.far (p := ⟨gV, 7, none⟩) hgSV (sC A9 (im.length + 1) k9))
              have HVZ := qh (bV9.set 7 (sC A9 (im.length + 1) k9))
              clear hr9 hSg9 hN9 bS9
              refine cSt fun K hK => ?_
              go_simp
              refine hK.out _ _ (by exact trivial) ?_
              clear hK K
              refine nZ ?_
              refine HP.done ?_
              go_wp2
              go_roundw
              case rel => exact ⟨j + 1, im ++ [(x : Int)], _, oM, by go_num, HriZ.out, HI1.out, HSgZ.out, HNZ.out, HSZ.out, HVZ.out⟩
              case measure => simp [intOf]; omega
            . refine cSt fun K hK => ?_
              go_simp
              refine hK.out _ _ (by exact trivial) ?_
              clear hK K
              refine nZ ?_
              refine hPc fun K hK => ?_
              go_simp
              refine hK.out _ _ (by exact trivial) ?_
              clear hK K
              refine nZ ?_
              refine hPc fun K hK => ?_
              refine wp_addI _ _ rfl w2.heap.size W0.heap.size _ im (x : Int) rfl rfl HR3.out HB3.out hl9 hsz3 ?_
              intro A9 k9 w9 hr9 hgr
              have hN9 := hgr.nx w2 hNA nle
              have bV9 := hgr.box _ _ _ dC bVA
              have bS9 := hgr.box _ _ _ dC bSA
              have hSg9 : SgO w9 w2.heap.size Ag gs := ⟨hSgA.row.grew hgr dC, fun k hk => (hSgA.chs k hk).grew hgr dC⟩
              clear HR3 HB3 hgr bVA bSA hSgA hNA x7 x7a p0D bVD hsz3
              obtain ⟨_, _, _, _, _, _, _, x7⟩ := bV9.e8
              have xf7 := bV9.frozen 7
              refine hK.out _ _ (by exact trivial) ?_
              clear hK K
              try simp only [Act.put]
              refine hPr ?_
              refine HP.call ?_
              have HriZ := qh (hr9.farB (i := 7) bV9 dC (sC A9 (im.length + 1) k9))
              have HSgZ := qh (hSg9.farB (i := 7) bV9 dC dC (sC A9 (im.length + 1) k9))
              have HNZ := qh (hN9.setCell (p := ⟨gV, 7, none⟩) hgV2 (sC A9 (im.length + 1) k9))
              have HSZ := qh (bS9.far (p := ⟨gV, 7, none⟩) hgSV (sC A9 (im.length + 1) k9))
              have HVZ := qh (bV9.set 7 (sC A9 (im.length + 1) k9))
              clear hr9 hSg9 hN9 bS9
              refine cSt fun K hK => ?_
              go_simp
              refine hK.out _ _ (by exact trivial) ?_
              clear hK K
              refine nZ ?_
              refine HP.done ?_
              go_wp2
              go_roundw
              case rel => exact ⟨j + 1, im ++ [(x : Int)], _, oM, by go_num, HriZ.out, HI1.out, HSgZ.out, HNZ.out, HSZ.out, HVZ.out⟩
              case measure => simp [intOf]; omega
    obtain ⟨a, ha, ha1, ha2⟩ := Hta.out k hlt
    obtain ⟨bb, off, rfl, hbb, p0'⟩ := h3' k hlt
    rw [ha] at p0'
    have HG : Hid (ldG ss ws (xs.getD k 0) = rdG (readP ss ws a)) := qh (by rw [ha]; rfl)
    clear ha
    have p0 := (hN.cell (p := ⟨bb, off + k, none⟩) hbb).trans p0'
    have hbbr : bb < wr.heap.size := Nat.lt_of_lt_of_le hbb hN.size
    have eR := e2.nx hN
    cases hr : rdG (readP ss ws a) with
    | none =>
      have Hr := qh hr
      have HA : Hid (ldV ss ws = (zVl, 10)) := qh (HSg.out k hlt (by rw [HG.out, hr]))
      clear hr
      go_wp2_with fail
      clear y4
      refine merge2L (F := (fun gq Wq => Nx wr Wq)) (G := ?_) (fun key => ?_) ?_
      rotate_left
      . have hXs : Nx wr wr.drew := (Nx.refl wr).drew
        have zd : wr.heap.size <= wr.drew.heap.size := Nat.le_refl _
        refine wp_planA (.t 0 (.t 1 (.t 2 (.t 3 (.t 4 (.t 5 (.b 6 (.b 7 (.t 8 (.t 9 (.t 10 (.c 11 (.c 12 (.t 13 .e)))))) 11 (.c 7 (.t 8 (.t 9 (.t 10 (.c 12 (.t 13 .e))))))) 11 (.c 6 (.c 7 (.t 8 (.t 9 (.t 10 (.c 12 (.t 13 .e)))))))))))))) (fun w' => (CC w' w.heap.size 0 (sC A n c) /\ CC w' w.heap.size 1 (sC A2 n2 c2)) /\ CC w' gS 4 (sC (some ⟨bb, off, none⟩) m cx) /\ CC w' bb (off + k) (ii (a : Int))) (by exact ⟨⟨(eR.nx hXs).c0, (eR.nx hXs).c1⟩, (bS.nx hXs).d6.2.2.2.2.1, ((hXs).cell (p := ⟨bb, off + k, none⟩) hbbr).trans p0⟩) ?_
        simp only [psOf, List.getD_cons_zero, List.getD_cons_succ]
        generalize wr.drew = wv at *
        repeat' (first
         | (have hDn := hDone; have rc0 := bz.cell 0; have rf0 := bz.frozen 0; have rc1 := bz.cell 1; have rf1 := bz.frozen 1; have rc2 := bz.cell 2; have rf2 := bz.frozen 2; have rc3 := bz.cell 3; have rf3 := bz.frozen 3; have rlt := bz.lt; (with_reducible refine HP.call ?_); refine cSt fun K hK => ?_; go_simp; refine hK.out _ _ (by exact ⟨⟨(eR.nx (put4_nx (g := gz) hXs oM (ii 0) (ii 0) (ii 0) (nsl))).c0, (eR.nx (put4_nx (g := gz) hXs oM (ii 0) (ii 0) (ii 0) (nsl))).c1⟩, (bS.nx (put4_nx (g := gz) hXs oM (ii 0) (ii 0) (ii 0) (nsl))).d6.2.2.2.2.1, (((put4_nx (g := gz) hXs oM (ii 0) (ii 0) (ii 0) (nsl))).cell (p := ⟨bb, off + k, none⟩) hbbr).trans p0⟩) ?_; clear hK K; (try simp only [Act.put, qqA, qqB, qqC]); clear rc0 rf0 rc1 rf1 rc2 rf2 rc3 rf3; repeat (first | (refine HP.tk ?_; (try simp only [Act.put, qqA, qqB, qqC])) | (refine HP.sk ?_; (try simp only [Act.put, qqA, qqB, qqC]))); refine HP.done ?_; have hnf := put4_nx (g := gz) hXs oM (ii 0) (ii 0) (ii 0) (nsl); unfold put4 at hnf; generalize ((((wv.setCell ⟨gz, 0, none⟩ (ii 0)).setCell ⟨gz, 1, none⟩ (ii 0)).setCell ⟨gz, 2, none⟩ (ii 0)).setCell ⟨gz, 3, none⟩ (nsl)) = Wf at *; exact key gz Wf hnf)
         | (with_reducible refine HP.both ?_ ?_)
         | (with_reducible refine HP.three ?_ ?_ ?_)
         | (with_reducible refine HP.call ?_)
         | (refine HP.tk ?_; (try simp only [Act.put, qqA, qqB, qqC]))
         | (refine HP.sk ?_; (try simp only [Act.put, qqA, qqB, qqC]))
         | (refine cSt fun K hK => ?_; go_simp; first
           | ((with_reducible refine callAt 130 ?_); refine (l01Read_c A A2 n c n2 c2 B a ss ws _ (h.below ((hw2.trans hN).trans hXs) hB) (h2.below ((hw2.trans hN).trans hXs) hB) (ntr hB ((hw2.trans hN).trans hXs).size) oM hn hn2).mono ?_; rintro e wv ⟨rfl, hv1⟩; have zhv1 := hv1.size; replace hXs := hXs.trans hv1; (try replace bz := bz.nx hv1); (try replace hSl := hSl.nx hv1); go_wp2_with fail; refine hK.out _ _ (by exact ⟨⟨(eR.nx hXs).c0, (eR.nx hXs).c1⟩, (bS.nx hXs).d6.2.2.2.2.1, ((hXs).cell (p := ⟨bb, off + k, none⟩) hbbr).trans p0⟩) ?_; clear hK K; (try simp only [Act.put, qqA, qqB, qqC]))
           | ((with_reducible refine callAt 197 ?_); refine (l02Read_c (readP ss ws a) _ (by have := HDs.out a; omega)).mono ?_; rintro e wv ⟨hv2, hno, hyes⟩; obtain rfl := hno Hr.out; clear hno hyes; have hDone := True.intro; have zhv2 := hv2.size; replace hXs := hXs.trans hv2; (try replace bz := bz.nx hv2); skip; go_wp2_with fail; refine hK.out _ _ (by exact ⟨⟨(eR.nx hXs).c0, (eR.nx hXs).c1⟩, (bS.nx hXs).d6.2.2.2.2.1, ((hXs).cell (p := ⟨bb, off + k, none⟩) hbbr).trans p0⟩) ?_; clear hK K; (try simp only [Act.put, qqA, qqB, qqC]))
           | (have bz := Box.new wv 122 #[ii 0, ii 0, ii 0, nsl]; have hz := (Nx.refl wv).alloc (.cells #[ii 0, ii 0, ii 0, nsl] 122); have hgz0 := hXs.size; have zhz := hz.size; replace hXs := hXs.trans hz; (try replace bz := bz.nx hz); (try replace hSl := hSl.nx hz); refine hK.out _ _ (by exact ⟨⟨(eR.nx hXs).c0, (eR.nx hXs).c1⟩, (bS.nx hXs).d6.2.2.2.2.1, ((hXs).cell (p := ⟨bb, off + k, none⟩) hbbr).trans p0⟩) ?_; clear hK K; (try simp only [Act.put, qqA, qqB, qqC]); clear hz; change HP _ _ _ _ _ _ (wv.alloc (.cells #[ii 0, ii 0, ii 0, nsl] 122)); generalize wv.heap.size = gz at *; generalize wv.alloc (.cells #[ii 0, ii 0, ii 0, nsl] 122) = wv at *)))
      intro gq Wq hXq
      have rf := (r2.nx hN).nx hXq
      have hxf := (hw2.trans hN).trans hXq
      have rq := rf.row #[ii 0, ii 0, ii 0, ii 0, nsl, nsl, nsl, nsl]
      have hnf := hxf.setRow hgR #[ii 0, ii 0, ii 0, ii 0, nsl, nsl, nsl, nsl]
      go_wp2_with (refine wpList_store_row rfl _ _ _ rfl gR #[ii 0, ii 0, ii 0, ii 0, nsl, nsl, nsl, nsl] rfl rfl 49 #[ii 0, ii 0, ii 0, ii 0, nsl, nsl, nsl, nsl] rf (by kernel_rfl) rfl (by simp [Value.oneCell']) ?_)
      generalize Wq.setRow gR #[ii 0, ii 0, ii 0, ii 0, nsl, nsl, nsl, nsl] = Wf at *
      obtain ⟨g0, g1, g2, g3, g4, g5, g6, g7⟩ := rq.e8
      exact bodyPost_ret (v := .tuple #[.agg #[ii 0, ii 0, ii 0, ii 0, nsl, nsl, nsl, nsl], ii 10]) (by simp [results, results137, go_sem, g0, g1, g2, g3, g4, g5, g6, g7]) rfl ⟨zVl, w.heap.size, by rw [HA.out]; rfl, by rw [HA.out]; exact VlS.refl _, VlP.zero _ hnf.size, hnf⟩
    | some qq =>
      obtain ⟨q0, q1, q2, cs⟩ := qq
      have Hr := qh hr
      have HF : Hid (ldG ss ws (xs.getD k 0) = some (q0, q1, q2, cs)) := qh (by rw [HG.out, hr])
      clear hr
      go_wp2_with fail
      clear y4
      refine merge4L (F := (fun gq Aq cq Wq => Box Wq gq 122 #[ii q0, ii q1, ii q2, sC Aq cs.length cq] /\ Sl Wq w2.heap.size Aq 192 (cs.length * 3) (chAt cs) /\ wr.heap.size <= gq /\ Nx wr Wq /\ Dj (gs ++ [⟨(q0 : Nat), (q1 : Nat), (q2 : Nat), Aq, cq, cs⟩]))) (G := ?_) (fun key => ?_) ?_
      rotate_left
      . have hXs : Nx wr wr.drew := (Nx.refl wr).drew
        have zd : wr.heap.size <= wr.drew.heap.size := Nat.le_refl _
        refine wp_planA (.t 0 (.t 1 (.t 2 (.t 3 (.t 4 (.t 5 (.b 6 (.b 7 (.t 8 (.t 9 (.t 10 (.c 11 (.c 12 (.t 13 .e)))))) 11 (.c 7 (.t 8 (.t 9 (.t 10 (.c 12 (.t 13 .e))))))) 11 (.c 6 (.c 7 (.t 8 (.t 9 (.t 10 (.c 12 (.t 13 .e)))))))))))))) (fun w' => (CC w' w.heap.size 0 (sC A n c) /\ CC w' w.heap.size 1 (sC A2 n2 c2)) /\ CC w' gS 4 (sC (some ⟨bb, off, none⟩) m cx) /\ CC w' bb (off + k) (ii (a : Int))) (by exact ⟨⟨(eR.nx hXs).c0, (eR.nx hXs).c1⟩, (bS.nx hXs).d6.2.2.2.2.1, ((hXs).cell (p := ⟨bb, off + k, none⟩) hbbr).trans p0⟩) ?_
        simp only [psOf, List.getD_cons_zero, List.getD_cons_succ]
        generalize wr.drew = wv at *
        repeat' (first
         | (have hDn := hDone; have rc0 := bz.cell 0; have rf0 := bz.frozen 0; have rc1 := bz.cell 1; have rf1 := bz.frozen 1; have rc2 := bz.cell 2; have rf2 := bz.frozen 2; have rc3 := bz.cell 3; have rf3 := bz.frozen 3; have rlt := bz.lt; (with_reducible refine HP.call ?_); refine cSt fun K hK => ?_; go_simp; refine hK.out _ _ (by exact ⟨⟨(eR.nx (put4_nx (g := gz) hXs oM (ii q0) (ii q1) (ii q2) (sC Aq cs.length cq))).c0, (eR.nx (put4_nx (g := gz) hXs oM (ii q0) (ii q1) (ii q2) (sC Aq cs.length cq))).c1⟩, (bS.nx (put4_nx (g := gz) hXs oM (ii q0) (ii q1) (ii q2) (sC Aq cs.length cq))).d6.2.2.2.2.1, (((put4_nx (g := gz) hXs oM (ii q0) (ii q1) (ii q2) (sC Aq cs.length cq))).cell (p := ⟨bb, off + k, none⟩) hbbr).trans p0⟩) ?_; clear hK K; (try simp only [Act.put, qqA, qqB, qqC]); clear rc0 rf0 rc1 rf1 rc2 rf2 rc3 rf3; repeat (first | (refine HP.tk ?_; (try simp only [Act.put, qqA, qqB, qqC])) | (refine HP.sk ?_; (try simp only [Act.put, qqA, qqB, qqC]))); refine HP.done ?_; have rq := put4_box bz (ii q0) (ii q1) (ii q2) (sC Aq cs.length cq); have hnf := put4_nx (g := gz) hXs oM (ii q0) (ii q1) (ii q2) (sC Aq cs.length cq); have hSf : Sl (put4 wv gz (ii q0) (ii q1) (ii q2) (sC Aq cs.length cq)) w2.heap.size Aq 192 (cs.length * 3) (chAt cs) := slput4q hSl bz dC (ii q0) (ii q1) (ii q2) (sC Aq cs.length cq); unfold put4 at rq hnf hSf; generalize ((((wv.setCell ⟨gz, 0, none⟩ (ii q0)).setCell ⟨gz, 1, none⟩ (ii q1)).setCell ⟨gz, 2, none⟩ (ii q2)).setCell ⟨gz, 3, none⟩ (sC Aq cs.length cq)) = Wf at *; exact key gz Aq cq Wf ⟨rq, hSf, oM, hnf, HD1.out⟩)
         | (with_reducible refine HP.both ?_ ?_)
         | (with_reducible refine HP.three ?_ ?_ ?_)
         | (with_reducible refine HP.call ?_)
         | (refine HP.tk ?_; (try simp only [Act.put, qqA, qqB, qqC]))
         | (refine HP.sk ?_; (try simp only [Act.put, qqA, qqB, qqC]))
         | (refine cSt fun K hK => ?_; go_simp; first
           | ((with_reducible refine callAt 130 ?_); refine (l01Read_c A A2 n c n2 c2 B a ss ws _ (h.below ((hw2.trans hN).trans hXs) hB) (h2.below ((hw2.trans hN).trans hXs) hB) (ntr hB ((hw2.trans hN).trans hXs).size) oM hn hn2).mono ?_; rintro e wv ⟨rfl, hv1⟩; have zhv1 := hv1.size; replace hXs := hXs.trans hv1; (try replace bz := bz.nx hv1); (try replace hSl := hSl.nx hv1); go_wp2_with fail; refine hK.out _ _ (by exact ⟨⟨(eR.nx hXs).c0, (eR.nx hXs).c1⟩, (bS.nx hXs).d6.2.2.2.2.1, ((hXs).cell (p := ⟨bb, off + k, none⟩) hbbr).trans p0⟩) ?_; clear hK K; (try simp only [Act.put, qqA, qqB, qqC]))
           | ((with_reducible refine callAt 197 ?_); refine (l02Read_c (readP ss ws a) _ (by have := HDs.out a; omega)).mono ?_; rintro e wv ⟨hv2, hno, hyes⟩; obtain ⟨Aq, cq, rfl, hSl⟩ := hyes _ Hr.out; simp only at hSl; have HD1 := qh (HDj.out.snoc (g := ⟨(q0 : Nat), (q1 : Nat), (q2 : Nat), Aq, cq, cs⟩) (hcho.nx hXs) hSl); replace hSl := hSl.low (lo' := w2.heap.size) (by have := hXs.size; have := hN.size; omega); clear hno hyes; have hDone := True.intro; have zhv2 := hv2.size; replace hXs := hXs.trans hv2; (try replace bz := bz.nx hv2); skip; go_wp2_with fail; refine hK.out _ _ (by exact ⟨⟨(eR.nx hXs).c0, (eR.nx hXs).c1⟩, (bS.nx hXs).d6.2.2.2.2.1, ((hXs).cell (p := ⟨bb, off + k, none⟩) hbbr).trans p0⟩) ?_; clear hK K; (try simp only [Act.put, qqA, qqB, qqC]))
           | (have bz := Box.new wv 122 #[ii 0, ii 0, ii 0, nsl]; have hz := (Nx.refl wv).alloc (.cells #[ii 0, ii 0, ii 0, nsl] 122); have hgz0 := hXs.size; have zhz := hz.size; replace hXs := hXs.trans hz; (try replace bz := bz.nx hz); (try replace hSl := hSl.nx hz); refine hK.out _ _ (by exact ⟨⟨(eR.nx hXs).c0, (eR.nx hXs).c1⟩, (bS.nx hXs).d6.2.2.2.2.1, ((hXs).cell (p := ⟨bb, off + k, none⟩) hbbr).trans p0⟩) ?_; clear hK K; (try simp only [Act.put, qqA, qqB, qqC]); clear hz; change HP _ _ _ _ _ _ (wv.alloc (.cells #[ii 0, ii 0, ii 0, nsl] 122)); generalize wv.heap.size = gz at *; generalize wv.alloc (.cells #[ii 0, ii 0, ii 0, nsl] 122) = wv at *)))
      intro gq Aq cq Wq ⟨bQ, hSl, hgq, hXq, hdq⟩
      have HD1 := qh hdq
      have HG1 := qh (HSn.out k gs _ HGs.out hlt HF.out Aq cq)
      have hrow2 := hrow.nx hXq
      have hcho2 := hcho.nx hXq
      have bV2 := bV.nx hXq
      have bS2 := bS.nx hXq
      have bI2 := bI.nx hXq
      have hN2 := hN.trans hXq
      clear hdq hrow hcho bV bS bI hXq eR p0 p0' hN
      have hz3 := (Nx.refl Wq).alloc (.cells #[ii q0, ii q1, ii q2, sC Aq cs.length cq] 122)
      have hrow3 := hrow2.nx hz3
      have hcho3 := hcho2.nx hz3
      have bV3 := bV2.nx hz3
      have bS3 := bS2.nx hz3
      have bI3 := bI2.nx hz3
      have hN3 := hN2.trans hz3
      have hSl3 := hSl.nx hz3
      have HR3 := qh hrow3
      have HB3 := qh (Box.new Wq 122 #[ii q0, ii q1, ii q2, sC Aq cs.length cq])
      have hl9 : gs.length <= 1048576 := by have := Hlen.out; omega
      have hsz3 := hN3.size
      obtain ⟨l0, l1, l2, l3⟩ := bQ.d4
      obtain ⟨_, _, _, _, _, _, x6, _⟩ := bV2.e8
      clear hrow2 hcho2 bS2 bI2 hN2 hrow3 hSl
      go_wp2_with (at_builtin; refine wpList_addS rfl _ _ rfl w2.heap.size Wq.heap.size _ gs ⟨(q0 : Nat), (q1 : Nat), (q2 : Nat), Aq, cq, cs⟩ rfl rfl HR3.out HB3.out hl9 hsz3 ?_)
      intro A9 k9 w9 hrow9 hgr
      have hN9 := hgr.nx w2 hN3 nle
      have hcho9 := (hgr.cho hcho3).snoc (g := ⟨(q0 : Nat), (q1 : Nat), (q2 : Nat), Aq, cq, cs⟩) (hgr.sl hSl3 dC)
      have bV9 := hgr.box _ _ _ dC bV3
      have bS9 := hgr.box _ _ _ dC bS3
      have bI9 := hgr.box _ _ _ dC bI3
      clear hcho3 hSl3 bV3 bS3 bI3 hgr HR3 HB3 l0 l1 l2 l3 x6 bQ bV2 hN3 hsz3 hz3
      obtain ⟨_, _, _, _, _, _, x6, _⟩ := bV9.e8
      have xf6 := bV9.frozen 6
      have HrowZ := qh (hrow9.farB (i := 6) bV9 dC (sC A9 (gs.length + 1) k9))
      have HchoZ := qh (hcho9.farB (i := 6) bV9 dC (sC A9 (gs.length + 1) k9))
      have HNZ := qh (hN9.setCell (p := ⟨gV, 6, none⟩) hgV2 (sC A9 (gs.length + 1) k9))
      have HSZ := qh (bS9.far (p := ⟨gV, 6, none⟩) hgSV (sC A9 (gs.length + 1) k9))
      have HIZ := qh (bI9.far (p := ⟨gV, 6, none⟩) (Box.ne_ty bI9 bV9 dC) (sC A9 (gs.length + 1) k9))
      have HVZ := qh (bV9.set 6 (sC A9 (gs.length + 1) k9))
      clear hrow9 hcho9 hN9 bS9 bI9
      go_wp2
      go_roundw
      case rel => exact ⟨k + 1, gs ++ [⟨(q0 : Nat), (q1 : Nat), (q2 : Nat), Aq, cq, cs⟩], _, oM, by go_num, HrowZ.out, HchoZ.out, HD1.out, HG1.out, HNZ.out, HSZ.out, HVZ.out, HIZ.out⟩
      case measure => simp [intOf]; omega
end
end Go.Proofs.YtieoiailjjnnoaaGreatDoor
