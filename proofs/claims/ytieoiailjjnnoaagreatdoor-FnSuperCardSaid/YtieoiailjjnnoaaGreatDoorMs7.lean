/-
  Texts of the proof, in their order.
  Conditions: those of each.
-/
import Derived.Test.YtieoiailjjnnoaaGreatDoorMs6
import Derived.StillTailTactics
import Derived.Deep.RegionHeld3
import Derived.Laws.BytesArg
import Derived.Outline
namespace Go.Proofs.YtieoiailjjnnoaaGreatDoor
set_option linter.unusedVariables false
set_option maxRecDepth 100000
set_option maxHeartbeats 16000000
open Go.RowKit
theorem Below.cell_far (g g2 : Nat) (w : World) (v : Value) (h : g ≠ g2) {i j : Nat} : (w.setCell ⟨g2, j, none⟩ v).cell? ⟨g, i, none⟩ = w.cell? ⟨g, i, none⟩ := by
 have := Below.heap_setCell w ⟨g2, j, none⟩ v g h
 simp only [World.cell?, this]
theorem Sl.box0 {w : World} {lo m : Nat} {A : Option Addr} {t : TypeId} {f : Nat → Value} (h : Sl w lo A t m f) (hm : 0 < m) : ∃ g, A = some ⟨g, 0, none⟩ ∧ lo ≤ g ∧ g < w.heap.size ∧ (∃ cs, Box w g t cs) ∧ ∀ i, i < m → w.cell? ⟨g, i, none⟩ = some (f i) := by
 obtain ⟨g, e, hl, ho⟩ := h hm
 obtain ⟨cs, hc, r⟩ := id ho
 exact ⟨g, e, hl, ho.lt, ⟨cs, hc⟩, fun i hi => ho.cell hi⟩
theorem Box.ne_ty {w : World} {g g' : Nat} {t t' : TypeId} {cs cs' : Array Value} (h : Box w g t cs) (h' : Box w g' t' cs') (ht : t ≠ t') : g ≠ g' := by
 rintro rfl
 unfold Box at h h'
 rw [h] at h'
 injection h' with h'
 injection h' with _ h'
 exact ht h'
theorem getD_two {a b x : BA} {l : List BA} (h : l = [a, b]) : l.getD 0 x = a ∧ l.getD 1 x = b := by subst h; exact ⟨rfl, rfl⟩
theorem cutB_two {c : UInt8} {t : BA} {a b : List UInt8} (h : cutL c t.data.toList = [a, b]) : cutB c t = [baL a, baL b] := by unfold cutB; rw [h]; rfl
theorem wordB_two {x : BA} {a b : List UInt8} (h : cutL 61 x.data.toList = [a, b]) : wordB x = if plainB b then some (baL a, ((valL b : Nat) : Int)) else none := wordM_two h
theorem wordB_more {x : BA} (h : (cutB 61 x).length ≠ 2) : wordB x = none := wordM_more (by rw [← cutB_len]; exact h)
theorem cutL_of2 {c : UInt8} {s : List UInt8} (h : (cutL c s).length = 2) : ∃ a b, cutL c s = [a, b] := by
 obtain ⟨a, b, h1, _⟩ := cutL_two h
 exact ⟨a, b, h1⟩
theorem cutL_parts {c : UInt8} {s a b : List UInt8} (h : cutL c s = [a, b]) : a.length ≤ s.length ∧ b.length ≤ s.length := ⟨cutL_part (by rw [h]; simp), cutL_part (by rw [h]; simp)⟩
theorem l04Read_c (t : BA) (w : World) (ht : t.size ≤ 65536) : Calls Tryz.prog 129 #[.string t] w (RetSU w (rdU t) (.bool false) (.bool true)) := by
 have b0 := Box.new w 26 #[ii 0, ii 0, ii 0, ii 0, nsl, nsl]
 have hx0 := (Nx.refl w).alloc (.cells #[ii 0, ii 0, ii 0, ii 0, nsl, nsl] 26)
 go_enter Tryz.func129, Tryz.ntmps129
 go_wp2_with fail
 generalize w.alloc (.cells #[ii 0, ii 0, ii 0, ii 0, nsl, nsl] 26) = W at *
 refine (l02Open_c t _ (by omega)).mono ?_
 rintro e w0 ⟨x, rfl, hxs, hxb, hnx0⟩
 go_wp2_with fail
 refine (l00Cut_c x 124 _ (by omega)).mono ?_
 rintro e w1 ⟨A6, c6, rfl, hP1, hnx1⟩
 have b1 := (b0.nx hnx0).nx hnx1
 have hx1 := (hx0.trans hnx0).trans hnx1
 clear b0 hx0 hnx0 hnx1
 cases ho : opensB t with
 | false =>
   have HF := qh (rdU_shut ho)
   clear ho hxb
   obtain ⟨u0, u1, u2, u3, u4, u5⟩ := b1.d6
   have f0 := b1.frozen 0
   have f1 := b1.frozen 1
   have f2 := b1.frozen 2
   have f3 := b1.frozen 3
   have f4 := b1.frozen 4
   have f5 := b1.frozen 5
   go_wp2
   have qx := (put6_box b1 (ii 0) (ii 0) (ii 0) (ii 0) (nsl) (nsl))
   have hnf := (put6_nx hx1 (Nat.le_refl w.heap.size) (ii 0) (ii 0) (ii 0) (ii 0) (nsl) (nsl))
   change bodyPost _ _ _ _ _ (put6 w1 w.heap.size (ii 0) (ii 0) (ii 0) (ii 0) (nsl) (nsl))
   change Box (put6 w1 w.heap.size (ii 0) (ii 0) (ii 0) (ii 0) (nsl) (nsl)) _ _ _ at qx
   generalize put6 w1 w.heap.size (ii 0) (ii 0) (ii 0) (ii 0) (nsl) (nsl) = Wf at *
   obtain ⟨g0, g1, g2, g3, g4, g5⟩ := qx.d6
   exact bodyPost_ret (v := .tuple #[.agg #[ii 0, ii 0, ii 0, ii 0, nsl, nsl], .bool false]) (by simp [results, Tryz.results129, go_sem, g0, g1, g2, g3, g4, g5]) rfl (RetSU.no HF.out hnf)
 | true =>
   obtain rfl := hxb ho
   clear hxb
   have Hlc := qh (cutB_len 124 (bodyOf t))
   by_cases h2 : (cutB 124 (bodyOf t)).length = 2
   case neg =>
    have HF := qh (rdU_more (t := t) (by rw [← Hlc.out]; exact h2))
    have hd2 : (((cutB 124 (bodyOf t)).length : Int) != 2) = true := by rw [bne_iff_ne]; omega
    clear ho h2
    obtain ⟨u0, u1, u2, u3, u4, u5⟩ := b1.d6
    have f0 := b1.frozen 0
    have f1 := b1.frozen 1
    have f2 := b1.frozen 2
    have f3 := b1.frozen 3
    have f4 := b1.frozen 4
    have f5 := b1.frozen 5
    go_wp2
    have qx := (put6_box b1 (ii 0) (ii 0) (ii 0) (ii 0) (nsl) (nsl))
    have hnf := (put6_nx hx1 (Nat.le_refl w.heap.size) (ii 0) (ii 0) (ii 0) (ii 0) (nsl) (nsl))
    change bodyPost _ _ _ _ _ (put6 w1 w.heap.size (ii 0) (ii 0) (ii 0) (ii 0) (nsl) (nsl))
    change Box (put6 w1 w.heap.size (ii 0) (ii 0) (ii 0) (ii 0) (nsl) (nsl)) _ _ _ at qx
    generalize put6 w1 w.heap.size (ii 0) (ii 0) (ii 0) (ii 0) (nsl) (nsl) = Wf at *
    obtain ⟨g0, g1, g2, g3, g4, g5⟩ := qx.d6
    exact bodyPost_ret (v := .tuple #[.agg #[ii 0, ii 0, ii 0, ii 0, nsl, nsl], .bool false]) (by simp [results, Tryz.results129, go_sem, g0, g1, g2, g3, g4, g5]) rfl (RetSU.no HF.out hnf)
   obtain ⟨la, lb, hlab⟩ := cutL_of2 (by rw [← Hlc.out]; exact h2)
   have HPu := qh (rdU_two ho hlab)
   have hlp := cutL_parts hlab
   have Hps := qh (cutB_two hlab)
   rw [← ba_size] at hlp
   have hbsz := bodyOf_size t
   have HLa : Hid (la.length ≤ 65536) := qh (by omega)
   have HLb : Hid (lb.length ≤ 65536) := qh (by omega)
   obtain ⟨ps, Hpq⟩ : ∃ x, Hid (cutB 124 (bodyOf t) = x) := ⟨_, rfl⟩
   rw [Hpq.out] at hP1 h2 Hps Hlc ⊢
   have hd2 : ((ps.length : Int) != 2) = false := by rw [bne_eq_false_iff_eq]; omega
   obtain ⟨gp, rfl, _, hgp, _, hcp0⟩ := hP1.box0 (by omega)
   obtain ⟨sa, Hsa⟩ : ∃ x, Hid (baL la = x) := ⟨_, rfl⟩
   obtain ⟨sb, Hsb⟩ : ∃ x, Hid (baL lb = x) := ⟨_, rfl⟩
   have Hda := qh (show sa.data.toList = la by rw [← Hsa.out]; rfl)
   have Hdb := qh (show sb.data.toList = lb by rw [← Hsb.out]; rfl)
   have hla : sa.size ≤ 65536 := by rw [← Hsa.out, baL_size]; exact HLa.out
   have hlb : sb.size ≤ 65536 := by rw [← Hsb.out, baL_size]; exact HLb.out
   have p0 : w1.cell? ⟨gp, 0, none⟩ = some (.string sa) := by have := hcp0 0 (by omega); unfold wdAt at this; rw [(getD_two Hps.out).1, Hsa.out] at this; exact this
   have p1 : w1.cell? ⟨gp, 1, none⟩ = some (.string sb) := by have := hcp0 1 (by omega); unfold wdAt at this; rw [(getD_two Hps.out).2, Hsb.out] at this; exact this
   have hp0' : (0 : Int) < (ps.length : Int) := by omega
   have hp1' : (1 : Int) < (ps.length : Int) := by omega
   have hpm0 : 0 < ps.length := by omega
   have hpm1 : 1 < ps.length := by omega
   clear h2 hlab hlp hcp0 hP1 ho hbsz hxs
   go_wp2_with fail
   refine (l02Numbers_c sa _ hla).mono ?_
   rintro e w4 ⟨A, n, c, rfl, hr, hnx4⟩
   rw [Hda.out] at hr ⊢
   have b4 := b1.nx hnx4
   have hx4 := hx1.trans hnx4
   have hgp4 : gp < w4.heap.size := Nat.lt_of_lt_of_le hgp hnx4.size
   have p14 := (hnx4.cell (p := ⟨gp, 1, none⟩) hgp).trans p1
   clear p0 p1 b1 hx1 hnx4
   cases hn : numsO la with
   | none =>
     have HF := qh (HPu.out.trans (partU_nums hn))
     clear hr hn
     simp only [Option.isSome_none]
     obtain ⟨u0, u1, u2, u3, u4, u5⟩ := b4.d6
     have f0 := b4.frozen 0
     have f1 := b4.frozen 1
     have f2 := b4.frozen 2
     have f3 := b4.frozen 3
     have f4 := b4.frozen 4
     have f5 := b4.frozen 5
     go_wp2
     have qx := (put6_box b4 (ii 0) (ii 0) (ii 0) (ii 0) (nsl) (nsl))
     have hnf := (put6_nx hx4 (Nat.le_refl w.heap.size) (ii 0) (ii 0) (ii 0) (ii 0) (nsl) (nsl))
     change bodyPost _ _ _ _ _ (put6 w4 w.heap.size (ii 0) (ii 0) (ii 0) (ii 0) (nsl) (nsl))
     change Box (put6 w4 w.heap.size (ii 0) (ii 0) (ii 0) (ii 0) (nsl) (nsl)) _ _ _ at qx
     generalize put6 w4 w.heap.size (ii 0) (ii 0) (ii 0) (ii 0) (nsl) (nsl) = Wf at *
     obtain ⟨g0, g1, g2, g3, g4, g5⟩ := qx.d6
     exact bodyPost_ret (v := .tuple #[.agg #[ii 0, ii 0, ii 0, ii 0, nsl, nsl], .bool false]) (by simp [results, Tryz.results129, go_sem, g0, g1, g2, g3, g4, g5]) rfl (RetSU.no HF.out hnf)
   | some ns =>
     obtain ⟨rfl, hrow, hcp⟩ := hr ns hn
     have HNs := qh hn
     have hnl : ns.length ≤ 65536 := by have := numsO_fit hn; have := HLa.out; omega
     clear hr hn
     simp only [Option.isSome_some]
     by_cases hl4 : 4 ≤ ns.length
     case neg =>
      have HF := qh (HPu.out.trans (partU_few HNs.out (by omega)))
      have hd4 : decide ((ns.length : Int) < 4) = true := by simp; omega
      obtain ⟨u0, u1, u2, u3, u4, u5⟩ := b4.d6
      have f0 := b4.frozen 0
      have f1 := b4.frozen 1
      have f2 := b4.frozen 2
      have f3 := b4.frozen 3
      have f4 := b4.frozen 4
      have f5 := b4.frozen 5
      go_wp2
      have qx := (put6_box b4 (ii 0) (ii 0) (ii 0) (ii 0) (nsl) (nsl))
      have hnf := (put6_nx hx4 (Nat.le_refl w.heap.size) (ii 0) (ii 0) (ii 0) (ii 0) (nsl) (nsl))
      change bodyPost _ _ _ _ _ (put6 w4 w.heap.size (ii 0) (ii 0) (ii 0) (ii 0) (nsl) (nsl))
      change Box (put6 w4 w.heap.size (ii 0) (ii 0) (ii 0) (ii 0) (nsl) (nsl)) _ _ _ at qx
      generalize put6 w4 w.heap.size (ii 0) (ii 0) (ii 0) (ii 0) (nsl) (nsl) = Wf at *
      obtain ⟨g0, g1, g2, g3, g4, g5⟩ := qx.d6
      exact bodyPost_ret (v := .tuple #[.agg #[ii 0, ii 0, ii 0, ii 0, nsl, nsl], .bool false]) (by simp [results, Tryz.results129, go_sem, g0, g1, g2, g3, g4, g5]) rfl (RetSU.no HF.out hnf)
     have hd4 : decide ((ns.length : Int) < 4) = false := by simp; omega
     obtain ⟨b, off, rfl, hb, hcl⟩ := hrow (by omega)
     have HRow := qh (fun W (hW : Nx w4 W) => drop_row (W := W) (B := w4.heap.size) (c := c) (fun i hi => (hW.cell (p := ⟨b, off + i, none⟩) hb).trans (hcl i hi)) hb hl4 hcp)
     obtain ⟨n0, Hn0⟩ : ∃ n, Hid (ns.getD 0 0 = n) := ⟨_, rfl⟩
     obtain ⟨n1, Hn1⟩ : ∃ n, Hid (ns.getD 1 0 = n) := ⟨_, rfl⟩
     obtain ⟨n2, Hn2⟩ : ∃ n, Hid (ns.getD 2 0 = n) := ⟨_, rfl⟩
     obtain ⟨n3, Hn3⟩ : ∃ n, Hid (ns.getD 3 0 = n) := ⟨_, rfl⟩
     have k0 : w4.cell? ⟨b, off, none⟩ = some (ii n0) := by have := hcl 0 (by omega); unfold intAt at this; rw [Hn0.out] at this; exact this
     have k1 : w4.cell? ⟨b, off + 1, none⟩ = some (ii n1) := by have := hcl 1 (by omega); unfold intAt at this; rw [Hn1.out] at this; exact this
     have k2 : w4.cell? ⟨b, off + 2, none⟩ = some (ii n2) := by have := hcl 2 (by omega); unfold intAt at this; rw [Hn2.out] at this; exact this
     have k3 : w4.cell? ⟨b, off + 3, none⟩ = some (ii n3) := by have := hcl 3 (by omega); unfold intAt at this; rw [Hn3.out] at this; exact this
     obtain ⟨xs, Hxs⟩ : ∃ xs, Hid (intsN (ns.drop 4) = xs) := ⟨_, rfl⟩
     have HLen : Hid (xs.length = ns.length - 4) := qh (by rw [← Hxs.out, intsN_len, List.length_drop])
     rw [Hxs.out] at HRow
     have hi0' : (0 : Int) < (ns.length : Int) := by omega
     have hi1' : (1 : Int) < (ns.length : Int) := by omega
     have hi2' : (2 : Int) < (ns.length : Int) := by omega
     have hi3' : (3 : Int) < (ns.length : Int) := by omega
     have hm0 : 0 < ns.length := by omega
     have hm1 : 1 < ns.length := by omega
     have hm2 : 2 < ns.length := by omega
     have hm3 : 3 < ns.length := by omega
     clear hcl hrow
     go_wp2_with fail
     refine merge6 (F := (fun _ gS gm A5 c5 W => Box W gS 26 #[ii 0, ii 0, ii 0, ii 0, nsl, nsl] ∧ RowM W w4.heap.size (.slice (some ⟨gm, 0, none⟩) 0 0) [] ∧ RowI W w4.heap.size (.slice A5 xs.length c5) xs ∧ Nx w4 W ∧ w4.heap.size ≤ gS)) (G := ?_) (fun key => ?_) ?_
     rotate_left
     · have hd := (Nx.refl w4).drew
       refine wp_planA (.t 0 (.t 1 (.t 2 (.t 3 (.t 4 (.t 5 (.t 6 (.t 7 (.t 8 (.t 9 (.t 10 (.t 11 (.t 13 (.t 14 (.d 12 (.d 15 (.b 16 (.t 17 (.c 18 (.c 19 .e))) 18 (.c 16 (.t 17 (.c 19 .e)))) 16 (.b 15 (.t 17 (.c 18 (.c 19 .e))) 18 (.c 15 (.t 17 (.c 19 .e)))) 18 (.b 15 (.c 16 (.t 17 (.c 19 .e))) 16 (.c 15 (.t 17 (.c 19 .e))))) 16 (.b 12 (.b 15 (.t 17 (.c 18 (.c 19 .e))) 18 (.c 15 (.t 17 (.c 19 .e)))) 18 (.c 12 (.c 15 (.t 17 (.c 19 .e))))) 18 (.b 12 (.b 15 (.c 16 (.t 17 (.c 19 .e))) 16 (.c 15 (.t 17 (.c 19 .e)))) 16 (.c 12 (.c 15 (.t 17 (.c 19 .e)))))))))))))))))))) (fun w' => w'.cell? ⟨b, off, none⟩ = some (ii n0) ∧ w'.cell? ⟨b, off + 1, none⟩ = some (ii n1) ∧ w'.cell? ⟨b, off + 2, none⟩ = some (ii n2) ∧ w'.cell? ⟨b, off + 3, none⟩ = some (ii n3)) (by exact ⟨(hd.cell (p := ⟨b, off, none⟩) hb).trans k0, (hd.cell (p := ⟨b, off + 1, none⟩) hb).trans k1, (hd.cell (p := ⟨b, off + 2, none⟩) hb).trans k2, (hd.cell (p := ⟨b, off + 3, none⟩) hb).trans k3⟩) ?_
       simp only [psOf, List.getD_cons_zero, List.getD_cons_succ]
       change HP _ _ _ _ _ _ w4.drew
       generalize w4.drew = wv at hd ⊢
       iterate 13 (refine HP.tk ?_; (try simp only [Act.put, qqA, qqB, qqC]))
       refine HP.take (v := .slice (dropA (some ⟨b, off, none⟩) c) xs.length (c - 4)) (by rfl) (fun W _ => slice4 rfl rfl hl4 HLen.out) ?_
       try simp only [Act.put, qqA, qqB, qqC]
       repeat' (first
        | (have hA := rI; have hB0 := rM; have hC := bS; exact key gi gS gm A5 c5 wv ⟨bS, rM, rI, hd, hgS⟩)
        | (with_reducible refine HP.both ?_ ?_)
        | (with_reducible refine HP.three ?_ ?_ ?_)
        | (with_reducible refine HP.call ?_)
        | (refine HP.tk ?_; (try simp only [Act.put, qqA, qqB, qqC]))
        | (refine cSt fun K hK => ?_; first
          | (have hri := ri; refine wp_addAllJ _ _ rfl w4.heap.size gi (dropA (some ⟨b, off, none⟩) c) (c - 4) xs rfl rfl ri (HRow.out _ hd) (by have := HLen.out; omega) hd.size ?_; intro A5 c5 wv rI hG _; (try replace bS := hG.box _ _ _ (by decide) bS); (try replace rM := rM.grew hG (by decide)); replace hd := hG.nx w4 hd nle; clear ri hri hG; refine hK.out _ _ (by exact ⟨(hd.cell (p := ⟨b, off, none⟩) hb).trans k0, (hd.cell (p := ⟨b, off + 1, none⟩) hb).trans k1, (hd.cell (p := ⟨b, off + 2, none⟩) hb).trans k2, (hd.cell (p := ⟨b, off + 3, none⟩) hb).trans k3⟩) ?_; clear hK K; (try simp only [Act.put]))
          | (go_simp; first
            | (have hsz := hd.size; have hz := (Nx.refl wv).alloc (.cells #[] 3); (try replace ri := ri.nx hz); (try replace rI := rI.nx hz); (try replace rM := rM.nx hz); (try replace bS := bS.nx hz); replace hd := hd.trans hz; have ri := RowI.new wv (B := w4.heap.size) hsz; refine hK.out _ _ (by exact ⟨(hd.cell (p := ⟨b, off, none⟩) hb).trans k0, (hd.cell (p := ⟨b, off + 1, none⟩) hb).trans k1, (hd.cell (p := ⟨b, off + 2, none⟩) hb).trans k2, (hd.cell (p := ⟨b, off + 3, none⟩) hb).trans k3⟩) ?_; clear hK K hsz hz; (try simp only [Act.put, qqA, qqB, qqC]); change HP _ _ _ _ _ _ (wv.alloc (.cells #[] 3)); generalize wv.heap.size = gi at *; generalize wv.alloc (.cells #[] 3) = wv at *)
            | (have hsz := hd.size; have hz := (Nx.refl wv).alloc (.cells #[] 136); (try replace ri := ri.nx hz); (try replace rI := rI.nx hz); (try replace rM := rM.nx hz); (try replace bS := bS.nx hz); replace hd := hd.trans hz; have rM := RowM.new wv (B := w4.heap.size) hsz; refine hK.out _ _ (by exact ⟨(hd.cell (p := ⟨b, off, none⟩) hb).trans k0, (hd.cell (p := ⟨b, off + 1, none⟩) hb).trans k1, (hd.cell (p := ⟨b, off + 2, none⟩) hb).trans k2, (hd.cell (p := ⟨b, off + 3, none⟩) hb).trans k3⟩) ?_; clear hK K hsz hz; (try simp only [Act.put, qqA, qqB, qqC]); change HP _ _ _ _ _ _ (wv.alloc (.cells #[] 136)); generalize wv.heap.size = gm at *; generalize wv.alloc (.cells #[] 136) = wv at *)
            | (have hsz := hd.size; have hz := (Nx.refl wv).alloc (.cells #[ii 0, ii 0, ii 0, ii 0, nsl, nsl] 26); have hgS := hd.size; (try replace ri := ri.nx hz); (try replace rI := rI.nx hz); (try replace rM := rM.nx hz); (try replace bS := bS.nx hz); replace hd := hd.trans hz; have bS := Box.new wv 26 #[ii 0, ii 0, ii 0, ii 0, nsl, nsl]; refine hK.out _ _ (by exact ⟨(hd.cell (p := ⟨b, off, none⟩) hb).trans k0, (hd.cell (p := ⟨b, off + 1, none⟩) hb).trans k1, (hd.cell (p := ⟨b, off + 2, none⟩) hb).trans k2, (hd.cell (p := ⟨b, off + 3, none⟩) hb).trans k3⟩) ?_; clear hK K hsz hz; (try simp only [Act.put, qqA, qqB, qqC]); change HP _ _ _ _ _ _ (wv.alloc (.cells #[ii 0, ii 0, ii 0, ii 0, nsl, nsl] 26)); generalize wv.heap.size = gS at *; generalize wv.alloc (.cells #[ii 0, ii 0, ii 0, ii 0, nsl, nsl] 26) = wv at *))))
     intro gi gS gm A5 c5 w5 hF
     obtain ⟨bS, rM, rI, hx5, hgS⟩ := hF
     obtain ⟨r0, r1, r2, r3, r4, r5⟩ := bS.d6
     have rf0 := bS.frozen 0
     have rf1 := bS.frozen 1
     have rf2 := bS.frozen 2
     have rf3 := bS.frozen 3
     have rf4 := bS.frozen 4
     have rf5 := bS.frozen 5
     have rlt := bS.lt
     show HP _ _ _ _ _ _ _
     refine hPc fun K hK => ?_
     go_simp
     refine hK.out _ _ (by exact ⟨((put6_nx hx5 hgS (ii n0) (ii n1) (ii n2) (ii n3) (.slice A5 xs.length c5) (.slice (some ⟨gm, 0, none⟩) 0 0)).cell (p := ⟨b, off, none⟩) hb).trans k0, ((put6_nx hx5 hgS (ii n0) (ii n1) (ii n2) (ii n3) (.slice A5 xs.length c5) (.slice (some ⟨gm, 0, none⟩) 0 0)).cell (p := ⟨b, off + 1, none⟩) hb).trans k1, ((put6_nx hx5 hgS (ii n0) (ii n1) (ii n2) (ii n3) (.slice A5 xs.length c5) (.slice (some ⟨gm, 0, none⟩) 0 0)).cell (p := ⟨b, off + 2, none⟩) hb).trans k2, ((put6_nx hx5 hgS (ii n0) (ii n1) (ii n2) (ii n3) (.slice A5 xs.length c5) (.slice (some ⟨gm, 0, none⟩) 0 0)).cell (p := ⟨b, off + 3, none⟩) hb).trans k3⟩) ?_
     clear hK K
     try simp only [Act.put, qqA, qqB, qqC]
     refine HP.done ?_
     clear r0 r1 r2 r3 r4 r5 rf0 rf1 rf2 rf3 rf4 rf5 rlt
     obtain ⟨A5b, c5b, he5, hc5b, hS5⟩ := rI.slc
     injection he5 with e5a _ e5b
     subst e5a e5b
     have hc5 := hc5b
     have bs := put6_box bS (ii n0) (ii n1) (ii n2) (ii n3) (.slice A5 xs.length c5) (.slice (some ⟨gm, 0, none⟩) 0 0)
     have hx6 := put6_nx hx5 hgS (ii n0) (ii n1) (ii n2) (ii n3) (.slice A5 xs.length c5) (.slice (some ⟨gm, 0, none⟩) 0 0)
     have hS6 := hS5.pt6t bS (by decide) (ii n0) (ii n1) (ii n2) (ii n3) (.slice A5 xs.length c5) (.slice (some ⟨gm, 0, none⟩) 0 0)
     have hM6 := rM.pt6t bS (by decide) (ii n0) (ii n1) (ii n2) (ii n3) (.slice A5 xs.length c5) (.slice (some ⟨gm, 0, none⟩) 0 0)
     change Exit.then _ _ _ _ (put6 w5 gS (ii n0) (ii n1) (ii n2) (ii n3) (.slice A5 xs.length c5) (.slice (some ⟨gm, 0, none⟩) 0 0))
     generalize (put6 w5 gS (ii n0) (ii n1) (ii n2) (ii n3) (.slice A5 xs.length c5) (.slice (some ⟨gm, 0, none⟩) 0 0)) = w6 at *
     clear bS rM rI hx5 hS5
     clear k0 k1 k2 k3 hi0' hi1' hi2' hi3' hm0 hm1 hm2 hm3
     have p16 := (hx6.cell (p := ⟨gp, 1, none⟩) hgp4).trans p14
     go_wp2_with fail
     refine (l00Cut_c sb 44 _ hlb).mono ?_
     rintro e w8 ⟨A9, c9, rfl, hW8, hnx8⟩
     have HO := qh (fun h => marksO_cut (s := sb) h)
     have HPt := qh (fun k => cutB_part (c := 44) (t := sb) k)
     have hl9 : (cutB 44 sb).length ≤ 65537 := by rw [cutB_len]; have := cutL_size 44 sb.data.toList; rw [← ba_size] at this; omega
     have hl1 : 1 ≤ (cutB 44 sb).length := by rw [cutB_len]; exact cutL_pos _ _
     rw [Hdb.out] at HO
     have HZe := qh (fun (h : sb.size = 0) => marksO_nil h)
     rw [Hdb.out] at HZe
     obtain ⟨ws, Hws⟩ : ∃ ws, Hid (cutB 44 sb = ws) := ⟨_, rfl⟩
     rw [Hws.out] at hW8 HO hl9 hl1 HPt ⊢
     have bs8 := bs.nx hnx8
     have hM8 := hM6.nx hnx8
     have hS8 := hS6.nx hnx8
     have hx8 := hx6.trans hnx8
     have hgW : w6.heap.size ≤ w8.heap.size := hnx8.size
     have hW8' := hW8.low (lo' := w4.heap.size) hx6.size
     clear bs hM6 hS6 hx6 hnx8 p16 hW8
     go_wp2
     go_loopw [11] (fun i wr => ∃ (k : Nat) (v : Value) (ms : List Mrk), k ≤ ws.length ∧ i = ii k ∧ Box wr gS 26 #[ii n0, ii n1, ii n2, ii n3, .slice A5 xs.length c5, v] ∧ RowM wr w4.heap.size v ms ∧ SlI wr w4.heap.size A5 xs ∧ Sl wr w4.heap.size A9 9 ws.length (wdAt ws) ∧ Hid (marksB (ws.take k) = some ms) ∧ Hid (sb.size = 0 → k = 0) ∧ Nx w4 wr) (fun i _ => ws.length - (intOf i).toNat)
     case atStart => exact ⟨0, _, [], Nat.zero_le _, rfl, bs8, hM8, hS8, hW8', qh rfl, qh (fun _ => rfl), hx8⟩
     case round =>
      obtain ⟨k, v, ms, hk, rfl, bg, rM, hS, hW, HM, HK, hxr⟩ := hrel
      clear bs8 hM8 hS8 hW8' hx8
      have p1r := (hxr.cell (p := ⟨gp, 1, none⟩) hgp4).trans p14
      by_cases hz : sb.size = 0
      · obtain rfl := HK.out hz
        have hlt0 : 0 < ws.length := by omega
        have hq : (sb.toList != []) = false := by
         rw [bne_eq_false_iff_eq, ByteArray.toList_eq]; exact List.eq_nil_of_length_eq_zero (by rw [← ba_size]; exact hz)
        have hq0 : (sb.toList == []) = true := by
         rw [beq_iff_eq, ByteArray.toList_eq]; exact List.eq_nil_of_length_eq_zero (by rw [← ba_size]; exact hz)
        have HMs : Hid (marksO lb = some ms) := qh (by rw [HZe.out hz]; exact HM.out)
        clear hz
        obtain ⟨A2, c2, rfl, _, hM⟩ := rM.slc
        have hfit := marksO_fit HLb.out HMs.out
        have hml := hfit.1
        have HAm := qh hfit.2
        have HU := qh (HPu.out.trans (partU_yes HNs.out hl4 HMs.out))
        have b6 := b4.nx hxr
        have hxw6 := hx4.trans hxr
        obtain ⟨y0, y1, y2, y3, y4, y5⟩ := bg.d6
        clear hfit
        go_wp2_with fail
        refine (specSuperOK_c n0 n1 n2 n3 A5 A2 c5 c2 _ xs ms _ hS.row hM.row nle (by have := HLen.out; omega) hml hc5 HAm.out).mono ?_
        rintro e w7 ⟨rfl, hnx7⟩
        have b7 := b6.nx hnx7
        have bs7 := bg.nx hnx7
        have hx7 := hxw6.trans hnx7
        have hS7 := hS.nx hnx7
        have hM7 := hM.nx hnx7
        clear y0 y1 y2 y3 y4 y5
        obtain ⟨y0, y1, y2, y3, y4, y5⟩ := bs7.d6
        cases hf : superB n0 n1 n2 n3 xs ms with
        | false =>
          have HF := qh (HU.out.trans (supOf_no (by rw [Hn0.out, Hn1.out, Hn2.out, Hn3.out, Hxs.out]; exact hf)))
          clear hf
          obtain ⟨u0, u1, u2, u3, u4, u5⟩ := b7.d6
          have f0 := b7.frozen 0
          have f1 := b7.frozen 1
          have f2 := b7.frozen 2
          have f3 := b7.frozen 3
          have f4 := b7.frozen 4
          have f5 := b7.frozen 5
          go_wp2
          have qx := (put6_box b7 (ii 0) (ii 0) (ii 0) (ii 0) (nsl) (nsl))
          have hnf := (put6_nx hx7 (Nat.le_refl w.heap.size) (ii 0) (ii 0) (ii 0) (ii 0) (nsl) (nsl))
          change bodyPost _ _ _ _ _ (put6 w7 w.heap.size (ii 0) (ii 0) (ii 0) (ii 0) (nsl) (nsl))
          change Box (put6 w7 w.heap.size (ii 0) (ii 0) (ii 0) (ii 0) (nsl) (nsl)) _ _ _ at qx
          generalize put6 w7 w.heap.size (ii 0) (ii 0) (ii 0) (ii 0) (nsl) (nsl) = Wf at *
          obtain ⟨g0, g1, g2, g3, g4, g5⟩ := qx.d6
          exact bodyPost_ret (v := .tuple #[.agg #[ii 0, ii 0, ii 0, ii 0, nsl, nsl], .bool false]) (by simp [results, Tryz.results129, go_sem, g0, g1, g2, g3, g4, g5]) rfl (RetSU.no HF.out hnf)
        | true =>
          have HF := qh (HU.out.trans (supOf_yes (by rw [Hn0.out, Hn1.out, Hn2.out, Hn3.out, Hxs.out]; exact hf)))
          rw [Hn0.out, Hn1.out, Hn2.out, Hn3.out, Hxs.out] at HF
          clear hf
          have hgl : w.heap.size < w4.heap.size := b4.lt
          obtain ⟨u0, u1, u2, u3, u4, u5⟩ := b7.d6
          have f0 := b7.frozen 0
          have f1 := b7.frozen 1
          have f2 := b7.frozen 2
          have f3 := b7.frozen 3
          have f4 := b7.frozen 4
          have f5 := b7.frozen 5
          go_wp2
          have qx := (put6_box b7 (ii n0) (ii n1) (ii n2) (ii n3) (.slice A5 xs.length c5) (.slice A2 ms.length c2))
          have hnf := (put6_nx hx7 (Nat.le_refl w.heap.size) (ii n0) (ii n1) (ii n2) (ii n3) (.slice A5 xs.length c5) (.slice A2 ms.length c2))
          have hsf := (hS7.pt6 hgl (ii n0) (ii n1) (ii n2) (ii n3) (.slice A5 xs.length c5) (.slice A2 ms.length c2))
          change Sl (put6 w7 w.heap.size (ii n0) (ii n1) (ii n2) (ii n3) (.slice A5 xs.length c5) (.slice A2 ms.length c2)) _ _ _ _ _ at hsf
          have hmf := (hM7.pt6 hgl (ii n0) (ii n1) (ii n2) (ii n3) (.slice A5 xs.length c5) (.slice A2 ms.length c2))
          change Sl (put6 w7 w.heap.size (ii n0) (ii n1) (ii n2) (ii n3) (.slice A5 xs.length c5) (.slice A2 ms.length c2)) _ _ _ _ _ at hmf
          change bodyPost _ _ _ _ _ (put6 w7 w.heap.size (ii n0) (ii n1) (ii n2) (ii n3) (.slice A5 xs.length c5) (.slice A2 ms.length c2))
          change Box (put6 w7 w.heap.size (ii n0) (ii n1) (ii n2) (ii n3) (.slice A5 xs.length c5) (.slice A2 ms.length c2)) _ _ _ at qx
          generalize put6 w7 w.heap.size (ii n0) (ii n1) (ii n2) (ii n3) (.slice A5 xs.length c5) (.slice A2 ms.length c2) = Wf at *
          obtain ⟨hmf0, hmf1, hmf2, hmf3, hmf4, hmf5⟩ := qx.d6
          exact bodyPost_ret (v := .tuple #[.agg #[ii n0, ii n1, ii n2, ii n3, .slice A5 xs.length c5, .slice A2 ms.length c2], .bool true]) (by simp [results, Tryz.results129, go_sem, hmf0, hmf1, hmf2, hmf3, hmf4, hmf5]) rfl (RetSU.yes HF.out hc5 (hsf.low (by omega)) (hmf.low (by omega)) hnf)
      · have hq : (sb.toList != []) = true := by
         rw [bne_iff_ne, ByteArray.toList_eq]; intro h; exact hz (by rw [ba_size, h]; rfl)
        have hq0 : (sb.toList == []) = false := by
         rw [beq_eq_false_iff_ne, ByteArray.toList_eq]; intro h; exact hz (by rw [ba_size, h]; rfl)
        have HZ := qh hz
        clear hz
        by_cases hlt : k < ws.length
        · obtain ⟨gx, rfl, hgx, hgx2, _, hc0⟩ := hW.box0 (by omega)
          have hc := hc0 k hlt
          clear hc0
          unfold wdAt at hc
          have hsz := HPt.out k
          have HNo := qh (fun h => (HO.out HZ.out).trans (marksB_no hlt h))
          have HYes := qh (fun m (h : wordB (ws.getD k ByteArray.empty) = some m) => marksB_succ hlt HM.out h)
          have hml : ms.length = k := by rw [marksB_len HM.out, List.length_take]; omega
          have Hml := qh hml
          obtain ⟨x, Hx⟩ : ∃ x, Hid (ws.getD k ByteArray.empty = x) := ⟨_, rfl⟩
          rw [Hx.out] at hc hsz HNo HYes
          clear hml
          go_wp2_with fail
          refine (l00Cut_c x 61 _ (by omega)).mono ?_
          rintro e w9 ⟨Aw, cw, rfl, hV, hnx9⟩
          have bg9 := bg.nx hnx9
          have rM9 := rM.nx hnx9
          have hS9 := hS.nx hnx9
          have hW9 := hW.nx hnx9
          have hx9 := hxr.trans hnx9
          have b9 := b4.nx hx9
          have hxw9 := hx4.trans hx9
          have hsg9 := hxr.size
          clear bg rM hS hW hxr hnx9 hc p1r
          by_cases h2 : (cutB 61 x).length = 2
          case neg =>
           have HF := qh (HPu.out.trans (partU_marks HNs.out (HNo.out (wordB_more h2))))
           have hd2w : (((cutB 61 x).length : Int) != 2) = true := by rw [bne_iff_ne]; omega
           clear h2 HNo HYes
           obtain ⟨u0, u1, u2, u3, u4, u5⟩ := b9.d6
           have f0 := b9.frozen 0
           have f1 := b9.frozen 1
           have f2 := b9.frozen 2
           have f3 := b9.frozen 3
           have f4 := b9.frozen 4
           have f5 := b9.frozen 5
           go_wp2
           have qx := (put6_box b9 (ii 0) (ii 0) (ii 0) (ii 0) (nsl) (nsl))
           have hnf := (put6_nx hxw9 (Nat.le_refl w.heap.size) (ii 0) (ii 0) (ii 0) (ii 0) (nsl) (nsl))
           change bodyPost _ _ _ _ _ (put6 w9 w.heap.size (ii 0) (ii 0) (ii 0) (ii 0) (nsl) (nsl))
           change Box (put6 w9 w.heap.size (ii 0) (ii 0) (ii 0) (ii 0) (nsl) (nsl)) _ _ _ at qx
           generalize put6 w9 w.heap.size (ii 0) (ii 0) (ii 0) (ii 0) (nsl) (nsl) = Wf at *
           obtain ⟨g0, g1, g2, g3, g4, g5⟩ := qx.d6
           exact bodyPost_ret (v := .tuple #[.agg #[ii 0, ii 0, ii 0, ii 0, nsl, nsl], .bool false]) (by simp [results, Tryz.results129, go_sem, g0, g1, g2, g3, g4, g5]) rfl (RetSU.no HF.out hnf)
          obtain ⟨qa', qb', hqab⟩ := cutL_of2 (c := 61) (s := x.data.toList) (by rw [← cutB_len]; exact h2)
          have HWd := qh (wordB_two hqab)
          have Hvs := qh (cutB_two hqab)
          have hqs := cutL_parts hqab
          obtain ⟨qa, Hqa⟩ : ∃ y, Hid (baL qa' = y) := ⟨_, rfl⟩
          obtain ⟨qb, Hqb⟩ : ∃ y, Hid (baL qb' = y) := ⟨_, rfl⟩
          have Hdq := qh (show qb.data.toList = qb' by rw [← Hqb.out]; rfl)
          have hqbs : qb.size ≤ 65536 := by rw [← Hqb.out, baL_size]; have := hqs.2; rw [← ba_size] at this; omega
          rw [Hqa.out] at HWd
          obtain ⟨us, Hus⟩ : ∃ y, Hid (cutB 61 x = y) := ⟨_, rfl⟩
          rw [Hus.out] at hV h2 Hvs ⊢
          have hd2w : ((us.length : Int) != 2) = false := by rw [bne_eq_false_iff_eq]; omega
          obtain ⟨gw, rfl, hgwl, hgw9, hBw9, hcu⟩ := hV.box0 (by omega)
          have u0 : w9.cell? ⟨gw, 0, none⟩ = some (.string qa) := by have := hcu 0 (by omega); unfold wdAt at this; rw [(getD_two Hvs.out).1, Hqa.out] at this; exact this
          have u1 : w9.cell? ⟨gw, 1, none⟩ = some (.string qb) := by have := hcu 1 (by omega); unfold wdAt at this; rw [(getD_two Hvs.out).2, Hqb.out] at this; exact this
          have hu0' : (0 : Int) < (us.length : Int) := by omega
          have hu1' : (1 : Int) < (us.length : Int) := by omega
          have hum0 : 0 < us.length := by omega
          have hum1 : 1 < us.length := by omega
          clear h2 hqab hqs hcu hV
          go_wp2_with fail
          refine (l04Number_c qb _ hqbs).mono ?_
          rintro e w10 ⟨qn, rfl, hqn, hnx10⟩
          rw [Hdq.out] at hqn ⊢
          have bg10 := bg9.nx hnx10
          have rM10 := rM9.nx hnx10
          have hS10 := hS9.nx hnx10
          have hW10 := hW9.nx hnx10
          have hx10 := hx9.trans hnx10
          have b10 := b4.nx hx10
          have hxwA := hx4.trans hx10
          have y0 := (hnx10.cell (p := ⟨gw, 0, none⟩) hgw9).trans u0
          have hgw : gw < w10.heap.size := Nat.lt_of_lt_of_le hgw9 hnx10.size
          obtain ⟨csw, hBx9⟩ := hBw9
          have hBx := hBx9.nx hnx10
          have hne : gw ≠ gS := hBx.ne_ty bg10 (by decide)
          cases hp : plainB qb' with
          | false =>
            have HF := qh (HPu.out.trans (partU_marks HNs.out (HNo.out (by rw [HWd.out, hp]; rfl))))
            clear hp HNo HYes hqn
            obtain ⟨u0, u1, u2, u3, u4, u5⟩ := b10.d6
            have f0 := b10.frozen 0
            have f1 := b10.frozen 1
            have f2 := b10.frozen 2
            have f3 := b10.frozen 3
            have f4 := b10.frozen 4
            have f5 := b10.frozen 5
            go_wp2
            have qx := (put6_box b10 (ii 0) (ii 0) (ii 0) (ii 0) (nsl) (nsl))
            have hnf := (put6_nx hxwA (Nat.le_refl w.heap.size) (ii 0) (ii 0) (ii 0) (ii 0) (nsl) (nsl))
            change bodyPost _ _ _ _ _ (put6 w10 w.heap.size (ii 0) (ii 0) (ii 0) (ii 0) (nsl) (nsl))
            change Box (put6 w10 w.heap.size (ii 0) (ii 0) (ii 0) (ii 0) (nsl) (nsl)) _ _ _ at qx
            generalize put6 w10 w.heap.size (ii 0) (ii 0) (ii 0) (ii 0) (nsl) (nsl) = Wf at *
            obtain ⟨g0, g1, g2, g3, g4, g5⟩ := qx.d6
            exact bodyPost_ret (v := .tuple #[.agg #[ii 0, ii 0, ii 0, ii 0, nsl, nsl], .bool false]) (by simp [results, Tryz.results129, go_sem, g0, g1, g2, g3, g4, g5]) rfl (RetSU.no HF.out hnf)
          | true =>
          have hqn' := hqn hp
          have HY := qh (HYes.out (qa, qn) (by rw [HWd.out, hp, hqn']; rfl))
          clear hp HNo HYes hqn hqn' u0 u1
          go_wp2_with fail
          refine wp_planA (.t 0 (.t 2 (.t 3 (.t 4 (.t 5 (.t 6 (.b 1 (.c 7 (.c 8 (.t 9 (.c 10 .e)))) 7 (.c 1 (.c 8 (.t 9 (.c 10 .e))))))))))) (fun w' => w'.cell? ⟨gw, 0, none⟩ = some (.string qa)) (by exact ((Nx.refl w10).drew.cell (p := ⟨gw, 0, none⟩) hgw).trans y0) ?_
          simp only [psOf, List.getD_cons_zero, List.getD_cons_succ]
          repeat ((first | refine HP.tk ?_ | refine HP.sk ?_); try simp only [Act.put, qqA, qqB, qqC])
          refine HP.both ?_ ?_
          · have hz := (Nx.refl w10).drew.alloc (.cells #[.string qa, ii qn] 136)
            have bm : Box (w10.drew.alloc (.cells #[.string qa, ii qn] 136)) w10.heap.size 136 #[.string qa, ii qn] := Box.new w10.drew _ _
            have bgz := bg10.nx hz
            have rMz := rM10.nx hz
            have hSz := hS10.nx hz
            have hWz := hW10.nx hz
            obtain ⟨_, _, _, _, _, l5⟩ := (bg10.nx (Nx.refl w10).drew).d6
            have l6 : (w10.alloc (.cells #[.string qa, ii qn] 136)).cell? ⟨gS, 5, none⟩ = some v := bgz.d6.2.2.2.2.2
            refine cSt fun K hK => ?_
            go_simp
            refine hK.out _ _ (by exact ((Nx.refl w10).drew.cell (p := ⟨gw, 0, none⟩) hgw).trans y0) ?_
            clear hK K
            try simp only [Act.put, qqA, qqB, qqC]
            refine hPc fun K hK => ?_
            go_simp
            refine hK.out _ _ (by exact (hz.cell (p := ⟨gw, 0, none⟩) hgw).trans y0) ?_
            clear hK K
            try simp only [Act.put, qqA, qqB, qqC]
            change HP _ _ _ _ _ _ (w10.drew.alloc (.cells #[.string qa, ii qn] 136))
            generalize w10.drew.alloc (.cells #[.string qa, ii qn] 136) = wz at *
            have hxz := hx10.trans hz
            refine hPc fun K hK => ?_
            refine wp_addM _ _ rfl w4.heap.size w10.heap.size v ms (qa, qn) rfl rfl rMz bm (by have := Hml.out; omega) hxz.size ?_
            intro A12 c12 w12 rM12 hG12
            have bg12 := hG12.box _ _ _ (by decide) bgz
            have hx12 := hG12.nx w4 hxz nle
            have hS12 := hSz.grew hG12 (by decide)
            have hW12 := hWz.grew hG12 (by decide)
            have y12 : w12.cell? ⟨gw, 0, none⟩ = some (.string qa) := ((hG12.box _ _ _ (by decide) (hBx.nx hz)).cell 0).trans ((hBx.cell 0).symm.trans y0)
            refine hK.out _ _ (by exact y12) ?_
            clear hK K
            try simp only [Act.put, qqA, qqB, qqC]
            repeat ((first | refine HP.tk ?_ | refine HP.sk ?_); try simp only [Act.put, qqA, qqB, qqC])
            obtain ⟨_, _, _, _, _, d5⟩ := bg12.d6
            have f5 := bg12.frozen 5
            refine hPc fun K hK => ?_
            go_simp
            refine hK.out _ _ (by exact ((Below.cell_far gw gS w12 _ hne).trans y12)) ?_
            clear hK K
            try simp only [Act.put, qqA, qqB, qqC]
            refine HP.done ?_
            have bg13 := bg12.set 5 (.slice A12 (ms.length + 1) c12)
            have rM13 := rM12.far (p := ⟨gS, 5, none⟩) bg12 (by decide) (.slice A12 (ms.length + 1) c12)
            have hS13 := hS12.far_ty (p := ⟨gS, 5, none⟩) bg12 (by decide) (.slice A12 (ms.length + 1) c12)
            have hW13 := hW12.far_ty (p := ⟨gS, 5, none⟩) bg12 (by decide) (.slice A12 (ms.length + 1) c12)
            have hx13 := hx12.setCell (p := ⟨gS, 5, none⟩) hgS (.slice A12 (ms.length + 1) c12)
            simp only [List.setIfInBounds_toArray, List.set_cons_zero, List.set_cons_succ] at bg13
            generalize w12.setCell ⟨gS, 5, none⟩ (.slice A12 (ms.length + 1) c12) = w13 at *
            clear d5 f5 l5 l6 y12
            go_wp2
            go_roundw
            case rel =>
             refine ⟨k + 1, _, ms ++ [(qa, qn)], by omega, by go_num, bg13, rM13, hS13, hW13, HY, qh (fun h => absurd h HZ.out), hx13⟩
            case measure => simp [intOf]; omega
          · have hz := (Nx.refl w10).drew.alloc (.cells #[.string qa, ii qn] 136)
            have bm : Box (w10.drew.alloc (.cells #[.string qa, ii qn] 136)) w10.heap.size 136 #[.string qa, ii qn] := Box.new w10.drew _ _
            have bgz := bg10.nx hz
            have rMz := rM10.nx hz
            have hSz := hS10.nx hz
            have hWz := hW10.nx hz
            obtain ⟨_, _, _, _, _, l5⟩ := (bg10.nx (Nx.refl w10).drew).d6
            have l6 : (w10.alloc (.cells #[.string qa, ii qn] 136)).cell? ⟨gS, 5, none⟩ = some v := bgz.d6.2.2.2.2.2
            refine cSt fun K hK => ?_
            go_simp
            refine hK.out _ _ (by exact (hz.cell (p := ⟨gw, 0, none⟩) hgw).trans y0) ?_
            clear hK K
            try simp only [Act.put, qqA, qqB, qqC]
            refine hPc fun K hK => ?_
            go_simp
            refine hK.out _ _ (by exact (hz.cell (p := ⟨gw, 0, none⟩) hgw).trans y0) ?_
            clear hK K
            try simp only [Act.put, qqA, qqB, qqC]
            change HP _ _ _ _ _ _ (w10.drew.alloc (.cells #[.string qa, ii qn] 136))
            generalize w10.drew.alloc (.cells #[.string qa, ii qn] 136) = wz at *
            have hxz := hx10.trans hz
            refine hPc fun K hK => ?_
            refine wp_addM _ _ rfl w4.heap.size w10.heap.size v ms (qa, qn) rfl rfl rMz bm (by have := Hml.out; omega) hxz.size ?_
            intro A12 c12 w12 rM12 hG12
            have bg12 := hG12.box _ _ _ (by decide) bgz
            have hx12 := hG12.nx w4 hxz nle
            have hS12 := hSz.grew hG12 (by decide)
            have hW12 := hWz.grew hG12 (by decide)
            have y12 : w12.cell? ⟨gw, 0, none⟩ = some (.string qa) := ((hG12.box _ _ _ (by decide) (hBx.nx hz)).cell 0).trans ((hBx.cell 0).symm.trans y0)
            refine hK.out _ _ (by exact y12) ?_
            clear hK K
            try simp only [Act.put, qqA, qqB, qqC]
            repeat ((first | refine HP.tk ?_ | refine HP.sk ?_); try simp only [Act.put, qqA, qqB, qqC])
            obtain ⟨_, _, _, _, _, d5⟩ := bg12.d6
            have f5 := bg12.frozen 5
            refine hPc fun K hK => ?_
            go_simp
            refine hK.out _ _ (by exact ((Below.cell_far gw gS w12 _ hne).trans y12)) ?_
            clear hK K
            try simp only [Act.put, qqA, qqB, qqC]
            refine HP.done ?_
            have bg13 := bg12.set 5 (.slice A12 (ms.length + 1) c12)
            have rM13 := rM12.far (p := ⟨gS, 5, none⟩) bg12 (by decide) (.slice A12 (ms.length + 1) c12)
            have hS13 := hS12.far_ty (p := ⟨gS, 5, none⟩) bg12 (by decide) (.slice A12 (ms.length + 1) c12)
            have hW13 := hW12.far_ty (p := ⟨gS, 5, none⟩) bg12 (by decide) (.slice A12 (ms.length + 1) c12)
            have hx13 := hx12.setCell (p := ⟨gS, 5, none⟩) hgS (.slice A12 (ms.length + 1) c12)
            simp only [List.setIfInBounds_toArray, List.set_cons_zero, List.set_cons_succ] at bg13
            generalize w12.setCell ⟨gS, 5, none⟩ (.slice A12 (ms.length + 1) c12) = w13 at *
            clear d5 f5 l5 l6 y12
            go_wp2
            go_roundw
            case rel =>
             refine ⟨k + 1, _, ms ++ [(qa, qn)], by omega, by go_num, bg13, rM13, hS13, hW13, HY, qh (fun h => absurd h HZ.out), hx13⟩
            case measure => simp [intOf]; omega
        · obtain rfl : k = ws.length := by omega
          have HMs : Hid (marksO lb = some ms) := qh (by rw [HO.out HZ.out, ← HM.out, List.take_length])
          obtain ⟨A2, c2, rfl, _, hM⟩ := rM.slc
          have hfit := marksO_fit HLb.out HMs.out
          have hml := hfit.1
          have HAm := qh hfit.2
          have HU := qh (HPu.out.trans (partU_yes HNs.out hl4 HMs.out))
          have b6 := b4.nx hxr
          have hxw6 := hx4.trans hxr
          obtain ⟨y0, y1, y2, y3, y4, y5⟩ := bg.d6
          clear hfit
          go_wp2_with fail
          refine (specSuperOK_c n0 n1 n2 n3 A5 A2 c5 c2 _ xs ms _ hS.row hM.row nle (by have := HLen.out; omega) hml hc5 HAm.out).mono ?_
          rintro e w7 ⟨rfl, hnx7⟩
          have b7 := b6.nx hnx7
          have bs7 := bg.nx hnx7
          have hx7 := hxw6.trans hnx7
          have hS7 := hS.nx hnx7
          have hM7 := hM.nx hnx7
          clear y0 y1 y2 y3 y4 y5
          obtain ⟨y0, y1, y2, y3, y4, y5⟩ := bs7.d6
          cases hf : superB n0 n1 n2 n3 xs ms with
          | false =>
            have HF := qh (HU.out.trans (supOf_no (by rw [Hn0.out, Hn1.out, Hn2.out, Hn3.out, Hxs.out]; exact hf)))
            clear hf
            obtain ⟨u0, u1, u2, u3, u4, u5⟩ := b7.d6
            have f0 := b7.frozen 0
            have f1 := b7.frozen 1
            have f2 := b7.frozen 2
            have f3 := b7.frozen 3
            have f4 := b7.frozen 4
            have f5 := b7.frozen 5
            go_wp2
            have qx := (put6_box b7 (ii 0) (ii 0) (ii 0) (ii 0) (nsl) (nsl))
            have hnf := (put6_nx hx7 (Nat.le_refl w.heap.size) (ii 0) (ii 0) (ii 0) (ii 0) (nsl) (nsl))
            change bodyPost _ _ _ _ _ (put6 w7 w.heap.size (ii 0) (ii 0) (ii 0) (ii 0) (nsl) (nsl))
            change Box (put6 w7 w.heap.size (ii 0) (ii 0) (ii 0) (ii 0) (nsl) (nsl)) _ _ _ at qx
            generalize put6 w7 w.heap.size (ii 0) (ii 0) (ii 0) (ii 0) (nsl) (nsl) = Wf at *
            obtain ⟨g0, g1, g2, g3, g4, g5⟩ := qx.d6
            exact bodyPost_ret (v := .tuple #[.agg #[ii 0, ii 0, ii 0, ii 0, nsl, nsl], .bool false]) (by simp [results, Tryz.results129, go_sem, g0, g1, g2, g3, g4, g5]) rfl (RetSU.no HF.out hnf)
          | true =>
            have HF := qh (HU.out.trans (supOf_yes (by rw [Hn0.out, Hn1.out, Hn2.out, Hn3.out, Hxs.out]; exact hf)))
            rw [Hn0.out, Hn1.out, Hn2.out, Hn3.out, Hxs.out] at HF
            clear hf
            have hgl : w.heap.size < w4.heap.size := b4.lt
            obtain ⟨u0, u1, u2, u3, u4, u5⟩ := b7.d6
            have f0 := b7.frozen 0
            have f1 := b7.frozen 1
            have f2 := b7.frozen 2
            have f3 := b7.frozen 3
            have f4 := b7.frozen 4
            have f5 := b7.frozen 5
            go_wp2
            have qx := (put6_box b7 (ii n0) (ii n1) (ii n2) (ii n3) (.slice A5 xs.length c5) (.slice A2 ms.length c2))
            have hnf := (put6_nx hx7 (Nat.le_refl w.heap.size) (ii n0) (ii n1) (ii n2) (ii n3) (.slice A5 xs.length c5) (.slice A2 ms.length c2))
            have hsf := (hS7.pt6 hgl (ii n0) (ii n1) (ii n2) (ii n3) (.slice A5 xs.length c5) (.slice A2 ms.length c2))
            change Sl (put6 w7 w.heap.size (ii n0) (ii n1) (ii n2) (ii n3) (.slice A5 xs.length c5) (.slice A2 ms.length c2)) _ _ _ _ _ at hsf
            have hmf := (hM7.pt6 hgl (ii n0) (ii n1) (ii n2) (ii n3) (.slice A5 xs.length c5) (.slice A2 ms.length c2))
            change Sl (put6 w7 w.heap.size (ii n0) (ii n1) (ii n2) (ii n3) (.slice A5 xs.length c5) (.slice A2 ms.length c2)) _ _ _ _ _ at hmf
            change bodyPost _ _ _ _ _ (put6 w7 w.heap.size (ii n0) (ii n1) (ii n2) (ii n3) (.slice A5 xs.length c5) (.slice A2 ms.length c2))
            change Box (put6 w7 w.heap.size (ii n0) (ii n1) (ii n2) (ii n3) (.slice A5 xs.length c5) (.slice A2 ms.length c2)) _ _ _ at qx
            generalize put6 w7 w.heap.size (ii n0) (ii n1) (ii n2) (ii n3) (.slice A5 xs.length c5) (.slice A2 ms.length c2) = Wf at *
            obtain ⟨hmf0, hmf1, hmf2, hmf3, hmf4, hmf5⟩ := qx.d6
            exact bodyPost_ret (v := .tuple #[.agg #[ii n0, ii n1, ii n2, ii n3, .slice A5 xs.length c5, .slice A2 ms.length c2], .bool true]) (by simp [results, Tryz.results129, go_sem, hmf0, hmf1, hmf2, hmf3, hmf4, hmf5]) rfl (RetSU.yes HF.out hc5 (hsf.low (by omega)) (hmf.low (by omega)) hnf)


theorem textCode_nil (w : World) : Calls Tryz.prog 49 #[.nilIface] w fun e w' => e = .returned (ii 0) ∧ w = w' := by
 go_enter Tryz.func49, Tryz.ntmps49
 go_wp2
 go_ret
 exact ⟨rfl, rfl⟩
theorem textCode_form (w : World) (a0 a1 : Addr) (hE : Er w a0 a1) : Calls Tryz.prog 49 #[.iface 290 (.pointer (some a0))] w fun e w' => e = .returned (ii 3) ∧ w = w' := by
 obtain ⟨_, c1, hne, ⟨ca, ta, h0⟩, cb, tb, h1⟩ := hE
 have HE := qh (And.intro hne (And.intro h0 h1))
 clear hne h0 h1
 go_enter Tryz.func49, Tryz.ntmps49
 go_wp2_with fail
 refine (is_other a0 a1 ca cb ta tb _ HE.out.1 HE.out.2.1 HE.out.2.2).mono ?_
 rintro e w' ⟨rfl, rfl⟩
 go_wp2
 go_ret
 exact ⟨rfl, rfl⟩
theorem textCode_long (w : World) (a0 a1 : Addr) (hE : Er w a0 a1) : Calls Tryz.prog 49 #[.iface 290 (.pointer (some a1))] w fun e w' => e = .returned (ii 2) ∧ w = w' := by
 obtain ⟨_, c1, _⟩ := hE
 go_enter Tryz.func49, Tryz.ntmps49
 go_wp2_with fail
 refine (is_same a1 _).mono ?_
 rintro e w' ⟨rfl, rfl⟩
 go_wp2
 go_ret
 exact ⟨rfl, rfl⟩
def Strs (w : World) (B : Nat) (A : Option Addr) (n : Nat) (ss : List BA) : Prop :=
 ss.length = n ∧ Row w B A n (fun i => .string (ss.getD i ByteArray.empty))
def Wrs (w : World) (B : Nat) (A : Option Addr) (n : Nat) (ws : List (Int × BA)) : Prop :=
 ws.length = n ∧ Row w B A (n * 2) (fun i => if i % 2 = 0 then ii (ws.getD (i / 2) (0, ByteArray.empty)).1 else .string (ws.getD (i / 2) (0, ByteArray.empty)).2)
theorem Strs.below {w w' : World} {B B' n : Nat} {A : Option Addr} {ss : List BA} (h : Strs w B A n ss) (hb : Below B' w w') (hB : B ≤ B') : Strs w' B A n ss := ⟨h.1, h.2.below hb hB⟩
theorem Strs.more {w : World} {B B' n : Nat} {A : Option Addr} {ss : List BA} (h : Strs w B A n ss) (hB : B ≤ B') : Strs w B' A n ss := ⟨h.1, h.2.more hB⟩
theorem Wrs.below {w w' : World} {B B' n : Nat} {A : Option Addr} {ws : List (Int × BA)} (h : Wrs w B A n ws) (hb : Below B' w w') (hB : B ≤ B') : Wrs w' B A n ws := ⟨h.1, h.2.below hb hB⟩
theorem Wrs.more {w : World} {B B' n : Nat} {A : Option Addr} {ws : List (Int × BA)} (h : Wrs w B A n ws) (hB : B ≤ B') : Wrs w B' A n ws := ⟨h.1, h.2.more hB⟩
theorem Strs.at_ {w : World} {B n k : Nat} {A : Option Addr} {ss : List BA} (h : Strs w B A n ss) (hk : k < n) :
 ∃ b off, A = some ⟨b, off, none⟩ ∧ b < B ∧ w.cell? ⟨b, off + k, none⟩ = some (.string (ss.getD k ByteArray.empty)) := by
 obtain ⟨b, off, e, hb, hc⟩ := h.2 (by omega)
 exact ⟨b, off, e, hb, hc k hk⟩
theorem Wrs.at_ {w : World} {B n k : Nat} {A : Option Addr} {ws : List (Int × BA)} (h : Wrs w B A n ws) (hk : k < n) :
 ∃ b off, A = some ⟨b, off, none⟩ ∧ b < B ∧ w.cell? ⟨b, off + k * 2, none⟩ = some (ii (ws.getD k (0, ByteArray.empty)).1) ∧ w.cell? ⟨b, off + k * 2 + 1, none⟩ = some (.string (ws.getD k (0, ByteArray.empty)).2) := by
 obtain ⟨b, off, e, hb, hc⟩ := h.2 (by omega)
 have h0 := hc (k * 2) (by omega)
 have h1 := hc (k * 2 + 1) (by omega)
 have e1 : (k * 2) % 2 = 0 := by omega
 have e2 : ¬ (k * 2 + 1) % 2 = 0 := by omega
 have e3 : (k * 2) / 2 = k := by omega
 have e4 : (k * 2 + 1) / 2 = k := by omega
 simp only [e1, e3, if_true] at h0
 simp only [e2, e4, if_false] at h1
 exact ⟨b, off, e, hb, h0, h1⟩
def strAt (ss : List BA) (i : Nat) : Value := .string (ss.getD i ByteArray.empty)
def wrAt (ws : List (Int × BA)) (i : Nat) : Value := if i % 2 = 0 then ii (ws.getD (i / 2) (0, ByteArray.empty)).1 else .string (ws.getD (i / 2) (0, ByteArray.empty)).2
theorem wrAt_even (ws : List (Int × BA)) (k : Nat) : wrAt ws (k * 2) = ii (ws.getD k (0, ByteArray.empty)).1 := by
 unfold wrAt; rw [if_pos (by omega), show k * 2 / 2 = k by omega]
theorem wrAt_odd (ws : List (Int × BA)) (k : Nat) : wrAt ws (k * 2 + 1) = .string (ws.getD k (0, ByteArray.empty)).2 := by
 unfold wrAt; rw [if_neg (by omega), show (k * 2 + 1) / 2 = k by omega]
def OwnS (w : World) (g : Nat) (ss : List BA) : Prop := Own w g 9 ss.length (strAt ss)
def OwnW (w : World) (g : Nat) (ws : List (Int × BA)) : Prop := Own w g 102 (ws.length * 2) (wrAt ws)
def SlS (w : World) (lo : Nat) (A : Option Addr) (n : Nat) (ss : List BA) : Prop := ss.length = n ∧ (0 < n → ∃ g, A = some ⟨g, 0, none⟩ ∧ lo ≤ g ∧ OwnS w g ss)
def SlW (w : World) (lo : Nat) (A : Option Addr) (n : Nat) (ws : List (Int × BA)) : Prop := ws.length = n ∧ (0 < n → ∃ g, A = some ⟨g, 0, none⟩ ∧ lo ≤ g ∧ OwnW w g ws)
theorem SlS.nil (w : World) (lo : Nat) : SlS w lo none 0 [] := ⟨rfl, fun h => absurd h (by omega)⟩
theorem SlW.nil (w : World) (lo : Nat) : SlW w lo none 0 [] := ⟨rfl, fun h => absurd h (by omega)⟩
theorem SlS.nx {w w' : World} {lo n : Nat} {A : Option Addr} {ss : List BA} (h : SlS w lo A n ss) (hb : Nx w w') : SlS w' lo A n ss :=
 ⟨h.1, fun hn => by obtain ⟨g, e, hl, ho⟩ := h.2 hn; exact ⟨g, e, hl, Own.nx ho hb⟩⟩
theorem SlW.nx {w w' : World} {lo n : Nat} {A : Option Addr} {ws : List (Int × BA)} (h : SlW w lo A n ws) (hb : Nx w w') : SlW w' lo A n ws :=
 ⟨h.1, fun hn => by obtain ⟨g, e, hl, ho⟩ := h.2 hn; exact ⟨g, e, hl, Own.nx ho hb⟩⟩
theorem SlS.low {w : World} {lo lo' n : Nat} {A : Option Addr} {ss : List BA} (h : SlS w lo A n ss) (hl : lo' ≤ lo) : SlS w lo' A n ss :=
 ⟨h.1, fun hn => by obtain ⟨g, e, hl2, ho⟩ := h.2 hn; exact ⟨g, e, ntr hl hl2, ho⟩⟩
theorem SlW.low {w : World} {lo lo' n : Nat} {A : Option Addr} {ws : List (Int × BA)} (h : SlW w lo A n ws) (hl : lo' ≤ lo) : SlW w lo' A n ws :=
 ⟨h.1, fun hn => by obtain ⟨g, e, hl2, ho⟩ := h.2 hn; exact ⟨g, e, ntr hl hl2, ho⟩⟩
theorem SlS.strs {w : World} {lo n : Nat} {A : Option Addr} {ss : List BA} (h : SlS w lo A n ss) : Strs w w.heap.size A n ss :=
 ⟨h.1, fun hn => by
  obtain ⟨g, e, hl, ho⟩ := h.2 hn
  subst e
  have := Own.row ho (Own.lt ho)
  rw [h.1] at this
  exact this hn⟩
theorem SlW.wrs {w : World} {lo n : Nat} {A : Option Addr} {ws : List (Int × BA)} (h : SlW w lo A n ws) : Wrs w w.heap.size A n ws :=
 ⟨h.1, fun hn => by
  obtain ⟨g, e, hl, ho⟩ := h.2 (by omega)
  subst e
  have := Own.row ho (Own.lt ho)
  rw [h.1] at this
  exact this hn⟩
def SrS (w : World) (lo hi : Nat) (A : Option Addr) (n : Nat) (ss : List BA) : Prop := ss.length = n ∧ (0 < n → ∃ g, A = some ⟨g, 0, none⟩ ∧ lo ≤ g ∧ g < hi ∧ OwnS w g ss)
def SrW (w : World) (lo hi : Nat) (A : Option Addr) (n : Nat) (ws : List (Int × BA)) : Prop := ws.length = n ∧ (0 < n → ∃ g, A = some ⟨g, 0, none⟩ ∧ lo ≤ g ∧ g < hi ∧ OwnW w g ws)
theorem SlS.sr {w : World} {lo n : Nat} {A : Option Addr} {ss : List BA} (h : SlS w lo A n ss) : SrS w lo w.heap.size A n ss :=
 ⟨h.1, fun hn => by obtain ⟨g, e, hl, ho⟩ := h.2 hn; exact ⟨g, e, hl, Own.lt ho, ho⟩⟩
theorem SlW.sr {w : World} {lo n : Nat} {A : Option Addr} {ws : List (Int × BA)} (h : SlW w lo A n ws) : SrW w lo w.heap.size A n ws :=
 ⟨h.1, fun hn => by obtain ⟨g, e, hl, ho⟩ := h.2 hn; exact ⟨g, e, hl, Own.lt ho, ho⟩⟩
theorem SrS.sl {w : World} {lo hi n : Nat} {A : Option Addr} {ss : List BA} (h : SrS w lo hi A n ss) : SlS w lo A n ss :=
 ⟨h.1, fun hn => by obtain ⟨g, e, hl, _, ho⟩ := h.2 hn; exact ⟨g, e, hl, ho⟩⟩
theorem SrW.sl {w : World} {lo hi n : Nat} {A : Option Addr} {ws : List (Int × BA)} (h : SrW w lo hi A n ws) : SlW w lo A n ws :=
 ⟨h.1, fun hn => by obtain ⟨g, e, hl, _, ho⟩ := h.2 hn; exact ⟨g, e, hl, ho⟩⟩
theorem SrS.rg {w w' : World} {lo hi a b n : Nat} {A : Option Addr} {ss : List BA} (h : SrS w lo hi A n ss) (hb : Rg a b w w') (hd : hi ≤ a ∨ b ≤ lo) : SrS w' lo hi A n ss :=
 ⟨h.1, fun hn => by obtain ⟨g, e, hl, hh, ho⟩ := h.2 hn; exact ⟨g, e, hl, hh, Own.rg ho hb (by omega)⟩⟩
theorem SrW.rg {w w' : World} {lo hi a b n : Nat} {A : Option Addr} {ws : List (Int × BA)} (h : SrW w lo hi A n ws) (hb : Rg a b w w') (hd : hi ≤ a ∨ b ≤ lo) : SrW w' lo hi A n ws :=
 ⟨h.1, fun hn => by obtain ⟨g, e, hl, hh, ho⟩ := h.2 hn; exact ⟨g, e, hl, hh, Own.rg ho hb (by omega)⟩⟩
theorem SrW.ty {w w' : World} {lo hi n : Nat} {A : Option Addr} {ws : List (Int × BA)} (h : SrW w lo hi A n ws) (hb : TyK 9 w w') : SrW w' lo hi A n ws :=
 ⟨h.1, fun hn => by obtain ⟨g, e, hl, hh, ho⟩ := h.2 hn; exact ⟨g, e, hl, hh, hb _ _ _ _ (by decide) ho⟩⟩
theorem SrS.ty {w w' : World} {lo hi n : Nat} {A : Option Addr} {ss : List BA} (h : SrS w lo hi A n ss) (hb : TyK 102 w w') : SrS w' lo hi A n ss :=
 ⟨h.1, fun hn => by obtain ⟨g, e, hl, hh, ho⟩ := h.2 hn; exact ⟨g, e, hl, hh, hb _ _ _ _ (by decide) ho⟩⟩
theorem SrS.nx {w w' : World} {lo hi n : Nat} {A : Option Addr} {ss : List BA} (h : SrS w lo hi A n ss) (hb : Nx w w') : SrS w' lo hi A n ss :=
 ⟨h.1, fun hn => by obtain ⟨g, e, hl, hh, ho⟩ := h.2 hn; exact ⟨g, e, hl, hh, Own.nx ho hb⟩⟩
theorem SrW.nx {w w' : World} {lo hi n : Nat} {A : Option Addr} {ws : List (Int × BA)} (h : SrW w lo hi A n ws) (hb : Nx w w') : SrW w' lo hi A n ws :=
 ⟨h.1, fun hn => by obtain ⟨g, e, hl, hh, ho⟩ := h.2 hn; exact ⟨g, e, hl, hh, Own.nx ho hb⟩⟩
def RetS (w : World) (ss : List BA) (e : Ending) (w' : World) : Prop := ∃ (A : Option Addr) (n c : Nat), e = .returned (.slice A n c) ∧ SlS w' w.heap.size A n ss ∧ Nx w w'
def RetW (w : World) (ws : List (Int × BA)) (e : Ending) (w' : World) : Prop := ∃ (A : Option Addr) (n c : Nat), e = .returned (.slice A n c) ∧ SlW w' w.heap.size A n ws ∧ Nx w w'
theorem RetS.mk_own {w w' : World} {g n c : Nat} {ss : List BA} (hn : ss.length = n) (hg : w.heap.size ≤ g) (h : OwnS w' g ss) (hb : Nx w w') : RetS w ss (.returned (.slice (some ⟨g, 0, none⟩) n c)) w' :=
 ⟨_, n, c, rfl, ⟨hn, fun _ => ⟨g, rfl, hg, h⟩⟩, hb⟩
theorem RetW.mk_own {w w' : World} {g n c : Nat} {ws : List (Int × BA)} (hn : ws.length = n) (hg : w.heap.size ≤ g) (h : OwnW w' g ws) (hb : Nx w w') : RetW w ws (.returned (.slice (some ⟨g, 0, none⟩) n c)) w' :=
 ⟨_, n, c, rfl, ⟨hn, fun _ => ⟨g, rfl, hg, h⟩⟩, hb⟩
theorem SlS.far {w : World} {lo n : Nat} {A : Option Addr} {ss : List BA} (h : SlS w lo A n ss) {p : Addr} (hp : p.block < lo) (v : Value) : SlS (w.setCell p v) lo A n ss :=
 ⟨h.1, fun hn => by obtain ⟨g, e, hl, ho⟩ := h.2 hn; exact ⟨g, e, hl, Own.far ho (by omega) v⟩⟩
theorem SlW.far {w : World} {lo n : Nat} {A : Option Addr} {ws : List (Int × BA)} (h : SlW w lo A n ws) {p : Addr} (hp : p.block < lo) (v : Value) : SlW (w.setCell p v) lo A n ws :=
 ⟨h.1, fun hn => by obtain ⟨g, e, hl, ho⟩ := h.2 hn; exact ⟨g, e, hl, Own.far ho (by omega) v⟩⟩
def RetDisk (w : World) (ss : List BA) (ws : List (Int × BA)) (e : Ending) (w' : World) : Prop :=
 ∃ (A : Option Addr) (n c : Nat) (A2 : Option Addr) (n2 c2 : Nat), e = .returned (.agg #[.slice A n c, .slice A2 n2 c2]) ∧ SlS w' w.heap.size A n ss ∧ SlW w' w.heap.size A2 n2 ws ∧ Nx w w'
def RetDiskCode (w : World) (ss : List BA) (ws : List (Int × BA)) (code : Int) (e : Ending) (w' : World) : Prop :=
 ∃ (A : Option Addr) (n c : Nat) (A2 : Option Addr) (n2 c2 : Nat), e = .returned (.tuple #[.agg #[.slice A n c, .slice A2 n2 c2], ii code]) ∧ SlS w' w.heap.size A n ss ∧ SlW w' w.heap.size A2 n2 ws ∧ Nx w w'
theorem fin_box {w u : World} {gr lo lo2 n3 n4 : Nat} {A3 A4 : Option Addr} {v0 v1 : Value} {t : TypeId} {ss : List BA} {ws : List (Int × BA)} (c3 c4 : Nat) (hb : Box u gr t #[v0, v1]) (hS : SlS u lo A3 n3 ss) (hW : SlW u lo2 A4 n4 ws)
 (hlo : gr < lo) (hlo2 : gr < lo2) (hx : Nx w u) (hg : w.heap.size ≤ gr) :
 ((u.setCell ⟨gr, 0, none⟩ (.slice A3 n3 c3)).setCell ⟨gr, 1, none⟩ (.slice A4 n4 c4)).cell? ⟨gr, 0, none⟩ = some (.slice A3 n3 c3) ∧
 ((u.setCell ⟨gr, 0, none⟩ (.slice A3 n3 c3)).setCell ⟨gr, 1, none⟩ (.slice A4 n4 c4)).cell? ⟨gr, 1, none⟩ = some (.slice A4 n4 c4) ∧
 SlS ((u.setCell ⟨gr, 0, none⟩ (.slice A3 n3 c3)).setCell ⟨gr, 1, none⟩ (.slice A4 n4 c4)) w.heap.size A3 n3 ss ∧
 SlW ((u.setCell ⟨gr, 0, none⟩ (.slice A3 n3 c3)).setCell ⟨gr, 1, none⟩ (.slice A4 n4 c4)) w.heap.size A4 n4 ws ∧
 Nx w ((u.setCell ⟨gr, 0, none⟩ (.slice A3 n3 c3)).setCell ⟨gr, 1, none⟩ (.slice A4 n4 c4)) := by
 have q := (hb.set0 (.slice A3 n3 c3)).set1 (.slice A4 n4 c4)
 exact ⟨q.c0, q.c1, ((hS.far (p := ⟨gr, 0, none⟩) hlo _).far (p := ⟨gr, 1, none⟩) hlo _).low (by omega), ((hW.far (p := ⟨gr, 0, none⟩) hlo2 _).far (p := ⟨gr, 1, none⟩) hlo2 _).low (by omega), (hx.setCell (p := ⟨gr, 0, none⟩) hg _).setCell (p := ⟨gr, 1, none⟩) hg _⟩
def Dk (w : World) (lo hi : Nat) (A : Option Addr) (n c : Nat) (A2 : Option Addr) (n2 c2 : Nat) (ss : List BA) (ws : List (Int × BA)) : Prop :=
 SrS w lo hi A n ss ∧ SrW w lo hi A2 n2 ws ∧ Box w hi 35 #[.slice A n c, .slice A2 n2 c2]
section
variable {w w' : World} {lo hi : Nat} {A : Option Addr} {n c : Nat} {A2 : Option Addr} {n2 c2 : Nat} {ss : List BA} {ws : List (Int × BA)}
theorem Dk.new (hS : SlS w lo A n ss) (hW : SlW w lo A2 n2 ws) : Dk (w.alloc (.cells #[.slice A n c, .slice A2 n2 c2] 35)) lo w.heap.size A n c A2 n2 c2 ss ws :=
 ⟨hS.sr.nx ((Nx.refl w).alloc _), hW.sr.nx ((Nx.refl w).alloc _), Box.new w _ _⟩
theorem Dk.nx (h : Dk w lo hi A n c A2 n2 c2 ss ws) (hb : Nx w w') : Dk w' lo hi A n c A2 n2 c2 ss ws := ⟨h.1.nx hb, h.2.1.nx hb, h.2.2.nx hb⟩
theorem Dk.rg {a b : Nat} (h : Dk w lo hi A n c A2 n2 c2 ss ws) (hb : Rg a b w w') (hd : hi < a ∨ b ≤ lo) (hlo : lo ≤ hi) : Dk w' lo hi A n c A2 n2 c2 ss ws :=
 ⟨h.1.rg hb (by omega), h.2.1.rg hb (by omega), h.2.2.rg hb (by omega)⟩
theorem Dk.c0 (h : Dk w lo hi A n c A2 n2 c2 ss ws) : w.cell? ⟨hi, 0, none⟩ = some (.slice A n c) := h.2.2.c0
theorem Dk.c1 (h : Dk w lo hi A n c A2 n2 c2 ss ws) : w.cell? ⟨hi, 1, none⟩ = some (.slice A2 n2 c2) := h.2.2.c1
theorem Dk.strs (h : Dk w lo hi A n c A2 n2 c2 ss ws) : Strs w w.heap.size A n ss := h.1.sl.strs
theorem Dk.wrs (h : Dk w lo hi A n c A2 n2 c2 ss ws) : Wrs w w.heap.size A2 n2 ws := h.2.1.sl.wrs
end
theorem OwnS.strs {w : World} {g B : Nat} {ss : List BA} (h : OwnS w g ss) (hB : g < B) : Strs w B (some ⟨g, 0, none⟩) ss.length ss := ⟨rfl, Own.row h hB⟩
theorem OwnW.wrs {w : World} {g B : Nat} {ws : List (Int × BA)} (h : OwnW w g ws) (hB : g < B) : Wrs w B (some ⟨g, 0, none⟩) ws.length ws := ⟨rfl, Own.row h hB⟩
def dg (k : Nat) : BA := strOfNums [48 + (k : Int) % 10]
def mtL (k : Nat) (o : BA) : BA := if h : k = 0 then o else mtL (k / 10) (dg k ++ o)
termination_by k
decreasing_by omega
theorem mtL_zero (o : BA) : mtL 0 o = o := by rw [mtL]; simp
theorem mtL_pos (k : Nat) (o : BA) (h : 0 < k) : mtL k o = mtL (k / 10) (dg k ++ o) := by rw [mtL, dif_neg (by omega)]
def mt (k : Nat) : BA := if k = 0 then ⟨#[109, 48]⟩ else ⟨#[109]⟩ ++ mtL k ⟨#[]⟩
def MtTo (K k : Nat) (o : BA) : Prop := mtL K ⟨#[]⟩ = mtL k o
theorem MtTo.next_ {K k : Nat} {o : BA} (h : MtTo K k o) (hp : 0 < k) : MtTo K (k / 10) (dg k ++ o) := by
 unfold MtTo at h ⊢; rw [h, mtL_pos k o hp]
theorem MtTo.done {K : Nat} {o : BA} (h : MtTo K 0 o) (hK : 0 < K) : ⟨#[109]⟩ ++ o = mt K := by
 unfold MtTo at h
 unfold mt
 rw [if_neg (by omega), h, mtL_zero]


end Go.Proofs.YtieoiailjjnnoaaGreatDoor
