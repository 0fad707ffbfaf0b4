/-
  Texts of the proof, in their order.
  Conditions: those of each.
-/
import Derived.Test.YtieoiailjjnnoaaGreatDoorMn7
import Derived.Lib.AppendIntMem
import Derived.Outline
import Derived.Deep.RegionHeld3
import Derived.Deep.AppendLies
import Derived.StillTailTactics
namespace Go.Proofs.YtieoiailjjnnoaaGreatDoor
set_option linter.unusedVariables false
open _root_.Go.Proofs.Tryz
set_option maxRecDepth 100000
set_option maxHeartbeats 16000000
section
open Go.RowKit
def Tab (w : World) : Prop := Lib.TabIs Tryz.prog w "internal/strconv.uint64pow10" .u64 Lib.pow10Tab
theorem Tab.nx {w w' : World} (h : Tab w) (hb : Nx w w') : Tab w' := by
 unfold Tab Lib.TabIs at h ⊢
 unfold World.var? at h ⊢
 cases hg : Tryz.prog.globalNamed "internal/strconv.uint64pow10" with
 | none => simp [hg] at h
 | some g =>
   simp only [hg, Option.bind_some] at h ⊢
   have hlt : g < w.heap.size := by
    rcases Nat.lt_or_ge g w.heap.size with h' | h'
    . exact h'
    . simp [Array.getElem?_eq_none h'] at h
   rw [hb.block g hlt]
   exact h
theorem digs_dec : ∀ n : Nat, Lib.decDigits n = digs n := by
 intro n
 induction n using Nat.strongRecOn with
 | _ n ih =>
   rw [Lib.decDigits, digs]
   by_cases h : n < 10
   . rw [dif_pos h, if_pos h]
   . rw [dif_neg h, if_neg h, ih (n / 10) oM]
theorem itoa_digs (n : Nat) : Lib.itoa (n : Int) = digs n := by
 unfold Lib.itoa
 rw [if_neg oM, Int.toNat_natCast, digs_dec]
theorem itoa_c (n : Nat) (w : World) (hn : n <= 999999) (ht : Tab w) : Calls Tryz.prog 176 #[ii n] w fun e w' => e = .returned (.string ⟨(digs n).toArray⟩) /\ Nx w w' := by
 refine (Any.strconv_Itoa Tryz.laysM171 (n : Int) oM oM w ht).mono ?_
 rintro e w' ⟨rfl, k, os, rfl⟩
 rw [itoa_digs]
 exact ⟨rfl, Lib.below_grow _ w nle k os⟩
theorem join_c (A : Option Addr) (c lo : Nat) (ws : List BA) (w : World) (h : Sl w lo A 9 ws.length (wdAt ws)) (hn : ws.length <= 4) (hc : ws.length <= c) (hw : ∀ k, (ws.getD k ByteArray.empty).size <= 13) :
 Calls Tryz.prog 177 #[sC A ws.length c, .string ⟨#[44]⟩] w fun e w' => e = .returned (.string (jn ws)) /\ Nx w w' := by
 rcases Nat.eq_zero_or_pos ws.length with hz | hp
 . have e0 : ws = [] := List.eq_nil_of_length_eq_zero hz
   subst e0
   refine (Any.strings_Join_none Tryz.lays156 Tryz.Builder_Extra_156 A c ⟨#[44]⟩ w).mono ?_
   rintro e w' ⟨rfl, rfl⟩
   exact ⟨rfl, Nx.refl _⟩
 . obtain ⟨g, rfl, _, ho⟩ := h hp
   have hj := jn_all hw
   refine (Any.strings_Join Tryz.lays156 Tryz.Builder_Extra_156 g 0 c ws ⟨#[44]⟩ w (fun j x hj => ?_) ho.lt oM hc (by rw [ba_size] at hj; exact ntr hj oM)).mono ?_
   . have hjl : j < ws.length := (List.getElem?_eq_some_iff.1 hj).1
     rw [Nat.zero_add, ho.cell hjl]
     unfold wdAt
     rw [gdE, hj]; rfl
   . rintro e w' ⟨rfl, hb⟩
     exact ⟨rfl, hb⟩
theorem marksText_c (A2 : Option Addr) (c2 B : Nat) (ms : List Mrk) (w : World) (h2 : Mks w B A2 ms) (hB : B <= w.heap.size) (hms : msB ms = true) (ht : Tab w) :
 Calls Tryz.prog 105 #[sC A2 ms.length c2] w fun e w' => e = .returned (.string (jn (wds ms))) /\ Nx w w' := by
 have HM := qh hms
 have HT := qh ht
 have hl4 : ms.length <= 4 := (msB_yes hms).1
 clear hms ht
 obtain ⟨i0, hi0, hz0, hz1, hz2⟩ := info_parts infoS
 have hmk := fun W => run_make_rowN (P := Tryz.prog) 32 9 i0 _ underlying32 hi0 hz0 .i64 .i64 ms.length ms.length nle (by rw [hz2]; omega) oM W
 rw [hz1] at hmk
 have hmade := Own.made w #[Value.string ByteArray.empty] (ms.length * 1) 9
 rw [Nat.mul_one] at hmade
 go_enter func105, ntmps105
 go_wp2
 go_loopw [11] (fun i wr => ∃ k : Nat, k <= ms.length /\ i = ii k /\ Fill wr w.heap.size 9 ms.length k (wdAt (wds ms)) /\ Nx w wr) (fun i _ => ms.length - (intOf i).toNat)
 case atStart => exact ⟨0, Nat.zero_le _, rfl, Fill.start hmade, (Nx.refl _).alloc _⟩
 case round =>
  obtain ⟨k, hk, rfl, hf, hnx⟩ := hrel
  by_cases hlt : k < ms.length
  . obtain ⟨bb, off, rfl, hb, k0, k1⟩ := (h2.below hnx hB).at_ hlt
    clear hmk hmade
    have hmq := msB_at HM.out hlt
    obtain ⟨⟨q0, q1'⟩, Hq'⟩ : ∃ q, Hid (ms.getD k mrZ = q) := ⟨_, rfl⟩
    rw [Hq'.out] at k0 k1 hmq
    obtain ⟨q1, Hq1⟩ : ∃ q : Nat, Hid (q1' = (q : Int)) := ⟨q1'.toNat, qh (by have := hmq.2.1; simp only at this; omega)⟩
    rw [Hq1.out] at k1 hmq Hq'
    obtain ⟨hs6, _, hq6⟩ := hmq
    simp only at k0 k1 hs6 hq6
    have Hq : Hid (ms.getD k mrZ = (q0, (q1 : Int))) := Hq'
    have hq7 : q1 <= 999999 := oM
    have h61 : (⟨#[61]⟩ : BA).size = 1 := rfl
    clear Hq1 hq6
    go_wp2_with fail
    have bq := Box.new wr 136 #[.string q0, ii q1]
    have hnxq := hnx.alloc (.cells #[.string q0, ii q1] 136)
    have hfq := hf.nx ((Nx.refl wr).alloc (.cells #[.string q0, ii q1] 136))
    generalize wr.alloc (.cells #[.string q0, ii q1] 136) = wq at *
    clear k0 k1
    have k0 := bq.c0
    have k1 := bq.c1
    refine wp_lexA (kf7 (true :: kf2 (true :: []))) (fun w' => CC w' wr.heap.size 0 (.string q0) /\ CC w' wr.heap.size 1 (ii q1)) (by exact ⟨k0, k1⟩) ?_
    iterate 4 (refine HL.tk ?_; (try simp only [Act.put, qqA, qqB, qqC]))
    refine HL.take (v := .string (q0 ++ ⟨#[61]⟩)) (by rfl) (fun W _ => addS_run rfl rfl rfl oM) ?_
    refine nZ ?_
    iterate 2 (refine HL.tk ?_; (try simp only [Act.put, qqA, qqB, qqC]))
    refine hLc fun K hK => ?_
    go_simp
    refine (itoa_c q1 _ hq7 (HT.out.nx hnxq.drew)).mono ?_
    rintro e wd ⟨rfl, hnd⟩
    have hxd := hnxq.trans (Nx.drew_r hnd)
    have bd := bq.nx (Nx.drew_r hnd)
    have hfd := hfq.nx (Nx.drew_r hnd)
    have HW := qh (mkW_of q0 q1)
    obtain ⟨d, Hd⟩ := nM ((⟨(digs q1).toArray⟩ : BA) : BA)
    have hd6 : d.size <= 6 := by rw [<- Hd.out]; have := (digs_len hq7).2; simp [ByteArray.size]; omega
    rw [Hd.out] at HW ⊢
    go_wp2_with fail
    refine hK.out _ _ (by exact ⟨bd.c0, bd.c1⟩) ?_
    clear hK K
    refine nZ ?_
    refine HL.take (v := .string ((q0 ++ ⟨#[61]⟩) ++ d)) (by rfl) (fun W _ => addS_run rfl rfl rfl (by rw [ByteArray.size_append]; omega)) ?_
    refine nZ ?_
    rw [HW.out]
    iterate 1 (refine HL.tk ?_; (try simp only [Act.put, qqA, qqB, qqC]))
    have hne : w.heap.size ≠ wr.heap.size := by have := hf.lt; omega
    obtain ⟨v0, hv0⟩ := hfd.some_ hlt
    have hfz := hfd.frozen k
    have hst := hfd.step (v := .string (mkW (q0, (q1 : Int)))) hlt (by unfold wdAt; rw [wds_at hlt, Hq.out])
    have hxs := hxd.setCell (p := ⟨w.heap.size, k, none⟩) nle (.string (mkW (q0, (q1 : Int))))
    have bs := bd.far (p := ⟨w.heap.size, k, none⟩) (Ne.symm hne) (.string (mkW (q0, (q1 : Int))))
    refine hLc fun K hK => ?_
    go_simp
    refine hK.out _ _ (by exact ⟨bs.c0, bs.c1⟩) ?_
    clear hK K
    refine nZ ?_
    refine HL.done ?_
    go_wp2
    go_roundw
    case rel => exact ⟨k + 1, oM, by go_num, hst, hxs⟩
    case measure => simp [intOf]; omega
  . obtain rfl : k = ms.length := oM
    have hS : Sl wr w.heap.size (some ⟨w.heap.size, 0, none⟩) 9 (wds ms).length (wdAt (wds ms)) := by rw [wds_len]; exact Sl.own hf.done nle
    have Hwl := qh (wds_len ms)
    clear hmk hmade
    go_wp2_with fail
    have hjc := join_c (some ⟨w.heap.size, 0, none⟩) ms.length w.heap.size (wds ms) wr hS (by rw [wds_len]; exact hl4) (by rw [wds_len]; omega) (wds_size HM.out)
    rw [wds_len] at hjc
    refine hjc.mono ?_
    rintro e w4 ⟨rfl, hnx4⟩
    go_wp2
    go_ret
    exact ⟨rfl, hnx.trans hnx4⟩
theorem superText_c (g b p t : Int) (A A2 : Option Addr) (c c2 B : Nat) (xs : List Int) (ms : List Mrk) (w : World) (h : Ins w B A xs) (h2 : Mks w B A2 ms) (hB : B <= w.heap.size) (hok : superB g b p t xs ms = true) (ht : Tab w) :
 Calls Tryz.prog 45 #[.agg #[ii g, ii b, ii p, ii t, sC A xs.length c, sC A2 ms.length c2]] w fun e w' => e = .returned (.string (sealS (numsS (supN g b p t xs) ++ ⟨#[124]⟩ ++ jn (wds ms)))) /\ Nx w w' := by
 have HK := qh hok
 have HT := qh ht
 have hl4 : ms.length <= 4 := (msB_yes (superB_yes hok).2.2.2.2.2).1
 have hl20 : xs.length <= 20 := (tbB_yes (superB_yes hok).2.2.2.2.1).1
 have HM := qh (superB_yes hok).2.2.2.2.2
 clear hok ht
 go_enter func45, ntmps45
 have b0 := Box.new w 26 #[ii g, ii b, ii p, ii t, sC A xs.length c, sC A2 ms.length c2]
 have hx0 := (Nx.refl w).alloc (.cells #[ii g, ii b, ii p, ii t, sC A xs.length c, sC A2 ms.length c2] 26)
 have b1 := b0.alloc (.cells #[ii g, ii b, ii p, ii t] 3)
 have hx1 := hx0.alloc (.cells #[ii g, ii b, ii p, ii t] 3)
 have hR1 := RowI.new4 (w.alloc (.cells #[ii g, ii b, ii p, ii t, sC A xs.length c, sC A2 ms.length c2] 26)) (B := w.heap.size) g b p t (by simp)
 simp only [World.size_alloc] at hR1
 have HX1 := qh hx1
 have HB1 := qh b1
 have HR1 := qh hR1
 clear hx1 b1 hR1 hx0 b0
 go_wp2_with (at_builtin; refine wpList_app4I rfl _ _ rfl w.heap.size (w.heap.size + 1) A c [g, b, p, t] xs rfl rfl rfl HR1.out (h.below HX1.out hB) oM HX1.out.size ?_)
 intro A' k' w2 hR2' hG2
 have hx2 := hG2.nx w HX1.out nle
 have b2 := hG2.box _ _ _ dC HB1.out
 clear HX1 HB1 HR1 hG2
 have hR2 : RowI w2 w.heap.size (sC A' (xs.length + 4) k') (supL g b p t xs) := hR2'
 clear hR2'
 obtain ⟨A5, c5', he5, hS5⟩ := hR2.sl
 clear hR2
 rw [supL_len] at he5 hS5
 injection he5 with e5 _ e6
 subst e5 e6
 have hrow := supN_row HK.out (supN_len g b p t xs).symm hS5.row
 have Hl := qh (supN_len g b p t xs)
 rw [<- Hl.out]
 go_wp2_with fail
 obtain ⟨nS, HnS⟩ := nM (numsS (supN g b p t xs))
 obtain ⟨jS, HjS⟩ := nM (jn (wds ms))
 have hns : nS.size <= 144 := by rw [<- HnS.out, numsS_size, Hl.out]; omega
 have hjs : jS.size <= 56 := by rw [<- HjS.out]; have := jn_all (wds_size HM.out); rw [wds_len] at this; omega
 have h124 : (⟨#[124]⟩ : BA).size = 1 := rfl
 have k5 := b2.d6.2.2.2.2.2
 refine wp_planA (.t 0 (.t 3 (.t 4 (.c 1 (.t 2 (.c 5 (.t 6 (.c 7 (.t 8 .e))))))))) (fun w' => CC w' w.heap.size 5 (sC A2 ms.length c2)) (by exact k5) ?_
 simp only [psOf, List.getD_cons_zero, List.getD_cons_succ]
 iterate 3 (refine HP.tk ?_; (try simp only [Act.put, qqA, qqB, qqC]))
 refine hPc fun K hK => ?_
 go_simp
 refine (numbersText_c A' _ _ (supN g b p t xs) _ (hrow.below (Nx.refl w2).drew nle) nle (supN_all HK.out) (by have := Hl.out; omega) (by have := Hl.out; omega)).mono ?_
 rintro e w3 ⟨he, hnx3⟩
 have he' := he.trans (ret_str HnS.out)
 subst he'
 clear he
 have b3 := b2.nx (Nx.drew_r hnx3)
 have hx3 := hx2.trans (Nx.drew_r hnx3)
 go_wp2_with fail
 refine hK.out _ _ (by exact b3.d6.2.2.2.2.2) ?_
 clear hK K
 refine nZ ?_
 refine HP.take (v := .string (nS ++ ⟨#[124]⟩)) (by rfl) (fun W _ => addS_run rfl rfl rfl oM) ?_
 refine nZ ?_
 refine hPc fun K hK => ?_
 go_simp
 refine (marksText_c A2 c2 B ms _ (h2.below hx3 hB) (ntr hB hx3.size) HM.out (HT.out.nx hx3)).mono ?_
 rintro e w4 ⟨he, hnx4⟩
 have he' := he.trans (ret_str HjS.out)
 subst he'
 clear he
 have b4 := b3.nx hnx4
 have hx4 := hx3.trans hnx4
 go_wp2_with fail
 refine hK.out _ _ (by exact b4.d6.2.2.2.2.2) ?_
 clear hK K
 refine nZ ?_
 refine HP.take (v := .string (nS ++ ⟨#[124]⟩ ++ jS)) (by rfl) (fun W _ => addS_run rfl rfl rfl (by rw [ByteArray.size_append]; omega)) ?_
 refine nZ ?_
 refine hPc fun K hK => ?_
 go_simp
 have HZ := qh (show sealS (nS ++ ⟨#[124]⟩ ++ jS) = sealS (numsS (supN g b p t xs) ++ ⟨#[124]⟩ ++ jn (wds ms)) by rw [HnS.out, HjS.out])
 refine (sealed_c _ _ (by rw [ByteArray.size_append, ByteArray.size_append]; omega)).mono ?_
 rintro e w5 ⟨he, hnx5⟩
 have he' := he.trans (ret_str HZ.out)
 subst he'
 clear he
 have b5 := b4.nx hnx5
 have hx5 := hx4.trans hnx5
 go_wp2_with fail
 refine hK.out _ _ (by exact b5.d6.2.2.2.2.2) ?_
 clear hK K
 refine nZ ?_
 iterate 1 (refine HP.tk ?_; (try simp only [Act.put, qqA, qqB, qqC]))
 refine HP.done ?_
 go_wp2
 go_ret
 exact ⟨rfl, hx5⟩
theorem info_str : (Tryz.prog.info? 9).map (fun i => (i.zero, i.size, i.bytes)) = some (some (.string ByteArray.empty), 1, 16) := by kernel_rfl
theorem info_wr : (Tryz.prog.info? 102).map (fun i => (i.zero, i.size, i.bytes)) = some (some (.agg #[ii 0, .string ByteArray.empty]), 2, 24) := by kernel_rfl
theorem strAt_one (ss : List BA) (k : Nat) : (strAt ss k).oneCell' = true := rfl
theorem wrAt_one (ws : List (Int × BA)) (k : Nat) : (wrAt ws k).oneCell' = true := by unfold wrAt; split <;> rfl
theorem copyListS_c (A : Option Addr) (n c B : Nat) (ss : List BA) (w : World) (h : Strs w B A n ss) (hB : B <= w.heap.size) (hn : n <= 1048576) :
 Calls Tryz.prog 126 #[sC A n c] w (RetS w ss) := by
 rcases Nat.eq_zero_or_pos n with hz | hp
 . subst hz
   have HF := qh h.1
   go_enter func126, ntmps126
   go_wp2
   go_ret
   exact ⟨none, 0, 0, rfl, ⟨HF.out, fun h => absurd h oM⟩, Nx.refl _⟩
 have h0 : ((n : Int) == 0) = false := beq_eq_false_iff_ne.2 oM
 obtain ⟨i0, hi0, hz0, hz1, hz2⟩ := info_parts info_str
 have hmk := fun W => run_make_rowN (P := Tryz.prog) 32 9 i0 _ underlying32 hi0 hz0 .i64 .i64 n n nle (by rw [hz2]; omega) oM W
 rw [hz1] at hmk
 have hmade := Own.made w #[Value.string ByteArray.empty] n 9
 have hnx := (Nx.refl w).alloc (.cells (madeCells #[Value.string ByteArray.empty] n) 9)
 obtain ⟨w1, hrun, ho1, hnx1, _, _⟩ := run_copy_new (P := Tryz.prog) (w.alloc (.cells (madeCells #[Value.string ByteArray.empty] n) 9)) 32 32 3 9 i0 1 underlying32 hi0 hz1
  w.heap.size n n A n c B n 9 (strAt ss) _ hmade oM nle (by rw [Nat.mul_one]; exact (h.below hnx hB).2) (strAt_one ss)
 have hx1 := hnx1 w hnx nle
 have HO := qh (ho1.congr (f' := strAt ss) (fun k hk => by rw [if_pos oM]))
 clear ho1 hnx1 hmade
 go_enter func126, ntmps126
 go_wp2
 go_ret
 exact RetS.mk_own h.1 nle (by have := HO.out; rw [<- h.1] at this; exact this) hx1
theorem copyListW_c (A : Option Addr) (n c B : Nat) (ws : List (Int × BA)) (w : World) (h : Wrs w B A n ws) (hB : B <= w.heap.size) (hn : n <= 1048576) :
 Calls Tryz.prog 127 #[sC A n c] w (RetW w ws) := by
 rcases Nat.eq_zero_or_pos n with hz | hp
 . subst hz
   have HF := qh h.1
   go_enter func127, ntmps127
   go_wp2
   go_ret
   exact ⟨none, 0, 0, rfl, ⟨HF.out, fun h => absurd h oM⟩, Nx.refl _⟩
 have h0 : ((n : Int) == 0) = false := beq_eq_false_iff_ne.2 oM
 obtain ⟨i0, hi0, hz0, hz1, hz2⟩ := info_parts info_wr
 have hmk := fun W => run_make_rowN (P := Tryz.prog) 33 102 i0 _ underlying33 hi0 hz0 .i64 .i64 n n nle (by rw [hz2]; omega) oM W
 rw [hz1] at hmk
 have hmade := Own.made w #[Value.int .i64 0, Value.string ByteArray.empty] (n * 2) 102
 have hnx := (Nx.refl w).alloc (.cells (madeCells #[Value.int .i64 0, Value.string ByteArray.empty] (n * 2)) 102)
 obtain ⟨w1, hrun, ho1, hnx1, _, _⟩ := run_copy_new (P := Tryz.prog) (w.alloc (.cells (madeCells #[Value.int .i64 0, Value.string ByteArray.empty] (n * 2)) 102)) 33 33 3 102 i0 2 underlying33 hi0 hz1
  w.heap.size n n A n c B (n * 2) 102 (wrAt ws) _ hmade nle nle (h.below hnx hB).2 (wrAt_one ws)
 have hx1 := hnx1 w hnx nle
 have HO := qh (ho1.congr (f' := wrAt ws) (fun k hk => by rw [if_pos oM]))
 clear ho1 hnx1 hmade
 go_enter func127, ntmps127
 go_wp2
 go_ret
 exact RetW.mk_own h.1 nle (by have := HO.out; rw [<- h.1] at this; exact this) hx1
theorem copied_c (A A2 : Option Addr) (n c n2 c2 B : Nat) (ss : List BA) (ws : List (Int × BA)) (w : World) (h : Strs w B A n ss) (h2 : Wrs w B A2 n2 ws) (hB : B <= w.heap.size) (hn : n <= 1048576) (hn2 : n2 <= 1048576) :
 Calls Tryz.prog 55 #[.agg #[sC A n c, sC A2 n2 c2]] w (RetDisk w ss ws) := by
 go_enter func55, ntmps55
 go_wp2_with fail
 have b0 := (Box.new w 35 #[sC A n c, sC A2 n2 c2]).alloc (.cells #[nsl, nsl] 35)
 have r0 := Box.new (w.alloc (.cells #[sC A n c, sC A2 n2 c2] 35)) 35 #[nsl, nsl]
 have hnx0 := ((Nx.refl w).alloc (.cells #[sC A n c, sC A2 n2 c2] 35)).alloc (.cells #[nsl, nsl] 35)
 simp only [World.size_alloc] at r0
 generalize (w.alloc (.cells #[sC A n c, sC A2 n2 c2] 35)).alloc (.cells #[nsl, nsl] 35) = W at *
 have rd : Nx w W.drew := hnx0.drew
 have b1 : Box W.drew w.heap.size 35 #[sC A n c, sC A2 n2 c2] := b0
 have r1 : Box W.drew (w.heap.size + 1) 35 #[nsl, nsl] := r0
 have c0 := b1.c0
 have c1 := b1.c1
 go_region_held3 (fun w' => w'.cell? ⟨w.heap.size, 0, none⟩ = some (sC A n c) /\ w'.cell? ⟨w.heap.size, 1, none⟩ = some (sC A2 n2 c2)) (first | exact ⟨c0, c1⟩ | exact ⟨k0, k1⟩ | exact ⟨l0, l1⟩ | exact ⟨m0, m1⟩)
  (first
   | (go_at_call 126; refine (copyListS_c A n c B ss _ (h.below rd hB) (ntr hB rd.size) hn).mono ?_; rintro e u1 ⟨A3, n3, c3, rfl, hS3, hx3⟩; have k0 := (b1.nx hx3).c0; have k1 := (b1.nx hx3).c1; have rd3 := rd.trans hx3)
   | (go_at_call 127; refine (copyListW_c A2 n2 c2 B ws _ (h2.below rd3 hB) (ntr hB rd3.size) hn2).mono ?_; rintro e u2 ⟨A4, n4, c4, rfl, hW4, hx4⟩; have l0 := ((b1.nx hx3).nx hx4).c0; have l1 := ((b1.nx hx3).nx hx4).c1; have r2 := (r1.nx hx3).nx hx4; have s0 := r2.c0; have s1 := r2.c1; have f0 := r2.frozen 0; have f1 := r2.frozen 1; have m0 := (((((b1.nx hx3).nx hx4).far (p := ⟨w.heap.size + 1, 0, none⟩) (by simp) (sC A3 n3 c3))).far (p := ⟨w.heap.size + 1, 1, none⟩) (by simp) (sC A4 n4 c4)).c0; have m1 := (((((b1.nx hx3).nx hx4).far (p := ⟨w.heap.size + 1, 0, none⟩) (by simp) (sC A3 n3 c3))).far (p := ⟨w.heap.size + 1, 1, none⟩) (by simp) (sC A4 n4 c4)).c1))
 have hsz := r1.lt
 have hsz1 := hx3.size
 obtain ⟨q0, q1, hSf, hWf, hxf⟩ := fin_box c3 c4 r2 (hS3.nx hx4) hW4 hsz oM (rd3.trans hx4) oM
 clear m0 m1 l0 l1 k0 k1 c0 c1 s0 s1 f0 f1
 generalize (u2.setCell ⟨w.heap.size + 1, 0, none⟩ (sC A3 n3 c3)).setCell ⟨w.heap.size + 1, 1, none⟩ (sC A4 n4 c4) = Wf at *
 go_wp2
 exact bodyPost_ret (v := .agg #[sC A3 n3 c3, sC A4 n4 c4]) (by simp [results, results55, go_sem, q0, q1]) rfl ⟨A3, n3, c3, A4, n4, c4, rfl, hSf, hWf, hxf⟩
theorem wrAt_snoc (ws : List (Int × BA)) (x : Int) (t : BA) (k : Nat) (hk : k < (ws.length + 1) * 2) :
 wrAt (ws ++ [(x, t)]) k = if k = ws.length * 2 + 1 then .string t else if k = ws.length * 2 then ii x else wrAt ws k := by
 have hlast : (ws ++ [(x, t)]).getD ws.length (0, ByteArray.empty) = (x, t) := by
  rw [gdE, List.getElem?_append_right nle]; simp
 by_cases h1 : k = ws.length * 2 + 1
 . subst h1; rw [if_pos rfl, wrAt_odd, hlast]
 . rw [if_neg h1]
   by_cases h2 : k = ws.length * 2
   . subst h2; rw [if_pos rfl, wrAt_even, hlast]
   . rw [if_neg h2]
     unfold wrAt
     have hd : (ws ++ [(x, t)]).getD (k / 2) (0, ByteArray.empty) = ws.getD (k / 2) (0, ByteArray.empty) := by
      rw [gdE, gdE, List.getElem?_append_left oM]
     rw [hd]
theorem written_c (A A2 : Option Addr) (n c n2 c2 B : Nat) (ss : List BA) (ws : List (Int × BA)) (x : Int) (t : BA) (w : World) (h : Strs w B A n ss) (h2 : Wrs w B A2 n2 ws) (hB : B <= w.heap.size) (hn : n <= 1048575) (hn2 : n2 <= 1048575) :
 Calls Tryz.prog 125 #[.agg #[sC A n c, sC A2 n2 c2], ii x, .string t] w (RetDisk w ss (ws ++ [(x, t)])) := by
 obtain ⟨i0, hi0, hz0, hz1, hz2⟩ := info_parts info_wr
 have hmk := fun W => run_make_rowN (P := Tryz.prog) 33 102 i0 _ underlying33 hi0 hz0 .i64 .i64 (n2 + 1) (n2 + 1) nle (by rw [hz2]; omega) oM W
 rw [hz1] at hmk
 have ec : ((n2 + 1 : Nat) : Int) = (n2 : Int) + 1 := oM
 rw [ec] at hmk
 clear ec
 go_enter func125, ntmps125
 go_wp2
 have b0 := ((Box.new w 35 #[sC A n c, sC A2 n2 c2]).alloc (.cells #[nsl, nsl] 35)).alloc (.cells (madeCells #[Value.int .i64 0, Value.string ByteArray.empty] ((n2 + 1) * 2)) 102)
 have r0 := (Box.new (w.alloc (.cells #[sC A n c, sC A2 n2 c2] 35)) 35 #[nsl, nsl]).alloc (.cells (madeCells #[Value.int .i64 0, Value.string ByteArray.empty] ((n2 + 1) * 2)) 102)
 have m0 := Own.made ((w.alloc (.cells #[sC A n c, sC A2 n2 c2] 35)).alloc (.cells #[nsl, nsl] 35)) #[Value.int .i64 0, Value.string ByteArray.empty] ((n2 + 1) * 2) 102
 have hnx0 := (((Nx.refl w).alloc (.cells #[sC A n c, sC A2 n2 c2] 35)).alloc (.cells #[nsl, nsl] 35)).alloc (.cells (madeCells #[Value.int .i64 0, Value.string ByteArray.empty] ((n2 + 1) * 2)) 102)
 simp only [World.size_alloc] at r0 m0
 generalize (((w.alloc (.cells #[sC A n c, sC A2 n2 c2] 35)).alloc (.cells #[nsl, nsl] 35)).alloc (.cells (madeCells #[Value.int .i64 0, Value.string ByteArray.empty] ((n2 + 1) * 2)) 102)) = W at *
 obtain ⟨w1, hrun, ho1, hnx1, hsz1, hoth⟩ := run_copy_new (P := Tryz.prog) W 33 33 3 102 i0 2 underlying33 hi0 hz1
  (w.heap.size + 1 + 1) (n2 + 1) (n2 + 1) A2 n2 c2 B ((n2 + 1) * 2) 102 (wrAt ws) _ m0 nle oM (h2.below hnx0 hB).2 (wrAt_one ws)
 rw [hrun]
 have b1 : Box w1 w.heap.size 35 #[sC A n c, sC A2 n2 c2] := (hoth _ oM).trans b0
 have r1 : Box w1 (w.heap.size + 1) 35 #[nsl, nsl] := (hoth _ oM).trans r0
 have hx1 := hnx1 w hnx0 oM
 clear hrun hmk hnx0 hnx1 b0 r0 hoth
 have HZ := qh hsz1
 have mlt := m0.lt
 clear m0 hsz1
 have c0 := b1.c0
 have c1 := b1.c1
 have e0 := ho1.cell (i := n2 * 2) oM
 have e1 := ho1.cell (i := n2 * 2 + 1) oM
 have g0 := ho1.frozen (n2 * 2)
 have g1 := ho1.frozen (n2 * 2 + 1)
 obtain ⟨v0, hv0⟩ : ∃ v, w1.cell? ⟨w.heap.size + 1 + 1, n2 * 2, none⟩ = some v := ⟨_, e0⟩
 obtain ⟨v1, hv1⟩ : ∃ v, w1.cell? ⟨w.heap.size + 1 + 1, n2 * 2 + 1, none⟩ = some v := ⟨_, e1⟩
 clear e0 e1
 go_wp2_with fail
 have ho2 := (ho1.set (k := n2 * 2) oM (ii x)).set (k := n2 * 2 + 1) oM (.string t)
 have ho3 : OwnW ((w1.setCell ⟨w.heap.size + 1 + 1, n2 * 2, none⟩ (ii x)).setCell ⟨w.heap.size + 1 + 1, n2 * 2 + 1, none⟩ (.string t)) (w.heap.size + 1 + 1) (ws ++ [(x, t)]) := by
  unfold OwnW
  rw [List.length_append, h2.1]
  refine ho2.congr fun k hk => ?_
  rw [wrAt_snoc ws x t k (by rw [h2.1]; exact hk), h2.1]
  by_cases k1 : k = n2 * 2 + 1
  . rw [if_pos k1, if_pos k1]
  . rw [if_neg k1, if_neg k1]
    by_cases k2 : k = n2 * 2
    . rw [if_pos k2, if_pos k2]
    . rw [if_neg k2, if_neg k2, if_pos oM]
 have b2 := (b1.far (p := ⟨w.heap.size + 1 + 1, n2 * 2, none⟩) sM (ii x)).far (p := ⟨w.heap.size + 1 + 1, n2 * 2 + 1, none⟩) sM (.string t)
 have r2 := (r1.far (p := ⟨w.heap.size + 1 + 1, n2 * 2, none⟩) (by simp) (ii x)).far (p := ⟨w.heap.size + 1 + 1, n2 * 2 + 1, none⟩) (by simp) (.string t)
 have hx2 := (hx1.setCell (p := ⟨w.heap.size + 1 + 1, n2 * 2, none⟩) sM (ii x)).setCell (p := ⟨w.heap.size + 1 + 1, n2 * 2 + 1, none⟩) sM (.string t)
 generalize (w1.setCell ⟨w.heap.size + 1 + 1, n2 * 2, none⟩ (ii x)).setCell ⟨w.heap.size + 1 + 1, n2 * 2 + 1, none⟩ (.string t) = w2 at *
 clear ho1 ho2 b1 r1 hx1 hv0 hv1 g0 g1 c0 c1
 refine (copyListS_c A n c B ss _ (h.below hx2 hB) (ntr hB hx2.size) oM).mono ?_
 rintro e w3 ⟨A3, n3, c3, rfl, hS3, hx3⟩
 have r3 := r2.nx hx3
 have ho4 := Own.nx ho3 hx3
 have s0 := r3.c0
 have s1 := r3.c1
 have f0 := r3.frozen 0
 have f1 := r3.frozen 1
 have hlt3 := Own.lt ho3
 have hW4 : SlW w3 (w.heap.size + 1 + 1) (some ⟨w.heap.size + 1 + 1, 0, none⟩) (n2 + 1) (ws ++ [(x, t)]) := ⟨by rw [List.length_append, h2.1]; rfl, fun _ => ⟨_, rfl, Nat.le_refl _, ho4⟩⟩
 obtain ⟨q0, q1, hSf, hWf, hxf⟩ := fin_box c3 (n2 + 1) r3 hS3 hW4 oM oM (hx2.trans hx3) oM
 go_wp2
 generalize (w3.setCell ⟨w.heap.size + 1, 0, none⟩ (sC A3 n3 c3)).setCell ⟨w.heap.size + 1, 1, none⟩ (sC (some ⟨w.heap.size + 1 + 1, 0, none⟩) (n2 + 1) (n2 + 1)) = Wf at *
 exact bodyPost_ret (v := .agg #[sC A3 n3 c3, sC (some ⟨w.heap.size + 1 + 1, 0, none⟩) (n2 + 1) (n2 + 1)]) (by simp [results, results125, go_sem, q0, q1]) rfl ⟨A3, n3, c3, _, n2 + 1, n2 + 1, rfl, hSf, hWf, hxf⟩
theorem own_of_owns {w : World} {base : Nat} {e : TypeId} {size n : Nat} {v : Value} {N : Nat} {f : Nat -> Value} (h : w.ownsRow base e size v n ((List.range N).map f)) (hn : 0 < n) (hN : N = n * size) :
 ∃ g cap, v = sC (some ⟨g, 0, none⟩) n cap /\ base <= g /\ Own w g e N f := by
 rcases h.2 with ⟨_, h0⟩ | ⟨g, cap, cur, hv, hb, hg, hnc, _, hsz, htake⟩
 . omega
 . refine ⟨g, cap, hv, hb, cur, hg, ?_, fun i hi => ?_⟩
   . rw [hsz, hN]; exact Nat.mul_le_mul_right _ hnc
   . have : (cur.toList.take (n * size))[i]? = some (f i) := by
      rw [htake, List.getElem?_map, List.getElem?_range hi]; rfl
     rw [List.getElem?_take_of_lt oM] at this
     simpa using this
theorem owns_empty (w : World) (g e : Nat) (size base : Nat) (hb : base <= g) (hg : w.heap[g]? = some (.cells #[] e (0, 0))) : w.ownsRow base e size (sC (some ⟨g, 0, none⟩) 0 0) 0 [] :=
 ⟨by simp, .inr ⟨g, 0, #[], rfl, hb, hg, Nat.le_refl _, by unfold maxLen; omega, by simp, by simp⟩⟩
theorem owns_base {w : World} {base : Nat} {e : TypeId} {size n : Nat} {v : Value} {xs : List Value} (h : w.ownsRow base e size v n xs) : ∀ k, v.ownBlock = some k -> base <= k := by
 intro k hk
 rcases h.2 with ⟨rfl, _⟩ | ⟨g, cap, cur, rfl, hb, _⟩
 . simp [Value.ownBlock] at hk
 . simp [Value.ownBlock] at hk; omega
theorem NewRow.slS {w u : World} {A : Option Addr} {n : Nat} {ss : List BA} (h : NewRow w u 9 1 A n (strAt ss)) (hl : ss.length = n) : SlS u w.heap.size A n ss :=
 ⟨hl, fun hn => by
  obtain ⟨g, e, hg, ho⟩ := h.2 hn
  refine ⟨g, e, hg, ?_⟩
  unfold OwnS
  rw [hl]
  rw [Nat.mul_one] at ho
  exact ho⟩
theorem NewRow.slW {w u : World} {A : Option Addr} {n : Nat} {ws : List (Int × BA)} (h : NewRow w u 102 2 A n (wrAt ws)) (hl : ws.length = n) : SlW u w.heap.size A n ws :=
 ⟨hl, fun hn => by
  obtain ⟨g, e, hg, ho⟩ := h.2 hn
  refine ⟨g, e, hg, ?_⟩
  unfold OwnW
  rw [hl]
  exact ho⟩
def RetWrite (w : World) (A : Option Addr) (n c : Nat) (ws : List (Int × BA)) (e : Ending) (w' : World) : Prop :=
 ∃ (A2 : Option Addr) (n2 c2 : Nat), e = .returned (.agg #[sC A n c, sC A2 n2 c2]) /\ SlW w' w.heap.size A2 n2 ws /\ Nx w w'
theorem run_append_row {P : Program} (w : World) (base : Nat) (t ty e : TypeId) (i : TypeInfo) (z : Value) (size bytes : Nat) (ht : P.underlying t = some (.slice e)) (hi : P.info? e = some i) (hz : i.zero = some z)
 (hsize : i.size = size) (hby : i.bytes = bytes) (hzs : z.cells.size = size) (hsz : 0 < size) (v : Value) (n : Nat) (xs : List Value) (hown : w.ownsRow base e size v n xs)
 (A : Option Addr) (m c B : Nat) (f : Nat -> Value) (hrow : Row w B A (m * size) f) (h1 : ∀ k, (f k).oneCell' = true) (h63 : n + m <= maxLen) (hbytes : (n + m) * bytes <= 140737488355328) (hbase : base <= w.heap.size) :
 ∃ v' w', (Builtin.append_ #[t, t] ty #[v, sC A m c]).run P w = .ok v' w' /\ w'.ownsRow base e size v' (n + m) (xs ++ (List.range (m * size)).map f) /\ w.grownBy w' v.ownBlock := by
 rcases A with _ | a
 . have hm : m = 0 := by
    rcases Nat.eq_zero_or_pos m with h0 | h0
    . exact h0
    . obtain ⟨b, off, h, _⟩ := hrow (Nat.mul_pos h0 hsz)
      cases h
   subst hm
   refine ⟨v, w, ?_, by simpa using hown, World.grownBy.refl w _⟩
   rcases hown.2 with ⟨rfl, rfl⟩ | ⟨g, cap, cur, rfl, _, _, hnc, _⟩
   . simp [Builtin.append_, run_underlying ht, sizeOf, typeInfo, hi, Builtin.lenOf, Builtin.firstCells]
   . simp [Builtin.append_, run_underlying ht, sizeOf, typeInfo, hi, Builtin.lenOf, Builtin.firstCells, hnc, storeCells]
 . obtain ⟨v', w', hr, h2, h3, _⟩ := run_append_own (P := P) w base t ty e i z size bytes ht hi hz hsize hby hzs hsz v n xs hown a m c ((List.range (m * size)).map f) (by simp) (fun j u h => by
    obtain ⟨hj, rfl⟩ := cells_list _ _ _ _ h
    obtain ⟨b, off, e1, _, hc⟩ := hrow oM
    injection e1 with e1
    subst e1
    rw [addr_add']; exact hc j hj) (fun u hu => by
    simp only [List.mem_map, List.mem_range] at hu
    obtain ⟨k, _, rfl⟩ := hu
    exact h1 k) h63 hbytes hbase
   exact ⟨v', w', hr, h2, h3⟩
theorem wpList_append_row {P : Program} {ops : Array Oper} {rest : List Oper} {o : Oper} {a : Act} {w : World} {Q : Exit -> Act -> World -> Prop} (hgd : o.guard = none) (s x : Operand) (t : TypeId) (ho : o.op = .call { callee := .builtin .append, args := #[s, x], argTypes := #[t, t] })
 (base : Nat) (e : TypeId) (i : TypeInfo) (z : Value) (size bytes : Nat) (ht : P.underlying t = some (.slice e)) (hi : P.info? e = some i) (hz : i.zero = some z)
 (hsize : i.size = size) (hby : i.bytes = bytes) (hzs : z.cells.size = size) (hsz : 0 < size) (v : Value) (n : Nat) (xs : List Value) (hs : a.eval s = v) (hown : w.ownsRow base e size v n xs)
 (A : Option Addr) (m c B : Nat) (f : Nat -> Value) (hx : a.eval x = sC A m c) (hrow : Row w B A (m * size) f) (h1 : ∀ k, (f k).oneCell' = true) (h63 : n + m <= maxLen) (hbytes : (n + m) * bytes <= 140737488355328) (hbase : base <= w.heap.size)
 (h : ∀ v' w', w'.ownsRow base e size v' (n + m) (xs ++ (List.range (m * size)).map f) -> w.grownBy w' v.ownBlock -> wpList P ops Q rest (a.put o.dst v') w') : wpList P ops Q (o :: rest) a w :=
 wpList_plain hgd fun K hK => by
  obtain ⟨v', w', hrun, h2, h3⟩ := run_append_row (P := P) w base t o.type e i z size bytes ht hi hz hsize hby hzs hsz v n xs hown A m c B f hrow h1 h63 hbytes hbase
  unfold Oper.wp execOp
  simp only [ho, resolve, invoke, builtin, Sem.run_bind, Sem.run_pure, Result.andThen_ok, List.map_toArray, List.map_cons, List.map_nil, hs, hx, hrun]
  exact hK _ _ (h v' w' h2 h3)
def oneW (x : Int) (t : BA) (i : Nat) : Value := if i = 0 then ii x else .string t
theorem oneW_one (x : Int) (t : BA) (k : Nat) : (oneW x t k).oneCell' = true := by unfold oneW; split <;> rfl
theorem wr_list (ws : List (Int × BA)) (x : Int) (t : BA) :
 (List.range (ws.length * 2)).map (wrAt ws) ++ (List.range 2).map (oneW x t) = (List.range ((ws.length + 1) * 2)).map (wrAt (ws ++ [(x, t)])) := by
 apply List.ext_getElem?
 intro k
 by_cases hk : k < (ws.length + 1) * 2
 . rw [List.getElem?_map (l := List.range ((ws.length + 1) * 2)), List.getElem?_range hk, Option.map_some, wrAt_snoc ws x t k hk]
   by_cases h1 : k < ws.length * 2
   . rw [List.getElem?_append_left (by simpa using h1), List.getElem?_map, List.getElem?_range h1, Option.map_some, if_neg oM, if_neg oM]
   . rw [List.getElem?_append_right (by simpa using h1), List.getElem?_map, List.length_map, List.length_range, List.getElem?_range oM, Option.map_some]
     unfold oneW
     by_cases h2 : k = ws.length * 2
     . rw [if_pos oM, if_neg oM, if_pos h2]
     . rw [if_neg oM, if_pos oM]
 . rw [List.getElem?_eq_none sM, List.getElem?_eq_none sM]
theorem box_row {w : World} {g : Nat} {ty : TypeId} {x : Int} {t : BA} (h : Box w g ty #[ii x, .string t]) : Row w w.heap.size (some ⟨g, 0, none⟩) (1 * 2) (oneW x t) := fun _ =>
 ⟨g, 0, rfl, h.lt, fun i hi => by
  rw [Nat.zero_add]
  rcases (show i = 0 \/ i = 1 by omega) with rfl | rfl
  . exact h.c0
  . exact h.c1⟩
theorem l01Write_c (A A2 : Option Addr) (n c n2 c2 B : Nat) (ws : List (Int × BA)) (x : Int) (t : BA) (w : World) (h2 : Wrs w B A2 n2 ws) (hB : B <= w.heap.size) (hn2 : n2 <= 1048575) :
 Calls Tryz.prog 131 #[.agg #[sC A n c, sC A2 n2 c2], ii x, .string t] w (RetWrite w A n c (ws ++ [(x, t)])) := by
 obtain ⟨i0, hi0, hz0, hz1, hz2⟩ := info_parts info_wr
 have b0 := ((Box.new w 35 #[sC A n c, sC A2 n2 c2]).alloc (.cells #[nsl, nsl] 35)).alloc (.cells #[] 102)
 have r0 := (Box.new (w.alloc (.cells #[sC A n c, sC A2 n2 c2] 35)) 35 #[nsl, nsl]).alloc (.cells #[] 102)
 have m0 := Box.new ((w.alloc (.cells #[sC A n c, sC A2 n2 c2] 35)).alloc (.cells #[nsl, nsl] 35)) 102 #[]
 have hnx0 := (((Nx.refl w).alloc (.cells #[sC A n c, sC A2 n2 c2] 35)).alloc (.cells #[nsl, nsl] 35)).alloc (.cells #[] 102)
 simp only [World.size_alloc] at r0 m0
 have hown0 := owns_empty _ (w.heap.size + 1 + 1) 102 2 (w.heap.size + 1 + 1) nle m0
 go_enter func131, ntmps131
 go_wp2_with (at_builtin; refine wpList_append_row rfl (.tmp 7) (.tmp 9) 33 rfl (w.heap.size + 1 + 1) 102 i0 _ 2 24 underlying33 hi0 hz0 hz1 hz2 rfl oM (sC (some ⟨w.heap.size + 1 + 1, 0, none⟩) 0 0) 0 [] rfl hown0 A2 n2 c2 B (wrAt ws) rfl (h2.below hnx0 hB).2 (wrAt_one ws) ?c1 ?c2 ?c3 ?_)
 case c1 => unfold maxLen; omega
 case c2 => omega
 case c3 => simp
 intro v1 w1 hown1 hg1
 have b1 := b0.grown hg1 (by simp [Value.ownBlock]; omega)
 have r1 := r0.grown hg1 (by simp [Value.ownBlock])
 have hx1 : Nx w w1 := Below.grown hnx0 hg1 hnx0.size (fun k hk => by simp [Value.ownBlock] at hk; omega)
 have hsz1 : w.heap.size + 1 + 1 + 1 <= w1.heap.size := by have := hg1.size; simpa using this
 clear b0 r0 m0 hnx0 hown0 hg1
 have b2 := b1.alloc (.cells #[ii x, .string t] 102)
 have r2 := r1.alloc (.cells #[ii x, .string t] 102)
 have hx2 := hx1.alloc (.cells #[ii x, .string t] 102)
 have n0 := Box.new w1 102 #[ii x, .string t]
 have hown2 := hown1.alloc (.cells #[ii x, .string t] 102)
 go_wp2_with (at_builtin; refine wpList_append_row rfl (.tmp 10) (.tmp 14) 33 rfl (w.heap.size + 1 + 1) 102 i0 _ 2 24 underlying33 hi0 hz0 hz1 hz2 rfl oM v1 n2 _ rfl hown2 (some ⟨w1.heap.size, 0, none⟩) 1 1 _ (oneW x t) rfl (box_row n0) (oneW_one x t) ?c1 ?c2 ?c3 ?_)
 case c1 => unfold maxLen; omega
 case c2 => omega
 case c3 => simp; omega
 intro v2 w2 hown3 hg2
 have hbs := owns_base hown1
 have b3 := b2.grown hg2 (fun e => by have := hbs _ e.symm; omega)
 have r3 := r2.grown hg2 (fun e => by have := hbs _ e.symm; omega)
 have hx3 : Nx w w2 := Below.grown hx2 hg2 hx2.size (fun k hk => by have := hbs k hk; omega)
 have hl2 := wr_list ws x t
 rw [h2.1] at hl2
 rw [show ([oneW x t 0, oneW x t 1] : List Value) = (List.range 2).map (oneW x t) from rfl, hl2] at hown3
 obtain ⟨g, cap, rfl, hg, ho⟩ := own_of_owns hown3 oM rfl
 clear b2 r2 hx2 n0 hown2 hown1 hown3 hg2 hbs b1 r1 hl2
 have c0 := b3.c0
 have c1 := b3.c1
 have f1 := b3.frozen 1
 have s0 := r3.c0
 have s1 := r3.c1
 have k0 := r3.frozen 0
 have k1 := r3.frozen 1
 have olt := ho.lt
 go_wp2
 have b4 := b3.set1 (sC (some ⟨g, 0, none⟩) (n2 + 1) cap)
 have r4 := r3.far (p := ⟨w.heap.size, 1, none⟩) (by simp) (sC (some ⟨g, 0, none⟩) (n2 + 1) cap)
 have o4 := ho.far (p := ⟨w.heap.size, 1, none⟩) sM (sC (some ⟨g, 0, none⟩) (n2 + 1) cap)
 have hx4 := hx3.setCell (p := ⟨w.heap.size, 1, none⟩) (by simp) (sC (some ⟨g, 0, none⟩) (n2 + 1) cap)
 have q := (r4.set0 (sC A n c)).set1 (sC (some ⟨g, 0, none⟩) (n2 + 1) cap)
 have q0 := q.c0
 have q1 := q.c1
 have o5 := (o4.far (p := ⟨w.heap.size + 1, 0, none⟩) sM (sC A n c)).far (p := ⟨w.heap.size + 1, 1, none⟩) sM (sC (some ⟨g, 0, none⟩) (n2 + 1) cap)
 have hx5 := (hx4.setCell (p := ⟨w.heap.size + 1, 0, none⟩) (by simp) (sC A n c)).setCell (p := ⟨w.heap.size + 1, 1, none⟩) (by simp) (sC (some ⟨g, 0, none⟩) (n2 + 1) cap)
 generalize ((w2.setCell ⟨w.heap.size, 1, none⟩ (sC (some ⟨g, 0, none⟩) (n2 + 1) cap)).setCell ⟨w.heap.size + 1, 0, none⟩ (sC A n c)).setCell ⟨w.heap.size + 1, 1, none⟩ (sC (some ⟨g, 0, none⟩) (n2 + 1) cap) = Wf at *
 exact bodyPost_ret (v := .agg #[sC A n c, sC (some ⟨g, 0, none⟩) (n2 + 1) cap]) (by simp [results, results131, go_sem, q0, q1]) rfl
  ⟨_, n2 + 1, cap, rfl, ⟨by rw [List.length_append, h2.1]; rfl, fun _ => ⟨g, rfl, oM, by unfold OwnW; rw [List.length_append, h2.1]; exact o5⟩⟩, hx5⟩
theorem l01Own_c (A A2 : Option Addr) (n c n2 c2 B : Nat) (ss : List BA) (ws : List (Int × BA)) (w : World) (h : Strs w B A n ss) (h2 : Wrs w B A2 n2 ws) (hB : B <= w.heap.size) (hn : n <= 1048576) (hn2 : n2 <= 1048576) :
 Calls Tryz.prog 59 #[.agg #[sC A n c, sC A2 n2 c2]] w (RetDisk w ss ws) := by
 obtain ⟨i0, hi0, hz0, hz1, hz2⟩ := info_parts info_wr
 obtain ⟨j0, hj0, hy0, hy1, hy2⟩ := info_parts info_str
 go_enter func59, ntmps59
 go_wp2_with fail
 have b0 := (Box.new w 35 #[sC A n c, sC A2 n2 c2]).alloc (.cells #[nsl, nsl] 35)
 have r0 := Box.new (w.alloc (.cells #[sC A n c, sC A2 n2 c2] 35)) 35 #[nsl, nsl]
 have hnx0 := ((Nx.refl w).alloc (.cells #[sC A n c, sC A2 n2 c2] 35)).alloc (.cells #[nsl, nsl] 35)
 simp only [World.size_alloc] at r0
 generalize (w.alloc (.cells #[sC A n c, sC A2 n2 c2] 35)).alloc (.cells #[nsl, nsl] 35) = W at *
 have c0 := b0.c0
 have c1 := b0.c1
 have hne := World.new_ne W _ c0
 go_region_held3 (fun w' => w'.cell? ⟨w.heap.size, 0, none⟩ = some (sC A n c) /\ w'.cell? ⟨w.heap.size, 1, none⟩ = some (sC A2 n2 c2)) (first | exact ⟨c0, c1⟩ | exact ⟨Box.c0 (b0.alloc _), Box.c1 (b0.alloc _)⟩ | exact ⟨Box.c0 ((b0.alloc _).alloc _), Box.c1 ((b0.alloc _).alloc _)⟩ | exact ⟨Box.c0 bu, Box.c1 bu⟩ | exact ⟨Box.c0 (bu.alloc _), Box.c1 (bu.alloc _)⟩ | exact ⟨Box.c0 bv, Box.c1 bv⟩ | exact ⟨z0, z1⟩)
  (first
   | (refine step_append_new ?_ (.tmp 3) (.tmp 5) 32 ?_ 9 j0 _ 1 16 underlying32 hj0 hy0 hy1 hy2 dC dC (W.heap.size) A n c B (strAt ss) ?_ ?_ ?_ hn ?_
      . rfl
      . rfl
      . rfl
      . rfl
      . rw [Nat.mul_one]; refine (h.below (B' := w.heap.size) ?_ hB).2; first | exact (hnx0.alloc _).drew | exact ((hnx0.alloc _).alloc _).drew
      intro A3 c3 u1 hN3
      have bu : Box u1 w.heap.size 35 #[sC A n c, sC A2 n2 c2] := by refine Box.nx ?_ hN3.1; first | exact b0.alloc _ | exact (b0.alloc _).alloc _
      have ru : Box u1 (w.heap.size + 1) 35 #[nsl, nsl] := by refine Box.nx ?_ hN3.1; first | exact r0.alloc _ | exact (r0.alloc _).alloc _
      have xu : Nx w u1 := by refine Nx.trans ?_ hN3.1; first | exact (hnx0.alloc _).drew | exact ((hnx0.alloc _).alloc _).drew)
   | (refine step_append_new ?_ (.tmp 3) (.tmp 5) 32 ?_ 9 j0 _ 1 16 underlying32 hj0 hy0 hy1 hy2 dC dC (W.heap.size + 1) A n c B (strAt ss) ?_ ?_ ?_ hn ?_
      . rfl
      . rfl
      . rfl
      . rfl
      . rw [Nat.mul_one]; refine (h.below (B' := w.heap.size) ?_ hB).2; first | exact (hnx0.alloc _).drew | exact ((hnx0.alloc _).alloc _).drew
      intro A3 c3 u1 hN3
      have bu : Box u1 w.heap.size 35 #[sC A n c, sC A2 n2 c2] := by refine Box.nx ?_ hN3.1; first | exact b0.alloc _ | exact (b0.alloc _).alloc _
      have ru : Box u1 (w.heap.size + 1) 35 #[nsl, nsl] := by refine Box.nx ?_ hN3.1; first | exact r0.alloc _ | exact (r0.alloc _).alloc _
      have xu : Nx w u1 := by refine Nx.trans ?_ hN3.1; first | exact (hnx0.alloc _).drew | exact ((hnx0.alloc _).alloc _).drew)
   | (refine step_append_new ?_ (.tmp 7) (.tmp 9) 33 ?_ 102 i0 _ 2 24 underlying33 hi0 hz0 hz1 hz2 dC dC (u1.heap.size) A2 n2 c2 B (wrAt ws) ?_ ?_ ?_ hn2 ?_
      . rfl
      . rfl
      . rfl
      . rfl
      . refine (h2.below (B' := w.heap.size) ?_ hB).2; first | exact xu | exact xu.alloc _
      intro A4 c4 u2 hN4
      have bv : Box u2 w.heap.size 35 #[sC A n c, sC A2 n2 c2] := by refine Box.nx ?_ hN4.1; first | exact bu | exact bu.alloc _
      have rv : Box u2 (w.heap.size + 1) 35 #[nsl, nsl] := by refine Box.nx ?_ hN4.1; first | exact ru | exact ru.alloc _
      have xv : Nx w u2 := by refine Nx.trans ?_ hN4.1; first | exact xu | exact xu.alloc _
      have s0 := rv.c0
      have s1 := rv.c1
      have f0 := rv.frozen 0
      have f1 := rv.frozen 1
      have z0 := (((bv.far (p := ⟨w.heap.size + 1, 0, none⟩) (by simp) (sC A3 n c3))).far (p := ⟨w.heap.size + 1, 1, none⟩) (by simp) (sC A4 n2 c4)).c0
      have z1 := (((bv.far (p := ⟨w.heap.size + 1, 0, none⟩) (by simp) (sC A3 n c3))).far (p := ⟨w.heap.size + 1, 1, none⟩) (by simp) (sC A4 n2 c4)).c1)
   | (refine step_append_new ?_ (.tmp 7) (.tmp 9) 33 ?_ 102 i0 _ 2 24 underlying33 hi0 hz0 hz1 hz2 dC dC (W.heap.size + 1) A2 n2 c2 B (wrAt ws) ?_ ?_ ?_ hn2 ?_
      . rfl
      . rfl
      . rfl
      . rfl
      . refine (h2.below (B' := w.heap.size) ?_ hB).2; first | exact xu | exact xu.alloc _
      intro A4 c4 u2 hN4
      have bv : Box u2 w.heap.size 35 #[sC A n c, sC A2 n2 c2] := by refine Box.nx ?_ hN4.1; first | exact bu | exact bu.alloc _
      have rv : Box u2 (w.heap.size + 1) 35 #[nsl, nsl] := by refine Box.nx ?_ hN4.1; first | exact ru | exact ru.alloc _
      have xv : Nx w u2 := by refine Nx.trans ?_ hN4.1; first | exact xu | exact xu.alloc _
      have s0 := rv.c0
      have s1 := rv.c1
      have f0 := rv.frozen 0
      have f1 := rv.frozen 1
      have z0 := (((bv.far (p := ⟨w.heap.size + 1, 0, none⟩) (by simp) (sC A3 n c3))).far (p := ⟨w.heap.size + 1, 1, none⟩) (by simp) (sC A4 n2 c4)).c0
      have z1 := (((bv.far (p := ⟨w.heap.size + 1, 0, none⟩) (by simp) (sC A3 n c3))).far (p := ⟨w.heap.size + 1, 1, none⟩) (by simp) (sC A4 n2 c4)).c1)
   | (refine step_append_new ?_ (.tmp 7) (.tmp 9) 33 ?_ 102 i0 _ 2 24 underlying33 hi0 hz0 hz1 hz2 dC dC (W.heap.size) A2 n2 c2 B (wrAt ws) ?_ ?_ ?_ hn2 ?_
      . rfl
      . rfl
      . rfl
      . rfl
      . refine (h2.below (B' := w.heap.size) ?_ hB).2; first | exact xu | exact xu.alloc _
      intro A4 c4 u2 hN4
      have bv : Box u2 w.heap.size 35 #[sC A n c, sC A2 n2 c2] := by refine Box.nx ?_ hN4.1; first | exact bu | exact bu.alloc _
      have rv : Box u2 (w.heap.size + 1) 35 #[nsl, nsl] := by refine Box.nx ?_ hN4.1; first | exact ru | exact ru.alloc _
      have xv : Nx w u2 := by refine Nx.trans ?_ hN4.1; first | exact xu | exact xu.alloc _
      have s0 := rv.c0
      have s1 := rv.c1
      have f0 := rv.frozen 0
      have f1 := rv.frozen 1
      have z0 := (((bv.far (p := ⟨w.heap.size + 1, 0, none⟩) (by simp) (sC A3 n c3))).far (p := ⟨w.heap.size + 1, 1, none⟩) (by simp) (sC A4 n2 c4)).c0
      have z1 := (((bv.far (p := ⟨w.heap.size + 1, 0, none⟩) (by simp) (sC A3 n c3))).far (p := ⟨w.heap.size + 1, 1, none⟩) (by simp) (sC A4 n2 c4)).c1)
   )
 all_goals
  have l0 := r0.lt
  have l1 := ru.lt
  have n12 : Nx u1 u2 := by first | exact hN4.1 | exact ((Nx.refl u1).alloc _).trans hN4.1
  have hS3 := ((hN3.slS h.1).low (lo' := w.heap.size + 1 + 1) (by first | omega | (simp; omega))).nx n12
  have hW4 := (hN4.slW h2.1).low (lo' := w.heap.size + 1 + 1) (by first | omega | (simp; omega))
  obtain ⟨q0, q1, hSf, hWf, hxf⟩ := fin_box c3 c4 rv hS3 hW4 oM oM xv oM
  clear z0 z1 s0 s1 f0 f1 c0 c1
  generalize (u2.setCell ⟨w.heap.size + 1, 0, none⟩ (sC A3 n c3)).setCell ⟨w.heap.size + 1, 1, none⟩ (sC A4 n2 c4) = Wf at *
  go_wp2
  exact bodyPost_ret (v := .agg #[sC A3 n c3, sC A4 n2 c4]) (by simp [results, results59, go_sem, q0, q1]) rfl ⟨A3, n, c3, A4, n2, c4, rfl, hSf, hWf, hxf⟩
def settleTo (kp : Nat -> Bool) (ss : List BA) (ws : List (Int × BA)) : Nat -> List BA
 | 0 => ss
 | k + 1 => if kp k = true then (settleTo kp ss ws k).set (ws.getD k (0, ByteArray.empty)).1.toNat (ws.getD k (0, ByteArray.empty)).2 else settleTo kp ss ws k
theorem settleTo_len (kp : Nat -> Bool) (ss : List BA) (ws : List (Int × BA)) (k : Nat) : (settleTo kp ss ws k).length = ss.length := by
 induction k with
 | zero => rfl
 | succ k ih => unfold settleTo; split <;> simp [ih]
def kpOf (bs : List Bool) (i : Nat) : Bool := bs.getD (i % bs.length) false
theorem strAt_set (ss : List BA) (a : Nat) (s : BA) (ha : a < ss.length) (i : Nat) : strAt (ss.set a s) i = if i = a then .string s else strAt ss i := by
 unfold strAt
 rw [gdE, List.getElem?_set]
 by_cases h : a = i
 . subst h; rw [if_pos rfl, if_pos rfl, if_pos ha]; rfl
 . rw [if_neg h, if_neg (fun e => h e.symm), <- gdE]
theorem wOk_at {ws : List (Int × BA)} {k : Nat} {x : Int} {s : BA} (h : ws.all wOk = true) (hk : k < ws.length) (hx : ws.getD k (0, ByteArray.empty) = (x, s)) : ∃ a : Nat, x = a /\ a < 64 := by
 rw [List.all_eq_true] at h
 have : ws[k] = (x, s) := by rw [<- hx, gdE, List.getElem?_eq_getElem hk]; rfl
 have := h _ (List.getElem_mem hk)
 rw [‹ws[k] = (x, s)›] at this
 unfold wOk secB at this
 simp only [Bool.and_eq_true, decide_eq_true_eq] at this
 exact ⟨x.toNat, oM, oM⟩
theorem settle_yes {kp : Nat -> Bool} {ss : List BA} {ws : List (Int × BA)} {k a : Nat} {s : BA} (hk : kp k = true) (hx : ws.getD k (0, ByteArray.empty) = ((a : Int), s)) : settleTo kp ss ws (k + 1) = (settleTo kp ss ws k).set a s := by
 show (if kp k = true then _ else _) = _
 rw [if_pos hk, hx]; simp
theorem settle_no {kp : Nat -> Bool} {ss : List BA} {ws : List (Int × BA)} {k : Nat} (hk : kp k = false) : settleTo kp ss ws (k + 1) = settleTo kp ss ws k := by
 show (if kp k = true then _ else _) = _
 rw [if_neg (by simp [hk])]
def SetRow (w : World) (g : Nat) (ss : List BA) : Prop := Own w g 9 64 (strAt ss)
theorem SetRow.set {w : World} {g a : Nat} {ss : List BA} {s : BA} (h : SetRow w g ss) (ha : a < 64) (hl : ss.length = 64) : SetRow (w.setCell ⟨g, a, none⟩ (.string s)) g (ss.set a s) := by
 unfold SetRow at h ⊢
 refine (h.set ha (.string s)).congr fun i _ => ?_
 rw [strAt_set ss a s oM i]
theorem settled_c (A A2 A3 : Option Addr) (c n2 c2 m c3 B : Nat) (ss : List BA) (ws : List (Int × BA)) (bs : List Bool) (w : World) (h : Strs w B A 64 ss) (h2 : Wrs w B A2 n2 ws) (h3 : Bls w B A3 m bs) (hB : B <= w.heap.size) (hn2 : n2 <= 80) (hm : 0 < m) (hm2 : m <= 1048576) (hall : ws.all wOk = true) :
 Calls Tryz.prog 128 #[.agg #[sC A 64 c, sC A2 n2 c2], sC A3 m c3] w (RetDisk w (settleTo (kpOf bs) ss ws n2) []) := by
 have HA := qh hall
 clear hall
 go_enter func128, ntmps128
 go_wp2_with fail
 have b0 := (Box.new w 35 #[sC A 64 c, sC A2 n2 c2]).alloc (.cells #[nsl, nsl] 35)
 have r0 := Box.new (w.alloc (.cells #[sC A 64 c, sC A2 n2 c2] 35)) 35 #[nsl, nsl]
 have hnx0 := ((Nx.refl w).alloc (.cells #[sC A 64 c, sC A2 n2 c2] 35)).alloc (.cells #[nsl, nsl] 35)
 simp only [World.size_alloc] at r0
 generalize (w.alloc (.cells #[sC A 64 c, sC A2 n2 c2] 35)).alloc (.cells #[nsl, nsl] 35) = W at *
 refine (copyListS_c A 64 c B ss _ (h.below hnx0 hB) (ntr hB hnx0.size) oM).mono ?_
 rintro e w1 ⟨A4, n4, c4, rfl, hS4, hx4⟩
 obtain rfl : 64 = n4 := h.1.symm.trans hS4.1
 obtain ⟨g, rfl, hg, ho⟩ := hS4.2 oM
 have b1 := b0.nx hx4
 have r1 := r0.nx hx4
 have hx1 := hnx0.trans hx4
 have l0 := r0.lt
 have HL := qh h.1
 have hset : SetRow w1 g ss := by unfold SetRow; unfold OwnS at ho; rw [h.1] at ho; exact ho
 clear b0 r0 hnx0 hx4 hS4 ho
 have c0 := b1.c0
 have c1 := b1.c1
 go_wp2
 go_loopw [14] (fun i wr => ∃ k : Nat, k <= n2 /\ i = ii k /\ SetRow wr g (settleTo (kpOf bs) ss ws k) /\ Rg g (g + 1) w1 wr) (fun i _ => n2 - (intOf i).toNat)
 case atStart => exact ⟨0, Nat.zero_le _, rfl, hset, Rg.of_nx (Nx.refl _)⟩
 case round =>
  clear c0 c1 hset
  obtain ⟨k, hk, rfl, hset, hr⟩ := hrel
  have hx := Rg.nx_of hx1 hr oM
  by_cases hlt : k < n2
  . obtain ⟨b, off, rfl, hb, hc, hd⟩ := (h2.below hx hB).at_ hlt
    obtain ⟨⟨x, s⟩, Hs⟩ := nM (ws.getD k (0, ByteArray.empty))
    rw [Hs.out] at hc hd
    have hkm : k % m < m := Nat.mod_lt _ hm
    obtain ⟨b3, off3, rfl, hb3, hc3⟩ := (h3.below (hx.alloc (.cells #[ii x, .string s] 102)) hB).at_ hkm
    obtain ⟨a, rfl, ha⟩ := wOk_at HA.out (by rw [h2.1]; exact hlt) Hs.out
    have hs1 : SetRow (wr.alloc (.cells #[ii (a : Int), .string s] 102)) g (settleTo (kpOf bs) ss ws k) := Own.alloc hset _
    have hlen := qh ((settleTo_len (kpOf bs) ss ws k).trans HL.out)
    have hr1 : Rg g (g + 1) w1 (wr.alloc (.cells #[ii (a : Int), .string s] 102)) := hr.trans (Rg.of_nx ((Nx.refl wr).alloc _))
    obtain ⟨v, hv⟩ : ∃ v, (wr.alloc (.cells #[ii (a : Int), .string s] 102)).cell? ⟨g, a, none⟩ = some v := ⟨_, Own.cell hs1 ha⟩
    have hz := Own.frozen hs1 a
    have hkp : kpOf bs k = bs.getD (k % m) false := by unfold kpOf; rw [h3.1]
    cases hbb : bs.getD (k % m) false with
    | true =>
      have HF := qh (settle_yes (ss := ss) (hkp.trans hbb) Hs.out)
      rw [hbb] at hc3
      clear hkp hbb
      go_wp2
      go_roundw
      case rel => exact ⟨k + 1, oM, by go_num, by rw [HF.out]; exact hs1.set ha hlen.out, hr1.setCell (p := ⟨g, a, none⟩) nle (by simp) _⟩
      case measure => simp [intOf]; omega
    | false =>
      have HF := qh (settle_no (ss := ss) (ws := ws) (hkp.trans hbb))
      rw [hbb] at hc3
      clear hkp hbb
      go_wp2
      go_roundw
      case rel => exact ⟨k + 1, oM, by go_num, by rw [HF.out]; exact hs1, hr1⟩
      case measure => simp [intOf]; omega
  . obtain rfl : k = n2 := oM
    have r2 := r1.rg hr (.inl oM)
    have s0 := r2.c0
    have s1 := r2.c1
    have f0 := r2.frozen 0
    have f1 := r2.frozen 1
    have hlen := (settleTo_len (kpOf bs) ss ws k).trans HL.out
    have hSs : SlS wr g (some ⟨g, 0, none⟩) 64 (settleTo (kpOf bs) ss ws k) := ⟨hlen, fun _ => ⟨g, rfl, Nat.le_refl _, by unfold OwnS; rw [hlen]; exact hset⟩⟩
    clear hlen
    go_wp2
    obtain ⟨q0, q1, hSf, hWf, hxf⟩ := fin_box c4 0 r2 hSs (SlW.nil wr (w.heap.size + 1 + 1)) oM oM hx oM
    generalize (wr.setCell ⟨w.heap.size + 1, 0, none⟩ (sC (some ⟨g, 0, none⟩) 64 c4)).setCell ⟨w.heap.size + 1, 1, none⟩ (nsl) = Wf at *
    exact bodyPost_ret (v := .agg #[sC (some ⟨g, 0, none⟩) 64 c4, nsl]) (by simp [results, results128, go_sem, q0, q1]) rfl ⟨_, 64, c4, none, 0, 0, rfl, hSf, hWf, hxf⟩
def kpAll (i : Nat) : Bool := true
def kpC (bs : List Bool) (i : Nat) : Bool := decide (0 < bs.length) && bs.getD (i % bs.length) false
theorem kpC_zero {bs : List Bool} {i : Nat} (h : bs.length = 0) : kpC bs i = false := by unfold kpC; rw [h]; rfl
theorem kpC_pos {bs : List Bool} {i : Nat} (h : 0 < bs.length) : kpC bs i = bs.getD (i % bs.length) false := by unfold kpC; rw [decide_eq_true h]; rfl
theorem l01Flush_c (A A2 : Option Addr) (c n2 c2 B : Nat) (ss : List BA) (ws : List (Int × BA)) (w : World) (h : Strs w B A 64 ss) (h2 : Wrs w B A2 n2 ws) (hB : B <= w.heap.size) (hn2 : n2 <= 80) (hall : ws.all wOk = true) :
 Calls Tryz.prog 60 #[.agg #[sC A 64 c, sC A2 n2 c2]] w (RetDisk w (settleTo (kpAll) ss ws n2) []) := by
 have HA := qh hall
 clear hall
 obtain ⟨j0, hj0, hy0, hy1, hy2⟩ := info_parts info_str
 have b0 := ((Box.new w 35 #[sC A 64 c, sC A2 n2 c2]).alloc (.cells #[nsl, nsl] 35)).alloc (.cells #[] 9)
 have r0 := (Box.new (w.alloc (.cells #[sC A 64 c, sC A2 n2 c2] 35)) 35 #[nsl, nsl]).alloc (.cells #[] 9)
 have hnx0 := (((Nx.refl w).alloc (.cells #[sC A 64 c, sC A2 n2 c2] 35)).alloc (.cells #[nsl, nsl] 35)).alloc (.cells #[] 9)
 simp only [World.size_alloc] at r0
 have HL := qh h.1
 go_enter func60, ntmps60
 go_wp2_with (at_builtin; refine wpList_append_new rfl (.tmp 5) (.tmp 7) 32 rfl 9 j0 _ 1 16 underlying32 hj0 hy0 hy1 hy2 dC dC (w.heap.size + 1 + 1) A 64 c B (strAt ss) rfl rfl (by rw [Nat.mul_one]; exact (h.below hnx0 hB).2) oM ?_)
 intro A4 c4 u1 hN
 obtain ⟨g, rfl, hg, ho⟩ := hN.2 oM
 rw [Nat.mul_one] at ho
 have hset : SetRow u1 g ss := ho
 have hg2 := ho.lt
 have hg1 : w.heap.size + 1 + 1 + 1 <= g := by simpa using hg
 have b1 := b0.nx hN.1
 have r1 := r0.nx hN.1
 have hx1 := hnx0.trans hN.1
 clear b0 r0 hnx0 hN hg ho
 have c0 := b1.c0
 have c1 := b1.c1
 go_wp2
 have b2 := (b1.alloc (.cells #[] 102)).alloc (.cells #[sC (some ⟨g, 0, none⟩) 64 c4, sC (some ⟨u1.heap.size, 0, none⟩) 0 0] 35)
 have r2 := (r1.alloc (.cells #[] 102)).alloc (.cells #[sC (some ⟨g, 0, none⟩) 64 c4, sC (some ⟨u1.heap.size, 0, none⟩) 0 0] 35)
 have o2 := Box.new (u1.alloc (.cells #[] 102)) 35 #[sC (some ⟨g, 0, none⟩) 64 c4, sC (some ⟨u1.heap.size, 0, none⟩) 0 0]
 have hx2 := (hx1.alloc (.cells #[] 102)).alloc (.cells #[sC (some ⟨g, 0, none⟩) 64 c4, sC (some ⟨u1.heap.size, 0, none⟩) 0 0] 35)
 have hset2 : SetRow ((u1.alloc (.cells #[] 102)).alloc (.cells #[sC (some ⟨g, 0, none⟩) 64 c4, sC (some ⟨u1.heap.size, 0, none⟩) 0 0] 35)) g ss := Own.alloc (Own.alloc hset _) _
 simp only [World.size_alloc] at o2
 generalize (u1.alloc (.cells #[] 102)).alloc (.cells #[sC (some ⟨g, 0, none⟩) 64 c4, sC (some ⟨u1.heap.size, 0, none⟩) 0 0] 35) = U at *
 clear b1 r1 hx1 hset c0 c1
 go_loopw [4] (fun i wr => ∃ k : Nat, k <= n2 /\ i = ii k /\ SetRow wr g (settleTo (kpAll) ss ws k) /\ Rg g (g + 1) U wr) (fun i _ => n2 - (intOf i).toNat)
 case atStart => exact ⟨0, Nat.zero_le _, rfl, hset2, Rg.of_nx (Nx.refl _)⟩
 case round =>
  clear hset2
  obtain ⟨k, hk, rfl, hset, hr⟩ := hrel
  have hx := Rg.nx_of hx2 hr oM
  have b3 := b2.rg hr (.inl oM)
  have o3 := o2.rg hr (.inr oM)
  have c0 := b3.c0
  have c1 := b3.c1
  have e0 := o3.c0
  have e1 := o3.c1
  by_cases hlt : k < n2
  . obtain ⟨b, off, rfl, hb, hc, hd⟩ := (h2.below hx hB).at_ hlt
    obtain ⟨⟨x, s⟩, Hs⟩ := nM (ws.getD k (0, ByteArray.empty))
    rw [Hs.out] at hc hd
    obtain ⟨a, rfl, ha⟩ := wOk_at HA.out (by rw [h2.1]; exact hlt) Hs.out
    have hlen := qh ((settleTo_len (kpAll) ss ws k).trans HL.out)
    obtain ⟨v, hv⟩ : ∃ v, wr.cell? ⟨g, a, none⟩ = some v := ⟨_, Own.cell hset ha⟩
    have hz := Own.frozen hset a
    have hai : ((a : Int)) < 64 := oM
    have HF := qh (settle_yes (kp := kpAll) (ss := ss) (k := k) rfl Hs.out)
    go_wp2_with fail
    go_still_tail 15, (by kernel_rfl)
    change wpList _ _ _ _ _ wr.drew
    have hsd : SetRow wr.drew g (settleTo (kpAll) ss ws k) := hset
    have hrd : Rg g (g + 1) U wr.drew := hr.trans (Rg.of_nx (Nx.refl wr).drew)
    have hvd : wr.drew.cell? ⟨g, a, none⟩ = some v := hv
    have hzd : wr.drew.frozen? ⟨g, a, none⟩ = false := hz
    clear hv hz hset hr hc hd c0 c1 e0 e1 b3 o3 hx
    generalize wr.drew = wd at *
    go_wp2
    go_roundw
    case rel => exact ⟨k + 1, oM, by go_num, by rw [HF.out]; exact hsd.set ha hlen.out, hrd.setCell (p := ⟨g, a, none⟩) nle (by simp) _⟩
    case measure => simp [intOf]; omega
  . obtain rfl : k = n2 := oM
    have r3 := r2.rg hr (.inl oM)
    have s0 := r3.c0
    have s1 := r3.c1
    have f0 := r3.frozen 0
    have f1 := r3.frozen 1
    have hlen := (settleTo_len (kpAll) ss ws k).trans HL.out
    have hSs : SlS wr g (some ⟨g, 0, none⟩) 64 (settleTo (kpAll) ss ws k) := ⟨hlen, fun _ => ⟨g, rfl, Nat.le_refl _, by unfold OwnS; rw [hlen]; exact hset⟩⟩
    have hWs : SlW wr g (some ⟨u1.heap.size, 0, none⟩) 0 [] := ⟨rfl, fun h => absurd h oM⟩
    clear hlen
    go_wp2
    obtain ⟨q0, q1, hSf, hWf, hxf⟩ := fin_box c4 0 r3 hSs hWs oM oM hx oM
    generalize (wr.setCell ⟨w.heap.size + 1, 0, none⟩ (sC (some ⟨g, 0, none⟩) 64 c4)).setCell ⟨w.heap.size + 1, 1, none⟩ (sC (some ⟨u1.heap.size, 0, none⟩) 0 0) = Wf at *
    exact bodyPost_ret (v := .agg #[sC (some ⟨g, 0, none⟩) 64 c4, sC (some ⟨u1.heap.size, 0, none⟩) 0 0]) (by simp [results, results60, go_sem, q0, q1]) rfl ⟨_, 64, c4, _, 0, 0, rfl, hSf, hWf, hxf⟩
theorem l01Crash_c (A A2 : Option Addr) (c n2 c2 B : Nat) (A3 : Option Addr) (m c3 : Nat) (bs : List Bool) (ss : List BA) (ws : List (Int × BA)) (w : World) (h : Strs w B A 64 ss) (h2 : Wrs w B A2 n2 ws) (h3 : Bls w B A3 m bs) (hm2 : m <= 1048576) (hB : B <= w.heap.size) (hn2 : n2 <= 80) (hall : ws.all wOk = true) :
 Calls Tryz.prog 81 #[.agg #[sC A 64 c, sC A2 n2 c2], sC A3 m c3] w (RetDisk w (settleTo (kpC bs) ss ws n2) []) := by
 have HA := qh hall
 clear hall
 obtain ⟨j0, hj0, hy0, hy1, hy2⟩ := info_parts info_str
 have b0 := ((Box.new w 35 #[sC A 64 c, sC A2 n2 c2]).alloc (.cells #[nsl, nsl] 35)).alloc (.cells #[] 9)
 have r0 := (Box.new (w.alloc (.cells #[sC A 64 c, sC A2 n2 c2] 35)) 35 #[nsl, nsl]).alloc (.cells #[] 9)
 have hnx0 := (((Nx.refl w).alloc (.cells #[sC A 64 c, sC A2 n2 c2] 35)).alloc (.cells #[nsl, nsl] 35)).alloc (.cells #[] 9)
 simp only [World.size_alloc] at r0
 have HL := qh h.1
 go_enter func81, ntmps81
 go_wp2_with (at_builtin; refine wpList_append_new rfl (.tmp 7) (.tmp 9) 32 rfl 9 j0 _ 1 16 underlying32 hj0 hy0 hy1 hy2 dC dC (w.heap.size + 1 + 1) A 64 c B (strAt ss) rfl rfl (by rw [Nat.mul_one]; exact (h.below hnx0 hB).2) oM ?_)
 intro A4 c4 u1 hN
 obtain ⟨g, rfl, hg, ho⟩ := hN.2 oM
 rw [Nat.mul_one] at ho
 have hset : SetRow u1 g ss := ho
 have hg2 := ho.lt
 have hg1 : w.heap.size + 1 + 1 + 1 <= g := by simpa using hg
 have b1 := b0.nx hN.1
 have r1 := r0.nx hN.1
 have hx1 := hnx0.trans hN.1
 clear b0 r0 hnx0 hN hg ho
 have c0 := b1.c0
 have c1 := b1.c1
 go_wp2
 have b2 := (b1.alloc (.cells #[] 102)).alloc (.cells #[sC (some ⟨g, 0, none⟩) 64 c4, sC (some ⟨u1.heap.size, 0, none⟩) 0 0] 35)
 have r2 := (r1.alloc (.cells #[] 102)).alloc (.cells #[sC (some ⟨g, 0, none⟩) 64 c4, sC (some ⟨u1.heap.size, 0, none⟩) 0 0] 35)
 have o2 := Box.new (u1.alloc (.cells #[] 102)) 35 #[sC (some ⟨g, 0, none⟩) 64 c4, sC (some ⟨u1.heap.size, 0, none⟩) 0 0]
 have hx2 := (hx1.alloc (.cells #[] 102)).alloc (.cells #[sC (some ⟨g, 0, none⟩) 64 c4, sC (some ⟨u1.heap.size, 0, none⟩) 0 0] 35)
 have hset2 : SetRow ((u1.alloc (.cells #[] 102)).alloc (.cells #[sC (some ⟨g, 0, none⟩) 64 c4, sC (some ⟨u1.heap.size, 0, none⟩) 0 0] 35)) g ss := Own.alloc (Own.alloc hset _) _
 simp only [World.size_alloc] at o2
 generalize (u1.alloc (.cells #[] 102)).alloc (.cells #[sC (some ⟨g, 0, none⟩) 64 c4, sC (some ⟨u1.heap.size, 0, none⟩) 0 0] 35) = U at *
 clear b1 r1 hx1 hset c0 c1
 go_loopw [6] (fun i wr => ∃ k : Nat, k <= n2 /\ i = ii k /\ SetRow wr g (settleTo (kpC bs) ss ws k) /\ Rg g (g + 1) U wr) (fun i _ => n2 - (intOf i).toNat)
 case atStart => exact ⟨0, Nat.zero_le _, rfl, hset2, Rg.of_nx (Nx.refl _)⟩
 case round =>
  clear hset2
  obtain ⟨k, hk, rfl, hset, hr⟩ := hrel
  have hx := Rg.nx_of hx2 hr oM
  have b3 := b2.rg hr (.inl oM)
  have o3 := o2.rg hr (.inr oM)
  have c0 := b3.c0
  have c1 := b3.c1
  have e0 := o3.c0
  have e1 := o3.c1
  by_cases hlt : k < n2
  . obtain ⟨b, off, rfl, hb, hc, hd⟩ := (h2.below hx hB).at_ hlt
    obtain ⟨⟨x, s⟩, Hs⟩ := nM (ws.getD k (0, ByteArray.empty))
    rw [Hs.out] at hc hd
    obtain ⟨a, rfl, ha⟩ := wOk_at HA.out (by rw [h2.1]; exact hlt) Hs.out
    have hlen := qh ((settleTo_len (kpC bs) ss ws k).trans HL.out)
    obtain ⟨v, hv⟩ : ∃ v, wr.cell? ⟨g, a, none⟩ = some v := ⟨_, Own.cell hset ha⟩
    have hz := Own.frozen hset a
    have hai : ((a : Int)) < 64 := oM
    rcases Nat.eq_zero_or_pos m with hm0 | hmp
    . subst hm0
      have HF := qh (settle_no (ss := ss) (ws := ws) (k := k) (kpC_zero (by rw [h3.1])))
      go_wp2
      go_roundw
      case rel => exact ⟨k + 1, oM, by go_num, by rw [HF.out]; exact hset, hr⟩
      case measure => simp [intOf]; omega
    . have hm0 : decide (0 < (m : Int)) = true := by simp; omega
      have hkm : k % m < m := Nat.mod_lt _ hmp
      obtain ⟨b3_, off3, rfl, hb3, hc3⟩ := (h3.below hx hB).at_ hkm
      have hkp : kpC bs k = bs.getD (k % m) false := by have := kpC_pos (bs := bs) (i := k) (by rw [h3.1]; exact hmp); rw [h3.1] at this; exact this
      cases hbb : bs.getD (k % m) false with
      | true =>
        have HF := qh (settle_yes (ss := ss) (hkp.trans hbb) Hs.out)
        rw [hbb] at hc3
        clear hkp hbb
        go_wp2_with fail
        go_still_tail 15, (by kernel_rfl)
        change wpList _ _ _ _ _ wr.drew
        have hsd : SetRow wr.drew g (settleTo (kpC bs) ss ws k) := hset
        have hrd : Rg g (g + 1) U wr.drew := hr.trans (Rg.of_nx (Nx.refl wr).drew)
        have hvd : wr.drew.cell? ⟨g, a, none⟩ = some v := hv
        have hzd : wr.drew.frozen? ⟨g, a, none⟩ = false := hz
        clear hc3 hv hz hset hr hc hd c0 c1 e0 e1 b3 o3 hx
        generalize wr.drew = wd at *
        go_wp2
        go_roundw
        case rel => exact ⟨k + 1, oM, by go_num, by rw [HF.out]; exact hsd.set ha hlen.out, hrd.setCell (p := ⟨g, a, none⟩) nle (by simp) _⟩
        case measure => simp [intOf]; omega
      | false =>
        have HF := qh (settle_no (ss := ss) (ws := ws) (hkp.trans hbb))
        rw [hbb] at hc3
        clear hkp hbb
        go_wp2
        go_roundw
        case rel => exact ⟨k + 1, oM, by go_num, by rw [HF.out]; exact hset, hr⟩
        case measure => simp [intOf]; omega
  . obtain rfl : k = n2 := oM
    have r3 := r2.rg hr (.inl oM)
    have s0 := r3.c0
    have s1 := r3.c1
    have f0 := r3.frozen 0
    have f1 := r3.frozen 1
    have hlen := (settleTo_len (kpC bs) ss ws k).trans HL.out
    have hSs : SlS wr g (some ⟨g, 0, none⟩) 64 (settleTo (kpC bs) ss ws k) := ⟨hlen, fun _ => ⟨g, rfl, Nat.le_refl _, by unfold OwnS; rw [hlen]; exact hset⟩⟩
    have hWs : SlW wr g (some ⟨u1.heap.size, 0, none⟩) 0 [] := ⟨rfl, fun h => absurd h oM⟩
    clear hlen
    go_wp2
    obtain ⟨q0, q1, hSf, hWf, hxf⟩ := fin_box c4 0 r3 hSs hWs oM oM hx oM
    generalize (wr.setCell ⟨w.heap.size + 1, 0, none⟩ (sC (some ⟨g, 0, none⟩) 64 c4)).setCell ⟨w.heap.size + 1, 1, none⟩ (sC (some ⟨u1.heap.size, 0, none⟩) 0 0) = Wf at *
    exact bodyPost_ret (v := .agg #[sC (some ⟨g, 0, none⟩) 64 c4, sC (some ⟨u1.heap.size, 0, none⟩) 0 0]) (by simp [results, results81, go_sem, q0, q1]) rfl ⟨_, 64, c4, _, 0, 0, rfl, hSf, hWf, hxf⟩
def nxtS (u : U6) (b p t : Int) (xs : List Int) (ms : List Mrk) : BA := sealS (numsS (supN (u.1 + 1) b p t xs) ++ ⟨#[124]⟩ ++ jn (wds ms))
theorem nxt_super {g b p t : Int} {xs : List Int} {ms : List Mrk} {u : U6} (h : superB g b p t xs ms = true) (hu : 1 <= u.1 /\ u.1 <= 999999) (hm : u.1 ≠ 999999) : superB (u.1 + 1) b p t xs ms = true := by
 unfold superB at h ⊢
 simp only [Bool.and_eq_true] at h ⊢
 refine ⟨⟨⟨⟨⟨?_, h.1.1.1.1.2⟩, h.1.1.1.2⟩, h.1.1.2⟩, h.1.2⟩, h.2⟩
 unfold inB
 simp only [Bool.and_eq_true, decide_eq_true_eq]
 omega
theorem newU_gen {o0 o1 : Option U6} {t0 t1 : BA} (h0 : o0 = rdU t0) (h1 : o1 = rdU t1) {u : U6} {s : Int} (h : newU o0 o1 = some (u, s)) : 1 <= u.1 /\ u.1 <= 999999 := by
 obtain ⟨g, b, p, q, xs, ms⟩ := u
 rcases newU_from h with e | e
 . rw [h0] at e; exact (superB_yes (rdU_super e)).1
 . rw [h1] at e; exact (superB_yes (rdU_super e)).1
def freeTo (xs : List Int) (k : Nat) : List Int := ((List.range k).map fun i : Nat => (i : Int) + 10).filter fun x => !hasB xs xs.length x
theorem freeTo_yes {xs : List Int} {k : Nat} (h : hasB xs xs.length ((k : Int) + 10) = false) : freeTo xs (k + 1) = freeTo xs k ++ [(k : Int) + 10] := by
 unfold freeTo
 rw [List.range_succ, List.map_append, List.filter_append]
 simp [h]
theorem freeTo_no {xs : List Int} {k : Nat} (h : hasB xs xs.length ((k : Int) + 10) = true) : freeTo xs (k + 1) = freeTo xs k := by
 unfold freeTo
 rw [List.range_succ, List.map_append, List.filter_append]
 simp [h]
theorem freeTo_len (xs : List Int) (k : Nat) : (freeTo xs k).length <= k := by
 unfold freeTo
 refine ntr (List.length_filter_le _ _) ?_
 simp
theorem l04Free_c (g b p t : Int) (A A2 : Option Addr) (c c2 B : Nat) (xs : List Int) (ms : List Mrk) (w : World) (h : Ins w B A xs) (hB : B <= w.heap.size) (hn : xs.length <= 1048576) :
 Calls Tryz.prog 162 #[.agg #[ii g, ii b, ii p, ii t, sC A xs.length c, sC A2 ms.length c2]] w (RetIc w (freeTo xs 54)) := by
 have b0 := (Box.new w 26 #[ii g, ii b, ii p, ii t, sC A xs.length c, sC A2 ms.length c2]).alloc (.cells #[] 3)
 have hx0 := (Nx.refl w).alloc (.cells #[ii g, ii b, ii p, ii t, sC A xs.length c, sC A2 ms.length c2] 26)
 have hz0 : (w.alloc (.cells #[ii g, ii b, ii p, ii t, sC A xs.length c, sC A2 ms.length c2] 26)).heap.size = w.heap.size + 1 := by simp
 have hrow0 := RowI.new (w.alloc (.cells #[ii g, ii b, ii p, ii t, sC A xs.length c, sC A2 ms.length c2] 26)) (B := w.heap.size + 1) (by rw [hz0]; exact Nat.le_refl _)
 have hx1 := hx0.alloc (.cells #[] 3)
 have hz1 : w.heap.size + 1 <= ((w.alloc (.cells #[ii g, ii b, ii p, ii t, sC A xs.length c, sC A2 ms.length c2] 26)).alloc (.cells #[] 3)).heap.size := by simp
 rw [hz0] at hrow0
 clear hz0
 go_enter func162, ntmps162
 go_wp2_with fail
 generalize (w.alloc (.cells #[ii g, ii b, ii p, ii t, sC A xs.length c, sC A2 ms.length c2] 26)).alloc (.cells #[] 3) = W at *
 go_loopw [3, 4] (fun v i wr => ∃ (k : Nat), k <= 54 /\ i = ii ((k : Int) + 10) /\ (∃ u, u = v /\ RowI wr (w.heap.size + 1) u (freeTo xs k)) /\ Nx w wr /\ Box wr w.heap.size 26 #[ii g, ii b, ii p, ii t, sC A xs.length c, sC A2 ms.length c2] /\ w.heap.size + 1 <= wr.heap.size) (fun _ i _ => 64 - (intOf i).toNat)
 case atStart => exact ⟨0, oM, rfl, ⟨_, rfl, hrow0⟩, hx1, b0, hz1⟩
 case round =>
  obtain ⟨k, hk, rfl, ⟨u, rfl, hrow⟩, hnx, hb, hsz⟩ := hrel
  clear hrow0 hx1 hz1 b0 hx0
  obtain ⟨_, _, _, _, c4, _⟩ := hb.d6
  have hil := freeTo_len xs k
  by_cases hlt : k < 54
  case neg =>
   obtain rfl : k = 54 := oM
   obtain ⟨A', c', rfl, hc', hS⟩ := hrow.slc
   have hdl : decide (((54 : Nat) : Int) + 10 < 64) = false := by decide
   go_wp2
   go_ret
   exact ⟨A', c', rfl, hc', hS.low oM, hnx⟩
  have hdl : decide ((k : Int) + 10 < 64) = true := by simp; omega
  obtain ⟨q, Hq⟩ := nM ((k : Int) + 10)
  have hq0 : 0 <= q := by have := Hq.out; omega
  have hq1 : q < 64 := by have := Hq.out; omega
  rw [Hq.out] at hdl ⊢
  clear hdl
  have hdq : decide (q < 64) = true := by simp; omega
  cases hh : hasB xs xs.length q with
  | true =>
    have HX := qh hh
    have HN := qh (freeTo_no (xs := xs) (k := k) (by rw [Hq.out]; exact hh))
    clear hh
    have HR := qh hrow
    clear hrow
    go_wp2_with (go_at_call 97; refine (l04In_c A xs.length c B xs q _ (h.below hnx hB) nle hn).mono ?_; rintro e w' ⟨rfl, rfl⟩; rw [HX.out])
    go_roundw
    case rel => exact ⟨k + 1, oM, by have := Hq.out; go_num, ⟨_, rfl, by rw [HN.out]; exact HR.out⟩, hnx, hb, hsz⟩
    case measure => have := Hq.out; simp [intOf]; omega
  | false =>
    have HX := qh hh
    have HN := qh (freeTo_yes (xs := xs) (k := k) (by rw [Hq.out]; exact hh))
    clear hh
    have hx2 := (Nx.refl wr).alloc (.cells #[ii q] 3)
    have hbx := Box.new wr 3 #[ii q]
    have hrow1 := hrow.nx hx2
    have hnx2 := hnx.trans hx2
    have hb2 := hb.nx hx2
    have hsz2 := ntr hsz hx2.size
    have HR := qh hrow1
    have HB := qh hbx
    clear hrow hrow1 hbx
    go_wp2_with (first | (go_at_call 97; refine (l04In_c A xs.length c B xs q _ (h.below hnx hB) nle hn).mono ?_; rintro e w' ⟨rfl, rfl⟩; rw [HX.out]) | (at_builtin; refine wpList_addI rfl _ _ rfl (w.heap.size + 1) wr.heap.size _ (freeTo xs k) q rfl rfl HR.out HB.out oM hsz2 ?_))
    intro A' k' w' hr' hg'
    have hnx3 := hg'.nx w hnx2 oM
    have hb3 := hg'.box _ _ _ dC hb2
    have hsz3 := ntr hsz2 hg'.size
    go_wp2
    go_roundw
    case rel => exact ⟨k + 1, oM, by have := Hq.out; go_num, ⟨_, rfl, by rw [HN.out, Hq.out]; exact hr'⟩, hnx3, hb3, hsz3⟩
    case measure => have := Hq.out; simp [intOf]; omega
theorem superFree_c (g b p t : Int) (A A2 : Option Addr) (c c2 B : Nat) (xs : List Int) (ms : List Mrk) (w : World) (h : Ins w B A xs) (hB : B <= w.heap.size) (hn : xs.length <= 1048576) :
 Calls Tryz.prog 62 #[.agg #[ii g, ii b, ii p, ii t, sC A xs.length c, sC A2 ms.length c2]] w (RetIc w (freeTo xs 54)) := by
 have b0 := Box.new w 26 #[ii g, ii b, ii p, ii t, sC A xs.length c, sC A2 ms.length c2]
 have hx0 := (Nx.refl w).alloc (.cells #[ii g, ii b, ii p, ii t, sC A xs.length c, sC A2 ms.length c2] 26)
 have hrow0 := RowI.nil (w.alloc (.cells #[ii g, ii b, ii p, ii t, sC A xs.length c, sC A2 ms.length c2] 26)) (w.heap.size + 1)
 have hx1 := hx0
 have hz1 : w.heap.size + 1 <= (w.alloc (.cells #[ii g, ii b, ii p, ii t, sC A xs.length c, sC A2 ms.length c2] 26)).heap.size := by simp
 go_enter func62, ntmps62
 go_wp2_with fail
 generalize w.alloc (.cells #[ii g, ii b, ii p, ii t, sC A xs.length c, sC A2 ms.length c2] 26) = W at *
 go_loopw [3, 4] (fun v i wr => ∃ (k : Nat), k <= 54 /\ i = ii ((k : Int) + 10) /\ (∃ u, u = v /\ RowI wr (w.heap.size + 1) u (freeTo xs k)) /\ Nx w wr /\ Box wr w.heap.size 26 #[ii g, ii b, ii p, ii t, sC A xs.length c, sC A2 ms.length c2] /\ w.heap.size + 1 <= wr.heap.size) (fun _ i _ => 64 - (intOf i).toNat)
 case atStart => exact ⟨0, oM, rfl, ⟨_, rfl, hrow0⟩, hx1, b0, hz1⟩
 case round =>
  obtain ⟨k, hk, rfl, ⟨u, rfl, hrow⟩, hnx, hb, hsz⟩ := hrel
  clear hrow0 hx1 hz1 b0 hx0
  obtain ⟨_, _, _, _, c4, _⟩ := hb.d6
  have hil := freeTo_len xs k
  by_cases hlt : k < 54
  case neg =>
   obtain rfl : k = 54 := oM
   obtain ⟨A', c', rfl, hc', hS⟩ := hrow.slc
   have hdl : decide (((54 : Nat) : Int) + 10 < 64) = false := by decide
   go_wp2
   go_ret
   exact ⟨A', c', rfl, hc', hS.low oM, hnx⟩
  have hdl : decide ((k : Int) + 10 < 64) = true := by simp; omega
  obtain ⟨q, Hq⟩ := nM ((k : Int) + 10)
  have hq0 : 0 <= q := by have := Hq.out; omega
  have hq1 : q < 64 := by have := Hq.out; omega
  rw [Hq.out] at hdl ⊢
  clear hdl
  have hdq : decide (q < 64) = true := by simp; omega
  cases hh : hasB xs xs.length q with
  | true =>
    have HX := qh hh
    have HN := qh (freeTo_no (xs := xs) (k := k) (by rw [Hq.out]; exact hh))
    clear hh
    have HR := qh hrow
    clear hrow
    go_wp2_with (go_at_call 132; refine (contains_c A xs.length c B xs q _ (h.below hnx hB) nle hn).mono ?_; rintro e w' ⟨rfl, rfl⟩; rw [HX.out])
    go_roundw
    case rel => exact ⟨k + 1, oM, by have := Hq.out; go_num, ⟨_, rfl, by rw [HN.out]; exact HR.out⟩, hnx, hb, hsz⟩
    case measure => have := Hq.out; simp [intOf]; omega
  | false =>
    have HX := qh hh
    have HN := qh (freeTo_yes (xs := xs) (k := k) (by rw [Hq.out]; exact hh))
    clear hh
    have hx2 := (Nx.refl wr).alloc (.cells #[ii q] 3)
    have hbx := Box.new wr 3 #[ii q]
    have hrow1 := hrow.nx hx2
    have hnx2 := hnx.trans hx2
    have hb2 := hb.nx hx2
    have hsz2 := ntr hsz hx2.size
    have HR := qh hrow1
    have HB := qh hbx
    clear hrow hrow1 hbx
    go_wp2_with (first | (go_at_call 132; refine (contains_c A xs.length c B xs q _ (h.below hnx hB) nle hn).mono ?_; rintro e w' ⟨rfl, rfl⟩; rw [HX.out]) | (at_builtin; refine wpList_addI rfl _ _ rfl (w.heap.size + 1) wr.heap.size _ (freeTo xs k) q rfl rfl HR.out HB.out oM hsz2 ?_))
    intro A' k' w' hr' hg'
    have hnx3 := hg'.nx w hnx2 oM
    have hb3 := hg'.box _ _ _ dC hb2
    have hsz3 := ntr hsz2 hg'.size
    go_wp2
    go_roundw
    case rel => exact ⟨k + 1, oM, by have := Hq.out; go_num, ⟨_, rfl, by rw [HN.out, Hq.out]; exact hr'⟩, hnx3, hb3, hsz3⟩
    case measure => have := Hq.out; simp [intOf]; omega
def Vl.tip (V : Vl) : Int := tipV V.b V.gs
def lastM (gs : List SgR) (t : Int) : Int := if 0 < gs.length then max t (gs.getD (gs.length - 1) sgZ).m else t
def Vl.top (V : Vl) : List Int := cntV V.b V.p V.t V.gs V.im V.tip
def newG (V : Vl) (p : Int) (n : Nat) (v t : Int) : SgR := ⟨p - 1, p, lastM V.gs t, none, 0, [((n : Int), v, V.top.getD n 0)]⟩
def segT (g : SgR) : BA := sealS (numsS (segN g.f g.t g.m g.cs))
def freeS (xs : List Int) : Int := (freeTo xs 54).getD 0 0
def apC (V : Vl) (cd p : Int) : Int := if cd ≠ 0 then cd else if p <= V.tip then 9 else if V.tip + 1 < p then 17 else if V.gs.length = 20 \/ V.g = 999999 then 7 else 0
def sltV (ss : List BA) (ws : List (Int × BA)) : Int := match newU (rdU (readP ss ws 0)) (rdU (readP ss ws 1)) with
 | some (_, s) => s
 | none => 0
def apD (ss : List BA) (V : Vl) (p : Int) (n : Nat) (v t : Int) : List BA × List (Int × BA) :=
 (ss.set (freeS V.xs).toNat (segT (newG V p n v t)), [(1 - sltV ss [], supT (V.g + 1) V.b V.p V.t (V.xs ++ [freeS V.xs]) V.ms)])
def apP (ss : List BA) (p : Int) (n : Nat) (v t : Int) : (List BA × List (Int × BA)) × Int :=
 if apC (ldV ss []).1 (ldV ss []).2 p = 0 then (apD ss (ldV ss []).1 p n v t, 0) else ((ss, []), apC (ldV ss []).1 (ldV ss []).2 p)
def askD (ss : List BA) (ws : List (Int × BA)) (p b v t : Int) : Bool := diskB ss ws && decide (ws.length = 0) && frameB p b v t
def awP (ss : List BA) (ws : List (Int × BA)) (p b v t : Int) : (List BA × List (Int × BA)) × Int :=
 if askD ss ws p b v t then ((settleTo kpAll (apP ss p b.toNat v t).1.1 (apP ss p b.toNat v t).1.2 (apP ss p b.toNat v t).1.2.length, []), (apP ss p b.toNat v t).2) else (([], []), 1)
def awT (ss : List BA) (ws : List (Int × BA)) (p b v t : Int) (bs : List Bool) : (List BA × List (Int × BA)) × Int :=
 if 4096 < bs.length then (([], []), 2) else
 if askD ss ws p b v t then ((settleTo (kpC bs) (apP ss p b.toNat v t).1.1 (apP ss p b.toNat v t).1.2 (apP ss p b.toNat v t).1.2.length, []), (apP ss p b.toNat v t).2) else (([], []), 1)
theorem apP_yes {ss : List BA} {p v t : Int} {n : Nat} {V : Vl} {cd : Int} (h : ldV ss [] = (V, cd)) (hc : apC V cd p = 0) : apP ss p n v t = (apD ss V p n v t, 0) := by
 unfold apP; rw [h]; simp only; rw [if_pos hc]
theorem apP_no {ss : List BA} {p v t : Int} {n : Nat} {V : Vl} {cd c : Int} (h : ldV ss [] = (V, cd)) (hc : apC V cd p = c) (h0 : c ≠ 0) : apP ss p n v t = ((ss, []), c) := by
 unfold apP; rw [h]; simp only; rw [hc, if_neg h0]
theorem apC_code {V : Vl} {cd p : Int} (h : cd ≠ 0) : apC V cd p = cd := by unfold apC; rw [if_pos h]
theorem apC_there {V : Vl} {p : Int} (h : p <= V.tip) : apC V 0 p = 9 := by unfold apC; rw [if_neg (by simp), if_pos h]
theorem apC_gap {V : Vl} {p : Int} (h : V.tip + 1 < p) : apC V 0 p = 17 := by unfold apC; rw [if_neg (by simp), if_neg oM, if_pos h]
theorem apC_full {V : Vl} {p : Int} (h : p = V.tip + 1) (h2 : V.gs.length = 20 \/ V.g = 999999) : apC V 0 p = 7 := by unfold apC; rw [if_neg (by simp), if_neg oM, if_neg oM, if_pos h2]
theorem apC_yes {V : Vl} {p : Int} (h : p = V.tip + 1) (h2 : V.gs.length ≠ 20) (h3 : V.g ≠ 999999) : apC V 0 p = 0 := by unfold apC; rw [if_neg (by simp), if_neg oM, if_neg oM, if_neg (by simp [h2, h3])]
theorem ldV_code (ss : List BA) (ws : List (Int × BA)) : (ldV ss ws).2 = 0 \/ (ldV ss ws).2 = 10 \/ (ldV ss ws).2 = 19 := by
 cases hu : newU (rdU (readP ss ws 0)) (rdU (readP ss ws 1)) with
 | none => rw [ldV_none hu]; exact .inr (.inr rfl)
 | some us =>
   obtain ⟨u, s⟩ := us
   rw [ldV_some hu]
   split
   . exact .inl rfl
   . exact .inr (.inl rfl)
structure LdY (ss : List BA) (ws : List (Int × BA)) (V : Vl) : Prop where
 nu : newU (rdU (readP ss ws 0)) (rdU (readP ss ws 1)) = some ((V.g, V.b, V.p, V.t, V.xs, V.ms), sltV ss ws)
 slot : sltV ss ws = 0 \/ sltV ss ws = 1
 ok : VltY V.g V.b V.p V.t V.xs V.ms V.gs V.im
 rd : ldOk ss ws (V.g, V.b, V.p, V.t, V.xs, V.ms) = true
 eq : V = ldW ss ws (V.g, V.b, V.p, V.t, V.xs, V.ms)
theorem ldV_ldY {ss : List BA} {ws : List (Int × BA)} {V : Vl} (h : ldV ss ws = (V, 0)) : LdY ss ws V := by
 cases hu : newU (rdU (readP ss ws 0)) (rdU (readP ss ws 1)) with
 | none => rw [ldV_none hu] at h; injection h with _ h; exact absurd h dC
 | some us =>
   obtain ⟨u, s⟩ := us
   rw [ldV_some hu] at h
   split at h
   . rename_i hc
     rw [Bool.and_eq_true] at hc
     injection h with h _
     subst h
     have hs : sltV ss ws = s := by unfold sltV; rw [hu]
     refine ⟨by rw [hu, hs]; rfl, by rw [hs]; exact newU_slot hu, vltB_yes hc.2, hc.1, rfl⟩
   . injection h with _ h; exact absurd h dC
theorem LdY.v {ss : List BA} {ws : List (Int × BA)} {V : Vl} (h : LdY ss ws V) : ldV ss ws = (V, 0) := by
 have h2 : (ldW ss ws (V.g, V.b, V.p, V.t, V.xs, V.ms)).ok = true := by rw [<- h.eq]; exact h.ok.b
 have := ldV_yes h.nu h.rd h2
 rw [<- h.eq] at this
 exact this
theorem hasB_all (xs : List Int) (x : Int) : hasB xs xs.length x = xs.contains x := by unfold hasB; rw [List.take_length]
theorem filter_ne_len {y : Int} : ∀ {M : List Int}, M.Nodup -> M.length <= (M.filter fun x => !(x == y)).length + 1
 | [], _ => by simp
 | x :: M, h => by
   obtain ⟨h1, h2⟩ := List.nodup_cons.1 h
   by_cases e : x = y
   . subst e
     have : M.filter (fun z => !(z == x)) = M := List.filter_eq_self.2 fun z hz => by
      simp only [Bool.not_eq_true', beq_eq_false_iff_ne]
      rintro rfl
      exact h1 hz
     simp [this]
   . have := filter_ne_len (y := y) h2
     simp [e]; simpa using this
theorem filter_len {L : List Int} (hL : L.Nodup) : ∀ xs : List Int, L.length <= (L.filter fun x => !xs.contains x).length + xs.length
 | [] => by
   have : L.filter (fun x => !([] : List Int).contains x) = L := List.filter_eq_self.2 fun z hz => by simp
   rw [this]; simp
 | y :: xs => by
   have h1 := filter_len hL xs
   have h2 := filter_ne_len (y := y) (hL.filter (fun x => !xs.contains x))
   rw [List.filter_filter] at h2
   have e : (L.filter fun x => !(y :: xs).contains x) = L.filter (fun a => !(a == y) && !xs.contains a) := List.filter_congr fun z _ => by rw [List.contains_cons, Bool.not_or]
   rw [e, List.length_cons]
   omega
theorem nodup_map_add (k : Nat) : ((List.range k).map fun i : Nat => (i : Int) + 10).Nodup := by
 rw [List.nodup_iff_pairwise_ne, List.pairwise_map]
 exact (List.nodup_range (n := k)).imp fun h e => h oM
theorem GrewT.refl (t : TypeId) (B : Nat) (w : World) : GrewT t B w w := ⟨fun _ h _ => h, fun _ _ _ h _ => h, fun _ _ _ _ h => h, Nat.le_refl _⟩
theorem grewT_of {w w' : World} {B : Nat} {v : Value} {xs : List Int} (hown : RowI w B v xs) (hg' : w.grownBy w' v.ownBlock) : GrewT 3 B w w' := by
 have hrow : ∀ k, Value.ownBlock v = some k -> B <= k := fun k hk => (World.ownsRow.lt hown k hk).1
 refine ⟨fun b hb hbB => Below.grown hb hg' hb.size (fun k hk => ntr hbB (hrow k hk)), fun lo hi b hb hbB => ?_, fun g t xs' ht hbg => hbg.grown hg' (hown.ne hbg ht), hg'.size⟩
 refine ⟨hg'.os.trans hb.os, hg'.tape.trans hb.tape, hg'.output.trans hb.output, ntr hb.size hg'.size, fun k hk hr => (hg'.block k (Nat.lt_of_lt_of_le hk hb.size) fun e => ?_).trans (hb.block k hk hr)⟩
 have := hrow k e.symm
 omega
theorem iV_one (xs : List Int) : ∀ u ∈ iV xs, u.oneCell' = true := fun u hu => by
 unfold iV at hu
 obtain ⟨x, _, rfl⟩ := List.mem_map.1 hu
 rfl
theorem iV_len (xs : List Int) : (iV xs).length = xs.length := by unfold iV; simp
theorem wp_addAllI {w : World} {o : Oper} {a : Act} {K : Act -> World -> Prop} {Q : Exit -> Act -> World -> Prop}
 (s x : Operand) (ho : o.op = .call { callee := .builtin .append, args := #[s, x], argTypes := #[23, 23] })
 (B g0 : Nat) (A : Option Addr) (c : Nat) (xs : List Int) (hs : a.eval s = sC (some ⟨g0, 0, none⟩) 0 0) (hx : a.eval x = sC A xs.length c) (hown : RowI w B (sC (some ⟨g0, 0, none⟩) 0 0) []) {B' : Nat} (hrow : Ins w B' A xs)
 (hm : xs.length <= 1048576) (hB : B <= w.heap.size)
 (hK : ∀ A' k' w', RowI w' B (sC A' xs.length k') xs -> GrewT 3 B w w' -> (∀ k, k < w.heap.size -> k ≠ g0 -> w'.heap[k]? = w.heap[k]?) -> K (a.put o.dst (sC A' xs.length k')) w') :
 o.wp Tryz.prog a w K Q := by
 obtain ⟨i0, hi0, hz0, hz1, hz2⟩ := info_parts info_int
 rcases Nat.eq_zero_or_pos xs.length with h0 | hp
 . have hgs : xs = [] := List.eq_nil_of_length_eq_zero h0
   subst hgs
   have hrun : (Builtin.append_ #[23, 23] o.type #[sC (some ⟨g0, 0, none⟩) 0 0, sC A 0 c]).run Tryz.prog w = .ok (sC (some ⟨g0, 0, none⟩) 0 0) w := by
    rcases A with _ | a'
    . simp [Builtin.append_, run_underlying underlying23, sizeOf, typeInfo, hi0, Builtin.lenOf, Builtin.firstCells, storeCells]
    . simp [Builtin.append_, run_underlying underlying23, sizeOf, typeInfo, hi0, Builtin.lenOf, Builtin.firstCells, storeCells, loadCells, loadCellsFrom]
   have hx' : a.eval x = sC A 0 c := hx
   unfold Oper.wp execOp
   simp only [ho, resolve, invoke, builtin, Sem.run_bind, Sem.run_pure, Result.andThen_ok, List.map_toArray, List.map_cons, List.map_nil, hs, hx', hrun]
   exact hK _ _ w hown (GrewT.refl _ _ _) (fun _ _ _ => rfl)
 . obtain ⟨b, off, rfl, hb, hc⟩ := hrow oM
   refine wp_append_own w s x 23 ho B 3 i0 _ 1 8 underlying23 hi0 hz0 hz1 hz2 rfl oM _ 0 _ hs hown ⟨b, off, none⟩ xs.length c (iV xs) hx (by rw [iV_len, Nat.mul_one]) (fun j u hj => ?_) (iV_one xs) (by unfold maxLen; omega) oM hB ?_
   . have hj' : j < xs.length := by
      have := (List.getElem?_eq_some_iff.1 hj).1
      rwa [iV_len] at this
     rw [iV_get xs j hj'] at hj
     rw [addr_add', hc j hj']
     exact hj
   . intro v' w' hw' hg' _
     have hr : RowI w' B v' xs := by
      unfold RowI
      have : w'.ownsRow B 3 1 v' (0 + xs.length) (iV [] ++ iV xs) := hw'
      rw [Nat.zero_add] at this
      exact this
     obtain ⟨A', k', rfl, _⟩ := hr.sl
     exact hK A' k' w' hr (grewT_of hown hg') (fun k hk hne => hg'.block k hk (fun e => hne (by simpa [Value.ownBlock] using e)))
theorem free_ok {xs : List Int} (h : xs.length <= 20) : 10 <= freeS xs /\ freeS xs <= 63 /\ freeS xs ∉ xs := by
 have h1 := filter_len (nodup_map_add 54) xs
 have h2 : (freeTo xs 54) = ((List.range 54).map fun i : Nat => (i : Int) + 10).filter fun x => !xs.contains x := by
  unfold freeTo
  exact List.filter_congr fun z _ => by rw [hasB_all]
 rw [<- h2] at h1
 simp only [List.length_map, List.length_range] at h1
 match hF : freeTo xs 54 with
 | [] => rw [hF] at h1; simp at h1; omega
 | f :: fs =>
   have hf : freeS xs = f := by unfold freeS; rw [hF]; rfl
   have hm : f ∈ freeTo xs 54 := by rw [hF]; simp
   rw [h2, List.mem_filter, List.mem_map] at hm
   obtain ⟨⟨i, hi, rfl⟩, hn⟩ := hm
   rw [List.mem_range] at hi
   rw [hf]
   refine ⟨oM, oM, fun hm => ?_⟩
   rw [<- List.contains_iff_mem] at hm
   rw [hm] at hn
   simp at hn
theorem tb_snoc {xs : List Int} {x : Int} (h : tbB xs = true) (hl : xs.length < 20) (h1 : 10 <= x /\ x <= 63) (hn : x ∉ xs) : tbB (xs ++ [x]) = true := by
 obtain ⟨_, hto⟩ := tbB_yes h
 unfold tbB
 rw [Bool.and_eq_true]
 refine ⟨decide_eq_true sM, List.all_eq_true.2 fun k hk => ?_⟩
 have hk' : k < xs.length + 1 := by simpa using hk
 unfold tbOk hasB
 by_cases hlt : k < xs.length
 . have := hto k hlt
   unfold tbOk hasB at this
   rw [gdE, List.getElem?_append_left hlt, <- gdE, List.take_append_of_le_length oM]
   exact this
 . obtain rfl : k = xs.length := oM
   have e : (xs ++ [x]).getD xs.length 0 = x := by rw [gdE, List.getElem?_append_right nle]; simp
   rw [e, List.take_append_of_le_length nle, List.take_length, inB_mk h1.1 h1.2]
   cases hc : xs.contains x with
   | false => rfl
   | true => rw [List.contains_iff_mem] at hc; exact absurd hc hn
theorem app_contO {x : List Int} {cs : List Chg} (hx : contB x = true) (h : chsB cs = true) : contB (app pO x cs) = true := by
 obtain ⟨h8, hv⟩ := contB_yes hx
 refine contB_mk (by rw [app_len]; exact h8) fun j hj => ?_
 rw [app_len, h8] at hj
 rw [app_at0 pO (chsB_blk h) h8 hj]
 cases hc : noteM noM cs (j : Int) with
 | none => have := hv j hj; exact inB_mk this.1 this.2
 | some c =>
   have := (note_right h j hj c hc).2
   have := (chB_parts this).2.2
   exact inB_mk this.1 this.2
theorem fits_of {x : List Int} {cs : List Chg} (h8 : x.length = 8) (h : chsB cs = true) (he : app pO x cs = x) : Fits x cs := fun j hj c hc => by
 have := app_at0 pO (chsB_blk h) h8 hj
 rw [he, hc] at this
 exact this.symm
structure Ct (b : Int) (gs : List SgR) (c : List Int) (a : Nat) (c0 : List Int) : Prop where
 cont : contB c0 = true
 chi : ChI b c0 gs
 fw : ∀ j, a + j <= gs.length -> ctK c0 gs (a + j) = fwK c gs a j
 bk : ∀ j, j <= a -> ctK c0 gs (a - j) = bkK c gs a j
theorem bk_cont {b : Int} {gs : List SgR} {c : List Int} {a : Nat} (hl : Lead b gs) (ha : a <= gs.length) (hc : contB c = true) : ∀ j, j <= a -> contB (bkK c gs a j) = true
 | 0, _ => hc
 | j + 1, hj => app_contO (bk_cont hl ha hc j oM) (hl.ok _ oM)
theorem ct_of {b : Int} {gs : List SgR} {c : List Int} {a : Nat} (hch : chainB b gs = true) (ha : a <= gs.length) (hc : contB c = true) (hF : fitF c gs a = true) (hB : fitB c gs a = true) : Ct b gs c a (bkK c gs a a) := by
 have hl := chainB_lead hch
 have h0 := bk_cont hl ha hc a nle
 have hnew : ∀ j, j < a -> app pN (bkK c gs a j) (gs.getD (a - 1 - j) sgZ).cs = bkK c gs a j := fun j hj => of_decide_eq_true (List.all_eq_true.1 hB j (by simpa using hj))
 have hold : ∀ j, a + j < gs.length -> app pO (fwK c gs a j) (gs.getD (a + j) sgZ).cs = fwK c gs a j := fun j hj => of_decide_eq_true (List.all_eq_true.1 hF j sM)
 have hbk : ∀ k, k <= a -> ctK (bkK c gs a a) gs k = bkK c gs a (a - k) := fun k => by
  induction k with
  | zero => intro _; rfl
  | succ k ih =>
    intro hk
    show app pN (ctK _ gs k) (gs.getD k sgZ).cs = _
    have e : a - k = (a - (k + 1)) + 1 := oM
    rw [ih oM, e]
    show app pN (app pO (bkK c gs a (a - (k + 1))) (gs.getD (a - 1 - (a - (k + 1))) sgZ).cs) _ = _
    have e2 : a - 1 - (a - (k + 1)) = k := oM
    have h8 := (contB_yes (bk_cont hl ha hc (a - (k + 1)) oM)).1
    have hn := hnew (a - (k + 1)) oM
    rw [e2] at hn ⊢
    rw [app_app pN pO (chsB_blk (hl.ok k oM)) h8, hn]
 have hfw : ∀ j, a + j <= gs.length -> ctK (bkK c gs a a) gs (a + j) = fwK c gs a j := fun j => by
  induction j with
  | zero => intro _; rw [Nat.add_zero, hbk a nle, Nat.sub_self]; rfl
  | succ j ih =>
    intro hj
    show app pN (ctK _ gs (a + j)) (gs.getD (a + j) sgZ).cs = _
    rw [ih oM]; rfl
 refine ⟨h0, fun k hk => ?_, hfw, fun j hj => by rw [hbk _ oM, show a - (a - j) = j by omega]⟩
 have hlk : lnk b gs k = true := by
  unfold chainB at hch
  rw [Bool.and_eq_true] at hch
  exact List.all_eq_true.1 hch.2 k (by simpa using hk)
 have htm : tmK gs k <= (gs.getD k sgZ).m := by
  unfold lnk at hlk
  simp only [Bool.and_eq_true, decide_eq_true_eq] at hlk
  exact hlk.1.2
 refine ⟨hl.seg k hk, hl.from_ k hk, htm, ?_⟩
 rcases Nat.lt_or_ge k a with hlt | hge
 . have e : a - k = (a - (k + 1)) + 1 := oM
   have e2 : a - 1 - (a - (k + 1)) = k := oM
   have h8 := (contB_yes (bk_cont hl ha hc (a - (k + 1)) oM)).1
   have ex : ctK (bkK c gs a a) gs k = app pO (bkK c gs a (a - (k + 1))) (gs.getD k sgZ).cs := by
    rw [hbk k oM, e]
    show app pO _ (gs.getD (a - 1 - (a - (k + 1))) sgZ).cs = _
    rw [e2]
   rw [ex]
   exact fits_of (by rw [app_len]; exact h8) (hl.ok k hk) (app_app pO pO (chsB_blk (hl.ok k hk)) h8)
 . obtain ⟨j, rfl⟩ : ∃ j, k = a + j := ⟨k - a, oM⟩
   rw [hfw j oM]
   have h8 : (fwK c gs a j).length = 8 := by rw [fwK_len]; exact (contB_yes hc).1
   exact fits_of h8 (hl.ok _ hk) (hold j hk)
theorem stp_cont {g b p t : Int} {xs : List Int} {ms : List Mrk} {gs : List SgR} {im : List Int} (hy : VltY g b p t xs ms gs im) : contB (stp b p t gs im).1 = true := by
 have hl := chainB_lead hy.chain
 obtain ⟨_, h1, h2⟩ := stp_le im hl hy.places
 unfold stp
 by_cases hlt : p < t
 . rw [if_pos hlt]; exact app_cont hy.cont (hl.ok _ (h1 hlt))
 . rw [if_neg hlt]
   by_cases hgt : t < p
   . rw [if_pos hgt]
     have hp : isRet b gs p = true := by have := hy.places; unfold plcB at this; simp only [Bool.and_eq_true] at this; exact this.1.2
     exact app_contO hy.cont (hl.ok _ (by have := (ahd_at hp).1; have := h2 hgt; omega))
   . rw [if_neg hgt]; exact hy.cont
theorem VltY.ct {g b p t : Int} {xs : List Int} {ms : List Mrk} {gs : List SgR} {im : List Int} (hy : VltY g b p t xs ms gs im) :
 Ct b gs (stp b p t gs im).1 (stp b p t gs im).2 (bkK (stp b p t gs im).1 gs (stp b p t gs im).2 (stp b p t gs im).2) :=
 ct_of hy.chain (stp_le im (chainB_lead hy.chain) hy.places).1 (stp_cont hy) hy.fwd hy.bck
theorem top_ct {g b p t : Int} {xs : List Int} {ms : List Mrk} {gs : List SgR} {im : List Int} (hy : VltY g b p t xs ms gs im) :
 cntV b p t gs im (tipV b gs) = fwK (stp b p t gs im).1 gs (stp b p t gs im).2 (gs.length - (stp b p t gs im).2) /\ cntV b p t gs im (tipV b gs) = ctK (bkK (stp b p t gs im).1 gs (stp b p t gs im).2 (stp b p t gs im).2) gs gs.length := by
 have hl := chainB_lead hy.chain
 have ha := (stp_le im hl hy.places).1
 have ht := (ahd_of hl (Nat.le_refl gs.length)).2
 have h1 : cntV b p t gs im (tipV b gs) = fwK (stp b p t gs im).1 gs (stp b p t gs im).2 (gs.length - (stp b p t gs im).2) := by
  unfold cntV tipV
  rw [ht, if_pos ha]
 refine ⟨h1, ?_⟩
 rw [h1, <- hy.ct.fw _ oM, show (stp b p t gs im).2 + (gs.length - (stp b p t gs im).2) = gs.length by omega]
theorem top_cont {g b p t : Int} {xs : List Int} {ms : List Mrk} {gs : List SgR} {im : List Int} (hy : VltY g b p t xs ms gs im) : contB (cntV b p t gs im (tipV b gs)) = true := by
 rw [(top_ct hy).2]; exact hy.ct.chi.cont hy.ct.cont _ nle
theorem idx_app : ∀ {xs : List Int} (ys : List Int) {n : Int}, idx xs n < xs.length -> idx (xs ++ ys) n = idx xs n
 | [], _, _, h => absurd h (by simp)
 | x :: xs, ys, n, h => by
   rw [List.cons_append, idx_cons, idx_cons]
   by_cases e : x = n
   . rw [if_pos e, if_pos e]
   . rw [if_neg e, if_neg e]
     rw [idx_cons, if_neg e, List.length_cons] at h
     rw [idx_app ys oM]
theorem retL_app (b : Int) (gs : List SgR) (x : SgR) : retL b (gs ++ [x]) = retL b gs ++ [x.t] := by unfold retL; rw [List.map_append]; rfl
theorem isRet_app {b : Int} {gs : List SgR} {n : Int} (x : SgR) (h : isRet b gs n = true) : isRet b (gs ++ [x]) n = true /\ ahd b (gs ++ [x]) n = ahd b gs n := by
 have h1 : idx (retL b gs) n < (retL b gs).length := by
  unfold isRet at h
  rw [retL_len]; exact of_decide_eq_true h
 have h2 := idx_app [x.t] h1
 rw [retL_len] at h1
 refine ⟨?_, ?_⟩
 . unfold isRet
   rw [retL_app, h2]
   exact decide_eq_true sM
 . unfold ahd; rw [retL_app, h2]
theorem stp_app {b p t : Int} {gs : List SgR} {ms : List Mrk} (im : List Int) (x : SgR) (hl : Lead b gs) (h : plcB b p t gs ms = true) : stp b p t (gs ++ [x]) im = stp b p t gs im := by
 obtain ⟨_, h1, h2⟩ := stp_le im hl h
 have hp : isRet b gs p = true := by unfold plcB at h; simp only [Bool.and_eq_true] at h; exact h.1.2
 have ha := (ahd_at hp).1
 unfold stp
 rw [(isRet_app x hp).2]
 by_cases hlt : p < t
 . rw [if_pos hlt, if_pos hlt, getD_pre gs [x] (h1 hlt)]
 . rw [if_neg hlt, if_neg hlt]
   by_cases hgt : t < p
   . rw [if_pos hgt, if_pos hgt, getD_pre gs [x] (by have := h2 hgt; omega)]
   . rw [if_neg hgt, if_neg hgt]
theorem fwK_app (c : List Int) (gs : List SgR) (x : SgR) (a : Nat) : ∀ j, a + j <= gs.length -> fwK c (gs ++ [x]) a j = fwK c gs a j
 | 0, _ => rfl
 | j + 1, h => by
   show app pN (fwK c (gs ++ [x]) a j) ((gs ++ [x]).getD (a + j) sgZ).cs = _
   rw [fwK_app c gs x a j oM, getD_pre gs [x] oM]; rfl
theorem bkK_app (c : List Int) (gs : List SgR) (x : SgR) (a : Nat) (ha : a <= gs.length) : ∀ j, j <= a -> bkK c (gs ++ [x]) a j = bkK c gs a j
 | 0, _ => rfl
 | j + 1, h => by
   show app pO (bkK c (gs ++ [x]) a j) ((gs ++ [x]).getD (a - 1 - j) sgZ).cs = _
   rw [bkK_app c gs x a ha j oM, getD_pre gs [x] oM]; rfl
theorem plcB_app {b p t : Int} {gs : List SgR} {ms : List Mrk} (x : SgR) (h : plcB b p t gs ms = true) : plcB b p t (gs ++ [x]) ms = true := by
 unfold plcB mksR at h ⊢
 simp only [Bool.and_eq_true] at h ⊢
 exact ⟨⟨List.all_eq_true.2 fun k hk => (isRet_app x (List.all_eq_true.1 h.1.1 k hk)).1, (isRet_app x h.1.2).1⟩, (isRet_app x h.2).1⟩
structure Nxt (b p t : Int) (gs : List SgR) (im : List Int) (x : SgR) (n : Nat) (v : Int) : Prop where
 seg : segB x.f x.t x.m x.cs = true
 at_ : x.f = tipV b gs
 tm : tmK gs gs.length <= x.m
 cs : x.cs = [((n : Int), v, (cntV b p t gs im (tipV b gs)).getD n 0)]
 lt : n < 8
theorem ext_y {g b p t : Int} {xs : List Int} {ms : List Mrk} {gs : List SgR} {im : List Int} {x : SgR} {n : Nat} {v : Int} (hy : VltY g b p t xs ms gs im) (hx : Nxt b p t gs im x n v) (hg : g ≠ 999999) (hn : gs.length < 20) :
 VltY (g + 1) b p t (xs ++ [freeS xs]) ms (gs ++ [x]) im := by
 have hl := chainB_lead hy.chain
 obtain ⟨s0, s1, s2, s3, s4, s5⟩ := superB_yes hy.super
 have ha := (stp_le im hl hy.places).1
 have hlen := hy.len
 obtain ⟨f1, f2, f3⟩ := free_ok (xs := xs) oM
 have ht8 := (contB_yes (top_cont hy)).1
 have hct := hy.ct
 refine ⟨superB_mk (inB_mk oM oM) (inB_mk s1.1 s1.2) (inB_mk s2.1 s2.2) (inB_mk s3.1 s3.2) (tb_snoc s4 oM ⟨f1, f2⟩ f3) s5, hy.cont, by simp [hlen], ?_, plcB_app x hy.places, ?_, ?_⟩
 . refine (hct.chi.snoc ⟨hx.seg, hx.at_, hx.tm, ?_⟩).chain hct.cont (inB_mk s1.1 s1.2) sM
   rw [hx.cs, <- (top_ct hy).2]
   exact fits_one _ n v
 . rw [stp_app im x hl hy.places]
   unfold fitF
   refine List.all_eq_true.2 fun j hj => ?_
   have hj' : j < gs.length + 1 - (stp b p t gs im).2 := by simpa using hj
   rw [fwK_app _ gs x _ j oM]
   by_cases hlt : (stp b p t gs im).2 + j < gs.length
   . rw [getD_pre gs [x] hlt]
     exact List.all_eq_true.1 hy.fwd j sM
   . have e : (stp b p t gs im).2 + j = gs.length := oM
     have e2 : j = gs.length - (stp b p t gs im).2 := oM
     rw [e, getD_app, e2, <- (top_ct hy).1]
     unfold oldB
     rw [hx.cs, app_one]
     exact decide_eq_true (set_getD (by rw [ht8]; exact hx.lt))
 . rw [stp_app im x hl hy.places]
   unfold fitB
   refine List.all_eq_true.2 fun j hj => ?_
   have hj' : j < (stp b p t gs im).2 := by simpa using hj
   rw [bkK_app _ gs x _ ha j oM, getD_pre gs [x] oM]
   exact List.all_eq_true.1 hy.bck j hj
theorem tm_last (gs : List SgR) (t : Int) (h0 : 0 <= t) : tmK gs gs.length <= lastM gs t := by
 unfold lastM
 cases hn : gs.length with
 | zero => rw [if_neg oM]; show (0 : Int) <= t; exact h0
 | succ k =>
   rw [if_pos oM, show k + 1 - 1 = k by omega]
   show (gs.getD k sgZ).m <= _
   exact Int.le_max_right _ _
theorem newG_nxt {V : Vl} {p v t : Int} {n : Nat} (hy : VltY V.g V.b V.p V.t V.xs V.ms V.gs V.im) (hf : frameB p (n : Int) v t = true) (hp : p = V.tip + 1) : Nxt V.b V.p V.t V.gs V.im (newG V p n v t) n v := by
 obtain ⟨f1, f2, f3, f4⟩ := frameB_yes hf
 have hl := chainB_lead hy.chain
 have hn8 : n < 8 := oM
 have ho := (contB_yes (top_cont hy)).2 n hn8
 have hm : 0 <= lastM V.gs t /\ lastM V.gs t <= 999999 := by
  unfold lastM
  split
  . have := (segB_yes (hl.seg (V.gs.length - 1) oM)).2.2.2.1
    rw [Int.max_def]
    split <;> omega
  . exact f4
 refine ⟨segB_mk (by show 0 <= p - 1; omega) (by show p - 1 < p; omega) f1.2 (inB_mk hm.1 hm.2) (ch_one (chB_mk f2.1 f2.2 f3.1 f3.2 ho.1 ho.2)), by show p - 1 = tipV V.b V.gs; unfold Vl.tip at hp; omega, tm_last _ _ f4.1, rfl, hn8⟩
theorem flat_get : ∀ (cs : List Chg) (j r : Nat), j < cs.length -> r < 3 -> (cs.flatMap chN).getD (3 * j + r) 0 = (chN (cs.getD j chZ)).getD r 0
 | [], j, r, h, _ => by simp at h
 | c :: cs, 0, r, h, hr => by
   show (chN c ++ cs.flatMap chN).getD (3 * 0 + r) 0 = (chN c).getD r 0
   rw [gdE, gdE, List.getElem?_append_left (by show _ < 3; omega), show 3 * 0 + r = r by omega]
 | c :: cs, j + 1, r, h, hr => by
   show (chN c ++ cs.flatMap chN).getD (3 * (j + 1) + r) 0 = (chN (cs.getD j chZ)).getD r 0
   rw [<- flat_get cs j r (by simpa using h) hr, gdE, gdE, List.getElem?_append_right (by show 3 <= _; omega)]
   have : (chN c).length = 3 := rfl
   rw [this, show 3 * (j + 1) + r - 3 = 3 * j + r by omega]
theorem segN_get (f t m : Int) (cs : List Chg) (j r : Nat) (hj : j < cs.length) (hr : r < 3) : (segN f t m cs).getD (3 + 3 * j + r) 0 = (chN (cs.getD j chZ)).getD r 0 := by
 rw [<- flat_get cs j r hj hr]
 unfold segN
 rw [gdE, gdE, List.getElem?_append_right (by show 3 <= _; omega)]
 have : [f.toNat, t.toNat, m.toNat].length = 3 := rfl
 rw [this, show 3 + 3 * j + r - 3 = 3 * j + r by omega]
theorem sgOf_segN {f t m : Nat} {cs : List Chg} (h : segB f t m cs = true) : sgOf (segN f t m cs) = (f, t, m, cs) := by
 obtain ⟨_, _, _, _, hc⟩ := segB_yes h
 have hl := segN_len f t m cs
 unfold sgOf
 rw [hl, show (3 + 3 * cs.length) / 3 - 1 = cs.length by omega]
 refine Prod.ext (by rfl) (Prod.ext (by rfl) (Prod.ext (by rfl) ?_))
 show chOf (segN f t m cs) cs.length = cs
 unfold chOf
 apply List.ext_getElem (by simp)
 intro j h1 h2
 rw [List.getElem_map, List.getElem_range]
 have g0 := segN_get f t m cs j 0 h2 oM
 have g1 := segN_get f t m cs j 1 h2 oM
 have g2 := segN_get f t m cs j 2 h2 oM
 have hk := chsB_to hc j h2
 have hd : cs.getD j chZ = cs[j] := by rw [gdE, List.getElem?_eq_getElem h2]; rfl
 unfold chN3
 rw [show 3 + 3 * j = 3 + 3 * j + 0 by omega, g0, show 3 + 3 * j + 0 + 1 = 3 + 3 * j + 1 by omega, show 3 + 3 * j + 0 + 2 = 3 + 3 * j + 2 by omega, g1, g2]
 unfold okCh chB inB at hk
 rw [hd] at hk ⊢
 generalize cs[j] = x at *
 obtain ⟨x0, x1, x2⟩ := x
 simp at hk
 show (((x0.toNat : Nat) : Int), ((x1.toNat : Nat) : Int), ((x2.toNat : Nat) : Int)) = (x0, x1, x2)
 rw [Int.toNat_of_nonneg oM, Int.toNat_of_nonneg oM, Int.toNat_of_nonneg oM]
theorem rdG_back {f t m : Nat} {cs : List Chg} (h : segB f t m cs = true) : rdG (segS f t m cs) = some (f, t, m, cs) := by
 have hs := sgOf_segN h
 have hl := segN_len f t m cs
 have hq : segS f t m cs = sealS (numsS (segN f t m cs)) := by unfold segS; rw [if_pos h]
 rw [hq, rdG_yes (rdN_seal _ (segN_all h)) (okLen_yes oM oM) (by unfold g4B; rw [hs]; exact h), hs]
end
end Go.Proofs.YtieoiailjjnnoaaGreatDoor
