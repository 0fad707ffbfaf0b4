/-
  Texts of the proof, in their order.
  Conditions: those of each.
-/
import Derived.Test.YtieoiailjjnnoaaGreatDoorMa9
import Derived.ChangeKeysEq
namespace Go.Proofs.YtieoiailjjnnoaaGreatDoor
set_option linter.unusedVariables false
open _root_.Go.Proofs.Tryz
set_option maxRecDepth 100000
set_option maxHeartbeats 16000000
section
open Go.RowKit
theorem specVaultOK_c (V : Vl) (B : Nat) (w : World) (h : Vlt w B V) (hB : B <= w.heap.size) (hn : VlN V 1048576) (hc : V.xs.length <= V.c) (hm : AllM V.ms) :
 Calls Tryz.prog 198 #[V.v] w fun e w' => e = .returned (.bool V.ok) /\ Nx w w' := by
 have HISx := qh (l05Is_c V)
 have HANx := qh (l05Anchor_c V B)
 obtain ⟨g, b, p, t, A, c, xs, A2, c2, ms, A3, c3, gs, A4, c4, im⟩ := V
 obtain ⟨h, h2, h3, h4⟩ := h
 obtain ⟨hn, hn2, hn3, hn4, hn5⟩ := hn
 simp only [Vl.v, Vl.cells] at *
 have HOKv : Hid (Vl.ok ⟨g, b, p, t, A, c, xs, A2, c2, ms, A3, c3, gs, A4, c4, im⟩ = vltB g b p t xs ms gs im) := qh rfl
 rw [HOKv.out]
 have HNo := qh (vltB_no (g := g) (b := b) (p := p) (t := t) (xs := xs) (ms := ms) (gs := gs) (im := im))
 have HYes := qh (fun h => VltY.b (g := g) (b := b) (p := p) (t := t) (xs := xs) (ms := ms) (gs := gs) (im := im) h)
 have HNN : Hid (VlN ⟨g, b, p, t, A, c, xs, A2, c2, ms, A3, c3, gs, A4, c4, im⟩ 1048576) := qh ⟨hn, hn2, hn3, hn4, hn5⟩
 have HVT := qh (fun (w' : World) (hx : Nx w w') => (⟨h.below hx hB, h2.below hx hB, h3.below hx hB, h4.below hx hB⟩ : Vlt w' B ⟨g, b, p, t, A, c, xs, A2, c2, ms, A3, c3, gs, A4, c4, im⟩))
 have HSup := qh (fun (w' : World) (hx : Nx w w') => specSuperOK_c g b p t A A2 c c2 B xs ms w' (h.below hx hB) (h2.below hx hB) (ntr hB hx.size) hn hn2 hc hm)
 have HCon := qh (fun (w' : World) (hx : Nx w w') => specContentOK_c A4 c4 B im w' (h4.below hx hB) (ntr hB hx.size) hn5)
 have HCha := qh (fun (w' : World) (hx : Nx w w') => specChainOK_c b A3 c3 B gs w' (h3.below hx hB) (ntr hB hx.size) hn3 hn4)
 have HMk := qh (fun (k : Nat) (hk : k < ms.length) (w' : World) (hx : Nx w w') => (h2.below hx hB).at_ hk)
 have HSg := qh (fun (k : Nat) (hk : k < gs.length) (w' : World) (hx : Nx w w') => (h3.below hx hB).row.at4 hk)
 have HCh := qh (fun (k : Nat) (hk : k < gs.length) (w' : World) (hx : Nx w w') => (h3.chs k hk).below hx hB)
 obtain ⟨n, Hn⟩ := nM (gs.length)
 obtain ⟨q, Hq⟩ := nM (im.length)
 obtain ⟨r, Hr⟩ := nM (ms.length)
 obtain ⟨z, Hz⟩ := nM (xs.length)
 rw [Hn.out, Hr.out, Hz.out, Hq.out] at HISx HANx
 rw [Hz.out, Hr.out] at HSup
 rw [Hq.out] at HCon
 rw [Hn.out] at HCha HSg HCh hn3
 rw [Hr.out] at HMk hn2
 rw [Hz.out] at hn
 rw [Hq.out] at hn5
 rw [Hn.out, Hq.out, Hr.out, Hz.out]
 have b0 := Box.new w 49 #[ii g, ii b, ii p, ii t, sC A z c, sC A2 r c2, sC A3 n c3, sC A4 q c4]
 have hx0 := (Nx.refl w).alloc (.cells #[ii g, ii b, ii p, ii t, sC A z c, sC A2 r c2, sC A3 n c3, sC A4 q c4] 49)
 clear h h2 h3 h4 hn4 hc hm
 go_enter func198, ntmps198
 go_wp2_with fail
 generalize w.alloc (.cells #[ii g, ii b, ii p, ii t, sC A z c, sC A2 r c2, sC A3 n c3, sC A4 q c4] 49) = W at *
 refine (HSup.out W hx0).mono ?_
 rintro e w1 ⟨rfl, hk⟩
 have b1 := b0.nx hk
 have hx := hx0.trans hk
 clear hx0 b0 hk
 cases h1 : superB g b p t xs ms with
 | false =>
   have HR := qh (HNo.out (.inl h1))
   clear h1
   go_wp2
   go_ret
   exact ⟨ret_bool HR.out.symm, hx⟩
 | true =>
 have H1 := qh h1
 clear h1
 obtain ⟨y0, y1, y2, y3, y4, y5, y6, y7⟩ := b1.e8
 go_wp2_with fail
 refine (HCon.out _ hx).mono ?_
 clear y0 y1 y2 y3 y4 y5 y6 y7
 rintro e w2 ⟨rfl, hk⟩
 have b2 := b1.nx hk
 replace hx := hx.trans hk
 clear b1 hk
 cases h2 : contB im with
 | false =>
   have HR := qh (HNo.out (.inr (.inl h2)))
   clear h2
   go_wp2
   go_ret
   exact ⟨ret_bool HR.out.symm, hx⟩
 | true =>
 have H2 := qh h2
 clear h2
 obtain ⟨y0, y1, y2, y3, y4, y5, y6, y7⟩ := b2.e8
 go_wp2_with fail
 refine (HCha.out _ hx).mono ?_
 clear y0 y1 y2 y3 y4 y5 y6 y7
 rintro e w3 ⟨rfl, hk⟩
 have b3 := b2.nx hk
 replace hx := hx.trans hk
 clear b2 hk
 cases h3 : chainB b gs with
 | false =>
   have HR := qh (HNo.out (.inr (.inr (.inr (.inl h3)))))
   clear h3
   go_wp2
   go_ret
   exact ⟨ret_bool HR.out.symm, hx⟩
 | true =>
 have H3 := qh h3
 clear h3
 obtain ⟨y0, y1, y2, y3, y4, y5, y6, y7⟩ := b3.e8
 by_cases hle : n = z
 case neg =>
  have hd : ((n : Int) != (z : Int)) = true := by simp; omega
  have HR := qh (HNo.out (.inr (.inr (.inl (by rw [Hn.out, Hz.out]; exact hle)))))
  clear hle
  go_wp2
  go_ret
  exact ⟨ret_bool HR.out.symm, hx⟩
 have hd : ((n : Int) != (z : Int)) = false := by simp; omega
 have H4 := qh hle
 have HLd := qh (chainB_lead H3.out)
 have hn4 : n <= 4096 := by have := HLd.out.short; rw [Hn.out] at this; exact this
 have HIs := qh (fun (x : Int) (w' : World) (hx : Nx w w') => HISx.out x B w' (HVT.out w' hx) (ntr hB hx.size) HNN.out hn4)
 clear hle
 go_wp2_with fail
 refine (HIs.out p _ hx).mono ?_
 clear y0 y1 y2 y3 y4 y5 y6 y7 hd
 rintro e w4 ⟨rfl, hk⟩
 have b4 := b3.nx hk
 replace hx := hx.trans hk
 clear b3 hk
 cases h5 : isRet b gs p with
 | false =>
   have HR := qh (HNo.out (.inr (.inr (.inr (.inr (.inl (by unfold plcB; rw [h5]; simp)))))))
   clear h5
   go_wp2
   go_ret
   exact ⟨ret_bool HR.out.symm, hx⟩
 | true =>
 have H5 := qh h5
 clear h5
 obtain ⟨y0, y1, y2, y3, y4, y5, y6, y7⟩ := b4.e8
 go_wp2_with fail
 refine (HIs.out t _ hx).mono ?_
 clear y0 y1 y2 y3 y4 y5 y6 y7
 rintro e w5 ⟨rfl, hk⟩
 have b5 := b4.nx hk
 replace hx := hx.trans hk
 clear b4 hk
 cases h6 : isRet b gs t with
 | false =>
   have HR := qh (HNo.out (.inr (.inr (.inr (.inr (.inl (by unfold plcB; rw [h6]; simp)))))))
   clear h6
   go_wp2
   go_ret
   exact ⟨ret_bool HR.out.symm, hx⟩
 | true =>
 have H6 := qh h6
 clear h6
 obtain ⟨y0, y1, y2, y3, y4, y5, y6, y7⟩ := b5.e8
 go_wp2_with fail
 clear y0 y1 y2 y3 y4 y5 y6 y7
 go_loopw [3] (fun i wr => ∃ k : Nat, k <= r /\ i = ii k /\ MksTo b gs ms k /\ Nx w wr /\ Box wr w.heap.size 49 #[ii g, ii b, ii p, ii t, sC A z c, sC A2 r c2, sC A3 n c3, sC A4 q c4]) (fun i _ => r - (intOf i).toNat)
 case atStart => exact ⟨0, Nat.zero_le _, rfl, MksTo.zero _ _ _, hx, b5⟩
 case round =>
 obtain ⟨k, hk, rfl, hto, hnx, hb⟩ := hrel
 clear hx b5
 by_cases hlt : k < r
 . obtain ⟨bm, om, rfl, hbm, _, k1⟩ := HMk.out k hlt _ hnx
   have HT := qh (fun hh => hto.succ hh)
   have HF := qh (fun hh => mksR_no (b := b) (gs := gs) (ms := ms) (k := k) (by rw [Hr.out]; exact hlt) hh)
   obtain ⟨⟨q0, q1⟩, Hm⟩ := nM (ms.getD k mrZ)
   rw [Hm.out] at k1 HT HF
   simp only at k1 HT HF
   have hbd : Box wr.drew w.heap.size 49 #[ii g, ii b, ii p, ii t, sC A z c, sC (some ⟨bm, om, none⟩) r c2, sC A3 n c3, sC A4 q c4] := hb
   have hnxd := hnx.drew
   have hbw : bm < wr.drew.heap.size := Nat.lt_of_lt_of_le hbm (ntr hB hnx.size)
   have hkc : (k : Int) < (r : Int) := oM
   have hk0 : (0 : Int) <= (k : Int) := oM
   clear hto
   obtain ⟨y0, y1, y2, y3, y4, y5, y6, y7⟩ := hb.e8
   cases hq : isRet b gs q1 with
   | false =>
     have HR := qh (HNo.out (.inr (.inr (.inr (.inr (.inl (by unfold plcB; rw [HF.out hq]; rfl)))))))
     have HQ := qh hq
     clear hq HT HF
     go_wp2_with fail
     refine wp_lexA (kf8 (true :: ff :: [])) (fun w' => (CC w' w.heap.size 0 (ii g) /\ CC w' w.heap.size 1 (ii b) /\ CC w' w.heap.size 2 (ii p) /\ CC w' w.heap.size 3 (ii t) /\ CC w' w.heap.size 4 (sC A z c) /\ CC w' w.heap.size 5 (sC (some ⟨bm, om, none⟩) r c2) /\ CC w' w.heap.size 6 (sC A3 n c3) /\ CC w' w.heap.size 7 (sC A4 q c4)) /\ CC w' bm (om + k * 2 + 1) (ii q1)) (by exact ⟨hbd.e8, k1⟩) ?_
     refine hLr ?_
     refine hLc fun K hK => ?_
     go_simp
     refine (HIs.out q1 _ hnxd).mono ?_; rintro e w9 ⟨rfl, hx9⟩; have hb9 := hbd.nx hx9; replace k1 := (hx9.cell (p := ⟨bm, om + k * 2 + 1, none⟩) hbw).trans k1; have hnx9 := hnxd.trans hx9; rw [HQ.out]
     go_wp2_with fail
     refine hK.out _ _ (by exact ⟨hb9.e8, k1⟩) ?_
     clear hK K
     refine nZ ?_
     refine hLr ?_
     refine HL.done ?_
     go_wp2
     go_ret
     exact ⟨ret_bool HR.out.symm, hnx9⟩
   | true =>
     have HT' := qh (HT.out hq)
     have HQ := qh hq
     clear hq HT HF
     go_wp2_with fail
     refine wp_lexA (kf8 (true :: ff :: [])) (fun w' => (CC w' w.heap.size 0 (ii g) /\ CC w' w.heap.size 1 (ii b) /\ CC w' w.heap.size 2 (ii p) /\ CC w' w.heap.size 3 (ii t) /\ CC w' w.heap.size 4 (sC A z c) /\ CC w' w.heap.size 5 (sC (some ⟨bm, om, none⟩) r c2) /\ CC w' w.heap.size 6 (sC A3 n c3) /\ CC w' w.heap.size 7 (sC A4 q c4)) /\ CC w' bm (om + k * 2 + 1) (ii q1)) (by exact ⟨hbd.e8, k1⟩) ?_
     refine hLr ?_
     refine hLc fun K hK => ?_
     go_simp
     refine (HIs.out q1 _ hnxd).mono ?_; rintro e w9 ⟨rfl, hx9⟩; have hb9 := hbd.nx hx9; replace k1 := (hx9.cell (p := ⟨bm, om + k * 2 + 1, none⟩) hbw).trans k1; have hnx9 := hnxd.trans hx9; rw [HQ.out]
     go_wp2_with fail
     refine hK.out _ _ (by exact ⟨hb9.e8, k1⟩) ?_
     clear hK K
     refine nZ ?_
     refine hLr ?_
     refine HL.done ?_
     go_wp2
     go_roundw
     case rel => exact ⟨k + 1, oM, by go_num, HT'.out, hnx9, hb9⟩
     case measure => (simp [intOf] <;> omega)
 obtain rfl : r = k := oM
 have HPl := qh (show plcB b p t gs ms = true by unfold plcB; rw [(show mksR b gs ms = true from MksTo.all (by rw [Hr.out]; exact hto)), H5.out, H6.out]; rfl)
 have hx := hnx
 have b6 := hb
 clear hnx hb hto hlt hk
 have HSL := qh (stp_le (t := t) im HLd.out HPl.out)
 have H8 : Hid (q = 8) := qh (by rw [<- Hq.out]; exact (contB_yes H2.out).1)
 have HSL' := qh (show (p < t -> ahd b gs p < n) /\ (t < p -> 0 < ahd b gs p) by rw [<- Hn.out]; exact HSL.out.2)
 obtain rfl : q = 8 := H8.out
 have HAn := qh (fun (w' : World) (hx : Nx w w') => HANx.out w' (HVT.out w' hx) (ntr hB hx.size) HNN.out HLd.out rfl H5.out HSL'.out)
 obtain ⟨c0, Hc0⟩ := nM ((stp b p t gs im).1)
 obtain ⟨at9, Hat⟩ := nM ((stp b p t gs im).2)
 have HL0 : Hid (c0.length = 8) := qh (by rw [<- Hc0.out, stp_len, Hq.out])
 have hat : at9 <= n := by have := HSL.out.1; rw [Hat.out, Hn.out] at this; exact this
 rw [Hc0.out, Hat.out] at HNo HAn
 obtain ⟨N, HNv⟩ := nM (atK b gs at9)
 rw [HNv.out] at HAn
 have HGe := qh (fun (k : Nat) (hk : k < n) => (⟨HLd.out.from_ k (by rw [Hn.out]; exact hk), fun (hh : at9 <= k) => HLd.out.le (j := at9) (k := k) hh (by rw [Hn.out]; omega), fun (hh : k < at9) => HLd.out.lt (j := k) at9 hh (by rw [Hn.out]; exact hat)⟩ : (gs.getD k sgZ).f = atK b gs k /\ (at9 <= k -> atK b gs at9 <= atK b gs k) /\ (k < at9 -> atK b gs k < atK b gs at9)))
 have HLe := qh (fun (k : Nat) (hk : k < n) => (⟨rfl, fun (hh : k < at9) => HLd.out.le (j := k + 1) (k := at9) hh (by rw [Hn.out]; exact hat), fun (hh : at9 <= k) => HLd.out.lt (j := at9) (k + 1) oM (by rw [Hn.out]; exact hk)⟩ : (gs.getD k sgZ).t = atK b gs (k + 1) /\ (k < at9 -> atK b gs (k + 1) <= atK b gs at9) /\ (at9 <= k -> atK b gs at9 < atK b gs (k + 1))))
 have HOKs := qh (fun k (hk : k < n) => HLd.out.ok k (by rw [Hn.out]; exact hk))
 rw [HNv.out] at HGe HLe
 obtain ⟨y0, y1, y2, y3, y4, y5, y6, y7⟩ := b6.e8
 go_wp2_with fail
 clear y0 y1 y2 y3 y4 y5 y6 y7
 refine (HAn.out _ hx).mono ?_
 rintro e w7 ⟨Ac, cc, rfl, hI, hk⟩
 have b7 := b6.nx hk
 replace hx := hx.trans hk
 clear b6 hk
 go_wp2_with fail
 go_loopw [4, 6] (fun v i wr => ∃ k : Nat, k <= n /\ i = ii k /\ (∃ Ac cc, v = sC Ac 8 cc /\ Ins wr wr.heap.size Ac (fwK c0 gs at9 (k - at9))) /\ FitF c0 gs at9 (k - at9) /\ Nx w wr /\ Box wr w.heap.size 49 #[ii g, ii b, ii p, ii t, sC A z c, sC A2 r c2, sC A3 n c3, sC A4 8 c4]) (fun _ i _ => n - (intOf i).toNat)
 case atStart => exact ⟨0, Nat.zero_le _, rfl, ⟨_, _, rfl, by rw [show 0 - at9 = 0 by omega]; exact hI⟩, by rw [show 0 - at9 = 0 by omega]; exact FitF.zero _ _ _, hx, b7⟩
 case round =>
 obtain ⟨k, hk, rfl, ⟨Ac, cc, rfl, hI⟩, hfit, hnx, hb⟩ := hrel
 clear hx b7
 obtain ⟨y0, y1, y2, y3, y4, y5, y6, y7⟩ := hb.e8
 by_cases hlt : k < n
 . obtain ⟨bb, off, rfl, hbb, p0, p1, p2, p3⟩ := HSg.out k hlt _ hnx
   have hbw : bb < wr.heap.size := Nat.lt_of_lt_of_le hbb (ntr hB hnx.size)
   have hch := HCh.out k hlt wr hnx
   have hG := HGe.out k hlt
   have HOKc := qh (HOKs.out k hlt)
   have hkc : (k : Int) < (n : Int) := oM
   have hk0 : (0 : Int) <= (k : Int) := oM
   by_cases hka : at9 <= k
   case neg =>
    obtain ⟨s, Hs⟩ := nM (gs.getD k sgZ)
    rw [Hs.out] at p0 p1 p2 p3 hG
    obtain ⟨f, t9, m, Am, cm, cs⟩ := s
    simp only at p0 p1 p2 p3 hG
    have hdn : decide (N <= f) = false := decide_eq_false (by have := hG.2.2 oM; omega)
    rw [show k - at9 = 0 by omega] at hI hfit
    have HI := qh hI
    have HKA := qh hka
    clear hka hG hI
    go_wp2
    go_roundw
    case rel => exact ⟨k + 1, oM, by go_num, ⟨_, _, rfl, by rw [show k + 1 - at9 = 0 by have := HKA.out; omega]; exact HI.out⟩, by rw [show k + 1 - at9 = 0 by have := HKA.out; omega]; exact hfit, hnx, hb⟩
    case measure => (simp [intOf] <;> omega)
   obtain ⟨j, Hj⟩ := nM (k - at9)
   have Hkj : Hid (k = at9 + j) := qh (by have := Hj.out; omega)
   have HLj : Hid ((fwK c0 gs at9 j).length = 8) := qh (by rw [fwK_len]; exact HL0.out)
   have HFs := qh (fun hh => hfit.succ hh)
   have HFn := qh (fun hh => fitF_no (c := c0) (gs := gs) (a := at9) (k := k - at9) (by rw [Hn.out]; omega) hh)
   have Hsuc : Hid (fwK c0 gs at9 (j + 1) = app pN (fwK c0 gs at9 j) (gs.getD k sgZ).cs) := qh (by rw [Hkj.out]; rfl)
   rw [Hj.out] at hI HFs HFn
   rw [<- Hkj.out] at HFs HFn
   obtain ⟨cj, Hcj⟩ := nM (fwK c0 gs at9 j)
   rw [Hcj.out] at hI HFs HFn Hsuc HLj
   obtain ⟨s, Hs⟩ := nM (gs.getD k sgZ)
   rw [Hs.out] at p0 p1 p2 p3 hG HFs HFn Hsuc hch HOKc
   obtain ⟨f, t9, m, Am, cm, cs⟩ := s
   simp only at p0 p1 p2 p3 hG hch HOKc Hsuc
   have hdn : decide (N <= f) = true := decide_eq_true (by have := hG.2.1 hka; omega)
   have hchw := hch.more (ntr hB hnx.size)
   have HKA := qh hka
   clear hG hka hfit hch
   go_wp2_with fail
   refine (l05Old_c Ac cc wr.heap.size cj ⟨f, t9, m, Am, cm, cs⟩ wr hI hchw nle HOKc.out HLj.out).mono ?_
   rintro e w8 ⟨rfl, hk8⟩
   replace p0 := (hk8.cell (p := ⟨bb, off + k * 4, none⟩) hbw).trans p0
   replace p1 := (hk8.cell (p := ⟨bb, off + k * 4 + 1, none⟩) hbw).trans p1
   replace p2 := (hk8.cell (p := ⟨bb, off + k * 4 + 2, none⟩) hbw).trans p2
   replace p3 := (hk8.cell (p := ⟨bb, off + k * 4 + 3, none⟩) hbw).trans p3
   have hb8 := hb.nx hk8
   have hnx8 := hnx.trans hk8
   have hI8 := (hI.below hk8 nle)
   have hch8 := hchw.below hk8 nle
   have hsz8 := hk8.size
   clear y0 y1 y2 y3 y4 y5 y6 y7 hb hI hchw
   cases ho : oldB cj ⟨f, t9, m, Am, cm, cs⟩ with
   | false =>
     have HR := qh (HNo.out (.inr (.inr (.inr (.inr (.inr (.inl (HFn.out ho))))))))
     clear ho HFs HFn
     go_wp2
     go_ret
     exact ⟨ret_bool HR.out.symm, hnx8⟩
   | true =>
   have HFs' := qh (HFs.out ho)
   clear ho HFs HFn
   obtain ⟨y0, y1, y2, y3, y4, y5, y6, y7⟩ := hb8.e8
   go_wp2_with fail
   have hcl := l03Forward_c Ac cc wr.heap.size cj f t9 m Am cm cs w8 hI8 hch8 hsz8 HOKc.out HLj.out
   rw [HLj.out] at hcl
   refine hcl.mono ?_
   rintro e w10 ⟨A9, c9, rfl, hS, hk10⟩
   have hb10 := hb8.nx hk10
   have hnx10 := hnx8.trans hk10
   have hIn := hS.row
   have HLn : Hid ((app pN cj cs).length = 8) := qh (by rw [app_len]; exact HLj.out)
   rw [HLn.out]
   have HIn := qh (show Ins w10 w10.heap.size A9 (fwK c0 gs at9 (j + 1)) by rw [Hsuc.out]; exact hIn)
   clear y0 y1 y2 y3 y4 y5 y6 y7 hcl hS hIn p0 p1 p2 p3 hI8 hch8 hb8
   go_wp2
   go_roundw
   case rel => exact ⟨k + 1, oM, by go_num, ⟨_, _, rfl, by rw [show k + 1 - at9 = j + 1 by have := Hkj.out; omega]; exact HIn.out⟩, by rw [show k + 1 - at9 = j + 1 by have := Hkj.out; omega]; exact HFs'.out, hnx10, hb10⟩
   case measure => (simp [intOf] <;> omega)
 obtain rfl : n = k := oM
 have HFF := qh (show fitF c0 gs at9 = true from FitF.all (by rw [Hn.out]; exact hfit))
 have hx := hnx
 have b6 := hb
 clear hnx hb hfit hlt hk hI
 go_wp2_with fail
 clear y0 y1 y2 y3 y4 y5 y6 y7
 refine (HAn.out _ hx).mono ?_
 rintro e w7 ⟨Ac, cc, rfl, hI, hk⟩
 have b7 := b6.nx hk
 replace hx := hx.trans hk
 clear b6 hk
 obtain ⟨y0, y1, y2, y3, y4, y5, y6, y7⟩ := b7.e8
 have hwn : IntKind.i64.wrap ((n : Int) - 1) = (n : Int) - 1 := IntWalk.i64_in _ oM
 go_wp2_with fail
 clear y0 y1 y2 y3 y4 y5 y6 y7
 go_loopw [4, 7] (fun v i wr => ∃ k : Nat, k <= n /\ i = ii ((k : Int) - 1) /\ (∃ Ac cc, v = sC Ac 8 cc /\ Ins wr wr.heap.size Ac (bkK c0 gs at9 (at9 - k))) /\ FitB c0 gs at9 (at9 - k) /\ Nx w wr /\ Box wr w.heap.size 49 #[ii g, ii b, ii p, ii t, sC A z c, sC A2 r c2, sC A3 n c3, sC A4 8 c4]) (fun _ i _ => (intOf i + 1).toNat)
 case atStart => exact ⟨n, Nat.le_refl _, rfl, ⟨_, _, rfl, by rw [show at9 - n = 0 by omega]; exact hI⟩, by rw [show at9 - n = 0 by omega]; exact FitB.zero _ _ _, hx, b7⟩
 case round =>
 obtain ⟨k, hk, rfl, ⟨Ac, cc, rfl, hI⟩, hfit, hnx, hb⟩ := hrel
 clear hx b7 hwn
 obtain ⟨y0, y1, y2, y3, y4, y5, y6, y7⟩ := hb.e8
 by_cases hlt : k = 0
 case pos =>
  have HR := qh (HYes.out ⟨H1.out, H2.out, by rw [Hn.out, Hz.out]; exact H4.out, H3.out, HPl.out, by rw [Hc0.out, Hat.out]; exact HFF.out, by rw [Hc0.out, Hat.out]; exact FitB.all (by rw [hlt, Nat.sub_zero] at hfit; exact hfit)⟩)
  rw [show ((k : Int) - 1) = -1 by omega]
  clear hlt hfit
  go_wp2
  go_ret
  exact ⟨ret_bool HR.out.symm, hnx⟩
 obtain ⟨i, rfl⟩ : ∃ i, k = i + 1 := ⟨k - 1, oM⟩
 rw [show ((i + 1 : Nat) : Int) - 1 = (i : Int) by omega]
 have hin : i < n := oM
 obtain ⟨bb, off, rfl, hbb, p0, p1, p2, p3⟩ := HSg.out i hin _ hnx
 have hbw : bb < wr.heap.size := Nat.lt_of_lt_of_le hbb (ntr hB hnx.size)
 have hch := HCh.out i hin wr hnx
 have hG := HLe.out i hin
 have HOKc := qh (HOKs.out i hin)
 have hkc : (i : Int) < (n : Int) := oM
 have hk0 : (0 : Int) <= (i : Int) := oM
 have hwi : IntKind.i64.wrap ((i : Int) - 1) = (i : Int) - 1 := IntWalk.i64_in _ oM
 by_cases hka : at9 <= i
 case pos =>
  obtain ⟨s, Hs⟩ := nM (gs.getD i sgZ)
  rw [Hs.out] at p0 p1 p2 p3 hG
  obtain ⟨f, t9, m, Am, cm, cs⟩ := s
  simp only at p0 p1 p2 p3 hG
  have hdn : decide (N < t9) = true := decide_eq_true (by have := hG.2.2 hka; omega)
  rw [show at9 - (i + 1) = 0 by omega] at hI hfit
  have HI := qh hI
  have HKA := qh hka
  clear hka hG hI hlt
  go_wp2
  go_roundw
  case rel => exact ⟨i, oM, rfl, ⟨_, _, rfl, by rw [show at9 - i = 0 by have := HKA.out; omega]; exact HI.out⟩, by rw [show at9 - i = 0 by have := HKA.out; omega]; exact hfit, hnx, hb⟩
  case measure => (simp [intOf] <;> omega)
 obtain ⟨j, Hj⟩ := nM (at9 - (i + 1))
 have Hkj : Hid (i = at9 - 1 - j) := qh (by have := Hj.out; omega)
 have HLj : Hid ((bkK c0 gs at9 j).length = 8) := qh (by rw [bkK_len]; exact HL0.out)
 have HFs := qh (fun hh => hfit.succ hh)
 have HFn := qh (fun hh => fitB_no (c := c0) (gs := gs) (a := at9) (k := at9 - (i + 1)) oM hh)
 have Hsuc : Hid (bkK c0 gs at9 (j + 1) = app pO (bkK c0 gs at9 j) (gs.getD i sgZ).cs) := qh (by rw [Hkj.out]; rfl)
 rw [Hj.out] at hI HFs HFn
 rw [<- Hkj.out] at HFs HFn
 obtain ⟨cj, Hcj⟩ := nM (bkK c0 gs at9 j)
 rw [Hcj.out] at hI HFs HFn Hsuc HLj
 have HNb := qh (newB_back (c := cj) (g := gs.getD i sgZ) HOKc.out HLj.out)
 obtain ⟨s, Hs⟩ := nM (gs.getD i sgZ)
 rw [Hs.out] at p0 p1 p2 p3 hG HFs HFn Hsuc hch HOKc HNb
 obtain ⟨f, t9, m, Am, cm, cs⟩ := s
 simp only at p0 p1 p2 p3 hG hch HOKc Hsuc
 have hdn : decide (N < t9) = false := decide_eq_false (by have := hG.2.1 oM; omega)
 have hchw := hch.more (ntr hB hnx.size)
 have HKA := qh hka
 clear hG hka hfit hch hlt
 go_wp2_with fail
 have hcl := l03Backward_c Ac cc wr.heap.size cj f t9 m Am cm cs wr hI hchw nle HOKc.out HLj.out
 rw [HLj.out] at hcl
 refine hcl.mono ?_
 rintro e w8 ⟨A8, c8, rfl, hS, hk8⟩
 have HL8 : Hid ((app pO cj cs).length = 8) := qh (by rw [app_len]; exact HLj.out)
 rw [HL8.out]
 have hI8 := hS.row
 replace p0 := (hk8.cell (p := ⟨bb, off + i * 4, none⟩) hbw).trans p0
 replace p1 := (hk8.cell (p := ⟨bb, off + i * 4 + 1, none⟩) hbw).trans p1
 replace p2 := (hk8.cell (p := ⟨bb, off + i * 4 + 2, none⟩) hbw).trans p2
 replace p3 := (hk8.cell (p := ⟨bb, off + i * 4 + 3, none⟩) hbw).trans p3
 have hb8 := hb.nx hk8
 have hnx8 := hnx.trans hk8
 have hc8 := hI.below hk8 nle
 have hch8 := (hchw.below hk8 nle).more hk8.size
 have hsz8 := hk8.size
 clear y0 y1 y2 y3 y4 y5 y6 y7 hb hI hchw hcl hS
 obtain ⟨y0, y1, y2, y3, y4, y5, y6, y7⟩ := hb8.e8
 obtain ⟨bj, Hbj⟩ := nM (app pO cj cs)
 rw [Hbj.out] at hI8 HL8 Hsuc
 rw [Hbj.out] at HNb
 rw [HL8.out] at hI8
 have hI8' : Ins w8 w8.heap.size A8 bj := by unfold Ins; rw [HL8.out]; exact hI8
 go_wp2_with fail
 have hcl := l03Forward_c A8 c8 w8.heap.size bj f t9 m Am cm cs w8 hI8' hch8 nle HOKc.out HL8.out
 rw [HL8.out] at hcl
 refine hcl.mono ?_
 rintro e w10 ⟨A9, c9, rfl, hS, hk10⟩
 have HL9 : Hid ((app pN bj cs).length = 8) := qh (by rw [app_len]; exact HL8.out)
 rw [HL9.out]
 have hIn := hS.row
 obtain ⟨fj, Hfj⟩ := nM (app pN bj cs)
 rw [Hfj.out] at hIn HL9
 rw [Hfj.out] at HNb
 have hb10 := hb8.nx hk10
 have hnx10 := hnx8.trans hk10
 have hcA := (hc8.below hk10 hsz8).more (ntr hsz8 hk10.size)
 have hI10 := hI8'.below hk10 nle
 have hsz10 := hk10.size
 clear y0 y1 y2 y3 y4 y5 y6 y7 hcl hS p0 p1 p2 p3 hch8 hb8 hc8 hI8 hI8'
 go_wp2_with fail
 refine (l05Same_c A9 Ac c9 cc w10.heap.size fj cj w10 hIn hcA nle HL9.out HLj.out).mono ?_
 rintro e w11 ⟨rfl, hk11⟩
 have hb11 := hb10.nx hk11
 have hnx11 := hnx10.trans hk11
 have hI11 := (hI10.below hk11 hsz10).more (ntr hsz10 hk11.size)
 rw [<- HNb.out]
 clear hb10 hnx10 hcA hI10 hIn
 cases ho : newB cj ⟨f, t9, m, Am, cm, cs⟩ with
 | false =>
   have HR := qh (HNo.out (.inr (.inr (.inr (.inr (.inr (.inr (HFn.out ho))))))))
   clear ho HFs HFn
   go_wp2
   go_ret
   exact ⟨ret_bool HR.out.symm, hnx11⟩
 | true =>
 have HFs' := qh (HFs.out ho)
 clear ho HFs HFn
 have HIn := qh (show Ins w11 w11.heap.size A8 (bkK c0 gs at9 (j + 1)) by rw [Hsuc.out]; exact hI11)
 go_wp2
 go_roundw
 case rel => exact ⟨i, oM, rfl, ⟨_, _, rfl, by rw [show at9 - i = j + 1 by have := Hj.out; have := HKA.out; omega]; exact HIn.out⟩, by rw [show at9 - i = j + 1 by have := Hj.out; have := HKA.out; omega]; exact HFs'.out, hnx11, hb11⟩
 case measure => (simp [intOf] <;> omega)
def Vl.wcells (V : Vl) : Array Value := #[ii V.g, ii V.b, ii V.p, ii V.t, sC V.A V.xs.length V.c, sC V.A2 V.ms.length V.c2, sC V.A3 V.gs.length V.c3, inAt V.im 0, inAt V.im 1, inAt V.im 2, inAt V.im 3, inAt V.im 4, inAt V.im 5, inAt V.im 6, inAt V.im 7]
def Vl.w (V : Vl) : Value := .agg V.wcells
theorem Box.e15 {w : World} {g : Nat} {t : TypeId} {v0 v1 v2 v3 v4 v5 v6 v7 v8 v9 v10 v11 v12 v13 v14 : Value} (h : Box w g t #[v0, v1, v2, v3, v4, v5, v6, v7, v8, v9, v10, v11, v12, v13, v14]) : w.cell? ⟨g, 0, none⟩ = some v0 /\ w.cell? ⟨g, 1, none⟩ = some v1 /\ w.cell? ⟨g, 2, none⟩ = some v2 /\ w.cell? ⟨g, 3, none⟩ = some v3 /\ w.cell? ⟨g, 4, none⟩ = some v4 /\ w.cell? ⟨g, 5, none⟩ = some v5 /\ w.cell? ⟨g, 6, none⟩ = some v6 /\ w.cell? ⟨g, 7, none⟩ = some v7 /\ w.cell? ⟨g, 8, none⟩ = some v8 /\ w.cell? ⟨g, 9, none⟩ = some v9 /\ w.cell? ⟨g, 10, none⟩ = some v10 /\ w.cell? ⟨g, 11, none⟩ = some v11 /\ w.cell? ⟨g, 12, none⟩ = some v12 /\ w.cell? ⟨g, 13, none⟩ = some v13 /\ w.cell? ⟨g, 14, none⟩ = some v14 :=
 ⟨h.cell 0, h.cell 1, h.cell 2, h.cell 3, h.cell 4, h.cell 5, h.cell 6, h.cell 7, h.cell 8, h.cell 9, h.cell 10, h.cell 11, h.cell 12, h.cell 13, h.cell 14⟩
theorem Box.row {w : World} {g : Nat} {t : TypeId} {cs : Array Value} (h : Box w g t cs) (ds : Array Value) : Box (w.setRow g ds) g t ds := setRow_heap w g cs ds t _ h
theorem heap_setRow_ne (w : World) (g : Nat) (ds : Array Value) {k : Nat} (h : k ≠ g) : (w.setRow g ds).heap[k]? = w.heap[k]? := by
 simp only [World.setRow, Array.getElem?_modify]
 rw [if_neg (fun e : g = k => h e.symm)]
theorem size_setRow (w : World) (g : Nat) (ds : Array Value) : (w.setRow g ds).heap.size = w.heap.size := by simp [World.setRow]
theorem Nx.setRow {a w : World} (h : Nx a w) {g : Nat} (hg : a.heap.size <= g) (ds : Array Value) : Nx a (w.setRow g ds) :=
 ⟨h.os, h.tape, h.output, by rw [size_setRow]; exact h.size, fun k hk => (heap_setRow_ne w g ds oM).trans (h.block k hk)⟩
theorem Box.rowfar {w : World} {g k : Nat} {t : TypeId} {cs : Array Value} (h : Box w k t cs) (hne : k ≠ g) (ds : Array Value) : Box (w.setRow g ds) k t cs := (heap_setRow_ne w g ds hne).trans h
theorem Own.rowfar {w : World} {g k m : Nat} {t : TypeId} {f : Nat -> Value} (h : Own w k t m f) (hne : k ≠ g) (ds : Array Value) : Own (w.setRow g ds) k t m f := h.of_block (heap_setRow_ne w g ds hne)
theorem Sl.rowfar {w : World} {lo m g : Nat} {A : Option Addr} {t : TypeId} {f : Nat -> Value} (h : Sl w lo A t m f) (hg : g < lo) (ds : Array Value) : Sl (w.setRow g ds) lo A t m f := fun hm => by
 obtain ⟨k, e, hl, ho⟩ := h hm; exact ⟨k, e, hl, ho.rowfar oM ds⟩
theorem goesForward_c (g b p t : Int) (A A2 : Option Addr) (c c2 n n2 : Nat) (w : World) :
 Calls Tryz.prog 204 #[.agg #[ii g, ii b, ii p, ii t, sC A n c, sC A2 n2 c2]] w fun e w' => e = .returned (.bool (decide (p < t))) /\ Nx w w' := by
 have hx0 := (Nx.refl w).alloc (.cells #[ii g, ii b, ii p, ii t, sC A n c, sC A2 n2 c2] 26)
 go_enter func204, ntmps204
 go_wp2
 go_ret
 exact ⟨rfl, hx0⟩
theorem goesBack_c (g b p t : Int) (A A2 : Option Addr) (c c2 n n2 : Nat) (w : World) :
 Calls Tryz.prog 205 #[.agg #[ii g, ii b, ii p, ii t, sC A n c, sC A2 n2 c2]] w fun e w' => e = .returned (.bool (decide (t < p))) /\ Nx w w' := by
 have hx0 := (Nx.refl w).alloc (.cells #[ii g, ii b, ii p, ii t, sC A n c, sC A2 n2 c2] 26)
 go_enter func205, ntmps205
 go_wp2
 go_ret
 exact ⟨rfl, hx0⟩
theorem view_c (V : Vl) (B : Nat) (w : World) (h : Ins w B V.A4 V.im) (hB : B <= w.heap.size) (h8 : V.im.length = 8) :
 Calls Tryz.prog 67 #[V.v] w fun e w' => e = .returned V.w /\ Nx w w' := by
 obtain ⟨g, b, p, t, A, c, xs, A2, c2, ms, A3, c3, gs, A4, c4, im⟩ := V
 simp only [Vl.v, Vl.cells, Vl.w, Vl.wcells] at *
 have H8 := qh h8
 have h4 := h
 clear h8 h
 have b0 : Box ((w.alloc (.cells #[ii g, ii b, ii p, ii t, sC A xs.length c, sC A2 ms.length c2, sC A3 gs.length c3, sC A4 8 c4] 49)).alloc (.cells #[ii 0, ii 0, ii 0, ii 0, nsl, nsl, nsl, ii 0, ii 0, ii 0, ii 0, ii 0, ii 0, ii 0, ii 0] 107)) w.heap.size 49 #[ii g, ii b, ii p, ii t, sC A xs.length c, sC A2 ms.length c2, sC A3 gs.length c3, sC A4 8 c4] := (Box.new w _ _).alloc _
 have r0 : Box ((w.alloc (.cells #[ii g, ii b, ii p, ii t, sC A xs.length c, sC A2 ms.length c2, sC A3 gs.length c3, sC A4 8 c4] 49)).alloc (.cells #[ii 0, ii 0, ii 0, ii 0, nsl, nsl, nsl, ii 0, ii 0, ii 0, ii 0, ii 0, ii 0, ii 0, ii 0] 107)) (w.heap.size + 1) 107 #[ii 0, ii 0, ii 0, ii 0, nsl, nsl, nsl, ii 0, ii 0, ii 0, ii 0, ii 0, ii 0, ii 0, ii 0] := by have := Box.new (w.alloc (.cells #[ii g, ii b, ii p, ii t, sC A xs.length c, sC A2 ms.length c2, sC A3 gs.length c3, sC A4 8 c4] 49)) 107 #[ii 0, ii 0, ii 0, ii 0, nsl, nsl, nsl, ii 0, ii 0, ii 0, ii 0, ii 0, ii 0, ii 0, ii 0]; rwa [World.size_alloc] at this
 have hx0 := ((Nx.refl w).alloc (.cells #[ii g, ii b, ii p, ii t, sC A xs.length c, sC A2 ms.length c2, sC A3 gs.length c3, sC A4 8 c4] 49)).alloc (.cells #[ii 0, ii 0, ii 0, ii 0, nsl, nsl, nsl, ii 0, ii 0, ii 0, ii 0, ii 0, ii 0, ii 0, ii 0] 107)
 go_enter func67, ntmps67
 rw [H8.out]
 go_wp2_with fail
 generalize ((w.alloc (.cells #[ii g, ii b, ii p, ii t, sC A xs.length c, sC A2 ms.length c2, sC A3 gs.length c3, sC A4 8 c4] 49)).alloc (.cells #[ii 0, ii 0, ii 0, ii 0, nsl, nsl, nsl, ii 0, ii 0, ii 0, ii 0, ii 0, ii 0, ii 0, ii 0] 107)) = W at *
 obtain ⟨gR, HgR⟩ := nM (w.heap.size + 1)
 have hgR : w.heap.size <= gR := by have := HgR.out; omega
 have hne : w.heap.size ≠ gR := by have := HgR.out; omega
 rw [HgR.out]
 rw [HgR.out] at r0
 refine wp_lexA (kf6 (true :: ff :: true :: [])) (fun w' => CC w' w.heap.size 0 (ii g) /\ CC w' w.heap.size 1 (ii b) /\ CC w' w.heap.size 2 (ii p) /\ CC w' w.heap.size 3 (ii t) /\ CC w' w.heap.size 4 (sC A xs.length c) /\ CC w' w.heap.size 5 (sC A2 ms.length c2) /\ CC w' w.heap.size 6 (sC A3 gs.length c3) /\ CC w' w.heap.size 7 (sC A4 8 c4)) (by exact b0.e8) ?_
 refine hLr ?_
 refine hLc fun K hK => ?_
 go_simp
 have hcv := valuesOf_c A4 c4 B im _ (h4.below hx0.drew hB) (ntr hB hx0.drew.size) H8.out; rw [H8.out] at hcv; refine hcv.mono ?_; clear hcv; rintro e w1 ⟨rfl, hk⟩; have b1 := (b0.nx (Nx.refl _).drew).nx hk; have r1 := (r0.nx (Nx.refl _).drew).nx hk; have hx1 := hx0.drew.trans hk; unfold vA
 go_wp2_with fail
 refine hK.out _ _ (by exact b1.e8) ?_
 clear hK K
 refine nZ ?_
 refine hLr ?_
 refine hLc fun K hK => ?_
 refine wp_store_row _ _ _ rfl gR #[ii g, ii b, ii p, ii t, sC A xs.length c, sC A2 ms.length c2, sC A3 gs.length c3, inAt im 0, inAt im 1, inAt im 2, inAt im 3, inAt im 4, inAt im 5, inAt im 6, inAt im 7] rfl rfl 107 #[ii 0, ii 0, ii 0, ii 0, nsl, nsl, nsl, ii 0, ii 0, ii 0, ii 0, ii 0, ii 0, ii 0, ii 0] r1 (by kernel_rfl) rfl (by simp [Value.oneCell', inAt]) ?_
 refine hK.out _ _ (by exact (b1.rowfar hne #[ii g, ii b, ii p, ii t, sC A xs.length c, sC A2 ms.length c2, sC A3 gs.length c3, inAt im 0, inAt im 1, inAt im 2, inAt im 3, inAt im 4, inAt im 5, inAt im 6, inAt im 7]).e8) ?_
 clear hK K
 try simp only [Act.put]
 refine HL.done ?_
 have rq := r1.row #[ii g, ii b, ii p, ii t, sC A xs.length c, sC A2 ms.length c2, sC A3 gs.length c3, inAt im 0, inAt im 1, inAt im 2, inAt im 3, inAt im 4, inAt im 5, inAt im 6, inAt im 7]
 have hnf := hx1.setRow hgR #[ii g, ii b, ii p, ii t, sC A xs.length c, sC A2 ms.length c2, sC A3 gs.length c3, inAt im 0, inAt im 1, inAt im 2, inAt im 3, inAt im 4, inAt im 5, inAt im 6, inAt im 7]
 generalize w1.setRow gR #[ii g, ii b, ii p, ii t, sC A xs.length c, sC A2 ms.length c2, sC A3 gs.length c3, inAt im 0, inAt im 1, inAt im 2, inAt im 3, inAt im 4, inAt im 5, inAt im 6, inAt im 7] = Wf at *
 obtain ⟨g0, g1, g2, g3, g4, g5, g6, g7, g8, g9, g10, g11, g12, g13, g14⟩ := rq.e15
 go_wp2
 exact bodyPost_ret (v := .agg #[ii g, ii b, ii p, ii t, sC A xs.length c, sC A2 ms.length c2, sC A3 gs.length c3, inAt im 0, inAt im 1, inAt im 2, inAt im 3, inAt im 4, inAt im 5, inAt im 6, inAt im 7]) (by simp [results, results67, go_sem, g0, g1, g2, g3, g4, g5, g6, g7, g8, g9, g10, g11, g12, g13, g14]) rfl ⟨rfl, hnf⟩
theorem retained_c (V : Vl) (B : Nat) (w : World) (h : Sgs w B V.A3 V.gs) (hB : B <= w.heap.size) (hn : V.gs.length <= 1048576) :
 Calls Tryz.prog 147 #[V.w] w (RetIc w (retL V.b V.gs)) := by
 obtain ⟨g, b, p, t, A, c, xs, A2, c2, ms, A3, c3, gs, A4, c4, im⟩ := V
 have h3 := h
 have hn3 := hn
 clear h hn
 simp only [Vl.w, Vl.wcells] at *
 obtain ⟨n, Hn⟩ := nM (gs.length)
 have HS := qh (fun k (hk : k < n) => retTo_succ (b := b) (gs := gs) (k := k) (by rw [Hn.out]; exact hk))
 have HL := qh (fun k (hk : k <= n) => retTo_len (b := b) (gs := gs) (k := k) (by rw [Hn.out]; exact hk))
 have HA := qh (retTo_all b gs)
 have h3' : ∀ k, k < n -> _ := fun k hk w' B' hw hB' => ((h3.below (w' := w') (B' := B') hw hB').row.at4 (k := k) (by rw [Hn.out]; exact hk))
 rw [Hn.out] at hn3 HA ⊢
 have b0 := (Box.new w 107 #[ii g, ii b, ii p, ii t, sC A xs.length c, sC A2 ms.length c2, sC A3 n c3, inAt im 0, inAt im 1, inAt im 2, inAt im 3, inAt im 4, inAt im 5, inAt im 6, inAt im 7]).alloc (.cells #[ii b] 3)
 have hx0 := (Nx.refl w).alloc (.cells #[ii g, ii b, ii p, ii t, sC A xs.length c, sC A2 ms.length c2, sC A3 n c3, inAt im 0, inAt im 1, inAt im 2, inAt im 3, inAt im 4, inAt im 5, inAt im 6, inAt im 7] 107)
 have hrow0 := RowI.one (w.alloc (.cells #[ii g, ii b, ii p, ii t, sC A xs.length c, sC A2 ms.length c2, sC A3 n c3, inAt im 0, inAt im 1, inAt im 2, inAt im 3, inAt im 4, inAt im 5, inAt im 6, inAt im 7] 107)) (B := w.heap.size + 1) (by simp) b
 rw [World.size_alloc] at hrow0
 have hx1 := hx0.alloc (.cells #[ii b] 3)
 have hz1 : w.heap.size + 1 <= ((w.alloc (.cells #[ii g, ii b, ii p, ii t, sC A xs.length c, sC A2 ms.length c2, sC A3 n c3, inAt im 0, inAt im 1, inAt im 2, inAt im 3, inAt im 4, inAt im 5, inAt im 6, inAt im 7] 107)).alloc (.cells #[ii b] 3)).heap.size := by simp
 clear hx0 h3
 go_enter func147, ntmps147
 go_wp2_with fail
 generalize ((w.alloc (.cells #[ii g, ii b, ii p, ii t, sC A xs.length c, sC A2 ms.length c2, sC A3 n c3, inAt im 0, inAt im 1, inAt im 2, inAt im 3, inAt im 4, inAt im 5, inAt im 6, inAt im 7] 107)).alloc (.cells #[ii b] 3)) = W at *
 obtain ⟨_, _, _, _, _, _, y6, _, _, _, _, _, _, _, _⟩ := b0.e15
 go_loopw [3, 13] (fun v i wr => ∃ (k : Nat), k <= n /\ i = ii k /\ (∃ u, u = v /\ RowI wr (w.heap.size + 1) u (retTo b gs k)) /\ Nx w wr /\ w.heap.size + 1 <= wr.heap.size) (fun _ i _ => n - (intOf i).toNat)
 case atStart => exact ⟨0, oM, rfl, ⟨_, rfl, hrow0⟩, hx1, hz1⟩
 case round =>
  obtain ⟨k, hk, rfl, ⟨u, rfl, hrow⟩, hnx, hsz⟩ := hrel
  clear hrow0 hx1 hz1 b0 y6
  by_cases hlt : k < n
  case neg =>
   obtain rfl : n = k := oM
   rw [HA.out] at hrow
   obtain ⟨A', c', rfl, hc', hS⟩ := hrow.slc
   go_wp2
   go_ret
   exact ⟨A', c', rfl, hc', hS.low oM, hnx⟩
  obtain ⟨bb, off, rfl, hbb, p0, p1, p2, p3⟩ := h3' k hlt _ _ hnx hB
  have HS' := qh (HS.out k hlt)
  have HLk := qh (HL.out k oM)
  obtain ⟨⟨f, t9, m, Ac, cc, cs⟩, Hs⟩ := nM (gs.getD k sgZ)
  rw [Hs.out] at p0 p1 p2 p3 HS'
  simp only at p0 p1 p2 p3 HS'
  have hxa := (Nx.refl wr).alloc (.cells #[ii f, ii t9, ii m, sC Ac cs.length cc] 122)
  have hx2 := hxa.alloc (.cells #[ii t9] 3)
  have hbx := Box.new (wr.alloc (.cells #[ii f, ii t9, ii m, sC Ac cs.length cc] 122)) 3 #[ii t9]
  rw [World.size_alloc] at hbx
  have hrow1 := hrow.nx hx2
  have hnx2 := hnx.trans hx2
  have hsz2 := ntr hsz hx2.size
  have HR := qh hrow1
  have HB := qh hbx
  clear hrow hrow1 hbx hxa
  go_wp2_with (at_builtin; refine wpList_addI rfl _ _ rfl (w.heap.size + 1) (wr.heap.size + 1) _ (retTo b gs k) t9 rfl rfl HR.out HB.out (by have := HLk.out; omega) hsz2 ?_)
  intro A' k' w' hr' hg'
  have hnx3 := hg'.nx w hnx2 oM
  have hsz3 := ntr hsz2 hg'.size
  go_wp2
  go_roundw
  case rel => exact ⟨k + 1, oM, by go_num, ⟨_, rfl, by rw [HS'.out]; exact hr'⟩, hnx3, hsz3⟩
  case measure => simp [intOf]; omega
theorem segsAhead_c (V : Vl) (x : Int) (B : Nat) (w : World) (h : Sgs w B V.A3 V.gs) (hB : B <= w.heap.size) (hN : V.gs.length <= 4096) (hr : isRet V.b V.gs x = true) :
 Calls Tryz.prog 149 #[V.w, ii x] w fun e w' => e = .returned (ii (ahd V.b V.gs x : Int)) /\ Nx w w' := by
 have hR := retained_c V B
 obtain ⟨g, b, p, t, A, c, xs, A2, c2, ms, A3, c3, gs, A4, c4, im⟩ := V
 have h3 := h
 simp only [Vl.w, Vl.wcells] at *
 have hx0 := (Nx.refl w).alloc (.cells #[ii g, ii b, ii p, ii t, sC A xs.length c, sC A2 ms.length c2, sC A3 gs.length c3, inAt im 0, inAt im 1, inAt im 2, inAt im 3, inAt im 4, inAt im 5, inAt im 6, inAt im 7] 107)
 have HR := qh hR
 clear hR h
 go_enter func149, ntmps149
 go_wp2_with fail
 generalize w.alloc (.cells #[ii g, ii b, ii p, ii t, sC A xs.length c, sC A2 ms.length c2, sC A3 gs.length c3, inAt im 0, inAt im 1, inAt im 2, inAt im 3, inAt im 4, inAt im 5, inAt im 6, inAt im 7] 107) = W at *
 refine (HR.out W (h3.below hx0 hB) (ntr hB hx0.size) oM).mono ?_
 rintro e w1 ⟨A9, c9, rfl, _, hS, hx1⟩
 have hl := retL_len b gs
 have HI := qh (idxI_ahd (b := b) (gs := gs) (x := x) hr)
 obtain ⟨m, Hm⟩ := nM ((retL b gs).length)
 have Hl := qh hl
 clear hl
 rw [Hm.out] at ⊢
 go_wp2_with fail
 refine (indexI_c A9 m c9 _ (retL b gs) x _ hS.row Hm.out.symm (by rw [Hl.out]; omega)).mono ?_
 rintro e w2 ⟨rfl, rfl⟩
 rw [HI.out]
 go_wp2
 go_ret
 exact ⟨rfl, hx0.trans hx1⟩
theorem isRetained_c (V : Vl) (x : Int) (B : Nat) (w : World) (h : Sgs w B V.A3 V.gs) (hB : B <= w.heap.size) (hN : V.gs.length <= 4096) :
 Calls Tryz.prog 70 #[V.w, ii x] w fun e w' => e = .returned (.bool (isRet V.b V.gs x)) /\ Nx w w' := by
 have hR := retained_c V B
 obtain ⟨g, b, p, t, A, c, xs, A2, c2, ms, A3, c3, gs, A4, c4, im⟩ := V
 have h3 := h
 simp only [Vl.w, Vl.wcells] at *
 have hx0 := (Nx.refl w).alloc (.cells #[ii g, ii b, ii p, ii t, sC A xs.length c, sC A2 ms.length c2, sC A3 gs.length c3, inAt im 0, inAt im 1, inAt im 2, inAt im 3, inAt im 4, inAt im 5, inAt im 6, inAt im 7] 107)
 have HR := qh hR
 clear hR h
 go_enter func70, ntmps70
 go_wp2_with fail
 generalize w.alloc (.cells #[ii g, ii b, ii p, ii t, sC A xs.length c, sC A2 ms.length c2, sC A3 gs.length c3, inAt im 0, inAt im 1, inAt im 2, inAt im 3, inAt im 4, inAt im 5, inAt im 6, inAt im 7] 107) = W at *
 refine (HR.out W (h3.below hx0 hB) (ntr hB hx0.size) oM).mono ?_
 rintro e w1 ⟨A9, c9, rfl, _, hS, hx1⟩
 have hl := retL_len b gs
 have HI0 := qh (isRet_hasB (b := b) (gs := gs) (x := x) hl)
 have HI := HI0
 obtain ⟨m, Hm⟩ := nM ((retL b gs).length)
 have Hl := qh hl
 clear hl
 rw [Hm.out] at HI ⊢
 go_wp2_with fail
 refine (contains_c A9 m c9 _ (retL b gs) x _ hS.row (by rw [Hm.out]; exact Nat.le_refl _) (by rw [Hl.out]; omega)).mono ?_
 rintro e w2 ⟨rfl, rfl⟩
 rw [HI.out]
 go_wp2
 go_ret
 exact ⟨rfl, hx0.trans hx1⟩
theorem hasPlaces_c (V : Vl) (B : Nat) (w : World) (h : Sgs w B V.A3 V.gs) (hm : Mks w B V.A2 V.ms) (hB : B <= w.heap.size) (hN : V.gs.length <= 4096) (hr : V.ms.length <= 1048576) :
 Calls Tryz.prog 143 #[V.w] w fun e w' => e = .returned (.bool (plcB V.b V.p V.t V.gs V.ms)) /\ Nx w w' := by
 have hIs := isRetained_c V
 obtain ⟨g, b, p, t, A, c, xs, A2, c2, ms, A3, c3, gs, A4, c4, im⟩ := V
 simp only [Vl.w, Vl.wcells] at *
 have HIs := qh (fun (x : Int) (w' : World) (hx : Nx w w') => hIs x B w' (h.below hx hB) (ntr hB hx.size) hN)
 have HMk := qh (fun (k : Nat) (hk : k < ms.length) (w' : World) (hx : Nx w w') => (hm.below hx hB).at_ hk)
 obtain ⟨r, Hr⟩ := nM (ms.length)
 rw [Hr.out] at HIs HMk hr ⊢
 have b0 := Box.new w 107 #[ii g, ii b, ii p, ii t, sC A xs.length c, sC A2 r c2, sC A3 gs.length c3, inAt im 0, inAt im 1, inAt im 2, inAt im 3, inAt im 4, inAt im 5, inAt im 6, inAt im 7]
 have hx0 := (Nx.refl w).alloc (.cells #[ii g, ii b, ii p, ii t, sC A xs.length c, sC A2 r c2, sC A3 gs.length c3, inAt im 0, inAt im 1, inAt im 2, inAt im 3, inAt im 4, inAt im 5, inAt im 6, inAt im 7] 107)
 clear hIs h hm
 go_enter func143, ntmps143
 go_wp2_with fail
 generalize w.alloc (.cells #[ii g, ii b, ii p, ii t, sC A xs.length c, sC A2 r c2, sC A3 gs.length c3, inAt im 0, inAt im 1, inAt im 2, inAt im 3, inAt im 4, inAt im 5, inAt im 6, inAt im 7] 107) = W at *
 go_loopw [9] (fun i wr => ∃ k : Nat, k <= r /\ i = ii k /\ MksTo b gs ms k /\ Nx w wr /\ Box wr w.heap.size 107 #[ii g, ii b, ii p, ii t, sC A xs.length c, sC A2 r c2, sC A3 gs.length c3, inAt im 0, inAt im 1, inAt im 2, inAt im 3, inAt im 4, inAt im 5, inAt im 6, inAt im 7]) (fun i _ => r - (intOf i).toNat)
 case atStart => exact ⟨0, Nat.zero_le _, rfl, MksTo.zero _ _ _, hx0, b0⟩
 case round =>
 obtain ⟨k, hk, rfl, hto, hnx, hb⟩ := hrel
 clear hx0 b0
 by_cases hlt : k < r
 . obtain ⟨bm, om, rfl, hbm, k0, k1⟩ := HMk.out k hlt _ hnx
   have HT := qh (fun hh => hto.succ hh)
   have HF := qh (fun hh => mksR_no (b := b) (gs := gs) (ms := ms) (k := k) (by rw [Hr.out]; exact hlt) hh)
   obtain ⟨⟨q0, q1⟩, Hm⟩ := nM (ms.getD k mrZ)
   rw [Hm.out] at k0 k1 HT HF
   simp only at k0 k1 HT HF
   have bq := Box.new wr 136 #[.string q0, ii q1]
   have hxq := (Nx.refl wr).alloc (.cells #[.string q0, ii q1] 136)
   have hba := hb.nx hxq
   have hnxa := hnx.trans hxq
   obtain ⟨y0, y1, y2, y3, y4, y5, y6, y7, y8, y9, y10, y11, y12, y13, y14⟩ := hba.e15
   have z1 := bq.c1
   clear hto hb
   go_wp2_with fail
   generalize wr.alloc (.cells #[.string q0, ii q1] 136) = wa at *
   refine (HIs.out q1 _ hnxa).mono ?_
   rintro e w9 ⟨rfl, hx9⟩
   have hb9 := hba.nx hx9
   have hnx9 := hnxa.trans hx9
   clear y0 y1 y2 y3 y4 y5 y6 y7 y8 y9 y10 y11 y12 y13 y14 z1 k0 k1
   cases hq : isRet b gs q1 with
   | false =>
     have HR := qh (show plcB b p t gs ms = false by unfold plcB; rw [HF.out hq]; rfl)
     clear hq HT HF
     go_wp2
     go_ret
     exact ⟨ret_bool HR.out.symm, hnx9⟩
   | true =>
     have HT' := qh (HT.out hq)
     clear hq HT HF
     go_wp2
     go_roundw
     case rel => exact ⟨k + 1, oM, by go_num, HT'.out, hnx9, hb9⟩
     case measure => simp [intOf]; omega
 obtain rfl : r = k := oM
 have HM := qh (show mksR b gs ms = true from MksTo.all (by rw [Hr.out]; exact hto))
 clear hto hlt hk
 obtain ⟨y0, y1, y2, y3, y4, y5, y6, y7, y8, y9, y10, y11, y12, y13, y14⟩ := hb.e15
 go_wp2_with fail
 clear y0 y1 y2 y3 y4 y5 y6 y7 y8 y9 y10 y11 y12 y13 y14
 refine (HIs.out p _ hnx).mono ?_
 rintro e w5 ⟨rfl, hk⟩
 have b5 := hb.nx hk
 have hx := hnx.trans hk
 clear hk hb hnx
 cases h5 : isRet b gs p with
 | false =>
   have HR := qh (show plcB b p t gs ms = false by unfold plcB; rw [h5]; simp)
   clear h5
   go_wp2
   go_ret
   exact ⟨ret_bool HR.out.symm, hx⟩
 | true =>
 have H5 := qh h5
 clear h5
 obtain ⟨y0, y1, y2, y3, y4, y5, y6, y7, y8, y9, y10, y11, y12, y13, y14⟩ := b5.e15
 go_wp2_with fail
 clear y0 y1 y2 y3 y4 y5 y6 y7 y8 y9 y10 y11 y12 y13 y14
 refine (HIs.out t _ hx).mono ?_
 rintro e w6 ⟨rfl, hk⟩
 have HR := qh (show plcB b p t gs ms = isRet b gs t by unfold plcB; rw [HM.out, H5.out]; rfl)
 have hx6 := hx.trans hk
 obtain ⟨z, Hz⟩ := nM (isRet b gs t)
 rw [Hz.out] at HR ⊢
 cases z <;> (go_wp2; go_ret; exact ⟨ret_bool HR.out.symm, hx6⟩)
theorem cell_row_far (w : World) (g : Nat) (ds : Array Value) {p : Addr} (h : p.block ≠ g) : (w.setRow g ds).cell? p = w.cell? p := by
 unfold World.cell?
 rw [heap_setRow_ne w g ds h]
theorem stepDone_c (V : Vl) (B : Nat) (w : World) (h : Sgs w B V.A3 V.gs) (hB : B <= w.heap.size) (hl : Lead V.b V.gs) (h8 : V.im.length = 8) (hp : isRet V.b V.gs V.p = true) (hd : (V.p < V.t -> ahd V.b V.gs V.p < V.gs.length) /\ (V.t < V.p -> 0 < ahd V.b V.gs V.p)) :
 Calls Tryz.prog 148 #[V.w] w fun e w' => e = .returned (.tuple #[vA (stp V.b V.p V.t V.gs V.im).1, ii ((stp V.b V.p V.t V.gs V.im).2 : Int)]) /\ Nx w w' := by
 have hSA := segsAhead_c V V.p
 obtain ⟨g, b, p, t, A, c, xs, A2, c2, ms, A3, c3, gs, A4, c4, im⟩ := V
 simp only [Vl.w, Vl.wcells] at *
 obtain ⟨a, Ha⟩ := nM (ahd b gs p)
 have ha := ahd_at hp
 have HSA := qh (fun (w' : World) (hx : Nx w w') => hSA B w' (h.below hx hB) (ntr hB hx.size) hl.short hp)
 have Hstp : Hid (stp b p t gs im = if p < t then (app pN im (gs.getD a sgZ).cs, a + 1) else if t < p then (app pO im (gs.getD (a - 1) sgZ).cs, a - 1) else (im, a)) := qh (by rw [<- Ha.out]; rfl)
 have hsh := hl.short
 rw [Ha.out] at ha hd HSA
 obtain ⟨n, Hn⟩ := nM (gs.length)
 have h3' : ∀ k, k < n -> _ := fun k hk w' B' hw hB' => ((h.below (w' := w') (B' := B') hw hB').row.at4 (k := k) (by rw [Hn.out]; exact hk))
 have h3c : ∀ k, k < n -> _ := fun k hk => h.chs k (by rw [Hn.out]; exact hk)
 have HOKs := qh (fun k (hk : k < n) => hl.ok k (by rw [Hn.out]; exact hk))
 have ha1 := ha.1
 have H8 := qh h8
 rw [Hn.out] at hd ha1 hsh HSA ⊢
 have b0 : Box ((w.alloc (.cells #[ii g, ii b, ii p, ii t, sC A xs.length c, sC A2 ms.length c2, sC A3 n c3, inAt im 0, inAt im 1, inAt im 2, inAt im 3, inAt im 4, inAt im 5, inAt im 6, inAt im 7] 107)).alloc (.cells #[ii 0, ii 0, ii 0, ii 0, ii 0, ii 0, ii 0, ii 0] 105)) w.heap.size 107 #[ii g, ii b, ii p, ii t, sC A xs.length c, sC A2 ms.length c2, sC A3 n c3, inAt im 0, inAt im 1, inAt im 2, inAt im 3, inAt im 4, inAt im 5, inAt im 6, inAt im 7] := (Box.new w _ _).alloc _
 have r0 : Box ((w.alloc (.cells #[ii g, ii b, ii p, ii t, sC A xs.length c, sC A2 ms.length c2, sC A3 n c3, inAt im 0, inAt im 1, inAt im 2, inAt im 3, inAt im 4, inAt im 5, inAt im 6, inAt im 7] 107)).alloc (.cells #[ii 0, ii 0, ii 0, ii 0, ii 0, ii 0, ii 0, ii 0] 105)) (w.heap.size + 1) 105 #[ii 0, ii 0, ii 0, ii 0, ii 0, ii 0, ii 0, ii 0] := by have := Box.new (w.alloc (.cells #[ii g, ii b, ii p, ii t, sC A xs.length c, sC A2 ms.length c2, sC A3 n c3, inAt im 0, inAt im 1, inAt im 2, inAt im 3, inAt im 4, inAt im 5, inAt im 6, inAt im 7] 107)) 105 #[ii 0, ii 0, ii 0, ii 0, ii 0, ii 0, ii 0, ii 0]; rwa [World.size_alloc] at this
 have hx0 := ((Nx.refl w).alloc (.cells #[ii g, ii b, ii p, ii t, sC A xs.length c, sC A2 ms.length c2, sC A3 n c3, inAt im 0, inAt im 1, inAt im 2, inAt im 3, inAt im 4, inAt im 5, inAt im 6, inAt im 7] 107)).alloc (.cells #[ii 0, ii 0, ii 0, ii 0, ii 0, ii 0, ii 0, ii 0] 105)
 clear hl hp ha h h8 hSA
 go_enter func148, ntmps148
 go_wp2_with fail
 generalize ((w.alloc (.cells #[ii g, ii b, ii p, ii t, sC A xs.length c, sC A2 ms.length c2, sC A3 n c3, inAt im 0, inAt im 1, inAt im 2, inAt im 3, inAt im 4, inAt im 5, inAt im 6, inAt im 7] 107)).alloc (.cells #[ii 0, ii 0, ii 0, ii 0, ii 0, ii 0, ii 0, ii 0] 105)) = W at *
 obtain ⟨gR, HgR⟩ := nM (w.heap.size + 1)
 have hgR : w.heap.size <= gR := by have := HgR.out; omega
 have hneR : w.heap.size ≠ gR := by have := HgR.out; omega
 rw [HgR.out]
 rw [HgR.out] at r0
 refine (HSA.out _ hx0).mono ?_
 rintro e w1 ⟨rfl, hk⟩
 have b1 := b0.nx hk
 have r1 := r0.nx hk
 replace hx0 := hx0.trans hk
 clear b0 r0 hk
 obtain ⟨y0, y1, y2, y3, y4, y5, y6, y7, y8, y9, y10, y11, y12, y13, y14⟩ := b1.e15
 go_wp2_with fail
 clear y0 y1 y2 y3 y4 y5 y6 y7 y8 y9 y10 y11 y12 y13 y14
 refine (goesForward_c g b p t A A2 c c2 _ _ _).mono ?_
 rintro e wq ⟨rfl, hk⟩
 have bq := b1.nx hk
 have rq := r1.nx hk
 replace hx0 := hx0.trans hk
 clear b1 r1 hk
 by_cases hlt : p < t
 . have HSB := qh (show stp b p t gs im = (app pN im (gs.getD a sgZ).cs, a + 1) by rw [Hstp.out, if_pos hlt])
   have han := hd.1 hlt
   rw [decide_eq_true hlt]
   clear hd hlt
   obtain ⟨k, Hk⟩ := nM (a)
   have hkn : k < n := by have := Hk.out; omega
   have HOK := qh (HOKs.out k hkn)
   have hch := h3c k hkn
   obtain ⟨bb, off, rfl, hbb, p0, p1, p2, p3⟩ := h3' k hkn _ _ hx0 hB
   obtain ⟨⟨f, t9, m, Ac, cc, cs⟩, Hs⟩ := nM (gs.getD k sgZ)
   rw [Hs.out] at p0 p1 p2 p3 hch HOK
   simp only at p0 p1 p2 p3 hch HOK
   obtain ⟨ys, Hys⟩ := nM (app pN im cs)
   have hbd : Box wq.drew w.heap.size 107 #[ii g, ii b, ii p, ii t, sC A xs.length c, sC A2 ms.length c2, sC (some ⟨bb, off, none⟩) n c3, inAt im 0, inAt im 1, inAt im 2, inAt im 3, inAt im 4, inAt im 5, inAt im 6, inAt im 7] := bq
   have rd := rq.nx (Nx.refl _).drew
   have hx2 := hx0.drew
   have hbw : bb < wq.drew.heap.size := Nat.lt_of_lt_of_le hbb (ntr hB hx2.size)
   have hneb : bb ≠ gR := by have := HgR.out; omega
   have hak : (a : Int) = (k : Int) := by have := Hk.out; omega
   rw [hak]
   have hkc : (k : Int) < (n : Int) := oM
   have hk0 : (0 : Int) <= (k : Int) := oM
   have hw1 : IntKind.i64.wrap ((k : Int) + 1) = (k : Int) + 1 := IntWalk.i64_in _ oM
   clear hak
   go_wp2_with fail
   refine wp_planA (.t 0 (.t 1 (.t 2 (.t 3 (.t 4 (.t 5 (.t 6 (.t 8 (.t 9 (.c 7 (.c 10 (.t 11 .e)))))))))))) (fun w' => (CC w' w.heap.size 0 (ii g) /\ CC w' w.heap.size 1 (ii b) /\ CC w' w.heap.size 2 (ii p) /\ CC w' w.heap.size 3 (ii t) /\ CC w' w.heap.size 4 (sC A xs.length c) /\ CC w' w.heap.size 5 (sC A2 ms.length c2) /\ CC w' w.heap.size 6 (sC (some ⟨bb, off, none⟩) n c3) /\ CC w' w.heap.size 7 (inAt im 0) /\ CC w' w.heap.size 8 (inAt im 1) /\ CC w' w.heap.size 9 (inAt im 2) /\ CC w' w.heap.size 10 (inAt im 3) /\ CC w' w.heap.size 11 (inAt im 4) /\ CC w' w.heap.size 12 (inAt im 5) /\ CC w' w.heap.size 13 (inAt im 6) /\ CC w' w.heap.size 14 (inAt im 7)) /\ CC w' bb (off + k * 4) (ii f) /\ CC w' bb (off + k * 4 + 1) (ii t9) /\ CC w' bb (off + k * 4 + 2) (ii m) /\ CC w' bb (off + k * 4 + 3) (sC Ac cs.length cc)) (by exact ⟨hbd.e15, p0, p1, p2, p3⟩) ?_
   simp only [psOf, List.getD_cons_zero, List.getD_cons_succ]
   refine hPr ?_
   refine hPc fun K hK => ?_
   go_simp
   have hcl := valuesForward_c f t9 m Ac cc B cs im _ (hch.below hx2 hB) (ntr hB hx2.size) HOK.out H8.out; rw [Hys.out] at hcl; unfold vA at hcl; refine hcl.mono ?_; rintro e w2 ⟨rfl, hx3⟩; clear hcl; have hb2 := hbd.nx hx3; have r2 := rd.nx hx3; replace p0 := (hx3.cell (p := ⟨bb, off + k * 4, none⟩) hbw).trans p0; replace p1 := (hx3.cell (p := ⟨bb, off + k * 4 + 1, none⟩) hbw).trans p1; replace p2 := (hx3.cell (p := ⟨bb, off + k * 4 + 2, none⟩) hbw).trans p2; replace p3 := (hx3.cell (p := ⟨bb, off + k * 4 + 3, none⟩) hbw).trans p3; have hX3 := hx2.trans hx3
   go_wp2_with fail
   refine hK.out _ _ (by exact ⟨hb2.e15, p0, p1, p2, p3⟩) ?_
   clear hK K
   refine nZ ?_
   refine hPc fun K hK => ?_
   refine wp_store_row _ _ _ rfl gR #[inAt ys 0, inAt ys 1, inAt ys 2, inAt ys 3, inAt ys 4, inAt ys 5, inAt ys 6, inAt ys 7] rfl rfl 105 #[ii 0, ii 0, ii 0, ii 0, ii 0, ii 0, ii 0, ii 0] r2 (by kernel_rfl) rfl (by simp [Value.oneCell', inAt]) ?_
   refine hK.out _ _ (by exact ⟨(hb2.rowfar hneR #[inAt ys 0, inAt ys 1, inAt ys 2, inAt ys 3, inAt ys 4, inAt ys 5, inAt ys 6, inAt ys 7]).e15, ((cell_row_far w2 gR #[inAt ys 0, inAt ys 1, inAt ys 2, inAt ys 3, inAt ys 4, inAt ys 5, inAt ys 6, inAt ys 7] (p := ⟨bb, off + k * 4, none⟩) sM).trans p0), ((cell_row_far w2 gR #[inAt ys 0, inAt ys 1, inAt ys 2, inAt ys 3, inAt ys 4, inAt ys 5, inAt ys 6, inAt ys 7] (p := ⟨bb, off + k * 4 + 1, none⟩) sM).trans p1), ((cell_row_far w2 gR #[inAt ys 0, inAt ys 1, inAt ys 2, inAt ys 3, inAt ys 4, inAt ys 5, inAt ys 6, inAt ys 7] (p := ⟨bb, off + k * 4 + 2, none⟩) sM).trans p2), ((cell_row_far w2 gR #[inAt ys 0, inAt ys 1, inAt ys 2, inAt ys 3, inAt ys 4, inAt ys 5, inAt ys 6, inAt ys 7] (p := ⟨bb, off + k * 4 + 3, none⟩) sM).trans p3)⟩) ?_
   clear hK K
   try simp only [Act.put]
   refine hPr ?_
   refine HP.done ?_
   have q := r2.row #[inAt ys 0, inAt ys 1, inAt ys 2, inAt ys 3, inAt ys 4, inAt ys 5, inAt ys 6, inAt ys 7]
   have hnf := hX3.setRow hgR #[inAt ys 0, inAt ys 1, inAt ys 2, inAt ys 3, inAt ys 4, inAt ys 5, inAt ys 6, inAt ys 7]
   generalize w2.setRow gR #[inAt ys 0, inAt ys 1, inAt ys 2, inAt ys 3, inAt ys 4, inAt ys 5, inAt ys 6, inAt ys 7] = Wf at *
   obtain ⟨g0, g1, g2, g3, g4, g5, g6, g7⟩ := q.e8
   go_wp2
   exact bodyPost_ret (v := .tuple #[.agg #[inAt ys 0, inAt ys 1, inAt ys 2, inAt ys 3, inAt ys 4, inAt ys 5, inAt ys 6, inAt ys 7], ii ((k : Int) + 1)]) (by simp [results, results148, go_sem, g0, g1, g2, g3, g4, g5, g6, g7]) rfl ⟨by rw [HSB.out, Hk.out, Hs.out]; show _ = Ending.returned (.tuple #[vA (app _ im cs), _]); rw [Hys.out]; rfl, hnf⟩
 rw [decide_eq_false hlt]
 have Hlt := qh hlt
 clear hlt
 obtain ⟨y0, y1, y2, y3, y4, y5, y6, y7, y8, y9, y10, y11, y12, y13, y14⟩ := bq.e15
 go_wp2_with fail
 clear y0 y1 y2 y3 y4 y5 y6 y7 y8 y9 y10 y11 y12 y13 y14
 refine (goesBack_c g b p t A A2 c c2 _ _ _).mono ?_
 rintro e wz ⟨rfl, hk⟩
 replace bq := bq.nx hk
 replace rq := rq.nx hk
 replace hx0 := hx0.trans hk
 clear hk
 by_cases hgt : t < p
 . have HSB := qh (show stp b p t gs im = (app pO im (gs.getD (a - 1) sgZ).cs, a - 1) by rw [Hstp.out, if_neg (by have := Hlt.out; omega), if_pos hgt])
   have han := hd.2 hgt
   rw [decide_eq_true hgt]
   clear hd hgt
   obtain ⟨k, Hk⟩ := nM (a - 1)
   have hkn : k < n := by have := Hk.out; omega
   have HOK := qh (HOKs.out k hkn)
   have hch := h3c k hkn
   obtain ⟨bb, off, rfl, hbb, p0, p1, p2, p3⟩ := h3' k hkn _ _ hx0 hB
   obtain ⟨⟨f, t9, m, Ac, cc, cs⟩, Hs⟩ := nM (gs.getD k sgZ)
   rw [Hs.out] at p0 p1 p2 p3 hch HOK
   simp only at p0 p1 p2 p3 hch HOK
   obtain ⟨ys, Hys⟩ := nM (app pO im cs)
   have hbd : Box wz.drew w.heap.size 107 #[ii g, ii b, ii p, ii t, sC A xs.length c, sC A2 ms.length c2, sC (some ⟨bb, off, none⟩) n c3, inAt im 0, inAt im 1, inAt im 2, inAt im 3, inAt im 4, inAt im 5, inAt im 6, inAt im 7] := bq
   have rd := rq.nx (Nx.refl _).drew
   have hx2 := hx0.drew
   have hbw : bb < wz.drew.heap.size := Nat.lt_of_lt_of_le hbb (ntr hB hx2.size)
   have hneb : bb ≠ gR := by have := HgR.out; omega
   have hak : (a : Int) = (k : Int) + 1 := by have := Hk.out; omega
   rw [hak]
   have hkc : (k : Int) < (n : Int) := oM
   have hk0 : (0 : Int) <= (k : Int) := oM
   have hwk : IntKind.i64.wrap (k : Int) = (k : Int) := IntWalk.i64_in _ oM
   clear hak
   go_wp2_with fail
   refine wp_planA (.t 0 (.t 1 (.t 2 (.t 3 (.t 4 (.t 5 (.t 6 (.t 7 (.t 9 (.t 10 (.c 8 (.c 11 (.t 12 .e))))))))))))) (fun w' => (CC w' w.heap.size 0 (ii g) /\ CC w' w.heap.size 1 (ii b) /\ CC w' w.heap.size 2 (ii p) /\ CC w' w.heap.size 3 (ii t) /\ CC w' w.heap.size 4 (sC A xs.length c) /\ CC w' w.heap.size 5 (sC A2 ms.length c2) /\ CC w' w.heap.size 6 (sC (some ⟨bb, off, none⟩) n c3) /\ CC w' w.heap.size 7 (inAt im 0) /\ CC w' w.heap.size 8 (inAt im 1) /\ CC w' w.heap.size 9 (inAt im 2) /\ CC w' w.heap.size 10 (inAt im 3) /\ CC w' w.heap.size 11 (inAt im 4) /\ CC w' w.heap.size 12 (inAt im 5) /\ CC w' w.heap.size 13 (inAt im 6) /\ CC w' w.heap.size 14 (inAt im 7)) /\ CC w' bb (off + k * 4) (ii f) /\ CC w' bb (off + k * 4 + 1) (ii t9) /\ CC w' bb (off + k * 4 + 2) (ii m) /\ CC w' bb (off + k * 4 + 3) (sC Ac cs.length cc)) (by exact ⟨hbd.e15, p0, p1, p2, p3⟩) ?_
   simp only [psOf, List.getD_cons_zero, List.getD_cons_succ]
   refine hPr ?_
   refine hPc fun K hK => ?_
   go_simp
   have hcl := valuesBackward_c f t9 m Ac cc B cs im _ (hch.below hx2 hB) (ntr hB hx2.size) HOK.out H8.out; rw [Hys.out] at hcl; unfold vA at hcl; refine hcl.mono ?_; rintro e w2 ⟨rfl, hx3⟩; clear hcl; have hb2 := hbd.nx hx3; have r2 := rd.nx hx3; replace p0 := (hx3.cell (p := ⟨bb, off + k * 4, none⟩) hbw).trans p0; replace p1 := (hx3.cell (p := ⟨bb, off + k * 4 + 1, none⟩) hbw).trans p1; replace p2 := (hx3.cell (p := ⟨bb, off + k * 4 + 2, none⟩) hbw).trans p2; replace p3 := (hx3.cell (p := ⟨bb, off + k * 4 + 3, none⟩) hbw).trans p3; have hX3 := hx2.trans hx3
   go_wp2_with fail
   refine hK.out _ _ (by exact ⟨hb2.e15, p0, p1, p2, p3⟩) ?_
   clear hK K
   refine nZ ?_
   refine hPc fun K hK => ?_
   refine wp_store_row _ _ _ rfl gR #[inAt ys 0, inAt ys 1, inAt ys 2, inAt ys 3, inAt ys 4, inAt ys 5, inAt ys 6, inAt ys 7] rfl rfl 105 #[ii 0, ii 0, ii 0, ii 0, ii 0, ii 0, ii 0, ii 0] r2 (by kernel_rfl) rfl (by simp [Value.oneCell', inAt]) ?_
   refine hK.out _ _ (by exact ⟨(hb2.rowfar hneR #[inAt ys 0, inAt ys 1, inAt ys 2, inAt ys 3, inAt ys 4, inAt ys 5, inAt ys 6, inAt ys 7]).e15, ((cell_row_far w2 gR #[inAt ys 0, inAt ys 1, inAt ys 2, inAt ys 3, inAt ys 4, inAt ys 5, inAt ys 6, inAt ys 7] (p := ⟨bb, off + k * 4, none⟩) sM).trans p0), ((cell_row_far w2 gR #[inAt ys 0, inAt ys 1, inAt ys 2, inAt ys 3, inAt ys 4, inAt ys 5, inAt ys 6, inAt ys 7] (p := ⟨bb, off + k * 4 + 1, none⟩) sM).trans p1), ((cell_row_far w2 gR #[inAt ys 0, inAt ys 1, inAt ys 2, inAt ys 3, inAt ys 4, inAt ys 5, inAt ys 6, inAt ys 7] (p := ⟨bb, off + k * 4 + 2, none⟩) sM).trans p2), ((cell_row_far w2 gR #[inAt ys 0, inAt ys 1, inAt ys 2, inAt ys 3, inAt ys 4, inAt ys 5, inAt ys 6, inAt ys 7] (p := ⟨bb, off + k * 4 + 3, none⟩) sM).trans p3)⟩) ?_
   clear hK K
   try simp only [Act.put]
   refine hPr ?_
   refine HP.done ?_
   have q := r2.row #[inAt ys 0, inAt ys 1, inAt ys 2, inAt ys 3, inAt ys 4, inAt ys 5, inAt ys 6, inAt ys 7]
   have hnf := hX3.setRow hgR #[inAt ys 0, inAt ys 1, inAt ys 2, inAt ys 3, inAt ys 4, inAt ys 5, inAt ys 6, inAt ys 7]
   generalize w2.setRow gR #[inAt ys 0, inAt ys 1, inAt ys 2, inAt ys 3, inAt ys 4, inAt ys 5, inAt ys 6, inAt ys 7] = Wf at *
   obtain ⟨g0, g1, g2, g3, g4, g5, g6, g7⟩ := q.e8
   go_wp2
   exact bodyPost_ret (v := .tuple #[.agg #[inAt ys 0, inAt ys 1, inAt ys 2, inAt ys 3, inAt ys 4, inAt ys 5, inAt ys 6, inAt ys 7], ii (k : Int)]) (by simp [results, results148, go_sem, g0, g1, g2, g3, g4, g5, g6, g7]) rfl ⟨by rw [HSB.out, Hk.out, Hs.out]; show _ = Ending.returned (.tuple #[vA (app _ im cs), _]); rw [Hys.out]; rfl, hnf⟩
 rw [decide_eq_false hgt]
 have HSB := qh (show stp b p t gs im = (im, a) by rw [Hstp.out, if_neg (by have := Hlt.out; omega), if_neg hgt])
 clear hd hgt
 obtain ⟨y0, y1, y2, y3, y4, y5, y6, y7, y8, y9, y10, y11, y12, y13, y14⟩ := bq.e15
 go_wp2_with (refine wpList_store_row rfl _ _ _ rfl gR #[inAt im 0, inAt im 1, inAt im 2, inAt im 3, inAt im 4, inAt im 5, inAt im 6, inAt im 7] rfl rfl 105 #[ii 0, ii 0, ii 0, ii 0, ii 0, ii 0, ii 0, ii 0] rq (by kernel_rfl) rfl (by simp [Value.oneCell', inAt]) ?_)
 have q := rq.row #[inAt im 0, inAt im 1, inAt im 2, inAt im 3, inAt im 4, inAt im 5, inAt im 6, inAt im 7]
 have hnf := hx0.setRow hgR #[inAt im 0, inAt im 1, inAt im 2, inAt im 3, inAt im 4, inAt im 5, inAt im 6, inAt im 7]
 generalize wz.setRow gR #[inAt im 0, inAt im 1, inAt im 2, inAt im 3, inAt im 4, inAt im 5, inAt im 6, inAt im 7] = Wf at *
 obtain ⟨g0, g1, g2, g3, g4, g5, g6, g7⟩ := q.e8
 exact bodyPost_ret (v := .tuple #[.agg #[inAt im 0, inAt im 1, inAt im 2, inAt im 3, inAt im 4, inAt im 5, inAt im 6, inAt im 7], ii a]) (by simp [results, results148, go_sem, g0, g1, g2, g3, g4, g5, g6, g7]) rfl ⟨by rw [HSB.out]; rfl, hnf⟩
theorem pk_int : Tryz.prog.plainKey 3 = true := by kernel_rfl
theorem eq_step (d : Nat) (a b : Array Value) (x y : Int) (i : Nat) (is : List Nat) (w : World) (ha : a[i]? = some (ii x)) (hb : b[i]? = some (ii y)) :
 (Op.eqItems (d + 1) 3 1 a b (i :: is)).run Tryz.prog w = if x = y then (Op.eqItems (d + 1) 3 1 a b is).run Tryz.prog w else .ok false w := by
 simp only [Op.eqItems, Sem.run_bind, Nat.mul_one]
 rw [run_part_plain (P := Tryz.prog) w pk_int ha]
 simp only [Result.andThen_ok]
 rw [run_part_plain (P := Tryz.prog) w pk_int hb]
 simp only [Result.andThen_ok]
 rw [run_equalIn_int (P := Tryz.prog) w d 3 .i64 .i64 x y underlying3]
 simp only [Result.andThen_ok]
 by_cases h : x = y
 . subst h; simp
 . rw [if_neg h, show (x == y) = false by simp [h]]; simp
theorem eq_all (d : Nat) (a b : Array Value) (xs ys : List Int) (w : World) : ∀ is : List Nat, (∀ i ∈ is, a[i]? = some (inAt xs i)) -> (∀ i ∈ is, b[i]? = some (inAt ys i)) ->
 (Op.eqItems (d + 1) 3 1 a b is).run Tryz.prog w = .ok (is.all fun i => decide (xs.getD i 0 = ys.getD i 0)) w
 | [], _, _ => by simp [Op.eqItems]
 | i :: is, ha, hb => by
   rw [eq_step d a b (xs.getD i 0) (ys.getD i 0) i is w (ha i (by simp)) (hb i (by simp)), List.all_cons]
   by_cases h : xs.getD i 0 = ys.getD i 0
   . rw [if_pos h, eq_all d a b xs ys w is (fun j hj => ha j (by simp [hj])) (fun j hj => hb j (by simp [hj])), decide_eq_true h, Bool.true_and]
   . rw [if_neg h, decide_eq_false h, Bool.false_and]
def arr8 (xs : List Int) : Array Value := #[inAt xs 0, inAt xs 1, inAt xs 2, inAt xs 3, inAt xs 4, inAt xs 5, inAt xs 6, inAt xs 7]
theorem arr8_at (xs : List Int) : ∀ i ∈ List.range 8, (arr8 xs)[i]? = some (inAt xs i) := fun i hi => by
 have : i < 8 := by simpa using hi
 match i, this with
 | 0, _ => rfl
 | 1, _ => rfl
 | 2, _ => rfl
 | 3, _ => rfl
 | 4, _ => rfl
 | 5, _ => rfl
 | 6, _ => rfl
 | 7, _ => rfl
theorem all8 {xs ys : List Int} (h : xs.length = 8) (h2 : ys.length = 8) : ((List.range 8).all fun i => decide (xs.getD i 0 = ys.getD i 0)) = decide (xs = ys) := by
 by_cases e : xs = ys
 . rw [decide_eq_true e, List.all_eq_true]
   intro i _
   rw [e]; simp
 . rw [decide_eq_false e, List.all_eq_false]
   refine Classical.byContradiction fun hc => e (ext8 h h2 fun j hj => Classical.byContradiction fun hn => hc ⟨j, by simpa using hj, by simpa using hn⟩)
theorem und_values : Tryz.prog.underlying 105 = some (.array 8 3) := underlying105
theorem equal_arr (d : Nat) {xs ys : List Int} (h : xs.length = 8) (h2 : ys.length = 8) (w : World) : (Op.equalIn (d + 2) 105 (.agg (arr8 xs)) (.agg (arr8 ys))).run Tryz.prog w = .ok (decide (xs = ys)) w := by
 obtain ⟨i0, hi0, hz0, hz1, hz2⟩ := info_parts info_int
 rw [run_equalIn_array (P := Tryz.prog) w (d + 1) (arr8 xs) (arr8 ys) und_values hi0, show Tryz.prog.cellsOf 3 = 1 from ci_, eq_all d _ _ xs ys w _ (arr8_at xs) (arr8_at ys), all8 h h2]
theorem neq_arr {xs ys : List Int} (h : xs.length = 8) (h2 : ys.length = 8) (w : World) : (binOp .neq 105 (.agg (arr8 xs)) (.agg (arr8 ys))).run Tryz.prog w = .ok (.bool (!decide (xs = ys))) w := by
 rw [run_neq_struct, show (10000 : Nat) = 9998 + 2 from rfl, equal_arr 9998 h h2]; rfl
theorem eqg_values : Tryz.prog.eqGuardType Tryz.prog.depth 105 = false := by kernel_rfl
theorem neq_op {o : Oper} {a : Act} {x y : Operand} {xs ys : List Int} {t : TypeId} (h : xs.length = 8) (h2 : ys.length = 8) (w : World) (ho : o.op = .binOp .neq 105 x y t) (hx : a.eval x = .agg (arr8 xs)) (hy : a.eval y = .agg (arr8 ys)) :
 (execOp a.eval o).run Tryz.prog w = .ok (.value (.bool (!decide (xs = ys)))) w := by
 unfold execOp
 simp only [ho, hx, hy]
 simp [run_eqGuard_agg (P := Tryz.prog) w .neq 105 x y (arr8 xs) (arr8 ys) eqg_values, neq_arr h h2]
theorem fitsForward_c (V : Vl) (B : Nat) (w : World) (h : Sgs w B V.A3 V.gs) (hB : B <= w.heap.size) (hl : Lead V.b V.gs) (hc3 : V.gs.length <= V.c3) (h8 : V.im.length = 8) (hp : plcB V.b V.p V.t V.gs V.ms = true) :
 Calls Tryz.prog 144 #[V.w] w fun e w' => e = .returned (.bool (fitF (stp V.b V.p V.t V.gs V.im).1 V.gs (stp V.b V.p V.t V.gs V.im).2)) /\ Nx w w' := by
 have hSD := stepDone_c V B
 obtain ⟨g, b, p, t, A, c, xs, A2, c2, ms, A3, c3, gs, A4, c4, im⟩ := V
 simp only [Vl.w, Vl.wcells] at *
 have hsl := stp_le (t := t) im hl hp
 have HSD := qh (fun (w' : World) (hx : Nx w w') => hSD w' (h.below hx hB) (ntr hB hx.size) hl h8 (by unfold plcB at hp; simp only [Bool.and_eq_true] at hp; exact hp.1.2) hsl.2)
 have HL0 : Hid ((stp b p t gs im).1.length = 8) := qh (by rw [stp_len]; exact h8)
 have hat := hsl.1
 obtain ⟨n, Hn⟩ := nM (gs.length)
 have HSg := qh (fun (k : Nat) (hk : k < gs.length) (w' : World) (hx : Nx w w') => (h.below hx hB).row.at4 hk)
 have HCh := qh (fun (k : Nat) (hk : k < gs.length) (w' : World) (hx : Nx w w') => (h.chs k hk).below hx hB)
 have HOKs := qh (fun k (hk : k < n) => hl.ok k (by rw [Hn.out]; exact hk))
 have hn9 : n <= 4096 := by have := hl.short; rw [Hn.out] at this; exact this
 rw [Hn.out] at HSD HSg HCh hc3 hat ⊢
 obtain ⟨c0, Hc0⟩ := nM ((stp b p t gs im).1)
 obtain ⟨a, Hat⟩ := nM ((stp b p t gs im).2)
 rw [Hc0.out, Hat.out] at HSD ⊢
 rw [Hc0.out] at HL0
 rw [Hat.out] at hat
 have b0 := Box.new w 107 #[ii g, ii b, ii p, ii t, sC A xs.length c, sC A2 ms.length c2, sC A3 n c3, inAt im 0, inAt im 1, inAt im 2, inAt im 3, inAt im 4, inAt im 5, inAt im 6, inAt im 7]
 have hx0 := (Nx.refl w).alloc (.cells #[ii g, ii b, ii p, ii t, sC A xs.length c, sC A2 ms.length c2, sC A3 n c3, inAt im 0, inAt im 1, inAt im 2, inAt im 3, inAt im 4, inAt im 5, inAt im 6, inAt im 7] 107)
 clear hSD h hl h8 hp hsl
 go_enter func144, ntmps144
 go_wp2_with fail
 generalize w.alloc (.cells #[ii g, ii b, ii p, ii t, sC A xs.length c, sC A2 ms.length c2, sC A3 n c3, inAt im 0, inAt im 1, inAt im 2, inAt im 3, inAt im 4, inAt im 5, inAt im 6, inAt im 7] 107) = W at *
 refine (HSD.out _ hx0).mono ?_
 rintro e w1 ⟨rfl, hk⟩
 unfold vA
 have b1 := b0.nx hk
 replace hx0 := hx0.trans hk
 have rz := Box.new w1 105 #[ii 0, ii 0, ii 0, ii 0, ii 0, ii 0, ii 0, ii 0]
 have b2 := (b1.alloc (.cells #[ii 0, ii 0, ii 0, ii 0, ii 0, ii 0, ii 0, ii 0] 105)).rowfar (show w.heap.size ≠ w1.heap.size by have := b1.lt; omega) #[inAt c0 0, inAt c0 1, inAt c0 2, inAt c0 3, inAt c0 4, inAt c0 5, inAt c0 6, inAt c0 7]
 have ba := rz.row #[inAt c0 0, inAt c0 1, inAt c0 2, inAt c0 3, inAt c0 4, inAt c0 5, inAt c0 6, inAt c0 7]
 have hx2 := (hx0.alloc (.cells #[ii 0, ii 0, ii 0, ii 0, ii 0, ii 0, ii 0, ii 0] 105)).setRow (g := w1.heap.size) hx0.size #[inAt c0 0, inAt c0 1, inAt c0 2, inAt c0 3, inAt c0 4, inAt c0 5, inAt c0 6, inAt c0 7]
 obtain ⟨y0, y1, y2, y3, y4, y5, y6, y7, y8, y9, y10, y11, y12, y13, y14⟩ := b2.e15
 have ha0 : (0 : Int) <= (a : Int) := oM
 have han : (a : Int) <= (n : Int) := oM
 clear b0 hk
 by_cases hlt : a < n
 case neg =>
  have hz : n - a = 0 := oM
  have HR := qh (show fitF c0 gs a = true from FitF.all (by rw [Hn.out, hz]; exact FitF.zero _ _ _))
  clear hlt
  by_cases hce : c3 = a
  . go_wp2_with (refine wpList_store_row rfl _ _ _ rfl w1.heap.size #[inAt c0 0, inAt c0 1, inAt c0 2, inAt c0 3, inAt c0 4, inAt c0 5, inAt c0 6, inAt c0 7] rfl rfl 105 #[ii 0, ii 0, ii 0, ii 0, ii 0, ii 0, ii 0, ii 0] rz (by kernel_rfl) rfl (by simp [Value.oneCell', inAt]) ?_)
    go_loopw [17] (fun i wr => i = ii 0 /\ Nx w wr) (fun _ _ => 0)
    case atStart => exact ⟨rfl, hx2⟩
    case round =>
     obtain ⟨rfl, hnx⟩ := hrel
     go_wp2
     go_ret
     exact ⟨ret_bool HR.out.symm, hnx⟩
  . go_wp2_with (refine wpList_store_row rfl _ _ _ rfl w1.heap.size #[inAt c0 0, inAt c0 1, inAt c0 2, inAt c0 3, inAt c0 4, inAt c0 5, inAt c0 6, inAt c0 7] rfl rfl 105 #[ii 0, ii 0, ii 0, ii 0, ii 0, ii 0, ii 0, ii 0] rz (by kernel_rfl) rfl (by simp [Value.oneCell', inAt]) ?_)
    go_loopw [17] (fun i wr => i = ii 0 /\ Nx w wr) (fun _ _ => 0)
    case atStart => exact ⟨rfl, hx2⟩
    case round =>
     obtain ⟨rfl, hnx⟩ := hrel
     go_wp2
     go_ret
     exact ⟨ret_bool HR.out.symm, hnx⟩
 have hce : ¬ c3 = a := oM
 obtain ⟨bb, off, rfl, hbb, _, _, _, _⟩ := HSg.out a hlt _ hx2
 go_wp2_with (refine wpList_store_row rfl _ _ _ rfl w1.heap.size #[inAt c0 0, inAt c0 1, inAt c0 2, inAt c0 3, inAt c0 4, inAt c0 5, inAt c0 6, inAt c0 7] rfl rfl 105 #[ii 0, ii 0, ii 0, ii 0, ii 0, ii 0, ii 0, ii 0] rz (by kernel_rfl) rfl (by simp [Value.oneCell', inAt]) ?_)
 have hgA : w.heap.size <= w1.heap.size := hx0.size
 clear b1 rz y0 y1 y2 y3 y4 y5 y6 y7 y8 y9 y10 y11 y12 y13 y14 b2 hce ha0 han hx0
 generalize (w1.alloc (.cells #[ii 0, ii 0, ii 0, ii 0, ii 0, ii 0, ii 0, ii 0] 105)).setRow w1.heap.size #[inAt c0 0, inAt c0 1, inAt c0 2, inAt c0 3, inAt c0 4, inAt c0 5, inAt c0 6, inAt c0 7] = Wl at *
 generalize w1.heap.size = gA at *
 obtain ⟨m, Hm⟩ := nM (n - a)
 rw [Hm.out]
 have hm9 : m <= 4096 := by have := Hm.out; omega
 go_loopw [17] (fun i wr => ∃ j : Nat, j <= m /\ i = ii j /\ FitF c0 gs a j /\ Box wr gA 105 #[inAt (fwK c0 gs a j) 0, inAt (fwK c0 gs a j) 1, inAt (fwK c0 gs a j) 2, inAt (fwK c0 gs a j) 3, inAt (fwK c0 gs a j) 4, inAt (fwK c0 gs a j) 5, inAt (fwK c0 gs a j) 6, inAt (fwK c0 gs a j) 7] /\ Nx w wr) (fun i _ => m - (intOf i).toNat)
 case atStart => exact ⟨0, Nat.zero_le _, rfl, FitF.zero _ _ _, ba, hx2⟩
 case round =>
 obtain ⟨j, hj, rfl, hfit, hbx, hnx⟩ := hrel
 clear hx2 ba
 by_cases hjm : j < m
 case neg =>
  obtain rfl : m = j := oM
  have HR := qh (show fitF c0 gs a = true from FitF.all (by rw [Hn.out, Hm.out]; exact hfit))
  go_wp2
  go_ret
  exact ⟨ret_bool HR.out.symm, hnx⟩
 have hkn : a + j < n := by have := Hm.out; omega
 obtain ⟨b', off', he, _, p0, p1, p2, p3⟩ := HSg.out (a + j) hkn wr hnx
 obtain ⟨rfl, rfl⟩ : bb = b' /\ off = off' := by simpa using he
 clear he
 have HCk := qh (HCh.out (a + j) hkn)
 have HOKc := qh (HOKs.out (a + j) hkn)
 have HFs := qh (fun hh => hfit.succ hh)
 have HFn := qh (fun hh => fitF_no (c := c0) (gs := gs) (a := a) (k := j) (by rw [Hn.out]; exact hkn) hh)
 have HLj : Hid ((fwK c0 gs a j).length = 8) := qh (by rw [fwK_len]; exact HL0.out)
 have Hsuc : Hid (fwK c0 gs a (j + 1) = app pN (fwK c0 gs a j) (gs.getD (a + j) sgZ).cs) := qh rfl
 obtain ⟨cj, Hcj⟩ := nM (fwK c0 gs a j)
 rw [Hcj.out] at HFs HFn HLj Hsuc hbx
 obtain ⟨⟨f, t9, m9, Ac, cc, cs⟩, Hs⟩ := nM (gs.getD (a + j) sgZ)
 rw [Hs.out] at p0 p1 p2 p3 HCk HOKc HFs HFn Hsuc
 simp only at p0 p1 p2 p3 HCk HOKc Hsuc
 rw [show off + (a + j) * 4 = off + a * 4 + j * 4 by omega] at p0 p1 p2 p3
 have HLy : Hid ((app pO cj cs).length = 8) := qh (by rw [app_len]; exact HLj.out)
 have HLn : Hid ((app pN cj cs).length = 8) := qh (by rw [app_len]; exact HLj.out)
 have bg := Box.new wr 122 #[ii f, ii t9, ii m9, sC Ac cs.length cc]
 have hxg := (Nx.refl wr).alloc (.cells #[ii f, ii t9, ii m9, sC Ac cs.length cc] 122)
 have ba1 := hbx.nx hxg
 have hnxa := hnx.trans hxg
 have hjc : (j : Int) < (m : Int) := oM
 have hj0 : (0 : Int) <= (j : Int) := oM
 have hjn : j < n - a := by have := Hm.out; omega
 clear hfit hbx hxg
 go_wp2_with fail
 generalize wr.alloc (.cells #[ii f, ii t9, ii m9, sC Ac cs.length cc] 122) = wa at *
 generalize wr.heap.size = gG at *
 have bad := ba1.nx (Nx.refl _).drew
 have bgd := bg.nx (Nx.refl _).drew
 clear p0 p1 p2 p3 ba1 bg
 refine wp_planA (.t 0 (.t 1 (.t 3 (.c 2 (.t 4 .e))))) (fun w' => (CC w' gA 0 (inAt cj 0) /\ CC w' gA 1 (inAt cj 1) /\ CC w' gA 2 (inAt cj 2) /\ CC w' gA 3 (inAt cj 3) /\ CC w' gA 4 (inAt cj 4) /\ CC w' gA 5 (inAt cj 5) /\ CC w' gA 6 (inAt cj 6) /\ CC w' gA 7 (inAt cj 7)) /\ (CC w' gG 0 (ii f) /\ CC w' gG 1 (ii t9) /\ CC w' gG 2 (ii m9) /\ CC w' gG 3 (sC Ac cs.length cc))) (by exact ⟨bad.e8, bgd.d4⟩) ?_
 simp only [psOf, List.getD_cons_zero, List.getD_cons_succ]
 refine hPr ?_
 refine hPc fun K hK => ?_
 go_simp
 have hcl := valuesBackward_c f t9 m9 Ac cc B cs cj _ (HCk.out _ hnxa.drew) (ntr hB hnxa.drew.size) HOKc.out HLj.out; unfold vA at hcl; refine hcl.mono ?_; rintro e w8 ⟨rfl, hk8⟩; clear hcl; have ba8 := bad.nx hk8; have bg8 := bgd.nx hk8; have hnx8 := hnxa.drew.trans hk8
 go_wp2_with fail
 refine hK.out _ _ (by exact ⟨ba8.e8, bg8.d4⟩) ?_
 clear hK K
 refine nZ ?_
 refine HP.take (v := .bool (!decide (app pO cj cs = cj))) (by rfl) (fun w _ => neq_op HLy.out HLj.out w rfl rfl rfl) ?_
 refine nZ ?_
 refine HP.done ?_
 by_cases ho : app pO cj cs = cj
 case neg =>
  have HR := qh (HFn.out (decide_eq_false ho))
  rw [decide_eq_false ho]
  clear ho HFs HFn
  go_wp2
  go_ret
  exact ⟨ret_bool HR.out.symm, hnx8⟩
 have HFs' := qh (HFs.out (decide_eq_true ho))
 rw [decide_eq_true ho]
 clear ho HFs HFn
 obtain ⟨y0, y1, y2, y3, y4, y5, y6, y7⟩ := ba8.e8
 obtain ⟨q0, q1, q2, q3⟩ := bg8.d4
 go_wp2_with fail
 have hcl := valuesForward_c f t9 m9 Ac cc B cs cj _ (HCk.out _ hnx8) (ntr hB hnx8.size) HOKc.out HLj.out
 unfold vA at hcl
 refine hcl.mono ?_
 rintro e w9 ⟨rfl, hk9⟩
 have ba9 := ba8.nx hk9
 have hnx9 := hnx8.trans hk9
 clear hcl y0 y1 y2 y3 y4 y5 y6 y7 q0 q1 q2 q3 ba8 bg8
 have bz := ba9.row #[inAt (app pN cj cs) 0, inAt (app pN cj cs) 1, inAt (app pN cj cs) 2, inAt (app pN cj cs) 3, inAt (app pN cj cs) 4, inAt (app pN cj cs) 5, inAt (app pN cj cs) 6, inAt (app pN cj cs) 7]
 have hnxz := hnx9.setRow hgA #[inAt (app pN cj cs) 0, inAt (app pN cj cs) 1, inAt (app pN cj cs) 2, inAt (app pN cj cs) 3, inAt (app pN cj cs) 4, inAt (app pN cj cs) 5, inAt (app pN cj cs) 6, inAt (app pN cj cs) 7]
 go_wp2_with (refine wpList_store_row rfl _ _ _ rfl gA #[inAt (app pN cj cs) 0, inAt (app pN cj cs) 1, inAt (app pN cj cs) 2, inAt (app pN cj cs) 3, inAt (app pN cj cs) 4, inAt (app pN cj cs) 5, inAt (app pN cj cs) 6, inAt (app pN cj cs) 7] rfl rfl 105 #[inAt cj 0, inAt cj 1, inAt cj 2, inAt cj 3, inAt cj 4, inAt cj 5, inAt cj 6, inAt cj 7] ba9 (by kernel_rfl) rfl (by simp [Value.oneCell', inAt]) ?_)
 go_roundw
 case rel => exact ⟨j + 1, oM, by go_num, HFs'.out, by rw [Hsuc.out]; exact bz, hnxz⟩
 case measure => (simp [intOf] <;> omega)
theorem fitsBack_c (V : Vl) (B : Nat) (w : World) (h : Sgs w B V.A3 V.gs) (hB : B <= w.heap.size) (hl : Lead V.b V.gs) (h8 : V.im.length = 8) (hp : plcB V.b V.p V.t V.gs V.ms = true) :
 Calls Tryz.prog 145 #[V.w] w fun e w' => e = .returned (.bool (fitB (stp V.b V.p V.t V.gs V.im).1 V.gs (stp V.b V.p V.t V.gs V.im).2)) /\ Nx w w' := by
 have hSD := stepDone_c V B
 obtain ⟨g, b, p, t, A, c, xs, A2, c2, ms, A3, c3, gs, A4, c4, im⟩ := V
 simp only [Vl.w, Vl.wcells] at *
 have hsl := stp_le (t := t) im hl hp
 have HSD := qh (fun (w' : World) (hx : Nx w w') => hSD w' (h.below hx hB) (ntr hB hx.size) hl h8 (by unfold plcB at hp; simp only [Bool.and_eq_true] at hp; exact hp.1.2) hsl.2)
 have HL0 : Hid ((stp b p t gs im).1.length = 8) := qh (by rw [stp_len]; exact h8)
 have hat := hsl.1
 obtain ⟨n, Hn⟩ := nM (gs.length)
 have HSg := qh (fun (k : Nat) (hk : k < gs.length) (w' : World) (hx : Nx w w') => (h.below hx hB).row.at4 hk)
 have HCh := qh (fun (k : Nat) (hk : k < gs.length) (w' : World) (hx : Nx w w') => (h.chs k hk).below hx hB)
 have HOKs := qh (fun k (hk : k < n) => hl.ok k (by rw [Hn.out]; exact hk))
 have hn9 : n <= 4096 := by have := hl.short; rw [Hn.out] at this; exact this
 rw [Hn.out] at HSD HSg HCh hat ⊢
 obtain ⟨c0, Hc0⟩ := nM ((stp b p t gs im).1)
 obtain ⟨a, Hat⟩ := nM ((stp b p t gs im).2)
 rw [Hc0.out, Hat.out] at HSD ⊢
 rw [Hc0.out] at HL0
 rw [Hat.out] at hat
 have b0 := Box.new w 107 #[ii g, ii b, ii p, ii t, sC A xs.length c, sC A2 ms.length c2, sC A3 n c3, inAt im 0, inAt im 1, inAt im 2, inAt im 3, inAt im 4, inAt im 5, inAt im 6, inAt im 7]
 have hx0 := (Nx.refl w).alloc (.cells #[ii g, ii b, ii p, ii t, sC A xs.length c, sC A2 ms.length c2, sC A3 n c3, inAt im 0, inAt im 1, inAt im 2, inAt im 3, inAt im 4, inAt im 5, inAt im 6, inAt im 7] 107)
 clear hSD h hl h8 hp hsl
 go_enter func145, ntmps145
 go_wp2_with fail
 generalize w.alloc (.cells #[ii g, ii b, ii p, ii t, sC A xs.length c, sC A2 ms.length c2, sC A3 n c3, inAt im 0, inAt im 1, inAt im 2, inAt im 3, inAt im 4, inAt im 5, inAt im 6, inAt im 7] 107) = W at *
 refine (HSD.out _ hx0).mono ?_
 rintro e w1 ⟨rfl, hk⟩
 unfold vA
 have b1 := b0.nx hk
 replace hx0 := hx0.trans hk
 have rz := Box.new w1 105 #[ii 0, ii 0, ii 0, ii 0, ii 0, ii 0, ii 0, ii 0]
 have b2 := (b1.alloc (.cells #[ii 0, ii 0, ii 0, ii 0, ii 0, ii 0, ii 0, ii 0] 105)).rowfar (show w.heap.size ≠ w1.heap.size by have := b1.lt; omega) #[inAt c0 0, inAt c0 1, inAt c0 2, inAt c0 3, inAt c0 4, inAt c0 5, inAt c0 6, inAt c0 7]
 have ba := rz.row #[inAt c0 0, inAt c0 1, inAt c0 2, inAt c0 3, inAt c0 4, inAt c0 5, inAt c0 6, inAt c0 7]
 have hx2 := (hx0.alloc (.cells #[ii 0, ii 0, ii 0, ii 0, ii 0, ii 0, ii 0, ii 0] 105)).setRow (g := w1.heap.size) hx0.size #[inAt c0 0, inAt c0 1, inAt c0 2, inAt c0 3, inAt c0 4, inAt c0 5, inAt c0 6, inAt c0 7]
 have hwn : IntKind.i64.wrap ((a : Int) - 1) = (a : Int) - 1 := IntWalk.i64_in _ oM
 clear b0 hk
 go_wp2_with (refine wpList_store_row rfl _ _ _ rfl w1.heap.size #[inAt c0 0, inAt c0 1, inAt c0 2, inAt c0 3, inAt c0 4, inAt c0 5, inAt c0 6, inAt c0 7] rfl rfl 105 #[ii 0, ii 0, ii 0, ii 0, ii 0, ii 0, ii 0, ii 0] rz (by kernel_rfl) rfl (by simp [Value.oneCell', inAt]) ?_)
 have hgA : w.heap.size <= w1.heap.size := hx0.size
 have hneA : w.heap.size ≠ w1.heap.size := by have := b1.lt; omega
 clear b1 rz hx0
 generalize (w1.alloc (.cells #[ii 0, ii 0, ii 0, ii 0, ii 0, ii 0, ii 0, ii 0] 105)).setRow w1.heap.size #[inAt c0 0, inAt c0 1, inAt c0 2, inAt c0 3, inAt c0 4, inAt c0 5, inAt c0 6, inAt c0 7] = Wl at *
 generalize w1.heap.size = gA at *
 go_loopw [5] (fun i wr => ∃ k : Nat, k <= a /\ i = ii ((k : Int) - 1) /\ FitB c0 gs a (a - k) /\ Box wr gA 105 #[inAt (bkK c0 gs a (a - k)) 0, inAt (bkK c0 gs a (a - k)) 1, inAt (bkK c0 gs a (a - k)) 2, inAt (bkK c0 gs a (a - k)) 3, inAt (bkK c0 gs a (a - k)) 4, inAt (bkK c0 gs a (a - k)) 5, inAt (bkK c0 gs a (a - k)) 6, inAt (bkK c0 gs a (a - k)) 7] /\ Nx w wr /\ Box wr w.heap.size 107 #[ii g, ii b, ii p, ii t, sC A xs.length c, sC A2 ms.length c2, sC A3 n c3, inAt im 0, inAt im 1, inAt im 2, inAt im 3, inAt im 4, inAt im 5, inAt im 6, inAt im 7]) (fun i _ => (intOf i + 1).toNat)
 case atStart => exact ⟨a, Nat.le_refl _, rfl, by rw [Nat.sub_self]; exact FitB.zero _ _ _, by rw [Nat.sub_self]; exact ba, hx2, b2⟩
 case round =>
 obtain ⟨k, hk, rfl, hfit, hbx, hnx, hb⟩ := hrel
 clear hx2 ba b2 hwn
 by_cases hk0 : k = 0
 case pos =>
  have HR := qh (show fitB c0 gs a = true from FitB.all (by rw [hk0, Nat.sub_zero] at hfit; exact hfit))
  rw [show ((k : Int) - 1) = -1 by omega]
  clear hk0 hfit
  go_wp2
  go_ret
  exact ⟨ret_bool HR.out.symm, hnx⟩
 obtain ⟨i, rfl⟩ : ∃ i, k = i + 1 := ⟨k - 1, oM⟩
 rw [show ((i + 1 : Nat) : Int) - 1 = (i : Int) by omega]
 have hkn : i < n := oM
 obtain ⟨j, Hj⟩ := nM (a - (i + 1))
 have Hkj : Hid (i = a - 1 - j) := qh (by have := Hj.out; omega)
 rw [Hj.out] at hfit hbx
 obtain ⟨bb, off, rfl, hbb, p0, p1, p2, p3⟩ := HSg.out i hkn wr hnx
 have hbw : bb < wr.heap.size := Nat.lt_of_lt_of_le hbb (ntr hB hnx.size)
 have HCk := qh (HCh.out i hkn)
 have HOKc := qh (HOKs.out i hkn)
 have HFs := qh (fun hh => hfit.succ hh)
 have HFn := qh (fun hh => fitB_no (c := c0) (gs := gs) (a := a) (k := j) (by have := Hj.out; omega) hh)
 rw [<- Hkj.out] at HFs HFn
 have HLj : Hid ((bkK c0 gs a j).length = 8) := qh (by rw [bkK_len]; exact HL0.out)
 have Hsuc : Hid (bkK c0 gs a (j + 1) = app pO (bkK c0 gs a j) (gs.getD i sgZ).cs) := qh (by rw [Hkj.out]; rfl)
 obtain ⟨cj, Hcj⟩ := nM (bkK c0 gs a j)
 rw [Hcj.out] at HFs HFn HLj Hsuc hbx
 obtain ⟨⟨f, t9, m9, Ac, cc, cs⟩, Hs⟩ := nM (gs.getD i sgZ)
 rw [Hs.out] at p0 p1 p2 p3 HCk HOKc HFs HFn Hsuc
 simp only at p0 p1 p2 p3 HCk HOKc Hsuc
 have HLy : Hid ((app pO cj cs).length = 8) := qh (by rw [app_len]; exact HLj.out)
 have HLn : Hid ((app pN cj cs).length = 8) := qh (by rw [app_len]; exact HLj.out)
 have hkc : (i : Int) < (n : Int) := oM
 have hk0 : (0 : Int) <= (i : Int) := oM
 have hwi : IntKind.i64.wrap ((i : Int) - 1) = (i : Int) - 1 := IntWalk.i64_in _ oM
 have Hin := qh hkn
 clear hfit hk0 hkn
 go_wp2_with fail
 have bad := hbx.nx (Nx.refl _).drew
 have vbd : Box wr.drew w.heap.size 107 #[ii g, ii b, ii p, ii t, sC A xs.length c, sC A2 ms.length c2, sC (some ⟨bb, off, none⟩) n c3, inAt im 0, inAt im 1, inAt im 2, inAt im 3, inAt im 4, inAt im 5, inAt im 6, inAt im 7] := hb
 have hnxd := hnx.drew
 replace hbw : bb < wr.drew.heap.size := hbw
 have p0 : wr.drew.cell? ⟨bb, off + i * 4, none⟩ = _ := p0; have p1 : wr.drew.cell? ⟨bb, off + i * 4 + 1, none⟩ = _ := p1; have p2 : wr.drew.cell? ⟨bb, off + i * 4 + 2, none⟩ = _ := p2; have p3 : wr.drew.cell? ⟨bb, off + i * 4 + 3, none⟩ = _ := p3
 clear hbx hb
 refine wp_planA (.t 0 (.t 1 (.t 2 (.t 3 (.t 4 (.t 5 (.t 7 (.c 6 (.t 8 .e))))))))) (fun w' => (CC w' gA 0 (inAt cj 0) /\ CC w' gA 1 (inAt cj 1) /\ CC w' gA 2 (inAt cj 2) /\ CC w' gA 3 (inAt cj 3) /\ CC w' gA 4 (inAt cj 4) /\ CC w' gA 5 (inAt cj 5) /\ CC w' gA 6 (inAt cj 6) /\ CC w' gA 7 (inAt cj 7)) /\ CC w' w.heap.size 6 (sC (some ⟨bb, off, none⟩) n c3) /\ CC w' bb (off + i * 4) (ii f) /\ CC w' bb (off + i * 4 + 1) (ii t9) /\ CC w' bb (off + i * 4 + 2) (ii m9) /\ CC w' bb (off + i * 4 + 3) (sC Ac cs.length cc)) (by exact ⟨bad.e8, vbd.cell 6, p0, p1, p2, p3⟩) ?_
 simp only [psOf, List.getD_cons_zero, List.getD_cons_succ]
 refine hPr ?_
 refine hPc fun K hK => ?_
 go_simp
 have hcl := valuesForward_c f t9 m9 Ac cc B cs cj _ (HCk.out _ hnxd) (ntr hB hnxd.size) HOKc.out HLj.out; unfold vA at hcl; refine hcl.mono ?_; rintro e w8 ⟨rfl, hk8⟩; clear hcl; have ba8 := bad.nx hk8; have vb8 := vbd.nx hk8; have hnx8 := hnxd.trans hk8; have hbw8 := hbw; replace hbw := Nat.lt_of_lt_of_le hbw hk8.size; have hbq8 : bb < w.heap.size := Nat.lt_of_lt_of_le hbb hB; replace p0 := (hk8.cell (p := ⟨bb, off + i * 4, none⟩) hbw8).trans p0; replace p1 := (hk8.cell (p := ⟨bb, off + i * 4 + 1, none⟩) hbw8).trans p1; replace p2 := (hk8.cell (p := ⟨bb, off + i * 4 + 2, none⟩) hbw8).trans p2; replace p3 := (hk8.cell (p := ⟨bb, off + i * 4 + 3, none⟩) hbw8).trans p3
 go_wp2_with fail
 refine hK.out _ _ (by exact ⟨ba8.e8, vb8.cell 6, p0, p1, p2, p3⟩) ?_
 clear hK K
 refine nZ ?_
 refine HP.take (v := .bool (!decide (app pN cj cs = cj))) (by rfl) (fun w _ => neq_op HLn.out HLj.out w rfl rfl rfl) ?_
 refine nZ ?_
 refine HP.done ?_
 by_cases ho : app pN cj cs = cj
 case neg =>
  have HR := qh (HFn.out (decide_eq_false ho))
  rw [decide_eq_false ho]
  clear ho HFs HFn
  go_wp2
  go_ret
  exact ⟨ret_bool HR.out.symm, hnx8⟩
 have HFs' := qh (HFs.out (decide_eq_true ho))
 rw [decide_eq_true ho]
 clear ho HFs HFn
 go_wp2_with fail
 have bae := ba8.nx (Nx.refl _).drew
 have vbe := vb8.nx (Nx.refl _).drew
 have hnxe := hnx8.drew
 replace hbw : bb < w8.drew.heap.size := hbw
 have p0 : w8.drew.cell? ⟨bb, off + i * 4, none⟩ = _ := p0; have p1 : w8.drew.cell? ⟨bb, off + i * 4 + 1, none⟩ = _ := p1; have p2 : w8.drew.cell? ⟨bb, off + i * 4 + 2, none⟩ = _ := p2; have p3 : w8.drew.cell? ⟨bb, off + i * 4 + 3, none⟩ = _ := p3
 have hneb : bb ≠ gA := oM
 clear ba8 vb8
 refine wp_planA (.t 1 (.t 2 (.t 3 (.t 4 (.t 5 (.c 0 (.c 6 (.c 7 .e)))))))) (fun w' => CC w' w.heap.size 6 (sC (some ⟨bb, off, none⟩) n c3) /\ CC w' bb (off + i * 4) (ii f) /\ CC w' bb (off + i * 4 + 1) (ii t9) /\ CC w' bb (off + i * 4 + 2) (ii m9) /\ CC w' bb (off + i * 4 + 3) (sC Ac cs.length cc)) (by exact ⟨vbe.cell 6, p0, p1, p2, p3⟩) ?_
 simp only [psOf, List.getD_cons_zero, List.getD_cons_succ]
 refine hPr ?_
 refine hPc fun K hK => ?_
 refine wp_load_row _ _ rfl gA rfl 105 #[inAt cj 0, inAt cj 1, inAt cj 2, inAt cj 3, inAt cj 4, inAt cj 5, inAt cj 6, inAt cj 7] (0, 0) _ bae und_values rfl (by kernel_rfl) ?_
 refine hK.out _ _ (by exact ⟨vbe.cell 6, p0, p1, p2, p3⟩) ?_
 clear hK K
 try simp only [Act.put]
 refine hPc fun K hK => ?_
 go_simp
 have hcl := valuesBackward_c f t9 m9 Ac cc B cs cj _ (HCk.out _ hnxe) (ntr hB hnxe.size) HOKc.out HLj.out; unfold vA at hcl; refine hcl.mono ?_; rintro e w9 ⟨rfl, hk9⟩; clear hcl; have ba9 := bae.nx hk9; have vb9 := vbe.nx hk9; have hnx9 := hnxe.trans hk9; have hbw9 := hbw; replace hbw := Nat.lt_of_lt_of_le hbw hk9.size; have hbq9 : bb < w.heap.size := Nat.lt_of_lt_of_le hbb hB; replace p0 := (hk9.cell (p := ⟨bb, off + i * 4, none⟩) hbw9).trans p0; replace p1 := (hk9.cell (p := ⟨bb, off + i * 4 + 1, none⟩) hbw9).trans p1; replace p2 := (hk9.cell (p := ⟨bb, off + i * 4 + 2, none⟩) hbw9).trans p2; replace p3 := (hk9.cell (p := ⟨bb, off + i * 4 + 3, none⟩) hbw9).trans p3
 go_wp2_with fail
 refine hK.out _ _ (by exact ⟨vb9.cell 6, p0, p1, p2, p3⟩) ?_
 clear hK K
 refine nZ ?_
 refine hPc fun K hK => ?_
 refine wp_store_row _ _ _ rfl gA #[inAt (app pO cj cs) 0, inAt (app pO cj cs) 1, inAt (app pO cj cs) 2, inAt (app pO cj cs) 3, inAt (app pO cj cs) 4, inAt (app pO cj cs) 5, inAt (app pO cj cs) 6, inAt (app pO cj cs) 7] rfl rfl 105 #[inAt cj 0, inAt cj 1, inAt cj 2, inAt cj 3, inAt cj 4, inAt cj 5, inAt cj 6, inAt cj 7] ba9 (by kernel_rfl) rfl (by simp [Value.oneCell', inAt]) ?_
 refine hK.out _ _ (by exact ⟨(vb9.rowfar hneA #[inAt (app pO cj cs) 0, inAt (app pO cj cs) 1, inAt (app pO cj cs) 2, inAt (app pO cj cs) 3, inAt (app pO cj cs) 4, inAt (app pO cj cs) 5, inAt (app pO cj cs) 6, inAt (app pO cj cs) 7]).cell 6, ((cell_row_far w9 gA #[inAt (app pO cj cs) 0, inAt (app pO cj cs) 1, inAt (app pO cj cs) 2, inAt (app pO cj cs) 3, inAt (app pO cj cs) 4, inAt (app pO cj cs) 5, inAt (app pO cj cs) 6, inAt (app pO cj cs) 7] (p := ⟨bb, off + i * 4, none⟩) sM).trans p0), ((cell_row_far w9 gA #[inAt (app pO cj cs) 0, inAt (app pO cj cs) 1, inAt (app pO cj cs) 2, inAt (app pO cj cs) 3, inAt (app pO cj cs) 4, inAt (app pO cj cs) 5, inAt (app pO cj cs) 6, inAt (app pO cj cs) 7] (p := ⟨bb, off + i * 4 + 1, none⟩) sM).trans p1), ((cell_row_far w9 gA #[inAt (app pO cj cs) 0, inAt (app pO cj cs) 1, inAt (app pO cj cs) 2, inAt (app pO cj cs) 3, inAt (app pO cj cs) 4, inAt (app pO cj cs) 5, inAt (app pO cj cs) 6, inAt (app pO cj cs) 7] (p := ⟨bb, off + i * 4 + 2, none⟩) sM).trans p2), ((cell_row_far w9 gA #[inAt (app pO cj cs) 0, inAt (app pO cj cs) 1, inAt (app pO cj cs) 2, inAt (app pO cj cs) 3, inAt (app pO cj cs) 4, inAt (app pO cj cs) 5, inAt (app pO cj cs) 6, inAt (app pO cj cs) 7] (p := ⟨bb, off + i * 4 + 3, none⟩) sM).trans p3)⟩) ?_
 clear hK K
 try simp only [Act.put]
 refine HP.done ?_
 have bz := ba9.row #[inAt (app pO cj cs) 0, inAt (app pO cj cs) 1, inAt (app pO cj cs) 2, inAt (app pO cj cs) 3, inAt (app pO cj cs) 4, inAt (app pO cj cs) 5, inAt (app pO cj cs) 6, inAt (app pO cj cs) 7]
 have vz := vb9.rowfar hneA #[inAt (app pO cj cs) 0, inAt (app pO cj cs) 1, inAt (app pO cj cs) 2, inAt (app pO cj cs) 3, inAt (app pO cj cs) 4, inAt (app pO cj cs) 5, inAt (app pO cj cs) 6, inAt (app pO cj cs) 7]
 have hnxz := hnx9.setRow hgA #[inAt (app pO cj cs) 0, inAt (app pO cj cs) 1, inAt (app pO cj cs) 2, inAt (app pO cj cs) 3, inAt (app pO cj cs) 4, inAt (app pO cj cs) 5, inAt (app pO cj cs) 6, inAt (app pO cj cs) 7]
 generalize w9.setRow gA #[inAt (app pO cj cs) 0, inAt (app pO cj cs) 1, inAt (app pO cj cs) 2, inAt (app pO cj cs) 3, inAt (app pO cj cs) 4, inAt (app pO cj cs) 5, inAt (app pO cj cs) 6, inAt (app pO cj cs) 7] = Wz at *
 go_wp2
 go_roundw
 case rel => exact ⟨i, oM, rfl, by rw [show a - i = j + 1 by have := Hj.out; omega]; exact HFs'.out, by rw [show a - i = j + 1 by have := Hj.out; omega, Hsuc.out]; exact bz, hnxz, vz⟩
 case measure => (simp [intOf] <;> omega)
theorem vaultRight_c (V : Vl) (B : Nat) (w : World) (h : Vlt w B V) (hB : B <= w.heap.size) (hn : VlN V 1048576) (hc : V.xs.length <= V.c) (hc3 : V.gs.length <= V.c3) (hm : AllM V.ms) :
 Calls Tryz.prog 66 #[V.v] w fun e w' => e = .returned (.bool V.ok) /\ Nx w w' := by
 have hVW := view_c V B
 have hPL := hasPlaces_c V B
 have hFF := fitsForward_c V B
 have hFB := fitsBack_c V B
 obtain ⟨g, b, p, t, A, c, xs, A2, c2, ms, A3, c3, gs, A4, c4, im⟩ := V
 obtain ⟨h, h2, h3, h4⟩ := h
 obtain ⟨hn, hn2, hn3, hn4, hn5⟩ := hn
 simp only [Vl.v, Vl.cells] at *
 simp only [Vl.w, Vl.wcells] at *
 have HOKv : Hid (Vl.ok ⟨g, b, p, t, A, c, xs, A2, c2, ms, A3, c3, gs, A4, c4, im⟩ = vltB g b p t xs ms gs im) := qh rfl
 rw [HOKv.out]
 have HNo := qh (vltB_no (g := g) (b := b) (p := p) (t := t) (xs := xs) (ms := ms) (gs := gs) (im := im))
 have HYes := qh (fun h => VltY.b (g := g) (b := b) (p := p) (t := t) (xs := xs) (ms := ms) (gs := gs) (im := im) h)
 have HSup := qh (fun (w' : World) (hx : Nx w w') => superRight_c g b p t A A2 c c2 B xs ms w' (h.below hx hB) (h2.below hx hB) (ntr hB hx.size) hn hn2 hc hm)
 have HCon := qh (fun (w' : World) (hx : Nx w w') => implContentOK_c A4 c4 B im w' (h4.below hx hB) (ntr hB hx.size) hn5)
 have HCha := qh (fun (w' : World) (hx : Nx w w') => implChainOK_c b A3 c3 B gs w' (h3.below hx hB) (ntr hB hx.size) hn3 hn4)
 have HVW := qh (fun (w' : World) (hx : Nx w w') (h8 : im.length = 8) => hVW w' (h4.below hx hB) (ntr hB hx.size) h8)
 have HPL := qh (fun (w' : World) (hx : Nx w w') (hN : gs.length <= 4096) => hPL w' (h3.below hx hB) (h2.below hx hB) (ntr hB hx.size) hN hn2)
 have HFF := qh (fun (w' : World) (hx : Nx w w') (hl : Lead b gs) (h8 : im.length = 8) (hp : plcB b p t gs ms = true) => hFF w' (h3.below hx hB) (ntr hB hx.size) hl hc3 h8 hp)
 have HFB := qh (fun (w' : World) (hx : Nx w w') (hl : Lead b gs) (h8 : im.length = 8) (hp : plcB b p t gs ms = true) => hFB w' (h3.below hx hB) (ntr hB hx.size) hl h8 hp)
 clear hVW hPL hFF hFB
 obtain ⟨n, Hn⟩ := nM (gs.length)
 obtain ⟨q, Hq⟩ := nM (im.length)
 obtain ⟨r, Hr⟩ := nM (ms.length)
 obtain ⟨z, Hz⟩ := nM (xs.length)
 rw [Hz.out, Hr.out] at HSup
 rw [Hq.out] at HCon
 rw [Hn.out] at HCha hn3
 rw [Hn.out, Hq.out, Hr.out, Hz.out] at HVW
 rw [Hn.out, Hr.out, Hz.out] at HPL
 rw [Hn.out, Hq.out, Hr.out, Hz.out] at HFF HFB
 rw [Hr.out] at hn2
 rw [Hz.out] at hn
 rw [Hq.out] at hn5
 rw [Hn.out, Hq.out, Hr.out, Hz.out]
 have b0 := Box.new w 49 #[ii g, ii b, ii p, ii t, sC A z c, sC A2 r c2, sC A3 n c3, sC A4 q c4]
 have hx0 := (Nx.refl w).alloc (.cells #[ii g, ii b, ii p, ii t, sC A z c, sC A2 r c2, sC A3 n c3, sC A4 q c4] 49)
 clear h h2 h3 h4 hn4 hc hm hc3
 go_enter func66, ntmps66
 go_wp2_with fail
 generalize w.alloc (.cells #[ii g, ii b, ii p, ii t, sC A z c, sC A2 r c2, sC A3 n c3, sC A4 q c4] 49) = W at *
 refine (HSup.out W hx0).mono ?_
 rintro e w1 ⟨rfl, hk⟩
 have b1 := b0.nx hk
 have hx := hx0.trans hk
 clear hx0 b0 hk
 cases h1 : superB g b p t xs ms with
 | false =>
   have HR := qh (HNo.out (.inl h1))
   clear h1
   go_wp2
   go_ret
   exact ⟨ret_bool HR.out.symm, hx⟩
 | true =>
 have H1 := qh h1
 clear h1
 obtain ⟨y0, y1, y2, y3, y4, y5, y6, y7⟩ := b1.e8
 go_wp2_with fail
 refine (HCon.out _ hx).mono ?_
 clear y0 y1 y2 y3 y4 y5 y6 y7
 rintro e w2 ⟨rfl, hk⟩
 have b2 := b1.nx hk
 replace hx := hx.trans hk
 clear b1 hk
 cases h2 : contB im with
 | false =>
   have HR := qh (HNo.out (.inr (.inl h2)))
   clear h2
   go_wp2
   go_ret
   exact ⟨ret_bool HR.out.symm, hx⟩
 | true =>
 have H2 := qh h2
 clear h2
 obtain ⟨y0, y1, y2, y3, y4, y5, y6, y7⟩ := b2.e8
 by_cases hle : n = z
 case neg =>
  have hd : ((n : Int) != (z : Int)) = true := by simp; omega
  have HR := qh (HNo.out (.inr (.inr (.inl (by rw [Hn.out, Hz.out]; exact hle)))))
  clear hle
  go_wp2
  go_ret
  exact ⟨ret_bool HR.out.symm, hx⟩
 have hd : ((n : Int) != (z : Int)) = false := by simp; omega
 have H4 := qh hle
 clear hle
 go_wp2_with fail
 refine (HCha.out _ hx).mono ?_
 clear y0 y1 y2 y3 y4 y5 y6 y7 hd
 rintro e w3 ⟨rfl, hk⟩
 have b3 := b2.nx hk
 replace hx := hx.trans hk
 clear b2 hk
 cases h3 : chainB b gs with
 | false =>
   have HR := qh (HNo.out (.inr (.inr (.inr (.inl h3)))))
   clear h3
   go_wp2
   go_ret
   exact ⟨ret_bool HR.out.symm, hx⟩
 | true =>
 have H3 := qh h3
 clear h3
 have HLd := qh (chainB_lead H3.out)
 have hn4 : n <= 4096 := by have := HLd.out.short; rw [Hn.out] at this; exact this
 have H8 : Hid (q = 8) := qh (by rw [<- Hq.out]; exact (contB_yes H2.out).1)
 obtain rfl : q = 8 := H8.out
 obtain ⟨y0, y1, y2, y3, y4, y5, y6, y7⟩ := b3.e8
 go_wp2_with fail
 refine (HVW.out _ hx (by trivial)).mono ?_
 clear y0 y1 y2 y3 y4 y5 y6 y7
 rintro e w4 ⟨rfl, hk⟩
 have b4 := b3.nx hk
 replace hx := hx.trans hk
 clear b3 hk
 have rz := Box.new w4 107 #[ii 0, ii 0, ii 0, ii 0, nsl, nsl, nsl, ii 0, ii 0, ii 0, ii 0, ii 0, ii 0, ii 0, ii 0]
 have bv := rz.row #[ii g, ii b, ii p, ii t, sC A z c, sC A2 r c2, sC A3 n c3, inAt im 0, inAt im 1, inAt im 2, inAt im 3, inAt im 4, inAt im 5, inAt im 6, inAt im 7]
 have hx5 := (hx.alloc (.cells #[ii 0, ii 0, ii 0, ii 0, nsl, nsl, nsl, ii 0, ii 0, ii 0, ii 0, ii 0, ii 0, ii 0, ii 0] 107)).setRow (g := w4.heap.size) hx.size #[ii g, ii b, ii p, ii t, sC A z c, sC A2 r c2, sC A3 n c3, inAt im 0, inAt im 1, inAt im 2, inAt im 3, inAt im 4, inAt im 5, inAt im 6, inAt im 7]
 obtain ⟨y0, y1, y2, y3, y4, y5, y6, y7, y8, y9, y10, y11, y12, y13, y14⟩ := bv.e15
 go_wp2_with (refine wpList_store_row rfl _ _ _ rfl w4.heap.size #[ii g, ii b, ii p, ii t, sC A z c, sC A2 r c2, sC A3 n c3, inAt im 0, inAt im 1, inAt im 2, inAt im 3, inAt im 4, inAt im 5, inAt im 6, inAt im 7] rfl rfl 107 #[ii 0, ii 0, ii 0, ii 0, nsl, nsl, nsl, ii 0, ii 0, ii 0, ii 0, ii 0, ii 0, ii 0, ii 0] rz (by kernel_rfl) rfl (by simp [Value.oneCell', inAt]) ?_)
 clear y0 y1 y2 y3 y4 y5 y6 y7 y8 y9 y10 y11 y12 y13 y14 rz hx
 generalize (w4.alloc (.cells #[ii 0, ii 0, ii 0, ii 0, nsl, nsl, nsl, ii 0, ii 0, ii 0, ii 0, ii 0, ii 0, ii 0, ii 0] 107)).setRow w4.heap.size #[ii g, ii b, ii p, ii t, sC A z c, sC A2 r c2, sC A3 n c3, inAt im 0, inAt im 1, inAt im 2, inAt im 3, inAt im 4, inAt im 5, inAt im 6, inAt im 7] = W5 at *
 generalize w4.heap.size = gV at *
 refine (HPL.out _ hx5 hn4).mono ?_
 rintro e w6 ⟨rfl, hk⟩
 have bv6 := bv.nx hk
 have hx6 := hx5.trans hk
 clear bv hx5 hk
 cases h5 : plcB b p t gs ms with
 | false =>
   have HR := qh (HNo.out (.inr (.inr (.inr (.inr (.inl h5))))))
   clear h5
   go_wp2
   go_ret
   exact ⟨ret_bool HR.out.symm, hx6⟩
 | true =>
 have H5 := qh h5
 clear h5
 obtain ⟨y0, y1, y2, y3, y4, y5, y6, y7, y8, y9, y10, y11, y12, y13, y14⟩ := bv6.e15
 go_wp2_with fail
 clear y0 y1 y2 y3 y4 y5 y6 y7 y8 y9 y10 y11 y12 y13 y14
 refine (HFF.out _ hx6 HLd.out (by trivial) H5.out).mono ?_
 rintro e w7 ⟨rfl, hk⟩
 have bv7 := bv6.nx hk
 have hx7 := hx6.trans hk
 clear bv6 hx6 hk
 cases h6 : fitF (stp b p t gs im).1 gs (stp b p t gs im).2 with
 | false =>
   have HR := qh (HNo.out (.inr (.inr (.inr (.inr (.inr (.inl h6)))))))
   clear h6
   go_wp2
   go_ret
   exact ⟨ret_bool HR.out.symm, hx7⟩
 | true =>
 have H6 := qh h6
 clear h6
 obtain ⟨y0, y1, y2, y3, y4, y5, y6, y7, y8, y9, y10, y11, y12, y13, y14⟩ := bv7.e15
 go_wp2_with fail
 clear y0 y1 y2 y3 y4 y5 y6 y7 y8 y9 y10 y11 y12 y13 y14
 refine (HFB.out _ hx7 HLd.out (by trivial) H5.out).mono ?_
 rintro e w8 ⟨rfl, hk⟩
 have hx8 := hx7.trans hk
 clear hx7 hk
 cases h7 : fitB (stp b p t gs im).1 gs (stp b p t gs im).2 with
 | false =>
   have HR := qh (HNo.out (.inr (.inr (.inr (.inr (.inr (.inr h7)))))))
   clear h7
   go_wp2
   go_ret
   exact ⟨ret_bool HR.out.symm, hx8⟩
 | true =>
   have HR := qh (HYes.out ⟨H1.out, H2.out, by rw [Hn.out, Hz.out]; exact H4.out, H3.out, H5.out, H6.out, h7⟩)
   clear h7
   go_wp2
   go_ret
   exact ⟨ret_bool HR.out.symm, hx8⟩
theorem implVaultOK_c (V : Vl) (B : Nat) (w : World) (h : Vlt w B V) (hB : B <= w.heap.size) (hn : VlN V 1048576) (hc : V.xs.length <= V.c) (hc3 : V.gs.length <= V.c3) (hm : AllM V.ms) :
 Calls Tryz.prog 28 #[V.v] w fun e w' => e = .returned (.bool V.ok) /\ Nx w w' := by
 have hR := vaultRight_c V B
 obtain ⟨v, Hv⟩ := nM (V.ok)
 rw [Hv.out] at hR ⊢
 have HR := qh (fun (w' : World) (hx : Nx w w') => hR w' (h.below hx hB) (ntr hB hx.size) hn hc hc3 hm)
 clear hR Hv h hn hc hc3 hm
 obtain ⟨g, b, p, t, A, c, xs, A2, c2, ms, A3, c3, gs, A4, c4, im⟩ := V
 simp only [Vl.v, Vl.cells] at *
 have hx0 := (Nx.refl w).alloc (.cells #[ii g, ii b, ii p, ii t, sC A xs.length c, sC A2 ms.length c2, sC A3 gs.length c3, sC A4 im.length c4] 49)
 go_enter func28, ntmps28
 go_wp2_with fail
 generalize w.alloc (.cells #[ii g, ii b, ii p, ii t, sC A xs.length c, sC A2 ms.length c2, sC A3 gs.length c3, sC A4 im.length c4] 49) = W at *
 refine (HR.out W hx0).mono ?_
 rintro e w1 ⟨rfl, hk⟩
 have hx := hx0.trans hk
 go_wp2
 go_ret
 exact ⟨rfl, hx⟩
end
end Go.Proofs.YtieoiailjjnnoaaGreatDoor
