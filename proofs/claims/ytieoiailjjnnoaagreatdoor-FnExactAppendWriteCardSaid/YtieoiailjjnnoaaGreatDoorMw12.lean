/-
  Texts of the proof, in their order.
  Conditions: those of each.
-/
import Derived.Test.YtieoiailjjnnoaaGreatDoorMw11
namespace Go.Proofs.YtieoiailjjnnoaaGreatDoor
set_option linter.unusedVariables false
set_option maxRecDepth 100000
set_option maxHeartbeats 16000000
open Go.RowKit
theorem vaultRight_c (V : Vl) (B : Nat) (w : World) (h : Vlt w B V) (hB : B ≤ w.heap.size) (hn : VlN V 1048576) (hc : V.xs.length ≤ V.c) (hc3 : V.gs.length ≤ V.c3) (hm : AllM V.ms) :
 Calls Tryz.prog 66 #[V.v] w fun e w' => e = .returned (.bool V.ok) ∧ Nx w w' := by
 have hVW := view_c V B
 have hPL := hasPlaces_c V B
 have hFF := fitsForward_c V B
 have hFB := fitsBack_c V B
 obtain ⟨g, b, p, t, A, c, xs, A2, c2, ms, A3, c3, gs, A4, c4, im⟩ := V
 obtain ⟨h, h2, h3, h4⟩ := h
 obtain ⟨hn, hn2, hn3, hn4, hn5⟩ := hn
 simp only [Vl.v, Vl.cells] at *
 simp only [Vl.w, Vl.wcells] at *
 have HOKv : Hid (Vl.ok ⟨g, b, p, t, A, c, xs, A2, c2, ms, A3, c3, gs, A4, c4, im⟩ = vltB g b p t xs ms gs im) := qh rfl
 rw [HOKv.out]
 have HNo := qh (vltB_no (g := g) (b := b) (p := p) (t := t) (xs := xs) (ms := ms) (gs := gs) (im := im))
 have HYes := qh (fun h => VltY.b (g := g) (b := b) (p := p) (t := t) (xs := xs) (ms := ms) (gs := gs) (im := im) h)
 have HSup := qh (fun (w' : World) (hx : Nx w w') => superRight_c g b p t A A2 c c2 B xs ms w' (h.below hx hB) (h2.below hx hB) (ntr hB hx.size) hn hn2 hc hm)
 have HCon := qh (fun (w' : World) (hx : Nx w w') => implContentOK_c A4 c4 B im w' (h4.below hx hB) (ntr hB hx.size) hn5)
 have HCha := qh (fun (w' : World) (hx : Nx w w') => implChainOK_c b A3 c3 B gs w' (h3.below hx hB) (ntr hB hx.size) hn3 hn4)
 have HVW := qh (fun (w' : World) (hx : Nx w w') (h8 : im.length = 8) => hVW w' (h4.below hx hB) (ntr hB hx.size) h8)
 have HPL := qh (fun (w' : World) (hx : Nx w w') (hN : gs.length ≤ 4096) => hPL w' (h3.below hx hB) (h2.below hx hB) (ntr hB hx.size) hN hn2)
 have HFF := qh (fun (w' : World) (hx : Nx w w') (hl : Lead b gs) (h8 : im.length = 8) (hp : plcB b p t gs ms = true) => hFF w' (h3.below hx hB) (ntr hB hx.size) hl hc3 h8 hp)
 have HFB := qh (fun (w' : World) (hx : Nx w w') (hl : Lead b gs) (h8 : im.length = 8) (hp : plcB b p t gs ms = true) => hFB w' (h3.below hx hB) (ntr hB hx.size) hl h8 hp)
 clear hVW hPL hFF hFB
 obtain ⟨n, Hn⟩ : ∃ n, Hid (gs.length = n) := ⟨_, rfl⟩
 obtain ⟨q, Hq⟩ : ∃ q, Hid (im.length = q) := ⟨_, rfl⟩
 obtain ⟨r, Hr⟩ : ∃ r, Hid (ms.length = r) := ⟨_, rfl⟩
 obtain ⟨z, Hz⟩ : ∃ z, Hid (xs.length = z) := ⟨_, rfl⟩
 rw [Hz.out, Hr.out] at HSup
 rw [Hq.out] at HCon
 rw [Hn.out] at HCha hn3
 rw [Hn.out, Hq.out, Hr.out, Hz.out] at HVW
 rw [Hn.out, Hr.out, Hz.out] at HPL
 rw [Hn.out, Hq.out, Hr.out, Hz.out] at HFF HFB
 rw [Hr.out] at hn2
 rw [Hz.out] at hn
 rw [Hq.out] at hn5
 rw [Hn.out, Hq.out, Hr.out, Hz.out]
 have b0 := Box.new w 49 #[ii g, ii b, ii p, ii t, .slice A z c, .slice A2 r c2, .slice A3 n c3, .slice A4 q c4]
 have hx0 := (Nx.refl w).alloc (.cells #[ii g, ii b, ii p, ii t, .slice A z c, .slice A2 r c2, .slice A3 n c3, .slice A4 q c4] 49)
 clear h h2 h3 h4 hn4 hc hm hc3
 go_enter Tryz.func66, Tryz.ntmps66
 go_wp2_with fail
 generalize w.alloc (.cells #[ii g, ii b, ii p, ii t, .slice A z c, .slice A2 r c2, .slice A3 n c3, .slice A4 q c4] 49) = W at *
 refine (HSup.out W hx0).mono ?_
 rintro e w1 ⟨rfl, hk⟩
 have b1 := b0.nx hk
 have hx := hx0.trans hk
 clear hx0 b0 hk
 cases h1 : superB g b p t xs ms with
 | false =>
   have HR := qh (HNo.out (.inl h1))
   clear h1
   go_wp2
   go_ret
   exact ⟨ret_bool HR.out.symm, hx⟩
 | true =>
 have H1 := qh h1
 clear h1
 obtain ⟨y0, y1, y2, y3, y4, y5, y6, y7⟩ := b1.e8
 go_wp2_with fail
 refine (HCon.out _ hx).mono ?_
 clear y0 y1 y2 y3 y4 y5 y6 y7
 rintro e w2 ⟨rfl, hk⟩
 have b2 := b1.nx hk
 replace hx := hx.trans hk
 clear b1 hk
 cases h2 : contB im with
 | false =>
   have HR := qh (HNo.out (.inr (.inl h2)))
   clear h2
   go_wp2
   go_ret
   exact ⟨ret_bool HR.out.symm, hx⟩
 | true =>
 have H2 := qh h2
 clear h2
 obtain ⟨y0, y1, y2, y3, y4, y5, y6, y7⟩ := b2.e8
 by_cases hle : n = z
 case neg =>
  have hd : ((n : Int) != (z : Int)) = true := by simp; omega
  have HR := qh (HNo.out (.inr (.inr (.inl (by rw [Hn.out, Hz.out]; exact hle)))))
  clear hle
  go_wp2
  go_ret
  exact ⟨ret_bool HR.out.symm, hx⟩
 have hd : ((n : Int) != (z : Int)) = false := by simp; omega
 have H4 := qh hle
 clear hle
 go_wp2_with fail
 refine (HCha.out _ hx).mono ?_
 clear y0 y1 y2 y3 y4 y5 y6 y7 hd
 rintro e w3 ⟨rfl, hk⟩
 have b3 := b2.nx hk
 replace hx := hx.trans hk
 clear b2 hk
 cases h3 : chainB b gs with
 | false =>
   have HR := qh (HNo.out (.inr (.inr (.inr (.inl h3)))))
   clear h3
   go_wp2
   go_ret
   exact ⟨ret_bool HR.out.symm, hx⟩
 | true =>
 have H3 := qh h3
 clear h3
 have HLd := qh (chainB_lead H3.out)
 have hn4 : n ≤ 4096 := by have := HLd.out.short; rw [Hn.out] at this; exact this
 have H8 : Hid (q = 8) := qh (by rw [← Hq.out]; exact (contB_yes H2.out).1)
 obtain rfl : q = 8 := H8.out
 obtain ⟨y0, y1, y2, y3, y4, y5, y6, y7⟩ := b3.e8
 go_wp2_with fail
 refine (HVW.out _ hx (by trivial)).mono ?_
 clear y0 y1 y2 y3 y4 y5 y6 y7
 rintro e w4 ⟨rfl, hk⟩
 have b4 := b3.nx hk
 replace hx := hx.trans hk
 clear b3 hk
 have rz := Box.new w4 107 #[ii 0, ii 0, ii 0, ii 0, nsl, nsl, nsl, ii 0, ii 0, ii 0, ii 0, ii 0, ii 0, ii 0, ii 0]
 have bv := rz.row #[ii g, ii b, ii p, ii t, .slice A z c, .slice A2 r c2, .slice A3 n c3, inAt im 0, inAt im 1, inAt im 2, inAt im 3, inAt im 4, inAt im 5, inAt im 6, inAt im 7]
 have hx5 := (hx.alloc (.cells #[ii 0, ii 0, ii 0, ii 0, nsl, nsl, nsl, ii 0, ii 0, ii 0, ii 0, ii 0, ii 0, ii 0, ii 0] 107)).setRow (g := w4.heap.size) hx.size #[ii g, ii b, ii p, ii t, .slice A z c, .slice A2 r c2, .slice A3 n c3, inAt im 0, inAt im 1, inAt im 2, inAt im 3, inAt im 4, inAt im 5, inAt im 6, inAt im 7]
 obtain ⟨y0, y1, y2, y3, y4, y5, y6, y7, y8, y9, y10, y11, y12, y13, y14⟩ := bv.e15
 go_wp2_with (refine wpList_store_row rfl _ _ _ rfl w4.heap.size #[ii g, ii b, ii p, ii t, .slice A z c, .slice A2 r c2, .slice A3 n c3, inAt im 0, inAt im 1, inAt im 2, inAt im 3, inAt im 4, inAt im 5, inAt im 6, inAt im 7] rfl rfl 107 #[ii 0, ii 0, ii 0, ii 0, nsl, nsl, nsl, ii 0, ii 0, ii 0, ii 0, ii 0, ii 0, ii 0, ii 0] rz (by kernel_rfl) rfl (by simp [Value.oneCell', inAt]) ?_)
 clear y0 y1 y2 y3 y4 y5 y6 y7 y8 y9 y10 y11 y12 y13 y14 rz hx
 generalize (w4.alloc (.cells #[ii 0, ii 0, ii 0, ii 0, nsl, nsl, nsl, ii 0, ii 0, ii 0, ii 0, ii 0, ii 0, ii 0, ii 0] 107)).setRow w4.heap.size #[ii g, ii b, ii p, ii t, .slice A z c, .slice A2 r c2, .slice A3 n c3, inAt im 0, inAt im 1, inAt im 2, inAt im 3, inAt im 4, inAt im 5, inAt im 6, inAt im 7] = W5 at *
 generalize w4.heap.size = gV at *
 refine (HPL.out _ hx5 hn4).mono ?_
 rintro e w6 ⟨rfl, hk⟩
 have bv6 := bv.nx hk
 have hx6 := hx5.trans hk
 clear bv hx5 hk
 cases h5 : plcB b p t gs ms with
 | false =>
   have HR := qh (HNo.out (.inr (.inr (.inr (.inr (.inl h5))))))
   clear h5
   go_wp2
   go_ret
   exact ⟨ret_bool HR.out.symm, hx6⟩
 | true =>
 have H5 := qh h5
 clear h5
 obtain ⟨y0, y1, y2, y3, y4, y5, y6, y7, y8, y9, y10, y11, y12, y13, y14⟩ := bv6.e15
 go_wp2_with fail
 clear y0 y1 y2 y3 y4 y5 y6 y7 y8 y9 y10 y11 y12 y13 y14
 refine (HFF.out _ hx6 HLd.out (by trivial) H5.out).mono ?_
 rintro e w7 ⟨rfl, hk⟩
 have bv7 := bv6.nx hk
 have hx7 := hx6.trans hk
 clear bv6 hx6 hk
 cases h6 : fitF (stp b p t gs im).1 gs (stp b p t gs im).2 with
 | false =>
   have HR := qh (HNo.out (.inr (.inr (.inr (.inr (.inr (.inl h6)))))))
   clear h6
   go_wp2
   go_ret
   exact ⟨ret_bool HR.out.symm, hx7⟩
 | true =>
 have H6 := qh h6
 clear h6
 obtain ⟨y0, y1, y2, y3, y4, y5, y6, y7, y8, y9, y10, y11, y12, y13, y14⟩ := bv7.e15
 go_wp2_with fail
 clear y0 y1 y2 y3 y4 y5 y6 y7 y8 y9 y10 y11 y12 y13 y14
 refine (HFB.out _ hx7 HLd.out (by trivial) H5.out).mono ?_
 rintro e w8 ⟨rfl, hk⟩
 have hx8 := hx7.trans hk
 clear hx7 hk
 cases h7 : fitB (stp b p t gs im).1 gs (stp b p t gs im).2 with
 | false =>
   have HR := qh (HNo.out (.inr (.inr (.inr (.inr (.inr (.inr h7)))))))
   clear h7
   go_wp2
   go_ret
   exact ⟨ret_bool HR.out.symm, hx8⟩
 | true =>
   have HR := qh (HYes.out ⟨H1.out, H2.out, by rw [Hn.out, Hz.out]; exact H4.out, H3.out, H5.out, H6.out, h7⟩)
   clear h7
   go_wp2
   go_ret
   exact ⟨ret_bool HR.out.symm, hx8⟩
theorem Vl.y {V : Vl} (h : V.ok = true) : VltY V.g V.b V.p V.t V.xs V.ms V.gs V.im := vltB_yes h
theorem VltY.ahd {g b p t : Int} {xs : List Int} {ms : List Mrk} {gs : List SgR} {im : List Int} (h : VltY g b p t xs ms gs im) : isRet b gs p = true ∧ (p < t → ahd b gs p < gs.length) ∧ (t < p → 0 < ahd b gs p) :=
 ⟨by have := h.places; unfold plcB at this; simp only [Bool.and_eq_true] at this; exact this.1.2, (stp_le (t := t) im (chainB_lead h.chain) h.places).2⟩
theorem VltY.l8 {g b p t : Int} {xs : List Int} {ms : List Mrk} {gs : List SgR} {im : List Int} (h : VltY g b p t xs ms gs im) : im.length = 8 := (contB_yes h.cont).1
theorem VltY.n4 {g b p t : Int} {xs : List Int} {ms : List Mrk} {gs : List SgR} {im : List Int} (h : VltY g b p t xs ms gs im) : gs.length ≤ 4096 := (chainB_lead h.chain).short
theorem l05Tip_c (V : Vl) (B : Nat) (w : World) (h : Vlt w B V) (hB : B ≤ w.heap.size) (hn : VlN V 1048576) :
 Calls Tryz.prog 159 #[V.v] w fun e w' => e = .returned (ii (tipV V.b V.gs)) ∧ Nx w w' := by
 have hR := l05Retained_c V B
 obtain ⟨g, b, p, t, A, c, xs, A2, c2, ms, A3, c3, gs, A4, c4, im⟩ := V
 simp only [Vl.v, Vl.cells] at *
 have hx0 := (Nx.refl w).alloc (.cells #[ii g, ii b, ii p, ii t, .slice A xs.length c, .slice A2 ms.length c2, .slice A3 gs.length c3, .slice A4 im.length c4] 49)
 have HR := qh hR
 have h9 := hn.gs
 have hn0 : gs.length ≤ 1048576 := h9
 clear hR h9
 go_enter Tryz.func159, Tryz.ntmps159
 go_wp2_with fail
 generalize w.alloc (.cells #[ii g, ii b, ii p, ii t, .slice A xs.length c, .slice A2 ms.length c2, .slice A3 gs.length c3, .slice A4 im.length c4] 49) = W at *
 refine (HR.out W (h.below hx0 hB) (ntr hB hx0.size) hn).mono ?_
 rintro e w1 ⟨A9, c9, rfl, _, hS, hx1⟩
 have hI : Ins w1 w1.heap.size A9 (retL b gs) := hS.row
 have Hl := qh (retL_len b gs)
 have HT := qh (retL_at b gs gs.length nle)
 obtain ⟨bb, off, rfl, _, q0⟩ := hI.at_ (k := gs.length) (by rw [Hl.out]; omega)
 obtain ⟨m, Hm⟩ : ∃ m, Hid (gs.length = m) := ⟨_, rfl⟩
 rw [Hm.out] at Hl HT hn0 q0
 rw [HT.out] at q0
 rw [Hl.out]
 obtain ⟨T, HTv⟩ : ∃ T, Hid (atK b gs m = T) := ⟨_, rfl⟩
 rw [HTv.out] at q0
 have HR2 : Hid (tipV b gs = T) := qh (by unfold tipV; rw [Hm.out]; exact HTv.out)
 have hw1 : IntKind.i64.wrap (m : Int) = (m : Int) := IntWalk.i64_in _ (by omega)
 have hm1 : (m : Int) < (m : Int) + 1 := by omega
 have hx := hx0.trans hx1
 clear HR h hn hS hI hx0 hx1
 go_wp2
 go_ret
 exact ⟨ret_int HR2.out.symm, hx⟩
theorem tip_c (V : Vl) (B : Nat) (w : World) (h : Sgs w B V.A3 V.gs) (hB : B ≤ w.heap.size) (hn : V.gs.length ≤ 1048576) :
 Calls Tryz.prog 68 #[V.w] w fun e w' => e = .returned (ii (tipV V.b V.gs)) ∧ Nx w w' := by
 obtain ⟨g, b, p, t, A, c, xs, A2, c2, ms, A3, c3, gs, A4, c4, im⟩ := V
 simp only [Vl.w, Vl.wcells] at *
 have HSg := qh (fun (k : Nat) (hk : k < gs.length) (w' : World) (hx : Nx w w') => (h.below hx hB).row.at4 hk)
 have HTv : Hid (tipV b gs = atK b gs gs.length) := qh rfl
 obtain ⟨m, Hm⟩ : ∃ m, Hid (gs.length = m) := ⟨_, rfl⟩
 rw [Hm.out] at HSg HTv hn ⊢
 have hx0 := (Nx.refl w).alloc (.cells #[ii g, ii b, ii p, ii t, .slice A xs.length c, .slice A2 ms.length c2, .slice A3 m c3, inAt im 0, inAt im 1, inAt im 2, inAt im 3, inAt im 4, inAt im 5, inAt im 6, inAt im 7] 107)
 clear h
 rw [HTv.out]
 by_cases h0 : m = 0
 · have hd : ((m : Int) == 0) = true := by simp; omega
   have HZ := qh (show atK b gs m = b by rw [h0]; rfl)
   rw [HZ.out]
   clear h0
   go_enter Tryz.func68, Tryz.ntmps68
   go_wp2
   go_ret
   exact ⟨rfl, hx0⟩
 obtain ⟨k, rfl⟩ : ∃ k, m = k + 1 := ⟨m - 1, by omega⟩
 have hd : (((k + 1 : Nat) : Int) == 0) = false := by simp; omega
 obtain ⟨bb, off, rfl, hbb, _, p1, _, _⟩ := HSg.out k (by omega) _ hx0
 have Hk : Hid (atK b gs (k + 1) = (gs.getD k sgZ).t) := qh rfl
 obtain ⟨s, Hs⟩ : ∃ s, Hid (gs.getD k sgZ = s) := ⟨_, rfl⟩
 rw [Hs.out] at p1 Hk
 rw [Hk.out]
 obtain ⟨f, t9, m9, Ac, cc, cs⟩ := s
 simp only at p1 ⊢
 have hk0 : (0 : Int) ≤ (k : Int) := by omega
 have hk1 : (k : Int) < (k : Int) + 1 := by omega
 have hwk : IntKind.i64.wrap (k : Int) = (k : Int) := IntWalk.i64_in _ (by omega)
 have hd' : ((k : Int) + 1 == 0) = false := by simp; omega
 have hbd := Box.new w 107 #[ii g, ii b, ii p, ii t, .slice A xs.length c, .slice A2 ms.length c2, .slice (some ⟨bb, off, none⟩) (k + 1) c3, inAt im 0, inAt im 1, inAt im 2, inAt im 3, inAt im 4, inAt im 5, inAt im 6, inAt im 7]
 obtain ⟨_, y1, _, _, _, _, y6, _, _, _, _, _, _, _, _⟩ := hbd.e15
 go_enter Tryz.func68, Tryz.ntmps68
 go_wp2
 go_ret
 exact ⟨rfl, hx0⟩

theorem getD_setB (ss : List BA) (a i : Nat) (s : BA) (ha : a < ss.length) : (ss.set a s).getD i ByteArray.empty = if i = a then s else ss.getD i ByteArray.empty := by
 rw [gdE, List.getElem?_set]
 by_cases h : a = i
 · subst h; rw [if_pos rfl, if_pos rfl, if_pos ha]; rfl
 · rw [if_neg h, if_neg (fun e => h e.symm), ← gdE]
theorem readP_nil (ss : List BA) (a : Nat) : readP ss [] a = ss.getD a ByteArray.empty := rfl
theorem segT_size (V : Vl) (p v t : Int) (n : Nat) : (segT (newG V p n v t)).size ≤ 300 := by
 unfold segT
 rw [sealS_size, numsS_size, segN_len]
 show (3 + 3 * 1) * 6 + 3 ≤ 300
 omega
theorem supT_size {g b p t : Int} {xs : List Int} {ms : List Mrk} (h : superB (g + 1) b p t xs ms = true) : (supT (g + 1) b p t xs ms).size ≤ 300 :=
 nxt_size (u := (g, b, p, t, xs, ms)) h
theorem set_all {ss : List BA} {a : Nat} {s : BA} (h : ss.all sOk = true) (hs : s.size ≤ 300) : (ss.set a s).all sOk = true := List.all_eq_true.2 fun x hx => by
 rcases List.mem_or_eq_of_mem_set hx with h1 | rfl
 · exact List.all_eq_true.1 h x h1
 · exact decide_eq_true hs
theorem diskB_nil {ss : List BA} (h1 : ss.length = 64) (h2 : ss.all sOk = true) : diskB ss [] = true := by
 unfold diskB; rw [h1, h2]; rfl
def apS (ss : List BA) (V : Vl) (p : Int) (n : Nat) (v t : Int) : List BA := ss.set (freeS V.xs).toNat (segT (newG V p n v t))
def apU (V : Vl) : BA := supT (V.g + 1) V.b V.p V.t (V.xs ++ [freeS V.xs]) V.ms
structure Asked (ss : List BA) (V : Vl) (p : Int) (n : Nat) (v t : Int) : Prop where
 disk : diskB ss [] = true
 ld : LdY ss [] V
 frame : frameB p (n : Int) v t = true
 next : p = V.tip + 1
 room : V.gs.length ≠ 20
 gen : V.g ≠ 999999
section
variable {ss : List BA} {V : Vl} {p v t : Int} {n : Nat}
theorem Asked.len (h : Asked ss V p n v t) : V.gs.length < 20 ∧ V.xs.length = V.gs.length := by
 have h1 := h.ld.ok.len
 have h2 := (tbB_yes (superB_yes h.ld.ok.super).2.2.2.2.1).1
 have := h.room
 exact ⟨by omega, h1.symm⟩
theorem Asked.y (h : Asked ss V p n v t) : VltY (V.g + 1) V.b V.p V.t (V.xs ++ [freeS V.xs]) V.ms (V.gs ++ [newG V p n v t]) V.im := ext_y h.ld.ok (newG_nxt h.ld.ok h.frame h.next) h.gen h.len.1
theorem Asked.free (h : Asked ss V p n v t) : ∃ a : Nat, freeS V.xs = (a : Int) ∧ 10 ≤ a ∧ a ≤ 63 := by
 obtain ⟨f1, f2, _⟩ := free_ok (xs := V.xs) (by have := h.len; omega)
 exact ⟨(freeS V.xs).toNat, by omega, by omega, by omega⟩
theorem Asked.diskS (h : Asked ss V p n v t) : diskB (apS ss V p n v t) [] = true :=
 diskB_nil (by unfold apS; rw [List.length_set]; exact (diskB_len64 h.disk).1) (set_all (diskB_len64 h.disk).2.2.1 (segT_size V p v t n))
theorem Asked.slot (h : Asked ss V p n v t) : ∃ o : Nat, 1 - sltV ss [] = (o : Int) ∧ o ≤ 1 := by
 rcases h.ld.slot with e | e
 · exact ⟨1, by omega, by omega⟩
 · exact ⟨0, by omega, by omega⟩
theorem Asked.disk1 (h : Asked ss V p n v t) : diskB (apS ss V p n v t) [(1 - sltV ss [], apU V)] = true := by
 obtain ⟨o, eo, ho⟩ := h.slot
 have h1 := diskB_len64 h.diskS
 unfold diskB
 rw [h1.1, h1.2.2.1, eo]
 have : wOk ((o : Int), apU V) = true := by
  unfold wOk secB sOk
  rw [decide_eq_true (show (0 : Int) ≤ (o : Int) by omega), decide_eq_true (show (o : Int) ≤ 63 by omega), decide_eq_true (show (((o : Int), apU V) : Int × BA).2.size ≤ 300 from supT_size h.y.super)]; rfl
 simp [this]
theorem Asked.readS (h : Asked ss V p n v t) (a : Nat) : readP (apS ss V p n v t) [] a = if a = (freeS V.xs).toNat then segT (newG V p n v t) else readP ss [] a := by
 obtain ⟨f, ef, h1, h2⟩ := h.free
 rw [readP_nil, readP_nil]
 unfold apS
 rw [getD_setB _ _ _ _ (by rw [(diskB_len64 h.disk).1, ef]; omega)]
theorem Asked.readF (h : Asked ss V p n v t) (a : Nat) : readP ((apS ss V p n v t).set (1 - sltV ss []).toNat (apU V)) [] a = if a = (1 - sltV ss []).toNat then apU V else readP (apS ss V p n v t) [] a := by
 obtain ⟨o, eo, ho⟩ := h.slot
 rw [readP_nil, readP_nil, getD_setB _ _ _ _ (by rw [(diskB_len64 h.diskS).1, eo]; omega)]
theorem newU_at {o0 o1 : Option U6} {u : U6} {s : Int} (h : newU o0 o1 = some (u, s)) : (s = 0 ∧ o0 = some u) ∨ (s = 1 ∧ o1 = some u) := by
 unfold newU at h
 split at h
 · split at h <;> cases h
   · exact .inr ⟨rfl, rfl⟩
   · exact .inl ⟨rfl, rfl⟩
 · cases h; exact .inl ⟨rfl, rfl⟩
 · cases h; exact .inr ⟨rfl, rfl⟩
 · cases h
theorem Asked.new (h : Asked ss V p n v t) : newU (rdU (readP ((apS ss V p n v t).set (1 - sltV ss []).toNat (apU V)) [] 0)) (rdU (readP ((apS ss V p n v t).set (1 - sltV ss []).toNat (apU V)) [] 1)) = some ((V.g + 1, V.b, V.p, V.t, V.xs ++ [freeS V.xs], V.ms), 1 - sltV ss []) := by
 obtain ⟨f, ef, f1, f2⟩ := h.free
 have hb := rdU_back h.y.super
 rw [h.readF 0, h.readF 1, h.readS 0, h.readS 1, if_neg (show ¬ 0 = (freeS V.xs).toNat by omega), if_neg (show ¬ 1 = (freeS V.xs).toNat by omega)]
 rcases newU_at h.ld.nu with ⟨hs, hr⟩ | ⟨hs, hr⟩
 · rw [hs, if_neg (by decide), if_pos (by decide), hr]
   show newU _ (rdU (apU V)) = _
   unfold apU
   rw [hb]
   show (if V.g < V.g + 1 then _ else _) = _
   rw [if_pos (by omega)]; rfl
 · rw [hs, if_pos (by decide), if_neg (by decide), hr]
   show newU (rdU (apU V)) _ = _
   unfold apU
   rw [hb]
   show (if V.g + 1 < V.g then _ else _) = _
   rw [if_neg (by omega)]; rfl
theorem Asked.sec (h : Asked ss V p n v t) {a : Nat} (h1 : 2 ≤ a) (h2 : a ≠ (freeS V.xs).toNat) : readP ((apS ss V p n v t).set (1 - sltV ss []).toNat (apU V)) [] a = readP ss [] a := by
 obtain ⟨o, eo, ho⟩ := h.slot
 rw [h.readF, if_neg (by rw [eo]; omega), h.readS, if_neg h2]
theorem Asked.seg (h : Asked ss V p n v t) : ldG ((apS ss V p n v t).set (1 - sltV ss []).toNat (apU V)) [] (freeS V.xs) = some ((p - 1).toNat, p.toNat, (lastM V.gs t).toNat, [((n : Int), v, V.top.getD n 0)]) := by
 obtain ⟨o, eo, ho⟩ := h.slot
 obtain ⟨f, ef, f1, f2⟩ := h.free
 have hx := newG_nxt h.ld.ok h.frame h.next
 have hs : segB (p - 1) p (lastM V.gs t) [((n : Int), v, V.top.getD n 0)] = true := hx.seg
 obtain ⟨s0, s1, s2, s3, s4⟩ := segB_yes hs
 unfold ldG
 rw [h.readF, if_neg (by rw [eo, ef]; omega), h.readS, if_pos rfl]
 have e0 : (((p - 1).toNat : Nat) : Int) = p - 1 := Int.toNat_of_nonneg (by omega)
 have e1 : ((p.toNat : Nat) : Int) = p := Int.toNat_of_nonneg (by omega)
 have e2 : (((lastM V.gs t).toNat : Nat) : Int) = lastM V.gs t := Int.toNat_of_nonneg (by omega)
 have hs2 : segB (((p - 1).toNat : Nat) : Int) ((p.toNat : Nat) : Int) (((lastM V.gs t).toNat : Nat) : Int) [((n : Int), v, V.top.getD n 0)] = true := by rw [e0, e1, e2]; exact hs
 have hb := rdG_back hs2
 rw [← hb]
 unfold segS segT newG
 rw [if_pos hs2, e0, e1, e2]
theorem Asked.img (h : Asked ss V p n v t) {j : Nat} (hj : j < 8) : ldI ((apS ss V p n v t).set (1 - sltV ss []).toNat (apU V)) [] j = ldI ss [] j := by
 obtain ⟨f, ef, f1, f2⟩ := h.free
 unfold ldI
 rw [h.sec (by omega) (by rw [ef]; omega)]
theorem Asked.keep (h : Asked ss V p n v t) : LdY (apS ss V p n v t) [] V := by
 obtain ⟨f, ef, f1, f2⟩ := h.free
 obtain ⟨_, _, f3⟩ := free_ok (xs := V.xs) (by have := h.len; omega)
 have hsec : ∀ a, a ≠ (freeS V.xs).toNat → readP (apS ss V p n v t) [] a = readP ss [] a := fun a ha => by rw [h.readS, if_neg ha]
 have hn : newU (rdU (readP (apS ss V p n v t) [] 0)) (rdU (readP (apS ss V p n v t) [] 1)) = newU (rdU (readP ss [] 0)) (rdU (readP ss [] 1)) := by
  rw [hsec 0 (by rw [ef]; omega), hsec 1 (by rw [ef]; omega)]
 have hs : sltV (apS ss V p n v t) [] = sltV ss [] := by unfold sltV; rw [hn]
 have hg : ∀ x ∈ V.xs, ldG (apS ss V p n v t) [] x = ldG ss [] x := fun x hx => by
  have h1 := tbB_in (superB_yes h.ld.ok.super).2.2.2.2.1 hx
  unfold ldG
  rw [hsec _ (fun e => f3 (by have : freeS V.xs = x := by omega
                              rw [this]; exact hx))]
 have hi : ∀ j, j < 8 → ldI (apS ss V p n v t) [] j = ldI ss [] j := fun j hj => by unfold ldI; rw [hsec _ (by rw [ef]; omega)]
 have hrd := h.ld.rd
 unfold ldOk at hrd
 rw [Bool.and_eq_true] at hrd
 refine ⟨by rw [hn, hs]; exact h.ld.nu, by rw [hs]; exact h.ld.slot, h.ld.ok, ?_, ?_⟩
 · unfold ldOk
   rw [Bool.and_eq_true]
   exact ⟨List.all_eq_true.2 fun x hx => by rw [hg x hx]; exact List.all_eq_true.1 hrd.1 x hx, List.all_eq_true.2 fun j hj => by rw [hi j (by simpa using hj)]; exact List.all_eq_true.1 hrd.2 j hj⟩
 · have e1 : V.xs.map (ldS (apS ss V p n v t) []) = V.xs.map (ldS ss []) := List.map_congr_left fun x hx => by unfold ldS; rw [hg x hx]
   have e2 : (List.range 8).map (ldX (apS ss V p n v t) []) = (List.range 8).map (ldX ss []) := List.map_congr_left fun j hj => by unfold ldX; rw [hi j (by simpa using hj)]
   refine h.ld.eq.trans ?_
   unfold ldW vlU
   simp only
   rw [e1, e2]
theorem Asked.keepS (h : Asked ss V p n v t) : sltV (apS ss V p n v t) [] = sltV ss [] := by
 obtain ⟨f, ef, f1, f2⟩ := h.free
 unfold sltV
 rw [h.readS, h.readS, if_neg (by rw [ef]; omega), if_neg (by rw [ef]; omega)]
end
section
variable {gs hs : List SgR} (hv : gs.map SgR.v = hs.map SgR.v)
include hv
theorem retL_v (b : Int) : retL b gs = retL b hs := by
 have : gs.map SgR.t = hs.map SgR.t := by
  have := congrArg (List.map (fun q : Sg4 => q.2.1)) hv
  rw [List.map_map, List.map_map] at this
  exact this
 unfold retL; rw [this]
theorem isRet_v (b n : Int) : isRet b gs n = isRet b hs n := by unfold isRet; rw [retL_v hv, v_len hv]
theorem ahd_v (b n : Int) : ahd b gs n = ahd b hs n := by unfold ahd; rw [retL_v hv]
theorem stp_v (b p t : Int) (im : List Int) : stp b p t gs im = stp b p t hs im := by
 unfold stp
 rw [ahd_v hv, (v_parts hv (ahd b hs p)).2.2.2, (v_parts hv (ahd b hs p - 1)).2.2.2]
theorem fwK_v (c : List Int) (a : Nat) : ∀ j, fwK c gs a j = fwK c hs a j
 | 0 => rfl
 | j + 1 => by show app pN _ _ = app pN _ _; rw [fwK_v c a j, (v_parts hv (a + j)).2.2.2]
theorem bkK_v (c : List Int) (a : Nat) : ∀ j, bkK c gs a j = bkK c hs a j
 | 0 => rfl
 | j + 1 => by show app pO _ _ = app pO _ _; rw [bkK_v c a j, (v_parts hv (a - 1 - j)).2.2.2]
theorem fitF_v (c : List Int) (a : Nat) : fitF c gs a = fitF c hs a := by
 unfold fitF
 rw [v_len hv]
 congr 1
 funext j
 unfold oldB
 rw [fwK_v hv, (v_parts hv (a + j)).2.2.2]
theorem fitB_v (c : List Int) (a : Nat) : fitB c gs a = fitB c hs a := by
 unfold fitB
 congr 1
 funext j
 unfold newB
 rw [bkK_v hv, (v_parts hv (a - 1 - j)).2.2.2]
theorem plcB_v (b p t : Int) (ms : List Mrk) : plcB b p t gs ms = plcB b p t hs ms := by
 unfold plcB mksR
 rw [isRet_v hv, isRet_v hv]
 congr 2
 congr 1
 funext k
 exact isRet_v hv b _
theorem vltB_v (g b p t : Int) (xs : List Int) (ms : List Mrk) (im : List Int) : vltB g b p t xs ms gs im = vltB g b p t xs ms hs im := by
 unfold vltB
 rw [v_len hv, chainB_v hv, plcB_v hv, stp_v hv, fitF_v hv, fitB_v hv]
theorem cntV_v (b p t : Int) (im : List Int) (n : Int) : cntV b p t gs im n = cntV b p t hs im n := by
 unfold cntV
 rw [stp_v hv, ahd_v hv, fwK_v hv, bkK_v hv]
theorem tipV_v (b : Int) : tipV b gs = tipV b hs := by unfold tipV; rw [v_len hv, atK_v hv]
end
theorem VlS.ok {V V' : Vl} (h : VlS V V') : V.ok = V'.ok := by
 unfold Vl.ok
 rw [h.g, h.b, h.p, h.t, h.xs, h.ms, h.im, vltB_v h.gs]
theorem settle_put (ss : List BA) (x : Int) (s : BA) : settleTo kpAll ss ([] ++ [(x, s)]) 1 = ss.set x.toNat s := rfl
theorem readP_put {ss : List BA} {x : Int} {s : BA} {a : Nat} (h : x ≠ (a : Int)) : readP ss ([] ++ [(x, s)]) a = readP ss [] a := by
 have e : (x == (a : Int)) = false := beq_eq_false_iff_ne.2 h
 unfold readP
 simp [findLast, e]
theorem freeTo_some {xs : List Int} (h : xs.length ≤ 20) : 0 < (freeTo xs 54).length := by
 have h1 := (free_ok h).1
 rcases Nat.eq_zero_or_pos (freeTo xs 54).length with h0 | h0
 · have : freeS xs = 0 := by unfold freeS; rw [List.length_eq_zero_iff.1 h0]; rfl
   omega
 · exact h0
section
variable {ss : List BA} {V : Vl} {p v t : Int} {n : Nat}
theorem LdY.room (h : LdY ss [] V) (h20 : V.gs.length ≠ 20) : V.gs.length < 20 ∧ V.xs.length < 20 ∧ 10 ≤ freeS V.xs ∧ freeS V.xs ≤ 63 ∧ freeS V.xs ∉ V.xs := by
 have h1 := h.ok.len
 have h2 := (tbB_yes (superB_yes h.ok.super).2.2.2.2.1).1
 have h3 := free_ok (xs := V.xs) h2
 exact ⟨by omega, by omega, h3⟩
theorem LdY.table (h : LdY ss [] V) (h20 : V.gs.length ≠ 20) : superB V.g V.b V.p V.t (V.xs ++ [freeS V.xs]) V.ms = true := by
 obtain ⟨s0, s1, s2, s3, s4, s5⟩ := superB_yes h.ok.super
 obtain ⟨_, f0, f1, f2, f3⟩ := h.room h20
 exact superB_mk (inB_mk s0.1 s0.2) (inB_mk s1.1 s1.2) (inB_mk s2.1 s2.2) (inB_mk s3.1 s3.2) (tb_snoc s4 (by omega) ⟨f1, f2⟩ f3) s5
theorem LdY.put (h : LdY ss [] V) (hd : diskB ss [] = true) (h20 : V.gs.length ≠ 20) : diskB ss ([] ++ [(freeS V.xs, segT (newG V p n v t))]) = true := by
 obtain ⟨_, f0, f1, f2, f3⟩ := h.room h20
 have h1 := diskB_len64 hd
 have hs := segT_size V p v t n
 have hw : wOk (freeS V.xs, segT (newG V p n v t)) = true := by
  unfold wOk secB sOk
  simp only [Bool.and_eq_true, decide_eq_true_eq]
  exact ⟨⟨by omega, by omega⟩, hs⟩
 unfold diskB
 rw [h1.1, h1.2.2.1]
 simp [hw]
theorem LdY.newest (h : LdY ss [] V) (h20 : V.gs.length ≠ 20) (s : BA) : newU (rdU (readP ss ([] ++ [(freeS V.xs, s)]) 0)) (rdU (readP ss ([] ++ [(freeS V.xs, s)]) 1)) = some ((V.g, V.b, V.p, V.t, V.xs, V.ms), sltV ss []) := by
 obtain ⟨_, f0, f1, f2, f3⟩ := h.room h20
 rw [readP_put (by omega), readP_put (by omega)]
 exact h.nu
end
theorem VltY.tipIn {g b p t : Int} {xs : List Int} {ms : List Mrk} {gs : List SgR} {im : List Int} (h : VltY g b p t xs ms gs im) : 0 ≤ tipV b gs ∧ tipV b gs ≤ 999999 := by
 have hl := chainB_lead h.chain
 have h1 := (superB_yes h.super).2.1
 unfold tipV
 rcases Nat.eq_zero_or_pos gs.length with h0 | h0
 · rw [h0]; exact h1
 · obtain ⟨k, hk⟩ : ∃ k, gs.length = k + 1 := ⟨gs.length - 1, by omega⟩
   rw [hk]
   exact (segB_yes (hl.seg k (by omega))).2.1
theorem lastM_v {gs hs : List SgR} (hv : gs.map SgR.v = hs.map SgR.v) (t : Int) : lastM gs t = lastM hs t := by
 have hm : ∀ k, (gs.getD k sgZ).m = (hs.getD k sgZ).m := fun k => congrArg (fun q : Sg4 => q.2.2.1) (v_at hv k)
 unfold lastM
 rw [v_len hv, hm]
theorem VlS.tip {V V' : Vl} (h : VlS V V') : V'.tip = V.tip := by unfold Vl.tip; rw [h.b, tipV_v h.gs]
theorem VlS.top {V V' : Vl} (h : VlS V V') : V'.top = V.top := by unfold Vl.top; rw [h.tip, h.b, h.p, h.t, h.im, cntV_v h.gs]
theorem VlS.newG {V V' : Vl} (h : VlS V V') (p : Int) (n : Nat) (v t : Int) : newG V' p n v t = newG V p n v t := by unfold Go.Proofs.YtieoiailjjnnoaaGreatDoor.newG; rw [h.top, lastM_v h.gs]
theorem VlS.y {V V' : Vl} (h : VlS V V') (hy : VltY V.g V.b V.p V.t V.xs V.ms V.gs V.im) : VltY V'.g V'.b V'.p V'.t V'.xs V'.ms V'.gs V'.im := Vl.y (h.ok ▸ hy.b)
def gCs (g : SgR) : List Value := [ii g.f, ii g.t, ii g.m, .slice g.A g.cs.length g.c]
def gVs (gs : List SgR) : List Value := gs.flatMap gCs
theorem gVs_len : ∀ gs : List SgR, (gVs gs).length = gs.length * 4
 | [] => rfl
 | g :: gs => by
   show (gCs g ++ gVs gs).length = _
   rw [List.length_append, gVs_len gs, List.length_cons]
   unfold gCs
   simp only [List.length_cons, List.length_nil]; omega
theorem gVs_snoc (gs : List SgR) (g : SgR) : gVs (gs ++ [g]) = gVs gs ++ gCs g := by
 unfold gVs; rw [List.flatMap_append]; simp
theorem gVs_get : ∀ (gs : List SgR) (i : Nat), i < gs.length * 4 → (gVs gs)[i]? = some (sgAt gs i)
 | [], i, h => by simp at h
 | g :: gs, i, h => by
   show (gCs g ++ gVs gs)[i]? = _
   by_cases hi : i < 4
   · rw [List.getElem?_append_left (by simpa [gCs] using hi)]
     match i, hi with
     | 0, _ => rfl
     | 1, _ => rfl
     | 2, _ => rfl
     | 3, _ => rfl
   · rw [List.getElem?_append_right (by simpa [gCs] using hi)]
     show (gVs gs)[i - 4]? = _
     rw [gVs_get gs (i - 4) (by simp at h; omega)]
     have e1 : (i - 4) % 4 = i % 4 := by omega
     have e2 : i / 4 = (i - 4) / 4 + 1 := by omega
     unfold sgAt
     rw [e1, e2, List.getD_cons_succ]
def ChO (w : World) (B : Nat) (gs : List SgR) : Prop := ∀ k, k < gs.length → Sl w B (gs.getD k sgZ).A 192 ((gs.getD k sgZ).cs.length * 3) (chAt (gs.getD k sgZ).cs)
theorem ChO.nx {w w' : World} {B : Nat} {gs : List SgR} (h : ChO w B gs) (hb : Nx w w') : ChO w' B gs := fun k hk => (h k hk).nx hb
theorem Sl.rgO {w w' : World} {lo a b : Nat} {A : Option Addr} {t : TypeId} {m : Nat} {f : Nat → Value} (h : Sl w lo A t m f) (hb : Rg a b w w') (hd : b ≤ lo) : Sl w' lo A t m f := fun hm => by
 obtain ⟨g, e, hl, ho⟩ := h hm; exact ⟨g, e, hl, ho.rg hb (.inr (by omega))⟩
theorem ChO.rg {w w' : World} {B a b : Nat} {gs : List SgR} (h : ChO w B gs) (hb : Rg a b w w') (hd : b ≤ B) : ChO w' B gs := fun k hk => (h k hk).rgO hb hd
theorem ChO.snoc {w : World} {B : Nat} {gs : List SgR} {g : SgR} (h : ChO w B gs) (hg : Sl w B g.A 192 (g.cs.length * 3) (chAt g.cs)) : ChO w B (gs ++ [g]) := fun k hk => by
 rw [List.length_append] at hk
 simp only [List.length_cons, List.length_nil] at hk
 by_cases e : k < gs.length
 · rw [getD_pre gs [g] e]; exact h k e
 · obtain rfl : k = gs.length := by omega
   rw [getD_app]; exact hg
def RowS (w : World) (B : Nat) (v : Value) (gs : List SgR) : Prop := w.ownsRow B 122 4 v gs.length (gVs gs)
theorem RowS.new (w : World) {B : Nat} (hB : B ≤ w.heap.size) : RowS (w.alloc (.cells #[] 122)) B (.slice (some ⟨w.heap.size, 0, none⟩) 0 0) [] :=
 ⟨rfl, .inr ⟨_, 0, #[], rfl, hB, heap_alloc_new w _, by simp, by unfold maxLen; omega, rfl, rfl⟩⟩
theorem RowS.sl {w : World} {B : Nat} {v : Value} {gs : List SgR} (h : RowS w B v gs) : ∃ A c, v = .slice A gs.length c ∧ Sl w B A 122 (gs.length * 4) (sgAt gs) := by
 rcases h.2 with ⟨rfl, h0⟩ | ⟨g, cap, cur, rfl, hb, hg, hnc, _, hcs, htk⟩
 · exact ⟨none, 0, by rw [h0], fun hn => by omega⟩
 · refine ⟨_, cap, rfl, Sl.own ⟨cur, hg, by have := Nat.mul_le_mul_right 4 hnc; omega, fun i hi => ?_⟩ hb⟩
   have h1 : (cur.toList.take (gs.length * 4))[i]? = some (sgAt gs i) := by rw [htk]; exact gVs_get gs i hi
   rw [List.getElem?_take_of_lt hi] at h1
   simpa using h1
theorem RowS.nx {w w' : World} {B : Nat} {v : Value} {gs : List SgR} (h : RowS w B v gs) (hb : Nx w w') : RowS w' B v gs := by
 refine World.ownsRow.kept (row := none) h ⟨hb.os, hb.tape, hb.output, hb.size, fun i hi _ => hb.block i hi⟩ ?_
 cases hv : v.ownBlock with
 | none => exact .inl rfl
 | some g => exact .inr (by simp)
theorem RowS.rg {w w' : World} {B lo hi : Nat} {v : Value} {gs : List SgR} (h : RowS w B v gs) (hr : Rg lo hi w w') (hh : hi ≤ B) : RowS w' B v gs := by
 rcases h.2 with ⟨rfl, h0⟩ | ⟨g, cap, cur, rfl, hb, hg, r⟩
 · exact ⟨h.1, .inl ⟨rfl, h0⟩⟩
 · have hlt := (World.ownsRow.lt h g rfl).2
   exact ⟨h.1, .inr ⟨g, cap, cur, rfl, hb, (hr.block g hlt (.inr (by omega))).trans hg, r⟩⟩
theorem RowS.ne {w : World} {B g : Nat} {v : Value} {gs : List SgR} {t : TypeId} {m : Nat} {f : Nat → Value} (h : RowS w B v gs) (hb : Own w g t m f) (ht : t ≠ 122) : some g ≠ v.ownBlock := by
 intro he
 rcases h.2 with ⟨rfl, _⟩ | ⟨g', cap, cur, rfl, _, hg, _⟩
 · simp [Value.ownBlock] at he
 · obtain rfl : g = g' := by simpa [Value.ownBlock] using he
   obtain ⟨cs, hb, _⟩ := hb
   rw [hg] at hb
   injection hb with hb
   injection hb with _ hb
   exact ht hb.symm
structure GrewS (B : Nat) (w w' : World) : Prop where
 nx : ∀ a, Nx a w → a.heap.size ≤ B → Nx a w'
 rg : ∀ lo hi a, Rg lo hi a w → a.heap.size ≤ B → Rg lo hi a w'
 own : ∀ g t m f, t ≠ 122 → Own w g t m f → Own w' g t m f
 box : ∀ g t xs, t ≠ 122 → Box w g t xs → Box w' g t xs
 size : w.heap.size ≤ w'.heap.size
 low : Below B w w'
theorem GrewS.sl {B : Nat} {w w' : World} (h : GrewS B w w') {lo : Nat} {A : Option Addr} {t : TypeId} {m : Nat} {f : Nat → Value} (hs : Sl w lo A t m f) (ht : t ≠ 122) : Sl w' lo A t m f := fun hm => by
 obtain ⟨g, e, hl, ho⟩ := hs hm
 exact ⟨g, e, hl, h.own g t m f ht ho⟩
theorem GrewS.cho {B B' : Nat} {w w' : World} (h : GrewS B w w') {gs : List SgR} (hs : ChO w B' gs) : ChO w' B' gs := fun k hk => h.sl (hs k hk) (by decide)
theorem wpList_addS {w : World} {ops : Array Oper} {rest : List Oper} {o : Oper} {a : Act} {Q : Exit → Act → World → Prop}
 (hgd : o.guard = none) (s x : Operand) (ho : o.op = .call { callee := .builtin .append, args := #[s, x], argTypes := #[47, 47] })
 (B gd : Nat) (v : Value) (gs : List SgR) (g : SgR) (hs : a.eval s = v) (hx : a.eval x = .slice (some ⟨gd, 0, none⟩) 1 1) (hown : RowS w B v gs) (hbx : Box w gd 122 #[ii g.f, ii g.t, ii g.m, .slice g.A g.cs.length g.c])
 (hl : gs.length ≤ 1048576) (hB : B ≤ w.heap.size)
 (hK : ∀ A' k' w', RowS w' B (.slice A' (gs.length + 1) k') (gs ++ [g]) → GrewS B w w' → wpList Tryz.prog ops Q rest (a.put o.dst (.slice A' (gs.length + 1) k')) w') :
 wpList Tryz.prog ops Q (o :: rest) a w := by
 obtain ⟨i0, hi0, hz0, hz1, hz2⟩ := info_parts info_sg
 refine wpList_append_own w hgd s x 47 ho B 122 i0 _ 4 48 Tryz.underlying47 hi0 hz0 hz1 hz2 rfl (by omega) v gs.length _ hs hown ⟨gd, 0, none⟩ 1 1 (gCs g) hx rfl (fun j u hj => ?_) (fun u hu => by unfold gCs at hu; simp only [List.mem_cons, List.not_mem_nil, or_false] at hu; rcases hu with rfl | rfl | rfl | rfl <;> rfl) (by unfold maxLen; omega) (by omega) hB ?_
 · rw [addr_add', Nat.zero_add, hbx.cell j]
   rw [← hj]
   unfold gCs
   rcases j with _ | _ | _ | _ | j <;> simp
 · intro v' w' hw' hg' _
   have hr : RowS w' B v' (gs ++ [g]) := by
    unfold RowS
    rw [gVs_snoc, List.length_append]
    exact hw'
   obtain ⟨A', k', rfl, _⟩ := hr.sl
   rw [List.length_append] at hr ⊢
   have hrow : ∀ k, Value.ownBlock v = some k → B ≤ k := fun k hk => (World.ownsRow.lt hown k hk).1
   have hown' : ∀ g t m f, t ≠ 122 → Own w g t m f → Own w' g t m f := fun g t m f ht ho => ho.of_block (hg'.block g ho.lt (hown.ne ho ht))
   refine hK A' k' w' hr ⟨fun b hb hbB => Below.grown hb hg' hb.size (fun k hk => ntr hbB (hrow k hk)), fun lo hi b hb hbB => ?_, hown', fun g t xs ht hbg => ?_, hg'.size, ⟨hg'.os, hg'.tape, hg'.output, hg'.size, fun k hk => hg'.block k (by omega) (fun e => by have := hrow k e.symm; omega)⟩⟩
   · refine ⟨hg'.os.trans hb.os, hg'.tape.trans hb.tape, hg'.output.trans hb.output, ntr hb.size hg'.size, fun k hk hr => (hg'.block k (Nat.lt_of_lt_of_le hk hb.size) fun e => ?_).trans (hb.block k hk hr)⟩
     have := hrow k e.symm
     omega
   · exact hbg.grown hg' (hown.ne hbg.own ht)
theorem RowS.mk {w : World} {B g cap : Nat} {gs : List SgR} {cur : Array Value} (hB : B ≤ g) (hb : Box w g 122 cur) (h1 : gs.length ≤ cap) (h2 : cap ≤ maxLen) (h3 : cur.size = cap * 4) (h : ∀ i, i < gs.length * 4 → cur[i]? = some (sgAt gs i)) : RowS w B (.slice (some ⟨g, 0, none⟩) gs.length cap) gs := by
 refine ⟨gVs_len gs, .inr ⟨g, cap, cur, rfl, hB, hb, h1, h2, h3, ?_⟩⟩
 refine List.ext_getElem? fun i => ?_
 by_cases hi : i < gs.length * 4
 · rw [List.getElem?_take_of_lt hi, gVs_get gs i hi]
   simpa using h i hi
 · rw [List.getElem?_eq_none (by rw [List.length_take]; omega), List.getElem?_eq_none (by rw [gVs_len]; omega)]
theorem set4_at (cur : Array Value) (a : Nat) (v0 v1 v2 v3 : Value) (h : a + 4 ≤ cur.size) :
 ((((cur.setIfInBounds a v0).setIfInBounds (a + 1) v1).setIfInBounds (a + 2) v2).setIfInBounds (a + 3) v3)[a]? = some v0 ∧ ((((cur.setIfInBounds a v0).setIfInBounds (a + 1) v1).setIfInBounds (a + 2) v2).setIfInBounds (a + 3) v3)[a + 1]? = some v1
 ∧ ((((cur.setIfInBounds a v0).setIfInBounds (a + 1) v1).setIfInBounds (a + 2) v2).setIfInBounds (a + 3) v3)[a + 2]? = some v2 ∧ ((((cur.setIfInBounds a v0).setIfInBounds (a + 1) v1).setIfInBounds (a + 2) v2).setIfInBounds (a + 3) v3)[a + 3]? = some v3 := by
 refine ⟨?_, ?_, ?_, ?_⟩
 · rw [Array.getElem?_setIfInBounds_ne (by omega), Array.getElem?_setIfInBounds_ne (by omega), Array.getElem?_setIfInBounds_ne (by omega), Array.getElem?_setIfInBounds, if_pos rfl, if_pos (by omega)]
 · rw [Array.getElem?_setIfInBounds_ne (by omega), Array.getElem?_setIfInBounds_ne (by omega), Array.getElem?_setIfInBounds, if_pos rfl, if_pos (by rw [Array.size_setIfInBounds]; omega)]
 · rw [Array.getElem?_setIfInBounds_ne (by omega), Array.getElem?_setIfInBounds, if_pos rfl, if_pos (by rw [Array.size_setIfInBounds, Array.size_setIfInBounds]; omega)]
 · rw [Array.getElem?_setIfInBounds, if_pos rfl, if_pos (by rw [Array.size_setIfInBounds, Array.size_setIfInBounds, Array.size_setIfInBounds]; omega)]
def putG (w : World) (g k : Nat) (x : SgR) : World := (((w.setCell ⟨g, k * 4, none⟩ (ii x.f)).setCell ⟨g, k * 4 + 1, none⟩ (ii x.t)).setCell ⟨g, k * 4 + 2, none⟩ (ii x.m)).setCell ⟨g, k * 4 + 3, none⟩ (.slice x.A x.cs.length x.c)
theorem RowS.put {w : World} {B g cap : Nat} {gs : List SgR} {y : SgR} (h : RowS w B (.slice (some ⟨g, 0, none⟩) (gs.length + 1) cap) (gs ++ [y])) (x : SgR) :
 RowS (putG w g gs.length x) B (.slice (some ⟨g, 0, none⟩) (gs.length + 1) cap) (gs ++ [x]) ∧ GrewS B w (putG w g gs.length x) := by
 have hl1 : ∀ z : SgR, (gs ++ [z]).length = gs.length + 1 := fun z => by simp
 rcases h.2 with ⟨he, _⟩ | ⟨g', cap', cur, he, hb, hg, hnc, hmx, hsz, htk⟩
 · cases he
 · injection he with e1 e2 e3
   injection e1 with e1
   injection e1 with e1
   subst e1 e3
   rw [hl1] at hnc htk
   have hcell : ∀ i, i < (gs.length + 1) * 4 → cur[i]? = some (sgAt (gs ++ [y]) i) := fun i hi => by
    have h1 : (cur.toList.take ((gs.length + 1) * 4))[i]? = some (sgAt (gs ++ [y]) i) := by rw [htk]; exact gVs_get _ i (by rw [hl1]; exact hi)
    rw [List.getElem?_take_of_lt hi] at h1
    simpa using h1
   have hbox : Box w g 122 cur := hg
   have hb4 := (((hbox.set (gs.length * 4) (ii x.f)).set (gs.length * 4 + 1) (ii x.t)).set (gs.length * 4 + 2) (ii x.m)).set (gs.length * 4 + 3) (.slice x.A x.cs.length x.c)
   have hg4 : (gs ++ [x]).getD gs.length sgZ = x := getD_app gs x
   have hlen : gs.length * 4 + 4 ≤ cur.size := by rw [hsz]; have := Nat.mul_le_mul_right 4 hnc; omega
   obtain ⟨t0, t1, t2, t3⟩ := set4_at cur (gs.length * 4) (ii x.f) (ii x.t) (ii x.m) (.slice x.A x.cs.length x.c) hlen
   refine ⟨?_, ?_⟩
   · have := RowS.mk (gs := gs ++ [x]) (cap := cap) hb hb4 (by rw [hl1]; exact hnc) hmx (by simp [hsz]) fun i hi => ?_
     · rw [hl1] at this; exact this
     · rw [hl1] at hi
       by_cases h3 : i = gs.length * 4 + 3
       · subst h3; rw [sgAt3, hg4]; exact t3
       · by_cases h2 : i = gs.length * 4 + 2
         · subst h2; rw [sgAt2, hg4]; exact t2
         · by_cases h1 : i = gs.length * 4 + 1
           · subst h1; rw [sgAt1, hg4]; exact t1
           · by_cases h0 : i = gs.length * 4
             · subst h0; rw [sgAt0, hg4]; exact t0
             · rw [sgAt_app gs [x] i (by omega), ← sgAt_app gs [y] i (by omega), ← hcell i (by omega)]
               rw [Array.getElem?_setIfInBounds_ne (by omega), Array.getElem?_setIfInBounds_ne (by omega), Array.getElem?_setIfInBounds_ne (by omega), Array.getElem?_setIfInBounds_ne (by omega)]
   · have hblk : ∀ k, k ≠ g → (putG w g gs.length x).heap[k]? = w.heap[k]? := fun k hk => by
      unfold putG
      rw [Below.heap_setCell _ _ _ _ hk, Below.heap_setCell _ _ _ _ hk, Below.heap_setCell _ _ _ _ hk, Below.heap_setCell _ _ _ _ hk]
     have hsize : w.heap.size ≤ (putG w g gs.length x).heap.size := by unfold putG; simp [World.setCell]
     have hlow : Below B w (putG w g gs.length x) := ⟨rfl, rfl, rfl, hsize, fun k hk => hblk k (by omega)⟩
     refine ⟨fun a ha haB => ⟨ha.os, ha.tape, ha.output, ntr ha.size hsize, fun k hk => (hblk k (by omega)).trans (ha.block k hk)⟩,
      fun lo hi a ha haB => ⟨ha.os, ha.tape, ha.output, ntr ha.size hsize, fun k hk hr => (hblk k (by omega)).trans (ha.block k hk hr)⟩,
      fun g2 t m f ht ho => ho.of_block (hblk g2 fun e => ?_), fun g2 t xs ht hbx => (hblk g2 fun e => ?_).trans hbx, hsize, hlow⟩
     · subst e
       obtain ⟨cs, ho, _⟩ := ho
       rw [hg] at ho
       injection ho with ho
       injection ho with _ ho
       exact ht ho.symm
     · subst e
       unfold Box at hbx
       rw [hg] at hbx
       injection hbx with hbx
       injection hbx with _ hbx
       exact ht hbx.symm
def CI (w : World) (g B : Nat) (A : Option Addr) (x : List Int) : Prop := Ins w g A x ∨ SlI w B A x
section
variable {w w' : World} {g B : Nat} {A : Option Addr} {x : List Int}
theorem CI.nx (h : CI w g B A x) (hb : Nx w w') (hg : g ≤ w.heap.size) : CI w' g B A x := by
 rcases h with h | h
 · exact .inl (h.below hb hg)
 · exact .inr (Sl.nx h hb)
theorem CI.rg (h : CI w g B A x) (hb : Rg g (g + 1) w w') (hg : g ≤ w.heap.size) (hB : g + 1 ≤ B) : CI w' g B A x := by
 rcases h with h | h
 · exact .inl (h.below (hb.below hg) nle)
 · exact .inr (Sl.rgO h hb hB)
theorem CI.grew (h : CI w g B A x) (hb : GrewS B w w') (hB : g ≤ B) : CI w' g B A x := by
 rcases h with h | h
 · exact .inl (h.below hb.low hB)
 · exact .inr (hb.sl h (by decide))
end
def RetSG (w : World) (ss : List BA) (ws : List (Int × BA)) (xs : List Int) (a0 : Addr) (e : Ending) (w' : World) : Prop :=
 Nx w w' ∧ (((∃ k, k < xs.length ∧ ldG ss ws (xs.getD k 0) = none) ∧ e = .returned (.tuple #[nsl, .iface 290 (.pointer (some a0))]))
  ∨ ∃ A c gs, e = .returned (.tuple #[.slice A gs.length c, .nilIface]) ∧ GsTo ss ws xs xs.length gs ∧ gs.length ≤ c ∧ SgO w' w.heap.size A gs ∧ Dj gs)
theorem RowS.sgoc {w : World} {B : Nat} {v : Value} {gs : List SgR} (h : RowS w B v gs) (hc : ChO w B gs) : ∃ A c, v = .slice A gs.length c ∧ gs.length ≤ c ∧ SgO w B A gs := by
 have hsl := h.sl
 rcases h.2 with ⟨rfl, h0⟩ | ⟨g, cap, cur, rfl, hb, hg, hnc, _, hcs, htk⟩
 · exact ⟨none, 0, by rw [h0], by omega, ⟨fun hn => by omega, hc⟩⟩
 · obtain ⟨A, c, e, hs⟩ := hsl
   injection e with e1 e2 e3
   subst e1 e3
   exact ⟨_, _, rfl, hnc, hs, hc⟩
theorem RowS.nil (w : World) (B : Nat) : RowS w B (nsl) [] := ⟨rfl, .inl ⟨rfl, rfl⟩⟩
theorem ChO.nil (w : World) (B : Nat) : ChO w B [] := fun k hk => absurd hk (by simp)
theorem tb_at {xs : List Int} (h : tbB xs = true) {k : Nat} (hk : k < xs.length) : ∃ a : Nat, xs.getD k 0 = (a : Int) ∧ 10 ≤ a ∧ a < 64 := by
 have h1 : xs.getD k 0 ∈ xs := by rw [gdE, List.getElem?_eq_getElem hk]; exact List.getElem_mem hk
 have := tbB_in h h1
 exact ⟨(xs.getD k 0).toNat, by omega, by omega, by omega⟩
theorem segsIn_c (A A2 A3 : Option Addr) (n c n2 c2 c3 B : Nat) (ss : List BA) (ws : List (Int × BA)) (xs : List Int) (w : World) (a0 a1 : Addr) (h : Strs w B A n ss) (h2 : Wrs w B A2 n2 ws) (h3 : Ins w B A3 xs) (hB : B ≤ w.heap.size) (hn : n ≤ 1048576) (hn2 : n2 ≤ 1048576)
 (hD : diskB ss ws = true) (ht : tbB xs = true) (hE : Er w a0 a1) :
 Calls Tryz.prog 139 #[.agg #[.slice A n c, .slice A2 n2 c2], .slice A3 xs.length c3] w (RetSG w ss ws xs a0) := by
 have b0 := Box.new w 35 #[.slice A n c, .slice A2 n2 c2]
 have hx0 := (Nx.refl w).alloc (.cells #[.slice A n c, .slice A2 n2 c2] 35)
 have hn64 : 64 ≤ n := by have := (diskB_len64 hD).1; have := h.1; omega
 have HDs := qh (fun a => readP_size hD a)
 have Hta := qh (fun k (hk : k < xs.length) => tb_at ht hk)
 have hm20 := (tbB_yes ht).1
 have HRet := qh (fun (e : Ending) (w' : World) (h : RetSG w ss ws xs a0 e w') => h)
 have HSn := qh (fun k gs q (h1 : GsTo ss ws xs k gs) (h2 : k < xs.length) (h3 : ldG ss ws (xs.getD k 0) = some q) (A c) => h1.snoc h2 h3 A c)
 obtain ⟨m, Hm⟩ : ∃ m, Hid (xs.length = m) := ⟨_, rfl⟩
 have h3' : ∀ k, k < m → _ := fun k hk w' B' hw hB' => ((h3.below (w' := w') (B' := B') hw hB').at_ (k := k) (by rw [Hm.out]; exact hk))
 rw [Hm.out] at Hta hm20 HSn ⊢
 clear hD ht h3
 go_enter Tryz.func139, Tryz.ntmps139
 go_wp2_with fail
 generalize w.alloc (.cells #[.slice A n c, .slice A2 n2 c2] 35) = W at *
 go_loopw [6, 13] (fun v i wr => ∃ (k : Nat) (gs : List SgR), k ≤ m ∧ i = ii k ∧ (∃ u, u = v ∧ RowS wr w.heap.size u gs) ∧ ChO wr w.heap.size gs ∧ Dj gs ∧ GsTo ss ws xs k gs ∧ Nx w wr ∧ Box wr w.heap.size 35 #[.slice A n c, .slice A2 n2 c2]) (fun _ i _ => m - (intOf i).toNat)
 case atStart => exact ⟨0, [], by omega, rfl, ⟨_, rfl, RowS.nil _ _⟩, ChO.nil _ _, Dj.nil, GsTo.nil _ _ _, hx0, b0⟩
 case round =>
  obtain ⟨k, gs, hk, rfl, ⟨u, rfl, hrow⟩, hcho, hdj, hgs, hnx, hb⟩ := hrel
  clear b0 hx0
  have HDj := qh hdj
  have HGs := qh hgs
  have Hlen := qh hgs.len
  clear hdj hgs
  by_cases hlt : k < m
  case neg =>
   obtain rfl : k = m := by omega
   obtain ⟨A', c', rfl, hc', hS⟩ := hrow.sgoc hcho
   have HF : Hid (RetSG w ss ws xs a0 (.returned (.tuple #[.slice A' gs.length c', .nilIface])) wr) := qh ⟨hnx, .inr ⟨A', c', gs, rfl, by rw [Hm.out]; exact HGs.out, hc', hS, HDj.out⟩⟩
   clear hrow hcho hS hc'
   go_wp2
   go_ret2
   exact HF.out
  obtain ⟨a, ha, ha1, ha2⟩ := Hta.out k hlt
  obtain ⟨bb, off, rfl, hbb, p0⟩ := h3' k hlt _ _ hnx hB
  rw [ha] at p0
  have HG : Hid (ldG ss ws (xs.getD k 0) = rdG (readP ss ws a)) := qh (by rw [ha]; rfl)
  clear ha
  have hc0 := hb.c0
  have hc1 := hb.c1
  go_wp2_with fail
  refine (newest_c A A2 n c n2 c2 B a ss ws _ (h.below hnx hB) (h2.below hnx hB) (ntr hB hnx.size) (by omega) hn hn2).mono ?_
  rintro e w1 ⟨rfl, hk1⟩
  have hrow1 := hrow.nx hk1
  have hcho1 := hcho.nx hk1
  have hnx1 := hnx.trans hk1
  have hb1 := hb.nx hk1
  clear hrow hcho hnx hb hc0 hc1 p0
  go_wp2_with fail
  refine (segOfText_c (readP ss ws a) _ a0 a1 (by have := HDs.out a; omega) (hE.nx hnx1)).mono ?_
  rintro e w2 ⟨hk2, hno, hyes⟩
  have hrow2 := hrow1.nx hk2
  have hcho2 := hcho1.nx hk2
  have hnx2 := hnx1.trans hk2
  have hb2 := hb1.nx hk2
  have HC1 := qh hcho1
  clear hrow1 hcho1 hb1
  cases hr : rdG (readP ss ws a) with
  | none =>
    obtain rfl := hno hr
    have HF : Hid (ldG ss ws (xs.getD k 0) = none) := qh (by rw [HG.out, hr])
    clear hno hyes hr
    go_wp2
    go_ret2
    exact ⟨by first | exact hnx2 | exact hnx2.alloc _, .inl ⟨⟨k, by rw [Hm.out]; exact hlt, HF.out⟩, rfl⟩⟩
  | some q =>
    obtain ⟨Ag, cg, rfl, hSl⟩ := hyes q hr
    have HF : Hid (ldG ss ws (xs.getD k 0) = some q) := qh (by rw [HG.out, hr])
    clear hno hyes hr
    obtain ⟨q0, q1, q2, cs⟩ := q
    simp only at hSl
    have hd1 := HDj.out.snoc (g := ⟨q0, q1, q2, Ag, cg, cs⟩) HC1.out hSl
    have HD1 := qh hd1
    have HG1 := qh (HSn.out k gs _ HGs.out hlt HF.out Ag cg)
    have hSl' := hSl.low (lo' := w.heap.size) hnx1.size
    clear hd1 hSl
    have hz3 := ((Nx.refl w2).alloc (.cells #[ii q0, ii q1, ii q2, .slice Ag cs.length cg] 122)).alloc (.cells #[ii q0, ii q1, ii q2, .slice Ag cs.length cg] 122)
    have hrow3 := hrow2.nx hz3
    have hcho3 := hcho2.nx hz3
    have hnx3 := hnx2.trans hz3
    have hb3 := hb2.nx hz3
    have hSl3 := hSl'.nx hz3
    have bN := Box.new (w2.alloc (.cells #[ii q0, ii q1, ii q2, .slice Ag cs.length cg] 122)) 122 #[ii q0, ii q1, ii q2, .slice Ag cs.length cg]
    have HR3 := qh hrow3
    have HB3 := qh bN
    have hl9 : gs.length ≤ 1048576 := by have := Hlen.out; omega
    have hsz3 : w.heap.size ≤ ((w2.alloc (.cells #[ii q0, ii q1, ii q2, .slice Ag cs.length cg] 122)).alloc (.cells #[ii q0, ii q1, ii q2, .slice Ag cs.length cg] 122)).heap.size := hnx3.size
    clear hrow2 hcho2 hb2 hSl' hrow3 bN
    simp only [World.size_alloc] at HB3
    go_wp2_with (at_builtin; refine wpList_addS rfl _ _ rfl w.heap.size (w2.heap.size + 1) _ gs ⟨q0, q1, q2, Ag, cg, cs⟩ rfl rfl HR3.out HB3.out hl9 hsz3 ?_)
    intro A9 k9 w9 hrow9 hgr
    have hnx9 := hgr.nx w hnx3 nle
    have hcho9 := (hgr.cho hcho3).snoc (g := ⟨q0, q1, q2, Ag, cg, cs⟩) (hgr.sl hSl3 (by decide))
    have hb9 := hgr.box _ _ _ (by decide) hb3
    clear hcho3 hSl3 hb3 hgr HR3 HB3
    go_wp2
    go_roundw
    case rel => exact ⟨k + 1, gs ++ [⟨q0, q1, q2, Ag, cg, cs⟩], by omega, by go_num, ⟨_, rfl, hrow9⟩, hcho9, HD1.out, HG1.out, hnx9, hb9⟩
    case measure => simp [intOf]; omega
def RetIG (w : World) (ss : List BA) (ws : List (Int × BA)) (a0 : Addr) (e : Ending) (w' : World) : Prop :=
 Nx w w' ∧ (((∃ j, j < 8 ∧ ldI ss ws j = none) ∧ e = .returned (.tuple #[nsl, .iface 290 (.pointer (some a0))]))
  ∨ ∃ A c im, e = .returned (.tuple #[.slice A im.length c, .nilIface]) ∧ ImTo ss ws 8 im ∧ SlI w' w.heap.size A im)
theorem oneN_no {ns : List Nat} (h : ns.length ≠ 1) : oneN (some ns) = none := by
 unfold oneN
 split
 · rename_i e; injection e with e; subst e; simp at h
 · rfl
theorem image_c (A A2 : Option Addr) (n c n2 c2 B : Nat) (ss : List BA) (ws : List (Int × BA)) (w : World) (a0 a1 : Addr) (h : Strs w B A n ss) (h2 : Wrs w B A2 n2 ws) (hB : B ≤ w.heap.size) (hn : n ≤ 1048576) (hn2 : n2 ≤ 1048576)
 (hD : diskB ss ws = true) (hE : Er w a0 a1) :
 Calls Tryz.prog 140 #[.agg #[.slice A n c, .slice A2 n2 c2]] w (RetIG w ss ws a0) := by
 have b0 := Box.new w 35 #[.slice A n c, .slice A2 n2 c2]
 have hx0 := (Nx.refl w).alloc (.cells #[.slice A n c, .slice A2 n2 c2] 35)
 have hn64 : 64 ≤ n := by have := (diskB_len64 hD).1; have := h.1; omega
 have HDs := qh (fun a => readP_size hD a)
 clear hD
 go_enter Tryz.func140, Tryz.ntmps140
 go_wp2_with fail
 generalize w.alloc (.cells #[.slice A n c, .slice A2 n2 c2] 35) = W at *
 go_loopw [4, 8] (fun v i wr => ∃ (k : Nat) (im : List Int), k ≤ 8 ∧ i = ii k ∧ (∃ u, u = v ∧ RowI wr w.heap.size u im) ∧ ImTo ss ws k im ∧ Nx w wr ∧ Box wr w.heap.size 35 #[.slice A n c, .slice A2 n2 c2]) (fun _ i _ => 8 - (intOf i).toNat)
 case atStart => exact ⟨0, [], by omega, rfl, ⟨_, rfl, RowI.nil _ _⟩, ImTo.nil _ _, hx0, b0⟩
 case round =>
  obtain ⟨k, im, hk, rfl, ⟨u, rfl, hrow⟩, him, hnx, hb⟩ := hrel
  clear b0 hx0
  have HIm := qh him
  have Hlen := qh him.len
  clear him
  by_cases hlt : k < 8
  case neg =>
   obtain rfl : k = 8 := by omega
   obtain ⟨A', c', rfl, hc', hS⟩ := hrow.slc
   have HF : Hid (RetIG w ss ws a0 (.returned (.tuple #[.slice A' im.length c', .nilIface])) wr) := qh ⟨hnx, .inr ⟨A', c', im, rfl, HIm.out, hS⟩⟩
   clear hrow hS hc'
   go_wp2
   go_ret2
   exact HF.out
  have HG : Hid (ldI ss ws k = oneN (rdN (readP ss ws (2 + k)))) := qh rfl
  have hc0 := hb.c0
  have hc1 := hb.c1
  go_wp2_with fail
  rw [show ((2 : Int) + (k : Int)) = ((2 + k : Nat) : Int) by omega]
  refine (newest_c A A2 n c n2 c2 B (2 + k) ss ws _ (h.below hnx hB) (h2.below hnx hB) (ntr hB hnx.size) (by omega) hn hn2).mono ?_
  rintro e w1 ⟨rfl, hk1⟩
  have hrow1 := hrow.nx hk1
  have hnx1 := hnx.trans hk1
  have hb1 := hb.nx hk1
  clear hrow hnx hb hc0 hc1
  go_wp2_with fail
  refine (sealedNumbers_c (readP ss ws (2 + k)) _ a0 a1 (by have := HDs.out (2 + k); omega) (hE.nx hnx1)).mono ?_
  rintro e w2 ⟨hk2, hno, hyes⟩
  have hrow2 := hrow1.nx hk2
  have hnx2 := hnx1.trans hk2
  have hb2 := hb1.nx hk2
  clear hrow1 hb1
  cases hr : rdN (readP ss ws (2 + k)) with
  | none =>
    obtain rfl := hno hr
    have HF : Hid (ldI ss ws k = none) := qh (by rw [HG.out, hr]; rfl)
    clear hno hyes hr
    go_wp2
    go_ret2
    exact ⟨hnx2, .inl ⟨⟨k, hlt, HF.out⟩, rfl⟩⟩
  | some ns =>
    obtain ⟨Ag, cg, rfl, hR, hcg⟩ := hyes ns hr
    by_cases h1 : ns.length = 1
    case neg =>
     have HF : Hid (ldI ss ws k = none) := qh (by rw [HG.out, hr]; exact oneN_no h1)
     have hne : ((ns.length : Int) != 1) = true := by rw [bne_iff_ne]; omega
     obtain ⟨e0, _⟩ := hE.nx hnx2
     clear hno hyes hr hR
     go_wp2
     go_quiet (fail)
     go_wp2
     go_ret2
     exact ⟨hnx2.drewN _, .inl ⟨⟨k, hlt, HF.out⟩, rfl⟩⟩
    obtain ⟨x, rfl⟩ : ∃ x, ns = [x] := by
     match ns, h1 with
     | [x], _ => exact ⟨x, rfl⟩
    have HF : Hid (ldI ss ws k = some (x : Int)) := qh (by rw [HG.out, hr]; rfl)
    obtain ⟨bb, off, rfl, hbb, hcell⟩ := hR (by simp)
    have p0 : w2.cell? ⟨bb, off, none⟩ = some (ii (x : Int)) := hcell 0 (by simp)
    have HI1 := qh (HIm.out.snoc HF.out)
    clear hno hyes hr hR hcell h1
    have hz3 := (Nx.refl w2).alloc (.cells #[ii (x : Int)] 3)
    have HR3 := qh (hrow2.nx hz3)
    have HB3 := qh (Box.new w2 3 #[ii (x : Int)])
    have hnx3 := hnx2.trans hz3
    have hb3 := hb2.nx hz3
    have hl9 : im.length ≤ 1048576 := by have := Hlen.out; omega
    have hsz3 := hnx3.size
    clear hrow2 hb2
    simp only [List.length_cons, List.length_nil] at hcg ⊢
    go_wp2_with (at_builtin; refine wpList_addI rfl _ _ rfl w.heap.size w2.heap.size _ im (x : Int) rfl rfl HR3.out HB3.out hl9 hsz3 ?_)
    intro A9 k9 w9 hrow9 hgr
    have hnx9 := hgr.nx w hnx3 nle
    have hb9 := hgr.box _ _ _ (by decide) hb3
    clear hb3 hgr HR3 HB3
    go_wp2
    go_roundw
    case rel => exact ⟨k + 1, im ++ [(x : Int)], by omega, by go_num, ⟨_, rfl, hrow9⟩, HI1.out, hnx9, hb9⟩
    case measure => simp [intOf]; omega
theorem Sr.rowfar {w : World} {lo hi m g : Nat} {A : Option Addr} {t : TypeId} {f : Nat → Value} (h : Sr w lo hi A t m f) (hg : g < lo) (ds : Array Value) : Sr (w.setRow g ds) lo hi A t m f := fun hm => by
 obtain ⟨k, e, hl, hh, ho⟩ := h hm; exact ⟨k, e, hl, hh, ho.rowfar (by omega) ds⟩
theorem VlP.rowfar {w : World} {lo mid hi g : Nat} {V : Vl} (h : VlP w lo mid hi V) (hg : g < lo) (ds : Array Value) : VlP (w.setRow g ds) lo mid hi V :=
 have h' : g < mid := Nat.lt_of_lt_of_le hg h.le
 ⟨h.tab.rowfar hg ds, h.mks.rowfar hg ds, h.row.rowfar h' ds, fun k hk => (h.chs k hk).rowfar h' ds, h.img.rowfar h' ds, h.dj, h.cap, h.cap3, h.le, h.le2⟩
theorem newU_super {ss : List BA} {ws : List (Int × BA)} {g b p q s : Int} {xs : List Int} {ms : List Mrk} (h : newU (rdU (readP ss ws 0)) (rdU (readP ss ws 1)) = some ((g, b, p, q, xs, ms), s)) : superB g b p q xs ms = true := by
 rcases newU_from h with e | e
 · exact rdU_super e
 · exact rdU_super e
theorem ld_small {ss : List BA} {ws : List (Int × BA)} {g b p q : Int} {xs : List Int} {ms : List Mrk} {gs : List SgR} {im : List Int} (hD : diskB ss ws = true) (hs : superB g b p q xs ms = true) (hg : GsTo ss ws xs xs.length gs) (hi : ImTo ss ws 8 im) (Ax : Option Addr) (cx : Nat) (Am : Option Addr) (cm : Nat) (Ag : Option Addr) (cg : Nat) (Ai : Option Addr) (ci : Nat) :
 VlN ⟨g, b, p, q, Ax, cx, xs, Am, cm, ms, Ag, cg, gs, Ai, ci, im⟩ 1048576 ∧ AllM ms := by
 obtain ⟨_, _, _, _, h5, h6⟩ := superB_yes hs
 have h1 := (tbB_yes h5).1
 have h2 := (msB_yes h6).1
 have h3 := hg.len
 have h4 := hi.len
 refine ⟨⟨show xs.length ≤ _ by omega, show ms.length ≤ _ by omega, show gs.length ≤ _ by omega, fun k hk => ?_, show im.length ≤ _ by omega⟩, msB_all h6⟩
 have hk' : k < gs.length := hk
 have hv := v_at (gs := gs) (hs := xs.map (ldS ss ws)) (by rw [hg.v, List.take_length, List.map_map]; rfl) k
 have hkx : k < xs.length := by omega
 have e : (xs.map (ldS ss ws)).getD k sgZ = ldS ss ws xs[k] := by
  rw [gdE, List.getElem?_map, List.getElem?_eq_getElem hkx]; rfl
 rw [e] at hv
 have hv2 : (gs.getD k sgZ).cs = (ldS ss ws xs[k]).cs := congrArg (fun q : Sg4 => q.2.2.2) hv
 show (gs.getD k sgZ).cs.length ≤ 1048576
 rw [hv2]
 unfold ldS
 cases hq : ldG ss ws xs[k] with
 | none => exact Nat.zero_le _
 | some q =>
   have h7 := rdG_short hq
   have h8 := readP_size hD xs[k].toNat
   show q.2.2.2.length ≤ 1048576
   omega
theorem diskVault_c (A A2 : Option Addr) (n c n2 c2 B : Nat) (ss : List BA) (ws : List (Int × BA)) (w : World) (a0 a1 : Addr) (h : Strs w B A n ss) (h2 : Wrs w B A2 n2 ws) (hB : B ≤ w.heap.size) (hn : n ≤ 1048576) (hn2 : n2 ≤ 1048576) (hD : diskB ss ws = true) (hE : Er w a0 a1) (hM : Mx w) (hEt : Et w) :
 Calls Tryz.prog 65 #[.agg #[.slice A n c, .slice A2 n2 c2]] w (RetLd w (ldV ss ws)) := by
 have r0 : Box ((w.alloc (.cells #[.slice A n c, .slice A2 n2 c2] 35)).alloc (.cells #[ii 0, ii 0, ii 0, ii 0, nsl, nsl, nsl, nsl] 49)) (w.heap.size + 1) 49 #[ii 0, ii 0, ii 0, ii 0, nsl, nsl, nsl, nsl] := by have := Box.new (w.alloc (.cells #[.slice A n c, .slice A2 n2 c2] 35)) 49 #[ii 0, ii 0, ii 0, ii 0, nsl, nsl, nsl, nsl]; rwa [World.size_alloc] at this
 have e0 : Box ((w.alloc (.cells #[.slice A n c, .slice A2 n2 c2] 35)).alloc (.cells #[ii 0, ii 0, ii 0, ii 0, nsl, nsl, nsl, nsl] 49)) w.heap.size 35 #[.slice A n c, .slice A2 n2 c2] := (Box.new w _ _).alloc _
 have hx0 := ((Nx.refl w).alloc (.cells #[.slice A n c, .slice A2 n2 c2] 35)).alloc (.cells #[ii 0, ii 0, ii 0, ii 0, nsl, nsl, nsl, nsl] 49)
 go_enter Tryz.func65, Tryz.ntmps65
 go_wp2_with fail
 generalize (w.alloc (.cells #[.slice A n c, .slice A2 n2 c2] 35)).alloc (.cells #[ii 0, ii 0, ii 0, ii 0, nsl, nsl, nsl, nsl] 49) = W at *
 obtain ⟨gR, Hg⟩ : ∃ g, Hid (w.heap.size + 1 = g) := ⟨_, rfl⟩
 have hgR : w.heap.size ≤ gR := by have := Hg.out; omega
 have hgR1 : w.heap.size < gR := by have := Hg.out; omega
 rw [Hg.out] at r0 ⊢
 have hltR0 := r0.lt
 have h1n : 1 < n := by have := (diskB_len64 hD).1; have := h.1; omega
 have HD := qh hD
 clear hD
 have z0 := e0.c0
 have z1 := e0.c1
 go_wp2_with fail
 refine (newestSuper_c A A2 n c n2 c2 B ss ws _ a0 a1 (h.below hx0 hB) (h2.below hx0 hB) (ntr hB hx0.size) h1n hn hn2 (by have := readP_size HD.out 0; omega) (by have := readP_size HD.out 1; omega) (hE.nx hx0) (hM.nx hx0) (hEt.nx hx0)).mono ?_
 rintro e w2 ⟨hnx2, h1, h2'⟩
 have r2 := r0.nx hnx2
 have e2 := e0.nx hnx2
 have hx2 := hx0.trans hnx2
 have hltR : gR < W.heap.size := hltR0
 have hlt2 := r2.lt
 clear r0 e0 z0 z1 hltR0
 cases hu : newU (rdU (readP ss ws 0)) (rdU (readP ss ws 1)) with
 | none =>
   have HA := qh (ldV_none hu)
   have he := h1 hu
   unfold slE at he
   subst he
   clear h1 h2' hu
   go_wp2_with fail
   have r3 := r2.alloc (.cells #[ii 0, ii 0, ii 0, ii 0, nsl, nsl] 26)
   have hx3 := hx2.alloc (.cells #[ii 0, ii 0, ii 0, ii 0, nsl, nsl] 26)
   change Calls _ _ _ (w2.alloc (.cells #[ii 0, ii 0, ii 0, ii 0, nsl, nsl] 26)) _
   generalize w2.alloc (.cells #[ii 0, ii 0, ii 0, ii 0, nsl, nsl] 26) = w3 at *
   refine (slotCode_c 1 19 _ (hEt.nx hx3)).mono ?_
   rintro e w4 ⟨rfl, hnx4⟩
   have r4 := r3.nx hnx4
   have hx4 := hx3.trans hnx4
   have rq := r4.row #[ii 0, ii 0, ii 0, ii 0, nsl, nsl, nsl, nsl]
   have hnf := hx4.setRow hgR #[ii 0, ii 0, ii 0, ii 0, nsl, nsl, nsl, nsl]
   go_wp2_with (refine wpList_store_row rfl _ _ _ rfl gR #[ii 0, ii 0, ii 0, ii 0, nsl, nsl, nsl, nsl] rfl rfl 49 #[ii 0, ii 0, ii 0, ii 0, nsl, nsl, nsl, nsl] r4 (by kernel_rfl) rfl (by simp [Value.oneCell']) ?_)
   generalize w4.setRow gR #[ii 0, ii 0, ii 0, ii 0, nsl, nsl, nsl, nsl] = Wf at *
   obtain ⟨g0, g1, g2, g3, g4, g5, g6, g7⟩ := rq.e8
   exact bodyPost_ret (v := .tuple #[.agg #[ii 0, ii 0, ii 0, ii 0, nsl, nsl, nsl, nsl], ii 19]) (by simp [results, Tryz.results65, go_sem, g0, g1, g2, g3, g4, g5, g6, g7]) rfl ⟨zVl, w.heap.size, by rw [HA.out]; rfl, by rw [HA.out]; exact VlS.refl _, VlP.zero _ hnf.size, hnf⟩
 | some us =>
   obtain ⟨⟨g, b, p, q, xs, ms⟩, sl⟩ := us
   obtain ⟨Ax, cx, Am, cm, he, hcc, hS1, hM1⟩ := h2' _ _ hu
   replace he : e = .returned (.tuple #[.agg #[ii g, ii b, ii p, ii q, .slice Ax xs.length cx, .slice Am ms.length cm], ii sl, .nilIface]) := he
   replace hS1 : SlI w2 W.heap.size Ax xs := hS1
   replace hM1 : SlM w2 W.heap.size Am ms := hM1
   replace hcc : xs.length ≤ cx := hcc
   have HCC := qh hcc
   have HU := qh hu
   have hsup := newU_super hu
   have HSup := qh hsup
   have htb := (superB_yes hsup).2.2.2.2.1
   subst he
   clear h1 h2' hu hcc hsup
   have hz3 := (Nx.refl w2).alloc (.cells #[ii g, ii b, ii p, ii q, .slice Ax xs.length cx, .slice Am ms.length cm] 26)
   have s3 := Box.new w2 26 #[ii g, ii b, ii p, ii q, .slice Ax xs.length cx, .slice Am ms.length cm]
   have r3 := r2.nx hz3
   have e3 := e2.nx hz3
   have hx3 := hx2.trans hz3
   have hS3 := (hS1.sr.nx hz3).up hz3.size
   have hM3 := (hM1.sr.nx hz3).up hz3.size
   have hT3 := hS1.row.below hz3 nle
   have hzz : w2.heap.size < (w2.alloc (.cells #[ii g, ii b, ii p, ii q, .slice Ax xs.length cx, .slice Am ms.length cm] 26)).heap.size := by simp
   have hlW : W.heap.size ≤ (w2.alloc (.cells #[ii g, ii b, ii p, ii q, .slice Ax xs.length cx, .slice Am ms.length cm] 26)).heap.size := ntr hnx2.size hz3.size
   obtain ⟨y0, y1, y2, y3, y4, y5⟩ := s3.d6
   have z0 := e3.c0
   have z1 := e3.c1
   clear r2 e2 hx2 hS1 hM1
   go_wp2_with fail
   generalize w2.alloc (.cells #[ii g, ii b, ii p, ii q, .slice Ax xs.length cx, .slice Am ms.length cm] 26) = w3 at *
   obtain ⟨gS, HgS⟩ : ∃ g, Hid (w2.heap.size = g) := ⟨_, rfl⟩
   rw [HgS.out] at s3 hzz hT3 y0 y1 y2 y3 y4 y5 ⊢
   refine (segsIn_c A A2 Ax n c n2 c2 cx gS ss ws xs _ a0 a1 (h.below hx3 hB |>.more (Nat.le_of_lt (Nat.lt_of_le_of_lt hB (by have := hnx2.size; have := hx0.size; have := HgS.out; omega)))) (h2.below hx3 hB |>.more (by have := hnx2.size; have := hx0.size; have := HgS.out; omega)) hT3 (Nat.le_of_lt hzz) hn hn2 HD.out htb (hE.nx hx3)).mono ?_
   rintro e w4 ⟨hk4, hret⟩
   have r4 := r3.nx hk4
   have e4 := e3.nx hk4
   have s4 := s3.nx hk4
   have hx4 := hx3.trans hk4
   have hS4 := hS3.nx hk4
   have hM4 := hM3.nx hk4
   clear r3 e3 s3 hS3 hM3 z0 z1 y0 y1 y2 y3 y4 y5
   rcases hret with ⟨⟨k, hk, hno⟩, rfl⟩ | ⟨Ag, cg, gs, rfl, hgs, hcg, hSg, hdj⟩
   · have HA := qh (ldV_seg HU.out hk hno)
     clear hno hk
     have rq := r4.row #[ii 0, ii 0, ii 0, ii 0, nsl, nsl, nsl, nsl]
     have hnf := hx4.setRow hgR #[ii 0, ii 0, ii 0, ii 0, nsl, nsl, nsl, nsl]
     go_wp2_with (refine wpList_store_row rfl _ _ _ rfl gR #[ii 0, ii 0, ii 0, ii 0, nsl, nsl, nsl, nsl] rfl rfl 49 #[ii 0, ii 0, ii 0, ii 0, nsl, nsl, nsl, nsl] r4 (by kernel_rfl) rfl (by simp [Value.oneCell']) ?_)
     generalize w4.setRow gR #[ii 0, ii 0, ii 0, ii 0, nsl, nsl, nsl, nsl] = Wf at *
     obtain ⟨g0, g1, g2, g3, g4, g5, g6, g7⟩ := rq.e8
     exact bodyPost_ret (v := .tuple #[.agg #[ii 0, ii 0, ii 0, ii 0, nsl, nsl, nsl, nsl], ii 10]) (by simp [results, Tryz.results65, go_sem, g0, g1, g2, g3, g4, g5, g6, g7]) rfl ⟨zVl, w.heap.size, by rw [HA.out]; rfl, by rw [HA.out]; exact VlS.refl _, VlP.zero _ hnf.size, hnf⟩
   have HGs := qh hgs
   have HDj := qh hdj
   have HCG := qh hcg
   clear hgs hdj hcg
   have z0 := e4.c0
   have z1 := e4.c1
   go_wp2_with fail
   refine (image_c A A2 n c n2 c2 B ss ws _ a0 a1 (h.below hx4 hB) (h2.below hx4 hB) (ntr hB hx4.size) hn hn2 HD.out (hE.nx hx4)).mono ?_
   rintro e w5 ⟨hk5, hret⟩
   have r5 := r4.nx hk5
   have s5 := s4.nx hk5
   have hx5 := hx4.trans hk5
   have hS5 := hS4.nx hk5
   have hM5 := hM4.nx hk5
   have hSg5 := hSg.nx hk5
   have hl4 : w3.heap.size ≤ w4.heap.size := hk4.size
   clear r4 e4 s4 hS4 hM4 z0 z1 hSg
   rcases hret with ⟨⟨k, hk, hno⟩, rfl⟩ | ⟨Ai, ci, im, rfl, him, hSi⟩
   · have HA := qh (ldV_img HU.out hk hno)
     clear hno hk
     have rq := r5.row #[ii 0, ii 0, ii 0, ii 0, nsl, nsl, nsl, nsl]
     have hnf := hx5.setRow hgR #[ii 0, ii 0, ii 0, ii 0, nsl, nsl, nsl, nsl]
     go_wp2_with (refine wpList_store_row rfl _ _ _ rfl gR #[ii 0, ii 0, ii 0, ii 0, nsl, nsl, nsl, nsl] rfl rfl 49 #[ii 0, ii 0, ii 0, ii 0, nsl, nsl, nsl, nsl] r5 (by kernel_rfl) rfl (by simp [Value.oneCell']) ?_)
     generalize w5.setRow gR #[ii 0, ii 0, ii 0, ii 0, nsl, nsl, nsl, nsl] = Wf at *
     obtain ⟨g0, g1, g2, g3, g4, g5, g6, g7⟩ := rq.e8
     exact bodyPost_ret (v := .tuple #[.agg #[ii 0, ii 0, ii 0, ii 0, nsl, nsl, nsl, nsl], ii 10]) (by simp [results, Tryz.results65, go_sem, g0, g1, g2, g3, g4, g5, g6, g7]) rfl ⟨zVl, w.heap.size, by rw [HA.out]; rfl, by rw [HA.out]; exact VlS.refl _, VlP.zero _ hnf.size, hnf⟩
   have HIm := qh him
   clear him
   have hz6 := (Nx.refl w5).alloc (.cells #[ii g, ii b, ii p, ii q, .slice Ax xs.length cx, .slice Am ms.length cm, .slice Ag gs.length cg, .slice Ai im.length ci] 49)
   have v6 := Box.new w5 49 #[ii g, ii b, ii p, ii q, .slice Ax xs.length cx, .slice Am ms.length cm, .slice Ag gs.length cg, .slice Ai im.length ci]
   have r6 := r5.nx hz6
   have hx6 := hx5.trans hz6
   have hP6 : VlP (w5.alloc (.cells #[ii g, ii b, ii p, ii q, .slice Ax xs.length cx, .slice Am ms.length cm, .slice Ag gs.length cg, .slice Ai im.length ci] 49)) W.heap.size w3.heap.size (w5.alloc (.cells #[ii g, ii b, ii p, ii q, .slice Ax xs.length cx, .slice Am ms.length cm, .slice Ag gs.length cg, .slice Ai im.length ci] 49)).heap.size ⟨g, b, p, q, Ax, cx, xs, Am, cm, ms, Ag, cg, gs, Ai, ci, im⟩ :=
    ⟨hS5.nx hz6, hM5.nx hz6, (hSg5.row.sr.nx hz6).up hz6.size, fun k hk => ((hSg5.chs k hk).sr.nx hz6).up hz6.size, ((hSi.low hl4).sr.nx hz6).up hz6.size, HDj.out, HCC.out, HCG.out, hlW, by have := hk4.size; have := hk5.size; have := hz6.size; omega⟩
   obtain ⟨y0, y1, y2, y3, y4, y5⟩ := s5.d6
   obtain ⟨x0, x1, x2, x3, x4, x5, x6, x7⟩ := v6.e8
   clear r5 hx5 hS5 hM5 hSg5 hSi
   go_wp2_with fail
   generalize w5.alloc (.cells #[ii g, ii b, ii p, ii q, .slice Ax xs.length cx, .slice Am ms.length cm, .slice Ag gs.length cg, .slice Ai im.length ci] 49) = w6 at *
   obtain ⟨gV, HgV⟩ : ∃ g, Hid (w5.heap.size = g) := ⟨_, rfl⟩
   rw [HgV.out] at v6 x0 x1 x2 x3 x4 x5 x6 x7 ⊢
   clear y0 y1 y2 y3 y4 y5 x0 x1 x2 x3 x4 x5 x6 x7 s5
   obtain ⟨hNs, hAm⟩ := ld_small HD.out HSup.out HGs.out HIm.out Ax cx Am cm Ag cg Ai ci
   have HW := qh (ldW_s (g := g) (b := b) (p := p) (t := q) (ms := ms) HGs.out HIm.out Ax cx Am cm Ag cg Ai ci)
   have HOk := qh (ldOk_of (u := (g, b, p, q, xs, ms)) HGs.out HIm.out)
   refine (vaultRight_c ⟨g, b, p, q, Ax, cx, xs, Am, cm, ms, Ag, cg, gs, Ai, ci, im⟩ w6.heap.size w6 (hP6.own.vlt) nle hNs HCC.out HCG.out hAm).mono ?_
   rintro e w7 ⟨rfl, hk7⟩
   rw [← HW.out.ok]
   have r7 := r6.nx hk7
   have hx7 := hx6.trans hk7
   have hP7 := (hP6.nx hk7).up hk7.size
   have v7 := v6.nx hk7
   clear r6 hx6 hP6 v6 hNs hAm
   obtain ⟨x0, x1, x2, x3, x4, x5, x6, x7⟩ := v7.e8
   cases hv : (ldW ss ws (g, b, p, q, xs, ms)).ok with
   | false =>
     have HA := qh (ldV_wrong HU.out hv)
     clear hv x0 x1 x2 x3 x4 x5 x6 x7
     have rq := r7.row #[ii 0, ii 0, ii 0, ii 0, nsl, nsl, nsl, nsl]
     have hnf := hx7.setRow hgR #[ii 0, ii 0, ii 0, ii 0, nsl, nsl, nsl, nsl]
     go_wp2_with (refine wpList_store_row rfl _ _ _ rfl gR #[ii 0, ii 0, ii 0, ii 0, nsl, nsl, nsl, nsl] rfl rfl 49 #[ii 0, ii 0, ii 0, ii 0, nsl, nsl, nsl, nsl] r7 (by kernel_rfl) rfl (by simp [Value.oneCell']) ?_)
     generalize w7.setRow gR #[ii 0, ii 0, ii 0, ii 0, nsl, nsl, nsl, nsl] = Wf at *
     obtain ⟨g0, g1, g2, g3, g4, g5, g6, g7⟩ := rq.e8
     exact bodyPost_ret (v := .tuple #[.agg #[ii 0, ii 0, ii 0, ii 0, nsl, nsl, nsl, nsl], ii 10]) (by simp [results, Tryz.results65, go_sem, g0, g1, g2, g3, g4, g5, g6, g7]) rfl ⟨zVl, w.heap.size, by rw [HA.out]; rfl, by rw [HA.out]; exact VlS.refl _, VlP.zero _ hnf.size, hnf⟩
   | true =>
     have HA := qh (ldV_yes HU.out HOk.out hv)
     clear hv
     have rq := r7.row #[ii g, ii b, ii p, ii q, .slice Ax xs.length cx, .slice Am ms.length cm, .slice Ag gs.length cg, .slice Ai im.length ci]
     have hnf := hx7.setRow hgR #[ii g, ii b, ii p, ii q, .slice Ax xs.length cx, .slice Am ms.length cm, .slice Ag gs.length cg, .slice Ai im.length ci]
     have hvf := hP7.rowfar hltR #[ii g, ii b, ii p, ii q, .slice Ax xs.length cx, .slice Am ms.length cm, .slice Ag gs.length cg, .slice Ai im.length ci]
     have hzf := size_setRow w7 gR #[ii g, ii b, ii p, ii q, .slice Ax xs.length cx, .slice Am ms.length cm, .slice Ag gs.length cg, .slice Ai im.length ci]
     go_wp2_with (refine wpList_store_row rfl _ _ _ rfl gR #[ii g, ii b, ii p, ii q, .slice Ax xs.length cx, .slice Am ms.length cm, .slice Ag gs.length cg, .slice Ai im.length ci] rfl rfl 49 #[ii 0, ii 0, ii 0, ii 0, nsl, nsl, nsl, nsl] r7 (by kernel_rfl) rfl (by simp [Value.oneCell']) ?_)
     generalize w7.setRow gR #[ii g, ii b, ii p, ii q, .slice Ax xs.length cx, .slice Am ms.length cm, .slice Ag gs.length cg, .slice Ai im.length ci] = Wf at *
     obtain ⟨g0, g1, g2, g3, g4, g5, g6, g7⟩ := rq.e8
     exact bodyPost_ret (v := .tuple #[.agg #[ii g, ii b, ii p, ii q, .slice Ax xs.length cx, .slice Am ms.length cm, .slice Ag gs.length cg, .slice Ai im.length ci], ii 0]) (by simp [results, Tryz.results65, go_sem, g0, g1, g2, g3, g4, g5, g6, g7]) rfl ⟨⟨g, b, p, q, Ax, cx, xs, Am, cm, ms, Ag, cg, gs, Ai, ci, im⟩, w3.heap.size, by rw [HA.out]; rfl, by rw [HA.out]; exact HW.out, (hvf.low hx0.size).up (by omega), hnf⟩
end Go.Proofs.YtieoiailjjnnoaaGreatDoor
