/-
  Texts of the proof, in their order.
  Conditions: those of each.
-/
import Derived.Test.YtieoiailjjnnoaaGreatDoorMn10
namespace Go.Proofs.YtieoiailjjnnoaaGreatDoor
set_option linter.unusedVariables false
open _root_.Go.Proofs.Tryz
set_option maxRecDepth 100000
set_option maxHeartbeats 16000000
section
open Go.RowKit
theorem fwK_on (c : List Int) (gs : List SgR) (a : Nat) : ∀ j, fwK (app pN c (gs.getD a sgZ).cs) gs (a + 1) j = fwK c gs a (j + 1)
 | 0 => rfl
 | j + 1 => by
   show app pN (fwK _ gs (a + 1) j) (gs.getD (a + 1 + j) sgZ).cs = app pN (fwK c gs a (j + 1)) (gs.getD (a + (j + 1)) sgZ).cs
   rw [fwK_on c gs a j, show a + 1 + j = a + (j + 1) by omega]
theorem bkK_on (c : List Int) (gs : List SgR) (a : Nat) : ∀ j, bkK (app pO c (gs.getD a sgZ).cs) gs a j = bkK c gs (a + 1) (j + 1)
 | 0 => rfl
 | j + 1 => by
   show app pO (bkK _ gs a j) (gs.getD (a - 1 - j) sgZ).cs = app pO (bkK c gs (a + 1) (j + 1)) (gs.getD (a + 1 - 1 - (j + 1)) sgZ).cs
   rw [bkK_on c gs a j, show a + 1 - 1 - (j + 1) = a - 1 - j by omega]
theorem vlt_aim {g b p : Int} {xs : List Int} {ms : List Mrk} {gs : List SgR} {im : List Int} (h : VltY g b p p xs ms gs im) (hg : g ≠ 999999) {t : Int} (ht : isRet b gs t = true) : VltY (g + 1) b p t xs ms gs im := by
 have hl := chainB_lead h.chain
 obtain ⟨s0, s1, s2, s3, s4, s5⟩ := superB_yes h.super
 have hti := h.tipIn
 obtain ⟨ht1, ht2⟩ := ahd_at ht
 have hb : b <= t := by
  have := hl.le (j := 0) (k := ahd b gs t) (Nat.zero_le _) ht1
  rw [ht2] at this; exact this
 have htt : t <= 999999 := by
  have := hl.le (j := ahd b gs t) (k := gs.length) ht1 nle
  rw [ht2] at this
  have h2 := hti.2
  unfold tipV at h2
  omega
 have hpl := h.places
 have hpl2 : plcB b p t gs ms = true := by
  unfold plcB at hpl ⊢
  simp only [Bool.and_eq_true] at hpl ⊢
  exact ⟨hpl.1, ht⟩
 obtain ⟨_, k1, k2⟩ := stp_le im hl hpl2
 have h8 := (contB_yes h.cont).1
 have e0 : stp b p p gs im = (im, ahd b gs p) := by unfold stp; rw [if_neg oM, if_neg oM]
 have hF := h.fwd
 have hB := h.bck
 rw [e0] at hF hB
 have hF' : ∀ j, ahd b gs p + j < gs.length -> app pO (fwK im gs (ahd b gs p) j) (gs.getD (ahd b gs p + j) sgZ).cs = fwK im gs (ahd b gs p) j := fun j hj => of_decide_eq_true (List.all_eq_true.1 hF j sM)
 have hB' : ∀ j, j < ahd b gs p -> app pN (bkK im gs (ahd b gs p) j) (gs.getD (ahd b gs p - 1 - j) sgZ).cs = bkK im gs (ahd b gs p) j := fun j hj => of_decide_eq_true (List.all_eq_true.1 hB j (by simpa using hj))
 have hp1 : ahd b gs p <= gs.length := by
  unfold plcB at hpl
  simp only [Bool.and_eq_true] at hpl
  exact (ahd_at hpl.1.2).1
 have key : fitF (stp b p t gs im).1 gs (stp b p t gs im).2 = true /\ fitB (stp b p t gs im).1 gs (stp b p t gs im).2 = true := by
  unfold stp
  clear hti e0 hpl hpl2
  generalize ahd b gs p = a at *
  by_cases hlt : p < t
  . have ha := k1 hlt
    rw [if_pos hlt]
    have hblk := chsB_blk (hl.ok a ha)
    refine ⟨List.all_eq_true.2 fun j hj => ?_, List.all_eq_true.2 fun j hj => ?_⟩
    . have hj' : j < gs.length - (a + 1) := by simpa using hj
      show oldB (fwK _ gs (a + 1) j) _ = true
      rw [fwK_on]
      exact decide_eq_true (by have := hF' (j + 1) oM; rwa [show a + (j + 1) = a + 1 + j by omega] at this)
    . have hj' : j < a + 1 := by simpa using hj
      show newB (bkK _ gs (a + 1) j) (gs.getD (a + 1 - 1 - j) sgZ) = true
      cases j with
      | zero => exact decide_eq_true (app_app pN pN hblk h8)
      | succ i =>
        rw [<- bkK_on, app_app pO pN hblk h8, show app pO im (gs.getD a sgZ).cs = im from hF' 0 oM, show a + 1 - 1 - (i + 1) = a - 1 - i by omega]
        exact decide_eq_true (hB' i oM)
  . rw [if_neg hlt]
    by_cases hgt : t < p
    . have ha := k2 hgt
      rw [if_pos hgt]
      obtain ⟨c, rfl⟩ : ∃ c, a = c + 1 := ⟨a - 1, oM⟩
      rw [show c + 1 - 1 = c by omega]
      have hblk := chsB_blk (hl.ok c oM)
      refine ⟨List.all_eq_true.2 fun j hj => ?_, List.all_eq_true.2 fun j hj => ?_⟩
      . have hj' : j < gs.length - c := by simpa using hj
        show oldB (fwK _ gs c j) (gs.getD (c + j) sgZ) = true
        cases j with
        | zero => exact decide_eq_true (app_app pO pO hblk h8)
        | succ i =>
          rw [<- fwK_on, app_app pN pO hblk h8, show app pN im (gs.getD c sgZ).cs = im by have := hB' 0 oM; rwa [show c + 1 - 1 - 0 = c by omega] at this]
          have := hF' i oM
          rw [show c + 1 + i = c + (i + 1) by omega] at this
          exact decide_eq_true this
      . have hj' : j < c := by simpa using hj
        show newB (bkK _ gs c j) (gs.getD (c - 1 - j) sgZ) = true
        rw [bkK_on]
        have := hB' (j + 1) oM
        rw [show c + 1 - 1 - (j + 1) = c - 1 - j by omega] at this
        exact decide_eq_true this
    . rw [if_neg hgt]
      exact ⟨hF, hB⟩
 exact ⟨superB_mk (inB_mk oM oM) (inB_mk s1.1 s1.2) (inB_mk s2.1 s2.2) (inB_mk hb htt) s4 s5, h.cont, h.len, h.chain, hpl2, key.1, key.2⟩
def aimV (V : Vl) (t : Int) : Vl := ⟨V.g + 1, V.b, V.p, t, none, 0, V.xs, none, 0, V.ms, none, 0, V.gs, none, 0, V.im⟩
theorem LdY.aim {ss : List BA} {V : Vl} {t : Int} (h : LdY ss [] V) (hd : diskB ss [] = true) (hy : VltY (V.g + 1) V.b V.p t V.xs V.ms V.gs V.im) :
 LdY (ss.set (1 - sltV ss []).toNat (supT (V.g + 1) V.b V.p t V.xs V.ms)) [] (aimV V t) := by
 have h64 := (diskB_len64 hd).1
 have hnew := newU_next (b := V.b) (p := V.p) (t := t) (xs := V.xs) (ms := V.ms) h64 h.nu hy.super
 change newU (rdU (readP (ss.set (1 - sltV ss []).toNat (supT (V.g + 1) V.b V.p t V.xs V.ms)) [] 0)) (rdU (readP (ss.set (1 - sltV ss []).toNat (supT (V.g + 1) V.b V.p t V.xs V.ms)) [] 1)) = some ((V.g + 1, V.b, V.p, t, V.xs, V.ms), 1 - sltV ss []) at hnew
 have hs : sltV (ss.set (1 - sltV ss []).toNat (supT (V.g + 1) V.b V.p t V.xs V.ms)) [] = 1 - sltV ss [] := by unfold sltV at hnew ⊢; rw [hnew]
 have ho : (1 - sltV ss []).toNat <= 1 := by rcases h.slot with e | e <;> omega
 have hsec : ∀ a, 2 <= a -> readP (ss.set (1 - sltV ss []).toNat (supT (V.g + 1) V.b V.p t V.xs V.ms)) [] a = readP ss [] a := fun a ha => by
  rw [readP_nil, readP_nil, getD_setB _ _ _ _ (by rw [h64]; omega), if_neg oM]
 generalize ss.set (1 - sltV ss []).toNat (supT (V.g + 1) V.b V.p t V.xs V.ms) = ss' at *
 have hg : ∀ x ∈ V.xs, ldG ss' [] x = ldG ss [] x := fun x hx => by
  have h1 := tbB_in (superB_yes h.ok.super).2.2.2.2.1 hx
  unfold ldG
  rw [hsec _ oM]
 have hi : ∀ j, j < 8 -> ldI ss' [] j = ldI ss [] j := fun j hj => by unfold ldI; rw [hsec _ oM]
 have hrd := h.rd
 unfold ldOk at hrd
 rw [Bool.and_eq_true] at hrd
 refine ⟨by rw [hs]; exact hnew, by rw [hs]; rcases h.slot with e | e <;> omega, hy, ?_, ?_⟩
 . unfold ldOk
   rw [Bool.and_eq_true]
   exact ⟨List.all_eq_true.2 fun x hx => by rw [hg x hx]; exact List.all_eq_true.1 hrd.1 x hx, List.all_eq_true.2 fun j hj => by rw [hi j (by simpa using hj)]; exact List.all_eq_true.1 hrd.2 j hj⟩
 . have e1 : V.xs.map (ldS ss' []) = V.gs := by
    have e : V.gs = V.xs.map (ldS ss []) := congrArg Vl.gs h.eq
    rw [e]
    exact List.map_congr_left fun x hx => by unfold ldS; rw [hg x hx]
   have e2 : (List.range 8).map (ldX ss' []) = V.im := by
    have e : V.im = (List.range 8).map (ldX ss []) := congrArg Vl.im h.eq
    rw [e]
    exact List.map_congr_left fun j hj => by unfold ldX; rw [hi j (by simpa using hj)]
   show aimV V t = ldW ss' [] (V.g + 1, V.b, V.p, t, V.xs, V.ms)
   unfold ldW vlU aimV
   simp only
   rw [e1, e2]
structure Dv (ss : List BA) (V : Vl) (K : Int) : Prop where
 disk : diskB ss [] = true
 ld : LdY ss [] V
 gen : V.g <= K
 tip : V.tip <= K
theorem Dv.more {ss : List BA} {V : Vl} {K K' : Int} (h : Dv ss V K) (hk : K <= K') : Dv ss V K' := ⟨h.disk, h.ld, by have := h.gen; omega, by have := h.tip; omega⟩
theorem Dv.fm {c : List Int} (hc : contB c = true) : Dv (fmT c 8) (fmV c) 1 := by
 have h := fmT_ld hc
 rw [ldA_yes (fmT_disk c)] at h
 exact ⟨fmT_disk c, ldV_ldY h, by show (1 : Int) <= 1; omega, by show atK 0 [] 0 <= (1 : Int); show (0 : Int) <= 1; omega⟩
theorem ext_tip (V : Vl) (p : Int) (n : Nat) (v t : Int) : (extV V p n v t).tip = p := by
 show tipV V.b (V.gs ++ [newG V p n v t]) = p
 unfold tipV
 rw [List.length_append]
 show ((V.gs ++ [newG V p n v t]).getD V.gs.length sgZ).t = p
 rw [getD_app]; rfl
theorem Dv.app {ss : List BA} {V : Vl} {K : Int} {p v t : Int} {n : Nat} (h : Dv ss V K) (hK : K <= 900000) (hf : frameB p (n : Int) v t = true) :
 ∃ ss' V', settleTo kpAll (apP ss p n v t).1.1 (apP ss p n v t).1.2 (apP ss p n v t).1.2.length = ss' /\ (apP ss p n v t).1.1.length = 64 /\ (apP ss p n v t).1.2.length <= 1 /\ (apP ss p n v t).1.2.all wOk = true /\ Dv ss' V' (K + 1) := by
 have hv := h.ld.v
 have h64 := (diskB_len64 h.disk).1
 have no : ∀ c, apC V 0 p = c -> c ≠ 0 -> ∃ ss' V', settleTo kpAll (apP ss p n v t).1.1 (apP ss p n v t).1.2 (apP ss p n v t).1.2.length = ss' /\ (apP ss p n v t).1.1.length = 64 /\ (apP ss p n v t).1.2.length <= 1 /\ (apP ss p n v t).1.2.all wOk = true /\ Dv ss' V' (K + 1) := fun c hc h0 => by
  rw [apP_no hv hc h0]
  exact ⟨ss, V, rfl, h64, Nat.zero_le _, rfl, h.more oM⟩
 by_cases h1 : p <= V.tip
 . exact no 9 (apC_there h1) dC
 by_cases h2 : V.tip + 1 < p
 . exact no 17 (apC_gap h2) dC
 have hp : p = V.tip + 1 := oM
 by_cases h3 : V.gs.length = 20
 . exact no 7 (apC_full hp (.inl h3)) dC
 have hg : V.g ≠ 999999 := by have := h.gen; omega
 have hA : Asked ss V p n v t := ⟨h.disk, h.ld, hf, hp, h3, hg⟩
 rw [apP_yes hv (apC_yes hp h3 hg)]
 refine ⟨_, extV V p n v t, rfl, ?_, Nat.le_refl _, ?_, hA.diskF, hA.ldF, by show V.g + 1 <= K + 1; have := h.gen; omega, by rw [ext_tip]; have := h.tip; omega⟩
 . show (ss.set _ _).length = 64
   rw [List.length_set]; exact h64
 . have := (diskB_len64 hA.disk1).2.2.2
   exact this
theorem Dv.aim {ss : List BA} {V : Vl} {K : Int} {t : Int} (h : Dv ss V K) (hK : K <= 900000) (hs : V.p = V.t) (ht : isRet V.b V.gs t = true) :
 superB (V.g + 1) V.b V.p t V.xs V.ms = true /\ Dv (ss.set (1 - sltV ss []).toNat (supT (V.g + 1) V.b V.p t V.xs V.ms)) (aimV V t) (K + 1) := by
 have hok := h.ld.ok
 rw [<- hs] at hok
 have hy := vlt_aim hok (by have := h.gen; omega) ht
 have h64 := diskB_len64 h.disk
 refine ⟨hy.super, diskB_nil (by rw [List.length_set]; exact h64.1) (set_all h64.2.2.1 (supT_size hy.super)), h.ld.aim h.disk hy, by show V.g + 1 <= K + 1; have := h.gen; omega, ?_⟩
 show tipV V.b V.gs <= K + 1
 have := h.tip
 unfold Vl.tip at this
 omega
theorem mergeFm {G : Nat -> Nat -> World -> Prop} {F : World -> Prop} {R : Prop} (main : (∀ a b W, F W -> G a b W) -> R) (key : ∀ a b W, F W -> G a b W) : R := main key
theorem pad6_size (q : Nat) : (⟨(pad 6 q).toArray⟩ : BA).size = 6 := by rw [ba_size]; exact pad_len 6 q
theorem l05Format_c (A0 : Option Addr) (c0 B : Nat) (xs : List Int) (w : World) (h : Ins w B A0 xs) (hB : B <= w.heap.size) (hc : contB xs = true) :
 Calls Tryz.prog 133 #[sC A0 xs.length c0] w (RetDisk w (fmT xs 8) []) := by
 have hx8 := (contB_yes hc).1
 have Hv := qh (contB_yes hc).2
 have h' : ∀ k, k < 8 -> _ := fun k hk w' B' hw hB' => ((h.below (w' := w') (B' := B') hw hB').at_ (k := k) oM)
 obtain ⟨m, Hm⟩ := nM (xs.length)
 have hm8 : m = 8 := by have := Hm.out; omega
 rw [Hm.out]
 subst hm8
 clear hc h hx8
 have r0 := Box.new w 35 #[nsl, nsl]
 have hx0 := (Nx.refl w).alloc (.cells #[nsl, nsl] 35)
 have hl0 := r0.lt
 go_enter func133, ntmps133
 go_wp2_with fail
 generalize w.alloc (.cells #[nsl, nsl] 35) = W at *
 obtain ⟨gR, HgR⟩ := nM (w.heap.size)
 have hgR : w.heap.size <= gR := by have := HgR.out; omega
 rw [HgR.out] at r0 hl0 ⊢
 refine (specNewDisk_c W).mono ?_
 rintro e w1 ⟨A, n, c, A2, n2, c2, rfl, hS, hW, hk1⟩
 obtain rfl : 64 = n := noS_len.symm.trans hS.1
 obtain rfl : 0 = n2 := hW.1
 obtain ⟨gs, rfl, hgs, hrow⟩ := hS.2 oM
 have hd := (Nx.refl w1).alloc (.cells #[sC (some ⟨gs, 0, none⟩) 64 c, sC A2 0 c2] 35)
 have bD := Box.new w1 35 #[sC (some ⟨gs, 0, none⟩) 64 c, sC A2 0 c2]
 have hrow1 : SetRow (w1.alloc (.cells #[sC (some ⟨gs, 0, none⟩) 64 c, sC A2 0 c2] 35)) gs noS := by have := hrow.nx hd; unfold OwnS at this; rw [noS_len] at this; exact this
 have hN1 := hk1.trans hd
 clear hS hrow hk1 hd
 go_wp2_with fail
 generalize w1.alloc (.cells #[sC (some ⟨gs, 0, none⟩) 64 c, sC A2 0 c2] 35) = wD at *
 obtain ⟨gD, HgD⟩ := nM (w1.heap.size)
 rw [HgD.out] at bD ⊢
 have hne : gD ≠ gs := Own.ne_type hrow1 bD.own dC
 refine mergeFm (F := (fun Wq => SetRow Wq gs (fmT xs 0) /\ Box Wq gD 35 #[sC (some ⟨gs, 0, none⟩) 64 c, sC A2 0 c2] /\ Nx W Wq)) (G := ?_) (fun key => ?_) ?_
 rotate_left
 . skip
   refine wp_planA (.t 0 (.t 1 (.b 2 (.c 3 (.t 4 (.c 5 (.t 6 (.c 7 .e))))) 3 (.c 2 (.t 4 (.c 5 (.t 6 (.c 7 .e)))))))) (fun w' => CC w' gD 0 (sC (some ⟨gs, 0, none⟩) 64 c)) (by exact (bD.nx (Nx.refl _).drew).c0) ?_
   simp only [psOf, List.getD_cons_zero, List.getD_cons_succ]
   have bDk := bD.nx (Nx.refl wD).drew
   have hrk : SetRow wD.drew gs noS := hrow1
   have hNk := hN1.drew
   generalize wD.drew = W0 at *
   refine hPr ?_
   refine HP.both ?_ ?_
   . have hz1 := (Nx.refl W0).alloc (.cells #[] 3)
     have hz2 := hz1.alloc (.cells #[] 136)
     refine cSt fun K hK => ?_
     go_simp
     refine hK.out _ _ (by exact (bDk.nx hz1).c0) ?_
     clear hK K
     refine nZ ?_
     refine hPc fun K hK => ?_
     go_simp
     refine hK.out _ _ (by exact (bDk.nx hz2).c0) ?_
     clear hK K
     refine nZ ?_
     refine hPr ?_
     refine hPc fun K hK => ?_
     go_simp
     refine (l04Text_c 1 0 0 0 (some ⟨W0.heap.size, 0, none⟩) (some ⟨(W0.heap.size + 1), 0, none⟩) 0 0 0 [] [] _ (fun h => absurd h (by simp)) (fun h => absurd h (by simp)) (Nat.zero_le _) super_new).mono ?_; rintro e v3 ⟨rfl, hv3⟩
     go_wp2_with fail
     refine hK.out _ _ (by exact (bDk.nx (hz2.trans hv3)).c0) ?_
     clear hK K
     refine nZ ?_
     refine hPr ?_
     have hrow2 : SetRow v3 gs noS := Own.nx hrk (hz2.trans hv3)
     have bD2 := bDk.nx (hz2.trans hv3)
     have hN2 := hNk.trans (hz2.trans hv3)
     have hcl := hrow2.cell (i := 0) oM
     have hcf := hrow2.frozen 0
     refine hPc fun K hK => ?_
     go_simp
     refine hK.out _ _ (by exact (bD2.far (p := ⟨gs, 0, none⟩) hne (.string (supT 1 0 0 0 [] []))).c0) ?_
     clear hK K
     refine nZ ?_
     refine HP.done ?_
     have hrow3 : SetRow (v3.setCell ⟨gs, 0, none⟩ (.string (supT 1 0 0 0 [] []))) gs (fmT xs 0) := SetRow.set hrow2 oM noS_len
     have bD3 := bD2.far (p := ⟨gs, 0, none⟩) hne (.string (supT 1 0 0 0 [] []))
     have hN3 := hN2.setCell (p := ⟨gs, 0, none⟩) hgs (.string (supT 1 0 0 0 [] []))
     clear hcl hcf
     unfold supT at hrow3 bD3 hN3
     generalize v3.setCell ⟨gs, 0, none⟩ (.string (sealS (numsS (supN 1 0 0 0 []) ++ ⟨#[124]⟩ ++ jn (wds [])))) = W4 at *
     obtain ⟨n1, Hn1⟩ := nM (W0.heap.size + 1)
     rw [Hn1.out]
     generalize W0.heap.size = n0 at *
     exact key n0 n1 W4 ⟨hrow3, bD3, hN3⟩
   . have hz1 := (Nx.refl W0).alloc (.cells #[] 136)
     have hz2 := hz1.alloc (.cells #[] 3)
     refine cSt fun K hK => ?_
     go_simp
     refine hK.out _ _ (by exact (bDk.nx hz1).c0) ?_
     clear hK K
     refine nZ ?_
     refine hPc fun K hK => ?_
     go_simp
     refine hK.out _ _ (by exact (bDk.nx hz2).c0) ?_
     clear hK K
     refine nZ ?_
     refine hPr ?_
     refine hPc fun K hK => ?_
     go_simp
     refine (l04Text_c 1 0 0 0 (some ⟨(W0.heap.size + 1), 0, none⟩) (some ⟨W0.heap.size, 0, none⟩) 0 0 0 [] [] _ (fun h => absurd h (by simp)) (fun h => absurd h (by simp)) (Nat.zero_le _) super_new).mono ?_; rintro e v3 ⟨rfl, hv3⟩
     go_wp2_with fail
     refine hK.out _ _ (by exact (bDk.nx (hz2.trans hv3)).c0) ?_
     clear hK K
     refine nZ ?_
     refine hPr ?_
     have hrow2 : SetRow v3 gs noS := Own.nx hrk (hz2.trans hv3)
     have bD2 := bDk.nx (hz2.trans hv3)
     have hN2 := hNk.trans (hz2.trans hv3)
     have hcl := hrow2.cell (i := 0) oM
     have hcf := hrow2.frozen 0
     refine hPc fun K hK => ?_
     go_simp
     refine hK.out _ _ (by exact (bD2.far (p := ⟨gs, 0, none⟩) hne (.string (supT 1 0 0 0 [] []))).c0) ?_
     clear hK K
     refine nZ ?_
     refine HP.done ?_
     have hrow3 : SetRow (v3.setCell ⟨gs, 0, none⟩ (.string (supT 1 0 0 0 [] []))) gs (fmT xs 0) := SetRow.set hrow2 oM noS_len
     have bD3 := bD2.far (p := ⟨gs, 0, none⟩) hne (.string (supT 1 0 0 0 [] []))
     have hN3 := hN2.setCell (p := ⟨gs, 0, none⟩) hgs (.string (supT 1 0 0 0 [] []))
     clear hcl hcf
     unfold supT at hrow3 bD3 hN3
     generalize v3.setCell ⟨gs, 0, none⟩ (.string (sealS (numsS (supN 1 0 0 0 []) ++ ⟨#[124]⟩ ++ jn (wds [])))) = W4 at *
     obtain ⟨n1, Hn1⟩ := nM (W0.heap.size + 1)
     rw [Hn1.out]
     generalize W0.heap.size = n0 at *
     exact key n1 n0 W4 ⟨hrow3, bD3, hN3⟩
 intro n0 n1 W4 ⟨hrow4, bD4, hN4⟩
 go_wp2_with fail
 go_loopw [4] (fun i wr => ∃ k : Nat, k <= 8 /\ i = ii k /\ SetRow wr gs (fmT xs k) /\ Box wr gD 35 #[sC (some ⟨gs, 0, none⟩) 64 c, sC A2 0 c2] /\ Nx W wr) (fun i _ => 8 - (intOf i).toNat)
 case atStart => exact ⟨0, oM, rfl, hrow4, bD4, hN4⟩
 case round =>
  obtain ⟨k, hk, rfl, hrow, bD, hN⟩ := hrel
  clear hrow4 bD4 hN4
  have hlen := fmT_len xs k
  by_cases hlt : k < 8
  case neg =>
   obtain rfl : k = 8 := oM
   have hx5 := hx0.trans hN
   have r5 := r0.nx hN
   have d0 := bD.c0
   have d1 := bD.c1
   have hSS : SlS wr (gR + 1) (some ⟨gs, 0, none⟩) 64 (fmT xs 8) := ⟨hlen, fun _ => ⟨gs, rfl, oM, by unfold OwnS; rw [hlen]; exact hrow⟩⟩
   have hWW : SlW wr (gR + 1) A2 0 [] := ⟨rfl, fun h => absurd h oM⟩
   have s0 := r5.c0; have s1 := r5.c1; have sf0 := r5.frozen 0; have sf1 := r5.frozen 1; have sl := r5.lt
   go_wp2
   obtain ⟨q0, q1, hSf, hWf, hxf⟩ := fin_box c c2 r5 hSS hWW oM oM hx5 oM
   generalize (wr.setCell ⟨gR, 0, none⟩ (sC (some ⟨gs, 0, none⟩) 64 c)).setCell ⟨gR, 1, none⟩ (sC A2 0 c2) = Wf at *
   exact bodyPost_ret (v := .agg #[sC (some ⟨gs, 0, none⟩) 64 c, sC A2 0 c2]) (by simp [results, results133, go_sem, q0, q1]) rfl ⟨_, 64, c, A2, 0, c2, rfl, hSf, hWf, hxf⟩
  obtain ⟨bb, off, rfl, hbb, p00⟩ := h' k hlt _ _ hx0 hB
  have hv := Hv.out k hlt
  obtain ⟨q, Hq⟩ : ∃ q : Nat, Hid (xs.getD k 0 = (q : Int)) := ⟨(xs.getD k 0).toNat, qh oM⟩
  have hq9 : q <= 999999 := by have := Hq.out; omega
  rw [Hq.out] at p00
  clear hv
  have hbg : bb < W.heap.size := Nat.lt_of_lt_of_le hbb (ntr hB hx0.size)
  have p0 := (hN.cell (p := ⟨bb, off + k, none⟩) hbg).trans p00
  obtain ⟨z, Hz⟩ := nM (2 + k : Nat)
  have h2k : (2 : Int) + (k : Int) = (z : Int) := by have := Hz.out; omega
  have hz64 : z < 64 := by have := Hz.out; omega
  have hzi : (z : Int) < 64 := oM
  have hwz : IntKind.i64.wrap (z : Int) = (z : Int) := IntWalk.i64_in _ oM
  go_wp2_with fail
  refine wp_lexA (kf8 (true :: true :: ff :: true :: [])) (fun w' => CC w' gD 0 (sC (some ⟨gs, 0, none⟩) 64 c) /\ CC w' bb (off + k) (ii (q : Int))) (by exact ⟨bD.c0, p0⟩) ?_
  refine hLr ?_
  refine hLc fun K hK => ?_
  go_simp
  refine (l02Six_c q _ hq9).mono ?_; rintro e v1 ⟨rfl, hk1⟩; have b1 := (bD.nx (Nx.refl _).drew).nx hk1; have p1 := ((Nx.refl wr).drew.trans hk1).cell (p := ⟨bb, off + k, none⟩) (Nat.lt_of_lt_of_le hbg hN.size) |>.trans p0; have hr1 : SetRow v1 gs (fmT xs k) := Own.nx hrow ((Nx.refl wr).drew.trans hk1); have hN1 := hN.trans ((Nx.refl wr).drew.trans hk1)
  go_wp2_with fail
  refine hK.out _ _ (by exact ⟨b1.c0, p1⟩) ?_
  clear hK K
  refine nZ ?_
  refine hLc fun K hK => ?_
  go_simp
  refine (l02Seal_s ⟨(pad 6 q).toArray⟩ _ (by rw [pad6_size]; omega)).mono ?_; rintro e v2 ⟨rfl, hk2⟩; have b2 := b1.nx hk2; have p2 := hk2.cell (p := ⟨bb, off + k, none⟩) (Nat.lt_of_lt_of_le hbg hN1.size) |>.trans p1; have hr2 : SetRow v2 gs (fmT xs k) := Own.nx hr1 hk2; have hN2 := hN1.trans hk2; have hcl := hr2.cell (i := z) oM; have hcf := hr2.frozen z
  go_wp2_with fail
  refine hK.out _ _ (by exact ⟨b2.c0, p2⟩) ?_
  clear hK K
  refine nZ ?_
  refine hLr ?_
  refine hLc fun K hK => ?_
  go_simp
  refine hK.out _ _ (by exact ⟨(b2.far (p := ⟨gs, z, none⟩) hne (.string (sealS ⟨(pad 6 q).toArray⟩))).c0, ((hN2.setCell (p := ⟨gs, z, none⟩) hgs (.string (sealS ⟨(pad 6 q).toArray⟩))).cell (p := ⟨bb, off + k, none⟩) hbg).trans p00⟩) ?_
  clear hK K
  refine nZ ?_
  refine HL.done ?_
  have hr3 : SetRow (v2.setCell ⟨gs, z, none⟩ (.string (sealS ⟨(pad 6 q).toArray⟩))) gs (fmT xs (k + 1)) := by
   have := hr2.set (a := z) (s := sealS ⟨(pad 6 q).toArray⟩) oM hlen
   have e : fmT xs (k + 1) = (fmT xs k).set z (sealS ⟨(pad 6 q).toArray⟩) := by show (fmT xs k).set (2 + k) (sealS (numsS [(xs.getD k 0).toNat])) = _; rw [Hq.out, numsS_one, Hz.out]; rfl
   rw [e]; exact this
  have b3 := b2.far (p := ⟨gs, z, none⟩) hne (.string (sealS ⟨(pad 6 q).toArray⟩))
  have hN3 := hN2.setCell (p := ⟨gs, z, none⟩) hgs (.string (sealS ⟨(pad 6 q).toArray⟩))
  clear hcl hcf hr2 hr1 b1 b2 hN1 hN2 p0 p1 p2 p00
  generalize v2.setCell ⟨gs, z, none⟩ (.string (sealS ⟨(pad 6 q).toArray⟩)) = W9 at *
  go_wp2
  go_roundw
  case rel => exact ⟨k + 1, oM, by go_num, hr3, b3, hN3⟩
  case measure => simp [intOf]; omega
def gCs (g : SgR) : List Value := [ii g.f, ii g.t, ii g.m, sC g.A g.cs.length g.c]
def gVs (gs : List SgR) : List Value := gs.flatMap gCs
theorem gVs_snoc (gs : List SgR) (g : SgR) : gVs (gs ++ [g]) = gVs gs ++ gCs g := by
 unfold gVs; rw [List.flatMap_append]; simp
theorem gVs_get : ∀ (gs : List SgR) (i : Nat), i < gs.length * 4 -> (gVs gs)[i]? = some (sgAt gs i)
 | [], i, h => by simp at h
 | g :: gs, i, h => by
   show (gCs g ++ gVs gs)[i]? = _
   by_cases hi : i < 4
   . rw [List.getElem?_append_left (by simpa [gCs] using hi)]
     match i, hi with
     | 0, _ => rfl
     | 1, _ => rfl
     | 2, _ => rfl
     | 3, _ => rfl
   . rw [List.getElem?_append_right (by simpa [gCs] using hi)]
     show (gVs gs)[i - 4]? = _
     rw [gVs_get gs (i - 4) (by simp at h; omega)]
     have e1 : (i - 4) % 4 = i % 4 := oM
     have e2 : i / 4 = (i - 4) / 4 + 1 := oM
     unfold sgAt
     rw [e1, e2, List.getD_cons_succ]
def ChO (w : World) (B : Nat) (gs : List SgR) : Prop := ∀ k, k < gs.length -> Sl w B (gs.getD k sgZ).A 192 ((gs.getD k sgZ).cs.length * 3) (chAt (gs.getD k sgZ).cs)
theorem ChO.nx {w w' : World} {B : Nat} {gs : List SgR} (h : ChO w B gs) (hb : Nx w w') : ChO w' B gs := fun k hk => (h k hk).nx hb
theorem ChO.snoc {w : World} {B : Nat} {gs : List SgR} {g : SgR} (h : ChO w B gs) (hg : Sl w B g.A 192 (g.cs.length * 3) (chAt g.cs)) : ChO w B (gs ++ [g]) := fun k hk => by
 rw [List.length_append] at hk
 simp only [List.length_cons, List.length_nil] at hk
 by_cases e : k < gs.length
 . rw [getD_pre gs [g] e]; exact h k e
 . obtain rfl : k = gs.length := oM
   rw [getD_app]; exact hg
def RowS (w : World) (B : Nat) (v : Value) (gs : List SgR) : Prop := w.ownsRow B 122 4 v gs.length (gVs gs)
theorem RowS.new (w : World) {B : Nat} (hB : B <= w.heap.size) : RowS (w.alloc (.cells #[] 122)) B (sC (some ⟨w.heap.size, 0, none⟩) 0 0) [] :=
 ⟨rfl, .inr ⟨_, 0, #[], rfl, hB, heap_alloc_new w _, by simp, by unfold maxLen; omega, rfl, rfl⟩⟩
theorem RowS.sl {w : World} {B : Nat} {v : Value} {gs : List SgR} (h : RowS w B v gs) : ∃ A c, v = sC A gs.length c /\ Sl w B A 122 (gs.length * 4) (sgAt gs) := by
 rcases h.2 with ⟨rfl, h0⟩ | ⟨g, cap, cur, rfl, hb, hg, hnc, _, hcs, htk⟩
 . exact ⟨none, 0, by rw [h0], fun hn => oM⟩
 . refine ⟨_, cap, rfl, Sl.own ⟨cur, hg, by have := Nat.mul_le_mul_right 4 hnc; omega, fun i hi => ?_⟩ hb⟩
   have h1 : (cur.toList.take (gs.length * 4))[i]? = some (sgAt gs i) := by rw [htk]; exact gVs_get gs i hi
   rw [List.getElem?_take_of_lt hi] at h1
   simpa using h1
theorem RowS.nx {w w' : World} {B : Nat} {v : Value} {gs : List SgR} (h : RowS w B v gs) (hb : Nx w w') : RowS w' B v gs := by
 refine World.ownsRow.kept (row := none) h ⟨hb.os, hb.tape, hb.output, hb.size, fun i hi _ => hb.block i hi⟩ ?_
 cases hv : v.ownBlock with
 | none => exact .inl rfl
 | some g => exact .inr (by simp)
theorem RowS.ne {w : World} {B g : Nat} {v : Value} {gs : List SgR} {t : TypeId} {m : Nat} {f : Nat -> Value} (h : RowS w B v gs) (hb : Own w g t m f) (ht : t ≠ 122) : some g ≠ v.ownBlock := by
 intro he
 rcases h.2 with ⟨rfl, _⟩ | ⟨g', cap, cur, rfl, _, hg, _⟩
 . simp [Value.ownBlock] at he
 . obtain rfl : g = g' := by simpa [Value.ownBlock] using he
   obtain ⟨cs, hb, _⟩ := hb
   rw [hg] at hb
   injection hb with hb
   injection hb with _ hb
   exact ht hb.symm
structure GrewS (B : Nat) (w w' : World) : Prop where
 nx : ∀ a, Nx a w -> a.heap.size <= B -> Nx a w'
 rg : ∀ lo hi a, Rg lo hi a w -> a.heap.size <= B -> Rg lo hi a w'
 own : ∀ g t m f, t ≠ 122 -> Own w g t m f -> Own w' g t m f
 box : ∀ g t xs, t ≠ 122 -> Box w g t xs -> Box w' g t xs
 size : w.heap.size <= w'.heap.size
 low : Below B w w'
theorem GrewS.sl {B : Nat} {w w' : World} (h : GrewS B w w') {lo : Nat} {A : Option Addr} {t : TypeId} {m : Nat} {f : Nat -> Value} (hs : Sl w lo A t m f) (ht : t ≠ 122) : Sl w' lo A t m f := fun hm => by
 obtain ⟨g, e, hl, ho⟩ := hs hm
 exact ⟨g, e, hl, h.own g t m f ht ho⟩
theorem GrewS.cho {B B' : Nat} {w w' : World} (h : GrewS B w w') {gs : List SgR} (hs : ChO w B' gs) : ChO w' B' gs := fun k hk => h.sl (hs k hk) dC
theorem wpList_addS {w : World} {ops : Array Oper} {rest : List Oper} {o : Oper} {a : Act} {Q : Exit -> Act -> World -> Prop}
 (hgd : o.guard = none) (s x : Operand) (ho : o.op = .call { callee := .builtin .append, args := #[s, x], argTypes := #[47, 47] })
 (B gd : Nat) (v : Value) (gs : List SgR) (g : SgR) (hs : a.eval s = v) (hx : a.eval x = sC (some ⟨gd, 0, none⟩) 1 1) (hown : RowS w B v gs) (hbx : Box w gd 122 #[ii g.f, ii g.t, ii g.m, sC g.A g.cs.length g.c])
 (hl : gs.length <= 1048576) (hB : B <= w.heap.size)
 (hK : ∀ A' k' w', RowS w' B (sC A' (gs.length + 1) k') (gs ++ [g]) -> GrewS B w w' -> wpList Tryz.prog ops Q rest (a.put o.dst (sC A' (gs.length + 1) k')) w') :
 wpList Tryz.prog ops Q (o :: rest) a w := by
 obtain ⟨i0, hi0, hz0, hz1, hz2⟩ := info_parts info_sg
 refine wpList_append_own w hgd s x 47 ho B 122 i0 _ 4 48 underlying47 hi0 hz0 hz1 hz2 rfl oM v gs.length _ hs hown ⟨gd, 0, none⟩ 1 1 (gCs g) hx rfl (fun j u hj => ?_) (fun u hu => by unfold gCs at hu; simp only [List.mem_cons, List.not_mem_nil, or_false] at hu; rcases hu with rfl | rfl | rfl | rfl <;> rfl) (by unfold maxLen; omega) oM hB ?_
 . rw [addr_add', Nat.zero_add, hbx.cell j]
   rw [<- hj]
   unfold gCs
   rcases j with _ | _ | _ | _ | j <;> simp
 . intro v' w' hw' hg' _
   have hr : RowS w' B v' (gs ++ [g]) := by
    unfold RowS
    rw [gVs_snoc, List.length_append]
    exact hw'
   obtain ⟨A', k', rfl, _⟩ := hr.sl
   rw [List.length_append] at hr ⊢
   have hrow : ∀ k, Value.ownBlock v = some k -> B <= k := fun k hk => (World.ownsRow.lt hown k hk).1
   have hown' : ∀ g t m f, t ≠ 122 -> Own w g t m f -> Own w' g t m f := fun g t m f ht ho => ho.of_block (hg'.block g ho.lt (hown.ne ho ht))
   refine hK A' k' w' hr ⟨fun b hb hbB => Below.grown hb hg' hb.size (fun k hk => ntr hbB (hrow k hk)), fun lo hi b hb hbB => ?_, hown', fun g t xs ht hbg => ?_, hg'.size, ⟨hg'.os, hg'.tape, hg'.output, hg'.size, fun k hk => hg'.block k oM (fun e => by have := hrow k e.symm; omega)⟩⟩
   . refine ⟨hg'.os.trans hb.os, hg'.tape.trans hb.tape, hg'.output.trans hb.output, ntr hb.size hg'.size, fun k hk hr => (hg'.block k (Nat.lt_of_lt_of_le hk hb.size) fun e => ?_).trans (hb.block k hk hr)⟩
     have := hrow k e.symm
     omega
   . exact hbg.grown hg' (hown.ne hbg.own ht)
section
variable {w w' : World} {g B : Nat} {A : Option Addr} {x : List Int}
end
def RetSG (w : World) (ss : List BA) (ws : List (Int × BA)) (xs : List Int) (a0 : Addr) (e : Ending) (w' : World) : Prop :=
 Nx w w' /\ (((∃ k, k < xs.length /\ ldG ss ws (xs.getD k 0) = none) /\ e = .returned (.tuple #[nsl, .iface 290 (.pointer (some a0))]))
  \/ ∃ A c gs, e = .returned (.tuple #[sC A gs.length c, .nilIface]) /\ GsTo ss ws xs xs.length gs /\ gs.length <= c /\ SgO w' w.heap.size A gs /\ Dj gs)
theorem RowS.sgoc {w : World} {B : Nat} {v : Value} {gs : List SgR} (h : RowS w B v gs) (hc : ChO w B gs) : ∃ A c, v = sC A gs.length c /\ gs.length <= c /\ SgO w B A gs := by
 have hsl := h.sl
 rcases h.2 with ⟨rfl, h0⟩ | ⟨g, cap, cur, rfl, hb, hg, hnc, _, hcs, htk⟩
 . exact ⟨none, 0, by rw [h0], oM, ⟨fun hn => oM, hc⟩⟩
 . obtain ⟨A, c, e, hs⟩ := hsl
   injection e with e1 e2 e3
   subst e1 e3
   exact ⟨_, _, rfl, hnc, hs, hc⟩
theorem RowS.nil (w : World) (B : Nat) : RowS w B (nsl) [] := ⟨rfl, .inl ⟨rfl, rfl⟩⟩
theorem ChO.nil (w : World) (B : Nat) : ChO w B [] := fun k hk => absurd hk (by simp)
theorem tb_at {xs : List Int} (h : tbB xs = true) {k : Nat} (hk : k < xs.length) : ∃ a : Nat, xs.getD k 0 = (a : Int) /\ 10 <= a /\ a < 64 := by
 have h1 : xs.getD k 0 ∈ xs := by rw [gdE, List.getElem?_eq_getElem hk]; exact List.getElem_mem hk
 have := tbB_in h h1
 exact ⟨(xs.getD k 0).toNat, oM, oM, oM⟩
theorem segsIn_c (A A2 A3 : Option Addr) (n c n2 c2 c3 B : Nat) (ss : List BA) (ws : List (Int × BA)) (xs : List Int) (w : World) (a0 a1 : Addr) (h : Strs w B A n ss) (h2 : Wrs w B A2 n2 ws) (h3 : Ins w B A3 xs) (hB : B <= w.heap.size) (hn : n <= 1048576) (hn2 : n2 <= 1048576)
 (hD : diskB ss ws = true) (ht : tbB xs = true) (hE : Er w a0 a1) :
 Calls Tryz.prog 139 #[.agg #[sC A n c, sC A2 n2 c2], sC A3 xs.length c3] w (RetSG w ss ws xs a0) := by
 have b0 := Box.new w 35 #[sC A n c, sC A2 n2 c2]
 have hx0 := (Nx.refl w).alloc (.cells #[sC A n c, sC A2 n2 c2] 35)
 have hn64 : 64 <= n := by have := (diskB_len64 hD).1; have := h.1; omega
 have HDs := qh (fun a => readP_size hD a)
 have Hta := qh (fun k (hk : k < xs.length) => tb_at ht hk)
 have hm20 := (tbB_yes ht).1
 have HRet := qh (fun (e : Ending) (w' : World) (h : RetSG w ss ws xs a0 e w') => h)
 have HSn := qh (fun k gs q (h1 : GsTo ss ws xs k gs) (h2 : k < xs.length) (h3 : ldG ss ws (xs.getD k 0) = some q) (A c) => h1.snoc h2 h3 A c)
 obtain ⟨m, Hm⟩ := nM (xs.length)
 have h3' : ∀ k, k < m -> _ := fun k hk w' B' hw hB' => ((h3.below (w' := w') (B' := B') hw hB').at_ (k := k) (by rw [Hm.out]; exact hk))
 rw [Hm.out] at Hta hm20 HSn ⊢
 clear hD ht h3
 go_enter func139, ntmps139
 go_wp2_with fail
 generalize w.alloc (.cells #[sC A n c, sC A2 n2 c2] 35) = W at *
 go_loopw [6, 13] (fun v i wr => ∃ (k : Nat) (gs : List SgR), k <= m /\ i = ii k /\ (∃ u, u = v /\ RowS wr w.heap.size u gs) /\ ChO wr w.heap.size gs /\ Dj gs /\ GsTo ss ws xs k gs /\ Nx w wr /\ Box wr w.heap.size 35 #[sC A n c, sC A2 n2 c2]) (fun _ i _ => m - (intOf i).toNat)
 case atStart => exact ⟨0, [], oM, rfl, ⟨_, rfl, RowS.nil _ _⟩, ChO.nil _ _, Dj.nil, GsTo.nil _ _ _, hx0, b0⟩
 case round =>
  obtain ⟨k, gs, hk, rfl, ⟨u, rfl, hrow⟩, hcho, hdj, hgs, hnx, hb⟩ := hrel
  clear b0 hx0
  have HDj := qh hdj
  have HGs := qh hgs
  have Hlen := qh hgs.len
  clear hdj hgs
  by_cases hlt : k < m
  case neg =>
   obtain rfl : k = m := oM
   obtain ⟨A', c', rfl, hc', hS⟩ := hrow.sgoc hcho
   have HF : Hid (RetSG w ss ws xs a0 (.returned (.tuple #[sC A' gs.length c', .nilIface])) wr) := qh ⟨hnx, .inr ⟨A', c', gs, rfl, by rw [Hm.out]; exact HGs.out, hc', hS, HDj.out⟩⟩
   clear hrow hcho hS hc'
   go_wp2
   go_ret2
   exact HF.out
  obtain ⟨a, ha, ha1, ha2⟩ := Hta.out k hlt
  obtain ⟨bb, off, rfl, hbb, p0⟩ := h3' k hlt _ _ hnx hB
  rw [ha] at p0
  have HG : Hid (ldG ss ws (xs.getD k 0) = rdG (readP ss ws a)) := qh (by rw [ha]; rfl)
  clear ha
  have hc0 := hb.c0
  have hc1 := hb.c1
  go_wp2_with fail
  refine (newest_c A A2 n c n2 c2 B a ss ws _ (h.below hnx hB) (h2.below hnx hB) (ntr hB hnx.size) oM hn hn2).mono ?_
  rintro e w1 ⟨rfl, hk1⟩
  have hrow1 := hrow.nx hk1
  have hcho1 := hcho.nx hk1
  have hnx1 := hnx.trans hk1
  have hb1 := hb.nx hk1
  clear hrow hcho hnx hb hc0 hc1 p0
  go_wp2_with fail
  refine (segOfText_c (readP ss ws a) _ a0 a1 (by have := HDs.out a; omega) (hE.nx hnx1)).mono ?_
  rintro e w2 ⟨hk2, hno, hyes⟩
  have hrow2 := hrow1.nx hk2
  have hcho2 := hcho1.nx hk2
  have hnx2 := hnx1.trans hk2
  have hb2 := hb1.nx hk2
  have HC1 := qh hcho1
  clear hrow1 hcho1 hb1
  cases hr : rdG (readP ss ws a) with
  | none =>
    obtain rfl := hno hr
    have HF : Hid (ldG ss ws (xs.getD k 0) = none) := qh (by rw [HG.out, hr])
    clear hno hyes hr
    go_wp2
    go_ret2
    exact ⟨by first | exact hnx2 | exact hnx2.alloc _, .inl ⟨⟨k, by rw [Hm.out]; exact hlt, HF.out⟩, rfl⟩⟩
  | some q =>
    obtain ⟨Ag, cg, rfl, hSl⟩ := hyes q hr
    have HF : Hid (ldG ss ws (xs.getD k 0) = some q) := qh (by rw [HG.out, hr])
    clear hno hyes hr
    obtain ⟨q0, q1, q2, cs⟩ := q
    simp only at hSl
    have hd1 := HDj.out.snoc (g := ⟨q0, q1, q2, Ag, cg, cs⟩) HC1.out hSl
    have HD1 := qh hd1
    have HG1 := qh (HSn.out k gs _ HGs.out hlt HF.out Ag cg)
    have hSl' := hSl.low (lo' := w.heap.size) hnx1.size
    clear hd1 hSl
    have hz3 := ((Nx.refl w2).alloc (.cells #[ii q0, ii q1, ii q2, sC Ag cs.length cg] 122)).alloc (.cells #[ii q0, ii q1, ii q2, sC Ag cs.length cg] 122)
    have hrow3 := hrow2.nx hz3
    have hcho3 := hcho2.nx hz3
    have hnx3 := hnx2.trans hz3
    have hb3 := hb2.nx hz3
    have hSl3 := hSl'.nx hz3
    have bN := Box.new (w2.alloc (.cells #[ii q0, ii q1, ii q2, sC Ag cs.length cg] 122)) 122 #[ii q0, ii q1, ii q2, sC Ag cs.length cg]
    have HR3 := qh hrow3
    have HB3 := qh bN
    have hl9 : gs.length <= 1048576 := by have := Hlen.out; omega
    have hsz3 : w.heap.size <= ((w2.alloc (.cells #[ii q0, ii q1, ii q2, sC Ag cs.length cg] 122)).alloc (.cells #[ii q0, ii q1, ii q2, sC Ag cs.length cg] 122)).heap.size := hnx3.size
    clear hrow2 hcho2 hb2 hSl' hrow3 bN
    simp only [World.size_alloc] at HB3
    go_wp2_with (at_builtin; refine wpList_addS rfl _ _ rfl w.heap.size (w2.heap.size + 1) _ gs ⟨q0, q1, q2, Ag, cg, cs⟩ rfl rfl HR3.out HB3.out hl9 hsz3 ?_)
    intro A9 k9 w9 hrow9 hgr
    have hnx9 := hgr.nx w hnx3 nle
    have hcho9 := (hgr.cho hcho3).snoc (g := ⟨q0, q1, q2, Ag, cg, cs⟩) (hgr.sl hSl3 dC)
    have hb9 := hgr.box _ _ _ dC hb3
    clear hcho3 hSl3 hb3 hgr HR3 HB3
    go_wp2
    go_roundw
    case rel => exact ⟨k + 1, gs ++ [⟨q0, q1, q2, Ag, cg, cs⟩], oM, by go_num, ⟨_, rfl, hrow9⟩, hcho9, HD1.out, HG1.out, hnx9, hb9⟩
    case measure => simp [intOf]; omega
def RetIG (w : World) (ss : List BA) (ws : List (Int × BA)) (a0 : Addr) (e : Ending) (w' : World) : Prop :=
 Nx w w' /\ (((∃ j, j < 8 /\ ldI ss ws j = none) /\ e = .returned (.tuple #[nsl, .iface 290 (.pointer (some a0))]))
  \/ ∃ A c im, e = .returned (.tuple #[sC A im.length c, .nilIface]) /\ ImTo ss ws 8 im /\ SlI w' w.heap.size A im)
theorem oneN_no {ns : List Nat} (h : ns.length ≠ 1) : oneN (some ns) = none := by
 unfold oneN
 split
 . rename_i e; injection e with e; subst e; simp at h
 . rfl
theorem image_c (A A2 : Option Addr) (n c n2 c2 B : Nat) (ss : List BA) (ws : List (Int × BA)) (w : World) (a0 a1 : Addr) (h : Strs w B A n ss) (h2 : Wrs w B A2 n2 ws) (hB : B <= w.heap.size) (hn : n <= 1048576) (hn2 : n2 <= 1048576)
 (hD : diskB ss ws = true) (hE : Er w a0 a1) :
 Calls Tryz.prog 140 #[.agg #[sC A n c, sC A2 n2 c2]] w (RetIG w ss ws a0) := by
 have b0 := Box.new w 35 #[sC A n c, sC A2 n2 c2]
 have hx0 := (Nx.refl w).alloc (.cells #[sC A n c, sC A2 n2 c2] 35)
 have hn64 : 64 <= n := by have := (diskB_len64 hD).1; have := h.1; omega
 have HDs := qh (fun a => readP_size hD a)
 clear hD
 go_enter func140, ntmps140
 go_wp2_with fail
 generalize w.alloc (.cells #[sC A n c, sC A2 n2 c2] 35) = W at *
 go_loopw [4, 8] (fun v i wr => ∃ (k : Nat) (im : List Int), k <= 8 /\ i = ii k /\ (∃ u, u = v /\ RowI wr w.heap.size u im) /\ ImTo ss ws k im /\ Nx w wr /\ Box wr w.heap.size 35 #[sC A n c, sC A2 n2 c2]) (fun _ i _ => 8 - (intOf i).toNat)
 case atStart => exact ⟨0, [], oM, rfl, ⟨_, rfl, RowI.nil _ _⟩, ImTo.nil _ _, hx0, b0⟩
 case round =>
  obtain ⟨k, im, hk, rfl, ⟨u, rfl, hrow⟩, him, hnx, hb⟩ := hrel
  clear b0 hx0
  have HIm := qh him
  have Hlen := qh him.len
  clear him
  by_cases hlt : k < 8
  case neg =>
   obtain rfl : k = 8 := oM
   obtain ⟨A', c', rfl, hc', hS⟩ := hrow.slc
   have HF : Hid (RetIG w ss ws a0 (.returned (.tuple #[sC A' im.length c', .nilIface])) wr) := qh ⟨hnx, .inr ⟨A', c', im, rfl, HIm.out, hS⟩⟩
   clear hrow hS hc'
   go_wp2
   go_ret2
   exact HF.out
  have HG : Hid (ldI ss ws k = oneN (rdN (readP ss ws (2 + k)))) := qh rfl
  have hc0 := hb.c0
  have hc1 := hb.c1
  go_wp2_with fail
  rw [show ((2 : Int) + (k : Int)) = ((2 + k : Nat) : Int) by omega]
  refine (newest_c A A2 n c n2 c2 B (2 + k) ss ws _ (h.below hnx hB) (h2.below hnx hB) (ntr hB hnx.size) oM hn hn2).mono ?_
  rintro e w1 ⟨rfl, hk1⟩
  have hrow1 := hrow.nx hk1
  have hnx1 := hnx.trans hk1
  have hb1 := hb.nx hk1
  clear hrow hnx hb hc0 hc1
  go_wp2_with fail
  refine (sealedNumbers_c (readP ss ws (2 + k)) _ a0 a1 (by have := HDs.out (2 + k); omega) (hE.nx hnx1)).mono ?_
  rintro e w2 ⟨hk2, hno, hyes⟩
  have hrow2 := hrow1.nx hk2
  have hnx2 := hnx1.trans hk2
  have hb2 := hb1.nx hk2
  clear hrow1 hb1
  cases hr : rdN (readP ss ws (2 + k)) with
  | none =>
    obtain rfl := hno hr
    have HF : Hid (ldI ss ws k = none) := qh (by rw [HG.out, hr]; rfl)
    clear hno hyes hr
    go_wp2
    go_ret2
    exact ⟨hnx2, .inl ⟨⟨k, hlt, HF.out⟩, rfl⟩⟩
  | some ns =>
    obtain ⟨Ag, cg, rfl, hR, hcg⟩ := hyes ns hr
    by_cases h1 : ns.length = 1
    case neg =>
     have HF : Hid (ldI ss ws k = none) := qh (by rw [HG.out, hr]; exact oneN_no h1)
     have hne : ((ns.length : Int) != 1) = true := by rw [bne_iff_ne]; omega
     obtain ⟨e0, _⟩ := hE.nx hnx2
     clear hno hyes hr hR
     go_wp2
     go_quiet (fail)
     go_wp2
     go_ret2
     exact ⟨hnx2.drewN _, .inl ⟨⟨k, hlt, HF.out⟩, rfl⟩⟩
    obtain ⟨x, rfl⟩ : ∃ x, ns = [x] := by
     match ns, h1 with
     | [x], _ => exact ⟨x, rfl⟩
    have HF : Hid (ldI ss ws k = some (x : Int)) := qh (by rw [HG.out, hr]; rfl)
    obtain ⟨bb, off, rfl, hbb, hcell⟩ := hR (by simp)
    have p0 : w2.cell? ⟨bb, off, none⟩ = some (ii (x : Int)) := hcell 0 (by simp)
    have HI1 := qh (HIm.out.snoc HF.out)
    clear hno hyes hr hR hcell h1
    have hz3 := (Nx.refl w2).alloc (.cells #[ii (x : Int)] 3)
    have HR3 := qh (hrow2.nx hz3)
    have HB3 := qh (Box.new w2 3 #[ii (x : Int)])
    have hnx3 := hnx2.trans hz3
    have hb3 := hb2.nx hz3
    have hl9 : im.length <= 1048576 := by have := Hlen.out; omega
    have hsz3 := hnx3.size
    clear hrow2 hb2
    simp only [List.length_cons, List.length_nil] at hcg ⊢
    go_wp2_with (at_builtin; refine wpList_addI rfl _ _ rfl w.heap.size w2.heap.size _ im (x : Int) rfl rfl HR3.out HB3.out hl9 hsz3 ?_)
    intro A9 k9 w9 hrow9 hgr
    have hnx9 := hgr.nx w hnx3 nle
    have hb9 := hgr.box _ _ _ dC hb3
    clear hb3 hgr HR3 HB3
    go_wp2
    go_roundw
    case rel => exact ⟨k + 1, im ++ [(x : Int)], oM, by go_num, ⟨_, rfl, hrow9⟩, HI1.out, hnx9, hb9⟩
    case measure => simp [intOf]; omega
theorem Sr.rowfar {w : World} {lo hi m g : Nat} {A : Option Addr} {t : TypeId} {f : Nat -> Value} (h : Sr w lo hi A t m f) (hg : g < lo) (ds : Array Value) : Sr (w.setRow g ds) lo hi A t m f := fun hm => by
 obtain ⟨k, e, hl, hh, ho⟩ := h hm; exact ⟨k, e, hl, hh, ho.rowfar oM ds⟩
theorem VlP.rowfar {w : World} {lo mid hi g : Nat} {V : Vl} (h : VlP w lo mid hi V) (hg : g < lo) (ds : Array Value) : VlP (w.setRow g ds) lo mid hi V :=
 have h' : g < mid := Nat.lt_of_lt_of_le hg h.le
 ⟨h.tab.rowfar hg ds, h.mks.rowfar hg ds, h.row.rowfar h' ds, fun k hk => (h.chs k hk).rowfar h' ds, h.img.rowfar h' ds, h.dj, h.cap, h.cap3, h.le, h.le2⟩
theorem newU_super {ss : List BA} {ws : List (Int × BA)} {g b p q s : Int} {xs : List Int} {ms : List Mrk} (h : newU (rdU (readP ss ws 0)) (rdU (readP ss ws 1)) = some ((g, b, p, q, xs, ms), s)) : superB g b p q xs ms = true := by
 rcases newU_from h with e | e
 . exact rdU_super e
 . exact rdU_super e
theorem ld_small {ss : List BA} {ws : List (Int × BA)} {g b p q : Int} {xs : List Int} {ms : List Mrk} {gs : List SgR} {im : List Int} (hD : diskB ss ws = true) (hs : superB g b p q xs ms = true) (hg : GsTo ss ws xs xs.length gs) (hi : ImTo ss ws 8 im) (Ax : Option Addr) (cx : Nat) (Am : Option Addr) (cm : Nat) (Ag : Option Addr) (cg : Nat) (Ai : Option Addr) (ci : Nat) :
 VlN ⟨g, b, p, q, Ax, cx, xs, Am, cm, ms, Ag, cg, gs, Ai, ci, im⟩ 1048576 /\ AllM ms := by
 obtain ⟨_, _, _, _, h5, h6⟩ := superB_yes hs
 have h1 := (tbB_yes h5).1
 have h2 := (msB_yes h6).1
 have h3 := hg.len
 have h4 := hi.len
 refine ⟨⟨show xs.length <= _ by omega, show ms.length <= _ by omega, show gs.length <= _ by omega, fun k hk => ?_, show im.length <= _ by omega⟩, msB_all h6⟩
 have hk' : k < gs.length := hk
 have hv := v_at (gs := gs) (hs := xs.map (ldS ss ws)) (by rw [hg.v, List.take_length, List.map_map]; rfl) k
 have hkx : k < xs.length := oM
 have e : (xs.map (ldS ss ws)).getD k sgZ = ldS ss ws xs[k] := by
  rw [gdE, List.getElem?_map, List.getElem?_eq_getElem hkx]; rfl
 rw [e] at hv
 have hv2 : (gs.getD k sgZ).cs = (ldS ss ws xs[k]).cs := congrArg (fun q : Sg4 => q.2.2.2) hv
 show (gs.getD k sgZ).cs.length <= 1048576
 rw [hv2]
 unfold ldS
 cases hq : ldG ss ws xs[k] with
 | none => exact Nat.zero_le _
 | some q =>
   have h7 := rdG_short hq
   have h8 := readP_size hD xs[k].toNat
   show q.2.2.2.length <= 1048576
   omega
theorem diskVault_c (A A2 : Option Addr) (n c n2 c2 B : Nat) (ss : List BA) (ws : List (Int × BA)) (w : World) (a0 a1 : Addr) (h : Strs w B A n ss) (h2 : Wrs w B A2 n2 ws) (hB : B <= w.heap.size) (hn : n <= 1048576) (hn2 : n2 <= 1048576) (hD : diskB ss ws = true) (hE : Er w a0 a1) (hM : Mx w) (hEt : Et w) :
 Calls Tryz.prog 65 #[.agg #[sC A n c, sC A2 n2 c2]] w (RetLd w (ldV ss ws)) := by
 have r0 : Box ((w.alloc (.cells #[sC A n c, sC A2 n2 c2] 35)).alloc (.cells #[ii 0, ii 0, ii 0, ii 0, nsl, nsl, nsl, nsl] 49)) (w.heap.size + 1) 49 #[ii 0, ii 0, ii 0, ii 0, nsl, nsl, nsl, nsl] := by have := Box.new (w.alloc (.cells #[sC A n c, sC A2 n2 c2] 35)) 49 #[ii 0, ii 0, ii 0, ii 0, nsl, nsl, nsl, nsl]; rwa [World.size_alloc] at this
 have e0 : Box ((w.alloc (.cells #[sC A n c, sC A2 n2 c2] 35)).alloc (.cells #[ii 0, ii 0, ii 0, ii 0, nsl, nsl, nsl, nsl] 49)) w.heap.size 35 #[sC A n c, sC A2 n2 c2] := (Box.new w _ _).alloc _
 have hx0 := ((Nx.refl w).alloc (.cells #[sC A n c, sC A2 n2 c2] 35)).alloc (.cells #[ii 0, ii 0, ii 0, ii 0, nsl, nsl, nsl, nsl] 49)
 go_enter func65, ntmps65
 go_wp2_with fail
 generalize (w.alloc (.cells #[sC A n c, sC A2 n2 c2] 35)).alloc (.cells #[ii 0, ii 0, ii 0, ii 0, nsl, nsl, nsl, nsl] 49) = W at *
 obtain ⟨gR, Hg⟩ := nM (w.heap.size + 1)
 have hgR : w.heap.size <= gR := by have := Hg.out; omega
 have hgR1 : w.heap.size < gR := by have := Hg.out; omega
 rw [Hg.out] at r0 ⊢
 have hltR0 := r0.lt
 have h1n : 1 < n := by have := (diskB_len64 hD).1; have := h.1; omega
 have HD := qh hD
 clear hD
 have z0 := e0.c0
 have z1 := e0.c1
 go_wp2_with fail
 refine (newestSuper_c A A2 n c n2 c2 B ss ws _ a0 a1 (h.below hx0 hB) (h2.below hx0 hB) (ntr hB hx0.size) h1n hn hn2 (by have := readP_size HD.out 0; omega) (by have := readP_size HD.out 1; omega) (hE.nx hx0) (hM.nx hx0) (hEt.nx hx0)).mono ?_
 rintro e w2 ⟨hnx2, h1, h2'⟩
 have r2 := r0.nx hnx2
 have e2 := e0.nx hnx2
 have hx2 := hx0.trans hnx2
 have hltR : gR < W.heap.size := hltR0
 have hlt2 := r2.lt
 clear r0 e0 z0 z1 hltR0
 cases hu : newU (rdU (readP ss ws 0)) (rdU (readP ss ws 1)) with
 | none =>
   have HA := qh (ldV_none hu)
   have he := h1 hu
   unfold slE at he
   subst he
   clear h1 h2' hu
   go_wp2_with fail
   have r3 := r2.alloc (.cells #[ii 0, ii 0, ii 0, ii 0, nsl, nsl] 26)
   have hx3 := hx2.alloc (.cells #[ii 0, ii 0, ii 0, ii 0, nsl, nsl] 26)
   change Calls _ _ _ (w2.alloc (.cells #[ii 0, ii 0, ii 0, ii 0, nsl, nsl] 26)) _
   generalize w2.alloc (.cells #[ii 0, ii 0, ii 0, ii 0, nsl, nsl] 26) = w3 at *
   refine (slotCode_c 1 19 _ (hEt.nx hx3)).mono ?_
   rintro e w4 ⟨rfl, hnx4⟩
   have r4 := r3.nx hnx4
   have hx4 := hx3.trans hnx4
   have rq := r4.row #[ii 0, ii 0, ii 0, ii 0, nsl, nsl, nsl, nsl]
   have hnf := hx4.setRow hgR #[ii 0, ii 0, ii 0, ii 0, nsl, nsl, nsl, nsl]
   go_wp2_with (refine wpList_store_row rfl _ _ _ rfl gR #[ii 0, ii 0, ii 0, ii 0, nsl, nsl, nsl, nsl] rfl rfl 49 #[ii 0, ii 0, ii 0, ii 0, nsl, nsl, nsl, nsl] r4 (by kernel_rfl) rfl (by simp [Value.oneCell']) ?_)
   generalize w4.setRow gR #[ii 0, ii 0, ii 0, ii 0, nsl, nsl, nsl, nsl] = Wf at *
   obtain ⟨g0, g1, g2, g3, g4, g5, g6, g7⟩ := rq.e8
   exact bodyPost_ret (v := .tuple #[.agg #[ii 0, ii 0, ii 0, ii 0, nsl, nsl, nsl, nsl], ii 19]) (by simp [results, results65, go_sem, g0, g1, g2, g3, g4, g5, g6, g7]) rfl ⟨zVl, w.heap.size, by rw [HA.out]; rfl, by rw [HA.out]; exact VlS.refl _, VlP.zero _ hnf.size, hnf⟩
 | some us =>
   obtain ⟨⟨g, b, p, q, xs, ms⟩, sl⟩ := us
   obtain ⟨Ax, cx, Am, cm, he, hcc, hS1, hM1⟩ := h2' _ _ hu
   replace he : e = .returned (.tuple #[.agg #[ii g, ii b, ii p, ii q, sC Ax xs.length cx, sC Am ms.length cm], ii sl, .nilIface]) := he
   replace hS1 : SlI w2 W.heap.size Ax xs := hS1
   replace hM1 : SlM w2 W.heap.size Am ms := hM1
   replace hcc : xs.length <= cx := hcc
   have HCC := qh hcc
   have HU := qh hu
   have hsup := newU_super hu
   have HSup := qh hsup
   have htb := (superB_yes hsup).2.2.2.2.1
   subst he
   clear h1 h2' hu hcc hsup
   have hz3 := (Nx.refl w2).alloc (.cells #[ii g, ii b, ii p, ii q, sC Ax xs.length cx, sC Am ms.length cm] 26)
   have s3 := Box.new w2 26 #[ii g, ii b, ii p, ii q, sC Ax xs.length cx, sC Am ms.length cm]
   have r3 := r2.nx hz3
   have e3 := e2.nx hz3
   have hx3 := hx2.trans hz3
   have hS3 := (hS1.sr.nx hz3).up hz3.size
   have hM3 := (hM1.sr.nx hz3).up hz3.size
   have hT3 := hS1.row.below hz3 nle
   have hzz : w2.heap.size < (w2.alloc (.cells #[ii g, ii b, ii p, ii q, sC Ax xs.length cx, sC Am ms.length cm] 26)).heap.size := by simp
   have hlW : W.heap.size <= (w2.alloc (.cells #[ii g, ii b, ii p, ii q, sC Ax xs.length cx, sC Am ms.length cm] 26)).heap.size := ntr hnx2.size hz3.size
   obtain ⟨y0, y1, y2, y3, y4, y5⟩ := s3.d6
   have z0 := e3.c0
   have z1 := e3.c1
   clear r2 e2 hx2 hS1 hM1
   go_wp2_with fail
   generalize w2.alloc (.cells #[ii g, ii b, ii p, ii q, sC Ax xs.length cx, sC Am ms.length cm] 26) = w3 at *
   obtain ⟨gS, HgS⟩ := nM (w2.heap.size)
   rw [HgS.out] at s3 hzz hT3 y0 y1 y2 y3 y4 y5 ⊢
   refine (segsIn_c A A2 Ax n c n2 c2 cx gS ss ws xs _ a0 a1 (h.below hx3 hB |>.more (Nat.le_of_lt (Nat.lt_of_le_of_lt hB (by have := hnx2.size; have := hx0.size; have := HgS.out; omega)))) (h2.below hx3 hB |>.more (by have := hnx2.size; have := hx0.size; have := HgS.out; omega)) hT3 (Nat.le_of_lt hzz) hn hn2 HD.out htb (hE.nx hx3)).mono ?_
   rintro e w4 ⟨hk4, hret⟩
   have r4 := r3.nx hk4
   have e4 := e3.nx hk4
   have s4 := s3.nx hk4
   have hx4 := hx3.trans hk4
   have hS4 := hS3.nx hk4
   have hM4 := hM3.nx hk4
   clear r3 e3 s3 hS3 hM3 z0 z1 y0 y1 y2 y3 y4 y5
   rcases hret with ⟨⟨k, hk, hno⟩, rfl⟩ | ⟨Ag, cg, gs, rfl, hgs, hcg, hSg, hdj⟩
   . have HA := qh (ldV_seg HU.out hk hno)
     clear hno hk
     have rq := r4.row #[ii 0, ii 0, ii 0, ii 0, nsl, nsl, nsl, nsl]
     have hnf := hx4.setRow hgR #[ii 0, ii 0, ii 0, ii 0, nsl, nsl, nsl, nsl]
     go_wp2_with (refine wpList_store_row rfl _ _ _ rfl gR #[ii 0, ii 0, ii 0, ii 0, nsl, nsl, nsl, nsl] rfl rfl 49 #[ii 0, ii 0, ii 0, ii 0, nsl, nsl, nsl, nsl] r4 (by kernel_rfl) rfl (by simp [Value.oneCell']) ?_)
     generalize w4.setRow gR #[ii 0, ii 0, ii 0, ii 0, nsl, nsl, nsl, nsl] = Wf at *
     obtain ⟨g0, g1, g2, g3, g4, g5, g6, g7⟩ := rq.e8
     exact bodyPost_ret (v := .tuple #[.agg #[ii 0, ii 0, ii 0, ii 0, nsl, nsl, nsl, nsl], ii 10]) (by simp [results, results65, go_sem, g0, g1, g2, g3, g4, g5, g6, g7]) rfl ⟨zVl, w.heap.size, by rw [HA.out]; rfl, by rw [HA.out]; exact VlS.refl _, VlP.zero _ hnf.size, hnf⟩
   have HGs := qh hgs
   have HDj := qh hdj
   have HCG := qh hcg
   clear hgs hdj hcg
   have z0 := e4.c0
   have z1 := e4.c1
   go_wp2_with fail
   refine (image_c A A2 n c n2 c2 B ss ws _ a0 a1 (h.below hx4 hB) (h2.below hx4 hB) (ntr hB hx4.size) hn hn2 HD.out (hE.nx hx4)).mono ?_
   rintro e w5 ⟨hk5, hret⟩
   have r5 := r4.nx hk5
   have s5 := s4.nx hk5
   have hx5 := hx4.trans hk5
   have hS5 := hS4.nx hk5
   have hM5 := hM4.nx hk5
   have hSg5 := hSg.nx hk5
   have hl4 : w3.heap.size <= w4.heap.size := hk4.size
   clear r4 e4 s4 hS4 hM4 z0 z1 hSg
   rcases hret with ⟨⟨k, hk, hno⟩, rfl⟩ | ⟨Ai, ci, im, rfl, him, hSi⟩
   . have HA := qh (ldV_img HU.out hk hno)
     clear hno hk
     have rq := r5.row #[ii 0, ii 0, ii 0, ii 0, nsl, nsl, nsl, nsl]
     have hnf := hx5.setRow hgR #[ii 0, ii 0, ii 0, ii 0, nsl, nsl, nsl, nsl]
     go_wp2_with (refine wpList_store_row rfl _ _ _ rfl gR #[ii 0, ii 0, ii 0, ii 0, nsl, nsl, nsl, nsl] rfl rfl 49 #[ii 0, ii 0, ii 0, ii 0, nsl, nsl, nsl, nsl] r5 (by kernel_rfl) rfl (by simp [Value.oneCell']) ?_)
     generalize w5.setRow gR #[ii 0, ii 0, ii 0, ii 0, nsl, nsl, nsl, nsl] = Wf at *
     obtain ⟨g0, g1, g2, g3, g4, g5, g6, g7⟩ := rq.e8
     exact bodyPost_ret (v := .tuple #[.agg #[ii 0, ii 0, ii 0, ii 0, nsl, nsl, nsl, nsl], ii 10]) (by simp [results, results65, go_sem, g0, g1, g2, g3, g4, g5, g6, g7]) rfl ⟨zVl, w.heap.size, by rw [HA.out]; rfl, by rw [HA.out]; exact VlS.refl _, VlP.zero _ hnf.size, hnf⟩
   have HIm := qh him
   clear him
   have hz6 := (Nx.refl w5).alloc (.cells #[ii g, ii b, ii p, ii q, sC Ax xs.length cx, sC Am ms.length cm, sC Ag gs.length cg, sC Ai im.length ci] 49)
   have v6 := Box.new w5 49 #[ii g, ii b, ii p, ii q, sC Ax xs.length cx, sC Am ms.length cm, sC Ag gs.length cg, sC Ai im.length ci]
   have r6 := r5.nx hz6
   have hx6 := hx5.trans hz6
   have hP6 : VlP (w5.alloc (.cells #[ii g, ii b, ii p, ii q, sC Ax xs.length cx, sC Am ms.length cm, sC Ag gs.length cg, sC Ai im.length ci] 49)) W.heap.size w3.heap.size (w5.alloc (.cells #[ii g, ii b, ii p, ii q, sC Ax xs.length cx, sC Am ms.length cm, sC Ag gs.length cg, sC Ai im.length ci] 49)).heap.size ⟨g, b, p, q, Ax, cx, xs, Am, cm, ms, Ag, cg, gs, Ai, ci, im⟩ :=
    ⟨hS5.nx hz6, hM5.nx hz6, (hSg5.row.sr.nx hz6).up hz6.size, fun k hk => ((hSg5.chs k hk).sr.nx hz6).up hz6.size, ((hSi.low hl4).sr.nx hz6).up hz6.size, HDj.out, HCC.out, HCG.out, hlW, by have := hk4.size; have := hk5.size; have := hz6.size; omega⟩
   obtain ⟨y0, y1, y2, y3, y4, y5⟩ := s5.d6
   obtain ⟨x0, x1, x2, x3, x4, x5, x6, x7⟩ := v6.e8
   clear r5 hx5 hS5 hM5 hSg5 hSi
   go_wp2_with fail
   generalize w5.alloc (.cells #[ii g, ii b, ii p, ii q, sC Ax xs.length cx, sC Am ms.length cm, sC Ag gs.length cg, sC Ai im.length ci] 49) = w6 at *
   obtain ⟨gV, HgV⟩ := nM (w5.heap.size)
   rw [HgV.out] at v6 x0 x1 x2 x3 x4 x5 x6 x7 ⊢
   clear y0 y1 y2 y3 y4 y5 x0 x1 x2 x3 x4 x5 x6 x7 s5
   obtain ⟨hNs, hAm⟩ := ld_small HD.out HSup.out HGs.out HIm.out Ax cx Am cm Ag cg Ai ci
   have HW := qh (ldW_s (g := g) (b := b) (p := p) (t := q) (ms := ms) HGs.out HIm.out Ax cx Am cm Ag cg Ai ci)
   have HOk := qh (ldOk_of (u := (g, b, p, q, xs, ms)) HGs.out HIm.out)
   refine (vaultRight_c ⟨g, b, p, q, Ax, cx, xs, Am, cm, ms, Ag, cg, gs, Ai, ci, im⟩ w6.heap.size w6 (hP6.own.vlt) nle hNs HCC.out HCG.out hAm).mono ?_
   rintro e w7 ⟨rfl, hk7⟩
   rw [<- HW.out.ok]
   have r7 := r6.nx hk7
   have hx7 := hx6.trans hk7
   have hP7 := (hP6.nx hk7).up hk7.size
   have v7 := v6.nx hk7
   clear r6 hx6 hP6 v6 hNs hAm
   obtain ⟨x0, x1, x2, x3, x4, x5, x6, x7⟩ := v7.e8
   cases hv : (ldW ss ws (g, b, p, q, xs, ms)).ok with
   | false =>
     have HA := qh (ldV_wrong HU.out hv)
     clear hv x0 x1 x2 x3 x4 x5 x6 x7
     have rq := r7.row #[ii 0, ii 0, ii 0, ii 0, nsl, nsl, nsl, nsl]
     have hnf := hx7.setRow hgR #[ii 0, ii 0, ii 0, ii 0, nsl, nsl, nsl, nsl]
     go_wp2_with (refine wpList_store_row rfl _ _ _ rfl gR #[ii 0, ii 0, ii 0, ii 0, nsl, nsl, nsl, nsl] rfl rfl 49 #[ii 0, ii 0, ii 0, ii 0, nsl, nsl, nsl, nsl] r7 (by kernel_rfl) rfl (by simp [Value.oneCell']) ?_)
     generalize w7.setRow gR #[ii 0, ii 0, ii 0, ii 0, nsl, nsl, nsl, nsl] = Wf at *
     obtain ⟨g0, g1, g2, g3, g4, g5, g6, g7⟩ := rq.e8
     exact bodyPost_ret (v := .tuple #[.agg #[ii 0, ii 0, ii 0, ii 0, nsl, nsl, nsl, nsl], ii 10]) (by simp [results, results65, go_sem, g0, g1, g2, g3, g4, g5, g6, g7]) rfl ⟨zVl, w.heap.size, by rw [HA.out]; rfl, by rw [HA.out]; exact VlS.refl _, VlP.zero _ hnf.size, hnf⟩
   | true =>
     have HA := qh (ldV_yes HU.out HOk.out hv)
     clear hv
     have rq := r7.row #[ii g, ii b, ii p, ii q, sC Ax xs.length cx, sC Am ms.length cm, sC Ag gs.length cg, sC Ai im.length ci]
     have hnf := hx7.setRow hgR #[ii g, ii b, ii p, ii q, sC Ax xs.length cx, sC Am ms.length cm, sC Ag gs.length cg, sC Ai im.length ci]
     have hvf := hP7.rowfar hltR #[ii g, ii b, ii p, ii q, sC Ax xs.length cx, sC Am ms.length cm, sC Ag gs.length cg, sC Ai im.length ci]
     have hzf := size_setRow w7 gR #[ii g, ii b, ii p, ii q, sC Ax xs.length cx, sC Am ms.length cm, sC Ag gs.length cg, sC Ai im.length ci]
     go_wp2_with (refine wpList_store_row rfl _ _ _ rfl gR #[ii g, ii b, ii p, ii q, sC Ax xs.length cx, sC Am ms.length cm, sC Ag gs.length cg, sC Ai im.length ci] rfl rfl 49 #[ii 0, ii 0, ii 0, ii 0, nsl, nsl, nsl, nsl] r7 (by kernel_rfl) rfl (by simp [Value.oneCell']) ?_)
     generalize w7.setRow gR #[ii g, ii b, ii p, ii q, sC Ax xs.length cx, sC Am ms.length cm, sC Ag gs.length cg, sC Ai im.length ci] = Wf at *
     obtain ⟨g0, g1, g2, g3, g4, g5, g6, g7⟩ := rq.e8
     exact bodyPost_ret (v := .tuple #[.agg #[ii g, ii b, ii p, ii q, sC Ax xs.length cx, sC Am ms.length cm, sC Ag gs.length cg, sC Ai im.length ci], ii 0]) (by simp [results, results65, go_sem, g0, g1, g2, g3, g4, g5, g6, g7]) rfl ⟨⟨g, b, p, q, Ax, cx, xs, Am, cm, ms, Ag, cg, gs, Ai, ci, im⟩, w3.heap.size, by rw [HA.out]; rfl, by rw [HA.out]; exact HW.out, (hvf.low hx0.size).up oM, hnf⟩
theorem implLoadVault_c (A A2 : Option Addr) (n c n2 c2 B : Nat) (ss : List BA) (ws : List (Int × BA)) (w : World) (a0 a1 : Addr) (h : Strs w B A n ss) (h2 : Wrs w B A2 n2 ws) (hB : B <= w.heap.size) (hn : n <= 1048576) (hn2 : n2 <= 1048576) (hE : Er w a0 a1) (hM : Mx w) (hEt : Et w) :
 Calls Tryz.prog 21 #[.agg #[sC A n c, sC A2 n2 c2]] w (RetLd w (ldA ss ws)) := by
 have r0 : Box ((w.alloc (.cells #[sC A n c, sC A2 n2 c2] 35)).alloc (.cells #[ii 0, ii 0, ii 0, ii 0, nsl, nsl, nsl, nsl] 49)) (w.heap.size + 1) 49 #[ii 0, ii 0, ii 0, ii 0, nsl, nsl, nsl, nsl] := by have := Box.new (w.alloc (.cells #[sC A n c, sC A2 n2 c2] 35)) 49 #[ii 0, ii 0, ii 0, ii 0, nsl, nsl, nsl, nsl]; rwa [World.size_alloc] at this
 have e0 : Box ((w.alloc (.cells #[sC A n c, sC A2 n2 c2] 35)).alloc (.cells #[ii 0, ii 0, ii 0, ii 0, nsl, nsl, nsl, nsl] 49)) w.heap.size 35 #[sC A n c, sC A2 n2 c2] := (Box.new w _ _).alloc _
 have hx0 := ((Nx.refl w).alloc (.cells #[sC A n c, sC A2 n2 c2] 35)).alloc (.cells #[ii 0, ii 0, ii 0, ii 0, nsl, nsl, nsl, nsl] 49)
 go_enter func21, ntmps21
 go_wp2_with fail
 generalize (w.alloc (.cells #[sC A n c, sC A2 n2 c2] 35)).alloc (.cells #[ii 0, ii 0, ii 0, ii 0, nsl, nsl, nsl, nsl] 49) = W at *
 obtain ⟨gR, Hg⟩ := nM (w.heap.size + 1)
 have hgR : w.heap.size <= gR := by have := Hg.out; omega
 have hgR1 : w.heap.size < gR := by have := Hg.out; omega
 rw [Hg.out] at r0 ⊢
 have hltR0 := r0.lt
 refine (isRight_c A A2 n c n2 c2 B ss ws _ (h.below hx0 hB) (h2.below hx0 hB) (ntr hB hx0.size) hn hn2).mono ?_
 rintro e w1 ⟨rfl, hnx1⟩
 have r1 := r0.nx hnx1
 have e1 := e0.nx hnx1
 have hx1 := hx0.trans hnx1
 clear r0 e0
 cases hD : diskB ss ws with
 | false =>
   have HA := qh (ldA_bad hD)
   clear hD
   have rq := r1.row #[ii 0, ii 0, ii 0, ii 0, nsl, nsl, nsl, nsl]
   have hnf := hx1.setRow hgR #[ii 0, ii 0, ii 0, ii 0, nsl, nsl, nsl, nsl]
   go_wp2_with (refine wpList_store_row rfl _ _ _ rfl gR #[ii 0, ii 0, ii 0, ii 0, nsl, nsl, nsl, nsl] rfl rfl 49 #[ii 0, ii 0, ii 0, ii 0, nsl, nsl, nsl, nsl] r1 (by kernel_rfl) rfl (by simp [Value.oneCell']) ?_)
   generalize w1.setRow gR #[ii 0, ii 0, ii 0, ii 0, nsl, nsl, nsl, nsl] = Wf at *
   obtain ⟨g0, g1, g2, g3, g4, g5, g6, g7⟩ := rq.e8
   exact bodyPost_ret (v := .tuple #[.agg #[ii 0, ii 0, ii 0, ii 0, nsl, nsl, nsl, nsl], ii 1]) (by simp [results, results21, go_sem, g0, g1, g2, g3, g4, g5, g6, g7]) rfl ⟨zVl, w.heap.size, by rw [HA.out]; rfl, by rw [HA.out]; exact VlS.refl _, VlP.zero _ hnf.size, hnf⟩
 | true =>
   have HA := qh (ldA_yes hD)
   have HD := qh hD
   clear hD
   have z0 := e1.c0
   have z1 := e1.c1
   have hltR := r1.lt
   go_wp2_with fail
   refine (diskVault_c A A2 n c n2 c2 B ss ws _ a0 a1 (h.below hx1 hB) (h2.below hx1 hB) (ntr hB hx1.size) hn hn2 HD.out (hE.nx hx1) (hM.nx hx1) (hEt.nx hx1)).mono ?_
   rintro e w2 ⟨⟨g, b, p, q, Ax, cx, xs, Am, cm, ms, Ag, cg, gs, Ai, ci, im⟩, mid, rfl, hS, hP, hk2⟩
   have r2 := r1.nx hk2
   have hx2 := hx1.trans hk2
   have hl1 := hx1.size
   rw [<- HA.out] at hS ⊢
   clear r1 e1 z0 z1 hltR0
   obtain ⟨cd, Hcd⟩ := nM ((ldA ss ws).2)
   have HSv := qh hS
   rw [Hcd.out]
   simp only [Vl.v, Vl.cells]
   clear hS
   have rq := r2.row #[ii g, ii b, ii p, ii q, sC Ax xs.length cx, sC Am ms.length cm, sC Ag gs.length cg, sC Ai im.length ci]
   have hnf := hx2.setRow hgR #[ii g, ii b, ii p, ii q, sC Ax xs.length cx, sC Am ms.length cm, sC Ag gs.length cg, sC Ai im.length ci]
   have hvf := hP.rowfar hltR #[ii g, ii b, ii p, ii q, sC Ax xs.length cx, sC Am ms.length cm, sC Ag gs.length cg, sC Ai im.length ci]
   have hzf := size_setRow w2 gR #[ii g, ii b, ii p, ii q, sC Ax xs.length cx, sC Am ms.length cm, sC Ag gs.length cg, sC Ai im.length ci]
   go_wp2_with (refine wpList_store_row rfl _ _ _ rfl gR #[ii g, ii b, ii p, ii q, sC Ax xs.length cx, sC Am ms.length cm, sC Ag gs.length cg, sC Ai im.length ci] rfl rfl 49 #[ii 0, ii 0, ii 0, ii 0, nsl, nsl, nsl, nsl] r2 (by kernel_rfl) rfl (by simp [Value.oneCell']) ?_)
   generalize w2.setRow gR #[ii g, ii b, ii p, ii q, sC Ax xs.length cx, sC Am ms.length cm, sC Ag gs.length cg, sC Ai im.length ci] = Wf at *
   obtain ⟨g0, g1, g2, g3, g4, g5, g6, g7⟩ := rq.e8
   exact bodyPost_ret (v := .tuple #[.agg #[ii g, ii b, ii p, ii q, sC Ax xs.length cx, sC Am ms.length cm, sC Ag gs.length cg, sC Ai im.length ci], ii cd]) (by simp [results, results21, go_sem, g0, g1, g2, g3, g4, g5, g6, g7]) rfl ⟨⟨g, b, p, q, Ax, cx, xs, Am, cm, ms, Ag, cg, gs, Ai, ci, im⟩, mid, by rw [Hcd.out]; rfl, HSv.out, (hvf.low hl1).up oM, hnf⟩
end
end Go.Proofs.YtieoiailjjnnoaaGreatDoor
