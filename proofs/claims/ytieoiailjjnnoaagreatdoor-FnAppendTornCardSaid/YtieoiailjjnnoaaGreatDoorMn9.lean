/-
  Texts of the proof, in their order.
  Conditions: those of each.
-/
import Derived.Test.YtieoiailjjnnoaaGreatDoorMn8
import Derived.Deep.QuietTactic
import Derived.BigQuiet
import Derived.StillTailTactics
import Derived.Outline
namespace Go.Proofs.YtieoiailjjnnoaaGreatDoor
set_option linter.unusedVariables false
open _root_.Go.Proofs.Tryz
set_option maxRecDepth 100000
set_option maxHeartbeats 16000000
section
open Go.RowKit
theorem l04Put_c (A A2 : Option Addr) (n c n2 c2 B : Nat) (ss : List BA) (ws : List (Int × BA)) (g b p t : Int) (Ax Am : Option Addr) (cx cm : Nat) (xs : List Int) (ms : List Mrk) (w : World) (h : Strs w B A n ss) (h2 : Wrs w B A2 n2 ws) (hs : Ins w B Ax xs) (hmk : Mks w B Am ms) (hB : B <= w.heap.size) (ha : 1 < n) (hn : n <= 1048576) (hn2 : n2 <= 1048575)
 (hr0 : (readP ss ws 0).size <= 65536) (hr1 : (readP ss ws 1).size <= 65536) (u : U6) (s : Int) (hu : newU (rdU (readP ss ws 0)) (rdU (readP ss ws 1)) = some (u, s)) (hok : superB (u.1 + 1) b p t xs ms = true) :
 Calls Tryz.prog 61 #[.agg #[sC A n c, sC A2 n2 c2], .agg #[ii g, ii b, ii p, ii t, sC Ax xs.length cx, sC Am ms.length cm]] w (RetWrite w A n c (ws ++ [(1 - s, nxtS u b p t xs ms)])) := by
 have hsl := newU_slot hu
 have hgn := newU_gen rfl rfl hu
 have e0 : Box (((w.alloc (.cells #[sC A n c, sC A2 n2 c2] 35)).alloc (.cells #[ii g, ii b, ii p, ii t, sC Ax xs.length cx, sC Am ms.length cm] 26)).alloc (.cells #[nsl, nsl] 35)) w.heap.size 35 #[sC A n c, sC A2 n2 c2] := ((Box.new w _ _).alloc _).alloc _
 have b0 : Box (((w.alloc (.cells #[sC A n c, sC A2 n2 c2] 35)).alloc (.cells #[ii g, ii b, ii p, ii t, sC Ax xs.length cx, sC Am ms.length cm] 26)).alloc (.cells #[nsl, nsl] 35)) (w.heap.size + 1) 26 #[ii g, ii b, ii p, ii t, sC Ax xs.length cx, sC Am ms.length cm] := by have := (Box.new (w.alloc (.cells #[sC A n c, sC A2 n2 c2] 35)) 26 #[ii g, ii b, ii p, ii t, sC Ax xs.length cx, sC Am ms.length cm]).alloc (.cells #[nsl, nsl] 35); rwa [World.size_alloc] at this
 have r0 : Box (((w.alloc (.cells #[sC A n c, sC A2 n2 c2] 35)).alloc (.cells #[ii g, ii b, ii p, ii t, sC Ax xs.length cx, sC Am ms.length cm] 26)).alloc (.cells #[nsl, nsl] 35)) (w.heap.size + 1 + 1) 35 #[nsl, nsl] := by have := Box.new ((w.alloc (.cells #[sC A n c, sC A2 n2 c2] 35)).alloc (.cells #[ii g, ii b, ii p, ii t, sC Ax xs.length cx, sC Am ms.length cm] 26)) 35 #[nsl, nsl]; rwa [World.size_alloc, World.size_alloc] at this
 have hx0 := (((Nx.refl w).alloc (.cells #[sC A n c, sC A2 n2 c2] 35)).alloc (.cells #[ii g, ii b, ii p, ii t, sC Ax xs.length cx, sC Am ms.length cm] 26)).alloc (.cells #[nsl, nsl] 35)
 go_enter func61, ntmps61
 go_wp2_with fail
 generalize (((w.alloc (.cells #[sC A n c, sC A2 n2 c2] 35)).alloc (.cells #[ii g, ii b, ii p, ii t, sC Ax xs.length cx, sC Am ms.length cm] 26)).alloc (.cells #[nsl, nsl] 35)) = W at *
 obtain ⟨gS, HgS⟩ := nM (w.heap.size + 1)
 obtain ⟨gD, HgD⟩ := nM (w.heap.size + 1 + 1)
 have hgS : w.heap.size <= gS := by have := HgS.out; omega
 have hgD : w.heap.size <= gD := by have := HgD.out; omega
 have hneE : w.heap.size ≠ gD := by have := HgD.out; omega
 have hneE2 : w.heap.size ≠ gS := by have := HgS.out; omega
 have hneS : gS ≠ gD := by have := HgS.out; have := HgD.out; omega
 rw [HgD.out, HgS.out]
 rw [HgS.out] at b0
 rw [HgD.out] at r0
 refine (l04Newest_c A A2 n c n2 c2 B ss ws _ (h.below hx0 hB) (h2.below hx0 hB) (ntr hB hx0.size) ha hn oM hr0 hr1).mono ?_
 rintro e w1 ⟨hnx1, _, h3⟩
 obtain ⟨Bx, dx, Bm, dm, he, hfit⟩ := h3 u s hu
 clear h3 hfit
 have HU := qh hu
 have HOK' := qh hok
 obtain ⟨ug, ub, up, uq, uxs, ums⟩ := u
 have HOK : Hid (superB (ug + 1) b p t xs ms = true) := HOK'
 replace hgn : 1 <= ug /\ ug <= 999999 := hgn
 replace he : e = .returned (.tuple #[.agg #[ii ug, ii ub, ii up, ii uq, sC Bx uxs.length dx, sC Bm ums.length dm], ii s]) := he
 subst he
 clear hu hok
 have e1 := e0.nx hnx1
 have b1 := b0.nx hnx1
 have r1 := r0.nx hnx1
 have hx1 := hx0.trans hnx1
 obtain ⟨y0, y1, y2, y3, y4, y5⟩ := b1.d6
 have yf := b1.frozen 0
 have ylt := b1.lt
 clear e0 b0 r0 hx0 hnx1
 go_wp2_with fail
 have e3 := (e1.far (p := ⟨gS, 0, none⟩) hneE2 (ii (ug + 1))).alloc (.cells #[ii ug, ii ub, ii up, ii uq, sC Bx uxs.length dx, sC Bm ums.length dm] 26)
 have b3 := (b1.set 0 (ii (ug + 1))).alloc (.cells #[ii ug, ii ub, ii up, ii uq, sC Bx uxs.length dx, sC Bm ums.length dm] 26)
 have r3 := (r1.far (p := ⟨gS, 0, none⟩) hneS.symm (ii (ug + 1))).alloc (.cells #[ii ug, ii ub, ii up, ii uq, sC Bx uxs.length dx, sC Bm ums.length dm] 26)
 have hx3 := (hx1.setCell (p := ⟨gS, 0, none⟩) hgS (ii (ug + 1))).alloc (.cells #[ii ug, ii ub, ii up, ii uq, sC Bx uxs.length dx, sC Bm ums.length dm] 26)
 simp only [List.setIfInBounds_toArray, List.set_cons_zero] at b3
 have hsw : IntKind.i64.wrap (1 - s) = 1 - s := IntWalk.i64_in _ (by rcases hsl with rfl | rfl <;> omega)
 clear y0 y1 y2 y3 y4 y5 yf ylt e1 b1 r1 hx1
 generalize (w1.setCell ⟨gS, 0, none⟩ (ii (ug + 1))).alloc (.cells #[ii ug, ii ub, ii up, ii uq, sC Bx uxs.length dx, sC Bm ums.length dm] 26) = w3 at *
 refine wp_lexA (kf4 (true :: true :: true :: [])) (fun w' => (CC w' w.heap.size 0 (sC A n c) /\ CC w' w.heap.size 1 (sC A2 n2 c2)) /\ (CC w' gS 0 (ii (ug + 1)) /\ CC w' gS 1 (ii b) /\ CC w' gS 2 (ii p) /\ CC w' gS 3 (ii t) /\ CC w' gS 4 (sC Ax xs.length cx) /\ CC w' gS 5 (sC Am ms.length cm))) (by exact ⟨⟨e3.c0, e3.c1⟩, b3.d6⟩) ?_
 refine hLr ?_
 refine hLc fun K hK => ?_
 go_simp
 refine (l04Text_c (ug + 1) b p t Ax Am cx cm B xs ms _ (hs.below (hx3.drew) hB) (hmk.below (hx3.drew) hB) (ntr hB hx3.drew.size) HOK.out).mono ?_; rintro e w4 ⟨rfl, hnx4⟩; have e4 := e3.nx (Nx.drew_r hnx4); have b4 := b3.nx (Nx.drew_r hnx4); have r4 := r3.nx (Nx.drew_r hnx4); have hx4 := hx3.trans (Nx.drew_r hnx4)
 go_wp2_with fail
 refine hK.out _ _ (by exact ⟨⟨e4.c0, e4.c1⟩, b4.d6⟩) ?_
 clear hK K
 refine nZ ?_
 refine hLc fun K hK => ?_
 go_simp
 refine (l01Write_c A A2 n c n2 c2 B ws (1 - s) _ _ (h2.below hx4 hB) (ntr hB hx4.size) oM).mono ?_; rintro e w5 ⟨A5, n5, c5, rfl, hW5, hnx5⟩; have e5 := e4.nx hnx5; have b5 := b4.nx hnx5; have r5 := r4.nx hnx5; have hx5 := hx4.trans hnx5; obtain ⟨m0, m1⟩ : w5.cell? ⟨gD, 0, none⟩ = some (nsl) /\ w5.cell? ⟨gD, 1, none⟩ = some (nsl) := ⟨r5.c0, r5.c1⟩; have mf0 := r5.frozen 0; have mf1 := r5.frozen 1; have mlt := r5.lt
 go_wp2_with fail
 refine hK.out _ _ (by exact ⟨⟨e5.c0, e5.c1⟩, b5.d6⟩) ?_
 clear hK K
 refine nZ ?_
 refine hLc fun K hK => ?_
 go_simp
 refine hK.out _ _ (by exact ⟨⟨((e5.far (p := ⟨gD, 0, none⟩) hneE _).far (p := ⟨gD, 1, none⟩) hneE _).c0, ((e5.far (p := ⟨gD, 0, none⟩) hneE _).far (p := ⟨gD, 1, none⟩) hneE _).c1⟩, ((b5.far (p := ⟨gD, 0, none⟩) hneS _).far (p := ⟨gD, 1, none⟩) hneS _).d6⟩) ?_
 clear hK K
 refine nZ ?_
 refine HL.done ?_
 clear m0 m1 mf0 mf1
 have rq := (r5.set0 (sC A n c)).set1 (sC A5 n5 c5)
 have hnf := (hx5.setCell (p := ⟨gD, 0, none⟩) hgD (sC A n c)).setCell (p := ⟨gD, 1, none⟩) hgD (sC A5 n5 c5)
 have hlt4 : gD < w4.heap.size := r4.lt
 have hWf := (hW5.far (p := ⟨gD, 0, none⟩) hlt4 (sC A n c)).far (p := ⟨gD, 1, none⟩) hlt4 (sC A5 n5 c5)
 go_wp2
 change bodyPost _ _ _ _ _ ((w5.setCell ⟨gD, 0, none⟩ (sC A n c)).setCell ⟨gD, 1, none⟩ (sC A5 n5 c5))
 generalize (w5.setCell ⟨gD, 0, none⟩ (sC A n c)).setCell ⟨gD, 1, none⟩ (sC A5 n5 c5) = Wf at *
 have q0 := rq.c0
 have q1 := rq.c1
 exact bodyPost_ret (v := .agg #[sC A n c, sC A5 n5 c5]) (by simp [results, results61, go_sem, q0, q1]) rfl ⟨A5, n5, c5, rfl, hWf.low oM, hnf⟩
theorem nxt_size {u : U6} {b p t : Int} {xs : List Int} {ms : List Mrk} (h : superB (u.1 + 1) b p t xs ms = true) : (nxtS u b p t xs ms).size <= 300 := by
 have h1 := (tbB_yes (superB_yes h).2.2.2.2.1).1
 have h2 := superB_yes h
 have h3 := (msB_yes h2.2.2.2.2.2).1
 have h4 := jn_all (wds_size h2.2.2.2.2.2)
 rw [wds_len] at h4
 unfold nxtS sealS
 rw [ByteArray.size_append, ByteArray.size_append, ByteArray.size_append, numsS_size, supN_len]
 have h5 : (⟨#[124]⟩ : BA).size = 1 := rfl
 have h6 : (⟨(sumD (numsS (supN (u.1 + 1) b p t xs) ++ ⟨#[124]⟩ ++ jn (wds ms))).toArray⟩ : BA).size <= 3 := by simp [ByteArray.size, sumD, pad_len]
 omega

def noS : List BA := List.replicate 64 ByteArray.empty
theorem noS_len : noS.length = 64 := by simp [noS]
theorem noS_at {i : Nat} (h : i < 64) : noS.getD i ByteArray.empty = ByteArray.empty := by
 unfold noS; rw [gdE, List.getElem?_replicate, if_pos h]; rfl
theorem made_noS (w : World) : OwnS (w.alloc (.cells (madeCells #[Value.string ByteArray.empty] 64) 9)) w.heap.size noS := by
 unfold OwnS
 rw [noS_len]
 refine (Own.made w #[Value.string ByteArray.empty] 64 9).congr fun i hi => ?_
 unfold strAt
 rw [noS_at hi]
 simp [Nat.mod_one]
theorem make64 (W : World) : (Instr.makeSlice 32 (ii 64) (ii 64)).run Tryz.prog W = .ok (sC (some ⟨W.heap.size, 0, none⟩) 64 64) (W.alloc (.cells (madeCells #[Value.string ByteArray.empty] 64) 9)) := by
 obtain ⟨i0, hi0, hz0, hz1, hz2⟩ := info_parts info_str
 have hmk := run_make_rowN (P := Tryz.prog) 32 9 i0 _ underlying32 hi0 hz0 .i64 .i64 64 64 nle (by rw [hz2]; omega) oM W
 rw [hz1] at hmk
 exact hmk
theorem specNewDisk_c (w : World) : Calls Tryz.prog 118 #[] w (RetDisk w noS []) := by
 have hmk := make64
 go_enter func118, ntmps118
 go_wp2
 have ho := Own.alloc (made_noS (w.alloc (.cells #[sC (some ⟨w.heap.size + 1, 0, none⟩) 64 64, sC (some ⟨w.heap.size + 1 + 1, 0, none⟩) 0 0] 35))) (.cells #[] 102)
 simp only [World.size_alloc] at ho
 have hx := (((Nx.refl w).alloc (.cells #[sC (some ⟨w.heap.size + 1, 0, none⟩) 64 64, sC (some ⟨w.heap.size + 1 + 1, 0, none⟩) 0 0] 35)).alloc (.cells (madeCells #[Value.string ByteArray.empty] 64) 9)).alloc (.cells #[] 102)
 have q := ((Box.new w 35 #[sC (some ⟨w.heap.size + 1, 0, none⟩) 64 64, sC (some ⟨w.heap.size + 1 + 1, 0, none⟩) 0 0]).alloc (.cells (madeCells #[Value.string ByteArray.empty] 64) 9)).alloc (.cells #[] 102)
 have q0 := q.c0
 have q1 := q.c1
 generalize ((w.alloc (.cells #[sC (some ⟨w.heap.size + 1, 0, none⟩) 64 64, sC (some ⟨w.heap.size + 1 + 1, 0, none⟩) 0 0] 35)).alloc (.cells (madeCells #[Value.string ByteArray.empty] 64) 9)).alloc (.cells #[] 102) = W at *
 exact bodyPost_ret (v := .agg #[sC (some ⟨w.heap.size + 1, 0, none⟩) 64 64, sC (some ⟨w.heap.size + 1 + 1, 0, none⟩) 0 0]) (by simp [results, results118, go_sem, q0, q1]) rfl
  ⟨_, 64, 64, _, 0, 0, rfl, ⟨noS_len, fun _ => ⟨_, rfl, oM, ho⟩⟩, ⟨rfl, fun h => absurd h oM⟩, hx⟩
def fmT (c : List Int) : Nat -> List BA
 | 0 => noS.set 0 (supT 1 0 0 0 [] [])
 | k + 1 => (fmT c k).set (2 + k) (sealS (numsS [(c.getD k 0).toNat]))
theorem fmT_len (c : List Int) : ∀ k, (fmT c k).length = 64
 | 0 => by show (noS.set 0 _).length = 64; rw [List.length_set, noS_len]
 | k + 1 => by show ((fmT c k).set _ _).length = 64; rw [List.length_set, fmT_len c k]
theorem super_new : superB 1 0 0 0 [] [] = true := by decide
theorem one_six {v : Int} (h0 : 0 <= v) (h1 : v <= 999999) : All6 [v.toNat] := fun k hk => by
 obtain rfl : k = 0 := by simpa using hk
 show v.toNat <= 999999
 omega
theorem numsS_one (n : Nat) : numsS [n] = ⟨(pad 6 n).toArray⟩ := by
 unfold numsS
 show (⟨(pad 6 n ++ []).toArray⟩ : BA) = _
 rw [List.append_nil]
theorem idx_not {xs : List Int} {x : Int} : ∀ {k : Nat}, NotTo xs k x -> k <= xs.length -> k <= idx xs x := by
 induction xs with
 | nil => intro k _ hk; simp at hk; omega
 | cons y xs ih =>
   intro k h hk
   rw [idx_cons]
   match k with
   | 0 => exact Nat.zero_le _
   | k + 1 =>
     have h0 := h 0 oM
     rw [if_neg (by simpa using h0)]
     have := ih (k := k) (fun j hj => by have := h (j + 1) oM; simpa using this) (by rw [List.length_cons] at hk; omega)
     omega
theorem idx_hit {xs : List Int} {x : Int} {k : Nat} (h : NotTo xs k x) (hk : k < xs.length) (he : xs.getD k 0 = x) : idx xs x = k := by
 have h1 := idx_not h oM
 have h2 := idx_lt hk he
 omega
theorem hasB_idx (xs : List Int) (x : Int) : hasB xs xs.length x = decide (idx xs x < xs.length) := by
 by_cases h : idx xs x < xs.length
 . rw [decide_eq_true h]; exact hasB_yes h h (idx_at h)
 . rw [decide_eq_false h]
   refine hasB_no fun j hj he => ?_
   have := idx_lt hj he
   omega
theorem isRet_hasB {b : Int} {gs : List SgR} {x : Int} {k : Nat} (hk : k = gs.length + 1) : hasB (retL b gs) k x = isRet b gs x := by
 subst hk
 have := hasB_idx (retL b gs) x
 rw [retL_len] at this
 exact this
def idxI (xs : List Int) (x : Int) : Int := if idx xs x < xs.length then (idx xs x : Int) else -1
theorem idxI_hit {xs : List Int} {x : Int} {k : Nat} (h : NotTo xs k x) (hk : k < xs.length) (he : xs.getD k 0 = x) : (k : Int) = idxI xs x := by
 unfold idxI
 rw [idx_hit h hk he, if_pos hk]
theorem idxI_none {xs : List Int} {x : Int} (h : NotTo xs xs.length x) : -1 = idxI xs x := by
 unfold idxI
 have := idx_not h nle
 rw [if_neg oM]
theorem idxI_ahd {b : Int} {gs : List SgR} {x : Int} (h : isRet b gs x = true) : idxI (retL b gs) x = (ahd b gs x : Int) := by
 unfold isRet at h
 simp only [decide_eq_true_eq] at h
 unfold idxI
 rw [retL_len, if_pos h]; rfl
theorem indexI_c (A : Option Addr) (n c B : Nat) (xs : List Int) (x : Int) (w : World) (h : Ins w B A xs) (hl : n = xs.length) (hn : xs.length <= 1048576) :
 Calls Tryz.prog 196 #[sC A n c, ii x] w fun e w' => e = .returned (ii (idxI xs x)) /\ w = w' := by
 have Hl := qh hl
 have hn' : n <= 1048576 := oM
 clear hl
 go_enter func196, ntmps196
 go_wp2
 go_loop [8] (fun i => ∃ k : Nat, k <= n /\ i = ii k /\ NotTo xs k x) (fun i => n - (intOf i).toNat)
 case atStart => exact ⟨0, Nat.zero_le _, rfl, NotTo.zero _ _⟩
 case round =>
  obtain ⟨k, hk, rfl, hto⟩ := hrel
  by_cases hlt : k < n
  . obtain ⟨b, off, rfl, hb, hc⟩ := h.at_ (k := k) (by have := Hl.out; omega)
    obtain ⟨y, Hy⟩ := nM (xs.getD k 0)
    rw [Hy.out] at hc
    by_cases he : y = x
    . have hd : (x == y) = true := by simp [he]
      have HR := qh (idxI_hit hto (by have := Hl.out; omega) (Hy.out.trans he))
      clear he
      go_wp2
      go_ret
      exact ⟨ret_int HR.out, rfl⟩
    . have hd : (x == y) = false := by rw [beq_eq_false_iff_ne]; exact fun h => he h.symm
      have HT := qh (hto.succ (by rw [Hy.out]; exact he))
      clear he
      go_wp2
      go_round
      case rel => exact ⟨k + 1, oM, by go_num, HT.out⟩
      case measure => simp [intOf]; omega
  . obtain rfl : k = n := oM
    have HR := qh (idxI_none (xs := xs) (x := x) (by rw [<- Hl.out]; exact hto))
    go_wp2
    go_ret
    exact ⟨ret_int HR.out, rfl⟩
theorem RowI.one (w : World) {B : Nat} (hB : B <= w.heap.size) (x : Int) : RowI (w.alloc (.cells #[ii x] 3)) B (sC (some ⟨w.heap.size, 0, none⟩) 1 1) [x] :=
 ⟨rfl, .inr ⟨_, 1, #[ii x], rfl, hB, heap_alloc_new w _, by simp, by unfold maxLen; omega, rfl, rfl⟩⟩
def retTo (b : Int) (gs : List SgR) (k : Nat) : List Int := b :: (gs.take k).map SgR.t
theorem retTo_succ {b : Int} {gs : List SgR} {k : Nat} (h : k < gs.length) : retTo b gs (k + 1) = retTo b gs k ++ [(gs.getD k sgZ).t] := by
 unfold retTo
 rw [List.take_succ_eq_append_getElem h, List.map_append, gdE, List.getElem?_eq_getElem h]; rfl
theorem retTo_len {b : Int} {gs : List SgR} {k : Nat} (h : k <= gs.length) : (retTo b gs k).length = k + 1 := by
 unfold retTo; simp; omega
theorem retTo_all (b : Int) (gs : List SgR) : retTo b gs gs.length = retL b gs := by
 unfold retTo retL; rw [List.take_length]
theorem l05Retained_c (V : Vl) (B : Nat) (w : World) (h : Vlt w B V) (hB : B <= w.heap.size) (hn : VlN V 1048576) :
 Calls Tryz.prog 138 #[V.v] w (RetIc w (retL V.b V.gs)) := by
 obtain ⟨g, b, p, t, A, c, xs, A2, c2, ms, A3, c3, gs, A4, c4, im⟩ := V
 obtain ⟨h, h2, h3, h4⟩ := h
 obtain ⟨hn, hn2, hn3, hn4, hn5⟩ := hn
 simp only [Vl.v, Vl.cells] at *
 obtain ⟨n, Hn⟩ := nM (gs.length)
 have HS := qh (fun k (hk : k < n) => retTo_succ (b := b) (gs := gs) (k := k) (by rw [Hn.out]; exact hk))
 have HL := qh (fun k (hk : k <= n) => retTo_len (b := b) (gs := gs) (k := k) (by rw [Hn.out]; exact hk))
 have HA := qh (retTo_all b gs)
 have h3' : ∀ k, k < n -> _ := fun k hk w' B' hw hB' => ((h3.below (w' := w') (B' := B') hw hB').row.at4 (k := k) (by rw [Hn.out]; exact hk))
 rw [Hn.out] at hn3 HA ⊢
 have b0 := (Box.new w 49 #[ii g, ii b, ii p, ii t, sC A xs.length c, sC A2 ms.length c2, sC A3 n c3, sC A4 im.length c4]).alloc (.cells #[ii b] 3)
 have hx0 := (Nx.refl w).alloc (.cells #[ii g, ii b, ii p, ii t, sC A xs.length c, sC A2 ms.length c2, sC A3 n c3, sC A4 im.length c4] 49)
 have hrow0 := RowI.one (w.alloc (.cells #[ii g, ii b, ii p, ii t, sC A xs.length c, sC A2 ms.length c2, sC A3 n c3, sC A4 im.length c4] 49)) (B := w.heap.size + 1) (by simp) b
 rw [World.size_alloc] at hrow0
 have hx1 := hx0.alloc (.cells #[ii b] 3)
 have hz1 : w.heap.size + 1 <= ((w.alloc (.cells #[ii g, ii b, ii p, ii t, sC A xs.length c, sC A2 ms.length c2, sC A3 n c3, sC A4 im.length c4] 49)).alloc (.cells #[ii b] 3)).heap.size := by simp
 clear hx0
 go_enter func138, ntmps138
 go_wp2_with fail
 generalize (w.alloc (.cells #[ii g, ii b, ii p, ii t, sC A xs.length c, sC A2 ms.length c2, sC A3 n c3, sC A4 im.length c4] 49)).alloc (.cells #[ii b] 3) = W at *
 go_loopw [3, 4] (fun v i wr => ∃ (k : Nat), k <= n /\ i = ii k /\ (∃ u, u = v /\ RowI wr (w.heap.size + 1) u (retTo b gs k)) /\ Nx w wr /\ Box wr w.heap.size 49 #[ii g, ii b, ii p, ii t, sC A xs.length c, sC A2 ms.length c2, sC A3 n c3, sC A4 im.length c4] /\ w.heap.size + 1 <= wr.heap.size) (fun _ i _ => n - (intOf i).toNat)
 case atStart => exact ⟨0, oM, rfl, ⟨_, rfl, hrow0⟩, hx1, b0, hz1⟩
 case round =>
  obtain ⟨k, hk, rfl, ⟨u, rfl, hrow⟩, hnx, hb, hsz⟩ := hrel
  clear hrow0 hx1 hz1 b0
  obtain ⟨_, _, _, _, _, _, c6, _⟩ := hb.e8
  by_cases hlt : k < n
  case neg =>
   obtain rfl : k = n := oM
   rw [HA.out] at hrow
   obtain ⟨A', c', rfl, hc', hS⟩ := hrow.slc
   go_wp2
   go_ret
   exact ⟨A', c', rfl, hc', hS.low oM, hnx⟩
  obtain ⟨bb, off, rfl, hbb, p0, p1, p2, p3⟩ := h3' k hlt _ _ hnx hB
  have HS' := qh (HS.out k hlt)
  have HLk := qh (HL.out k oM)
  obtain ⟨q, Hq⟩ := nM ((gs.getD k sgZ).t)
  rw [Hq.out] at p1 HS'
  clear p0 p2 p3
  have hx2 := (Nx.refl wr).alloc (.cells #[ii q] 3)
  have hbx := Box.new wr 3 #[ii q]
  have hrow1 := hrow.nx hx2
  have hnx2 := hnx.trans hx2
  have hb2 := hb.nx hx2
  have hsz2 := ntr hsz hx2.size
  have HR := qh hrow1
  have HB := qh hbx
  clear hrow hrow1 hbx
  go_wp2_with (at_builtin; refine wpList_addI rfl _ _ rfl (w.heap.size + 1) wr.heap.size _ (retTo b gs k) q rfl rfl HR.out HB.out (by have := HLk.out; omega) hsz2 ?_)
  intro A' k' w' hr' hg'
  have hnx3 := hg'.nx w hnx2 oM
  have hb3 := hg'.box _ _ _ dC hb2
  have hsz3 := ntr hsz2 hg'.size
  go_wp2
  go_roundw
  case rel => exact ⟨k + 1, oM, by go_num, ⟨_, rfl, by rw [HS'.out]; exact hr'⟩, hnx3, hb3, hsz3⟩
  case measure => simp [intOf]; omega
theorem l05Is_c (V : Vl) (x : Int) (B : Nat) (w : World) (h : Vlt w B V) (hB : B <= w.heap.size) (hn : VlN V 1048576) (hN : V.gs.length <= 4096) :
 Calls Tryz.prog 224 #[V.v, ii x] w fun e w' => e = .returned (.bool (isRet V.b V.gs x)) /\ Nx w w' := by
 have hR := l05Retained_c V B
 obtain ⟨g, b, p, t, A, c, xs, A2, c2, ms, A3, c3, gs, A4, c4, im⟩ := V
 simp only [Vl.v, Vl.cells] at *
 have hx0 := (Nx.refl w).alloc (.cells #[ii g, ii b, ii p, ii t, sC A xs.length c, sC A2 ms.length c2, sC A3 gs.length c3, sC A4 im.length c4] 49)
 have HR := qh hR
 clear hR
 go_enter func224, ntmps224
 go_wp2_with fail
 generalize w.alloc (.cells #[ii g, ii b, ii p, ii t, sC A xs.length c, sC A2 ms.length c2, sC A3 gs.length c3, sC A4 im.length c4] 49) = W at *
 refine (HR.out W (h.below hx0 hB) (ntr hB hx0.size) hn).mono ?_
 rintro e w1 ⟨A9, c9, rfl, _, hS, hx1⟩
 have hl := retL_len b gs
 have HI := qh (isRet_hasB (b := b) (gs := gs) (x := x) hl)
 obtain ⟨m, Hm⟩ := nM ((retL b gs).length)
 have Hl := qh hl
 clear hl
 rw [Hm.out] at HI ⊢
 go_wp2_with fail
 refine (l04In_c A9 m c9 _ (retL b gs) x _ hS.row (by rw [Hm.out]; exact Nat.le_refl _) (by rw [Hl.out]; omega)).mono ?_
 rintro e w2 ⟨rfl, rfl⟩
 rw [HI.out]
 go_wp2
 go_ret
 exact ⟨rfl, hx0.trans hx1⟩
theorem l05Same_c (A A2 : Option Addr) (c c2 B : Nat) (xs ys : List Int) (w : World) (h : Ins w B A xs) (h2 : Ins w B A2 ys) (hB : B <= w.heap.size) (hl : xs.length = 8) (hl2 : ys.length = 8) :
 Calls Tryz.prog 226 #[sC A 8 c, sC A2 8 c2] w fun e w' => e = .returned (.bool (decide (xs = ys))) /\ Nx w w' := by
 have Hl := qh hl
 have Hl2 := qh hl2
 clear hl hl2
 go_enter func226, ntmps226
 go_wp2
 go_loopw [5] (fun i wr => ∃ k : Nat, k <= 8 /\ i = ii k /\ (∀ j, j < k -> xs.getD j 0 = ys.getD j 0) /\ Nx w wr) (fun i _ => 8 - (intOf i).toNat)
 case atStart => exact ⟨0, Nat.zero_le _, rfl, fun j hj => absurd hj oM, Nx.refl _⟩
 case round =>
  obtain ⟨k, hk, rfl, hto, hnx⟩ := hrel
  by_cases hlt : k < 8
  . obtain ⟨b, off, rfl, hb, hc⟩ := (h.below hnx hB).at_ (k := k) (by rw [Hl.out]; exact hlt)
    obtain ⟨b2, off2, rfl, hb2, hc2⟩ := (h2.below hnx hB).at_ (k := k) (by rw [Hl2.out]; exact hlt)
    have HK := qh (fun (he : xs.getD k 0 = ys.getD k 0) (j : Nat) (hj : j < k + 1) => if hh : j < k then hto j hh else by obtain rfl : j = k := oM; exact he)
    have HNo := qh (fun (he : xs.getD k 0 ≠ ys.getD k 0) => decide_eq_false (fun hh : xs = ys => he (by rw [hh])))
    clear hto
    obtain ⟨y, Hy⟩ := nM (xs.getD k 0)
    obtain ⟨z, Hz⟩ := nM (ys.getD k 0)
    rw [Hy.out] at hc
    rw [Hz.out] at hc2
    rw [Hy.out, Hz.out] at HK HNo
    have hk1 : (k : Int) < 8 := oM
    have hdk : decide (k < 8) = true := decide_eq_true hlt
    go_wp2_with fail
    go_still_tail 8, (by kernel_rfl)
    have hnx1 : Nx w wr.drew := Below.drew hnx
    by_cases he : y = z
    . have hd : (y != z) = false := by simp [he]
      have HT := qh (HK.out he)
      clear he HK HNo
      try change wpList _ _ _ _ _ wr.drew
      go_wp2
      go_roundw
      case rel => exact ⟨k + 1, oM, by go_num, HT.out, hnx1⟩
      case measure => simp [intOf]; omega
    . have hd : (y != z) = true := by simp [he]
      have HT := qh (HNo.out he)
      clear he HK HNo
      try change wpList _ _ _ _ _ wr.drew
      go_wp2
      go_ret
      exact ⟨ret_bool HT.out.symm, hnx1⟩
  . obtain rfl : k = 8 := oM
    have HT := qh (decide_eq_true (ext8 Hl.out Hl2.out hto))
    go_wp2
    go_ret
    exact ⟨ret_bool HT.out.symm, hnx⟩
theorem l05Old_c (A2 : Option Addr) (c2 B : Nat) (xs : List Int) (s : SgR) (w : World) (h : Ins w B A2 xs) (hg : Chs w B s.A s.cs) (hB : B <= w.heap.size) (hok : chsB s.cs = true) (h8 : xs.length = 8) :
 Calls Tryz.prog 225 #[sC A2 8 c2, .agg #[ii s.f, ii s.t, ii s.m, sC s.A s.cs.length s.c]] w fun e w' => e = .returned (.bool (oldB xs s)) /\ Nx w w' := by
 obtain ⟨f, t, m, A, c, cs⟩ := s
 simp only at *
 have HO : Hid (oldB xs ⟨f, t, m, A, c, cs⟩ = decide (app pO xs cs = xs)) := qh rfl
 rw [HO.out]
 have hx0 := (Nx.refl w).alloc (.cells #[ii f, ii t, ii m, sC A cs.length c] 122)
 have H8 := qh h8
 clear h8
 go_enter func225, ntmps225
 go_wp2_with fail
 generalize w.alloc (.cells #[ii f, ii t, ii m, sC A cs.length c] 122) = W at *
 have hbk := l03Backward_c A2 c2 B xs f t m A c cs W (h.below hx0 hB) (hg.below hx0 hB) (ntr hB hx0.size) hok H8.out
 rw [H8.out] at hbk
 refine hbk.mono ?_
 rintro e w1 ⟨A9, c9, rfl, hS, hx1⟩
 have hla : (app pO xs cs).length = 8 := by rw [app_len, H8.out]
 have hX := hx0.trans hx1
 have hrow := hS.row
 clear hbk hS
 obtain ⟨ys, Hys⟩ := nM (app pO xs cs)
 rw [Hys.out] at hla hrow ⊢
 rw [hla]
 have Hla := qh hla
 clear hla
 go_wp2_with fail
 refine (l05Same_c A9 A2 c9 c2 _ ys xs _ hrow ((h.below hX hB).more (ntr hB hX.size)) nle Hla.out H8.out).mono ?_
 rintro e w2 ⟨rfl, hx2⟩
 go_wp2
 go_ret
 exact ⟨ret_bool (by rw [Hys.out]), hX.trans hx2⟩
def stI (b p t : Int) (gs : List SgR) : Int × Bool := if p < t then ((ahd b gs p : Int), true) else if t < p then ((ahd b gs p : Int) - 1, false) else (-1, false)
theorem l05Step_c (V : Vl) (B : Nat) (w : World) (h : Vlt w B V) (hB : B <= w.heap.size) (hn : VlN V 1048576) (hl : Lead V.b V.gs) (hp : isRet V.b V.gs V.p = true) (hd : (V.p < V.t -> ahd V.b V.gs V.p < V.gs.length) /\ (V.t < V.p -> 0 < ahd V.b V.gs V.p)) :
 Calls Tryz.prog 228 #[V.v] w fun e w' => e = .returned (.tuple #[ii (stI V.b V.p V.t V.gs).1, .bool (stI V.b V.p V.t V.gs).2]) /\ Nx w w' := by
 obtain ⟨g, b, p, t, A, c, xs, A2, c2, ms, A3, c3, gs, A4, c4, im⟩ := V
 obtain ⟨h, h2, h3, h4⟩ := h
 obtain ⟨hn, hn2, hn3, hn4, hn5⟩ := hn
 simp only [Vl.v, Vl.cells] at *
 obtain ⟨a, Ha⟩ := nM (ahd b gs p)
 have ha := ahd_at hp
 have HST : Hid (stI b p t gs = if p < t then ((a : Int), true) else if t < p then ((a : Int) - 1, false) else (-1, false)) := qh (by rw [<- Ha.out]; rfl)
 rw [HST.out]
 rw [Ha.out] at ha hd
 obtain ⟨n, Hn⟩ := nM (gs.length)
 have h3' : ∀ k, k < n -> _ := fun k hk w' B' hw hB' => ((h3.below (w' := w') (B' := B') hw hB').row.at4 (k := k) (by rw [Hn.out]; exact hk))
 have HF := qh (fun k (hk : k < n) => hl.from_ k (by rw [Hn.out]; exact hk))
 have HI := qh (fun k (hk : k <= n) (he : atK b gs k = p) => hl.inj (j := k) (k := a) (by rw [Hn.out]; exact hk) ha.1 (he.trans ha.2.symm))
 have HA := qh ha.2
 have ha1 := ha.1
 rw [Hn.out] at hn3 hd ha1 ⊢
 have b0 := Box.new w 49 #[ii g, ii b, ii p, ii t, sC A xs.length c, sC A2 ms.length c2, sC A3 n c3, sC A4 im.length c4]
 have hx0 := (Nx.refl w).alloc (.cells #[ii g, ii b, ii p, ii t, sC A xs.length c, sC A2 ms.length c2, sC A3 n c3, sC A4 im.length c4] 49)
 clear hl hp ha h3
 by_cases hlt : p < t
 . rw [if_pos hlt]
   have hd1 : decide (p < t) = true := decide_eq_true hlt
   have hd2 : decide (t < p) = false := decide_eq_false oM
   have han := hd.1 hlt
   clear hd hlt
   go_enter func228, ntmps228
   go_wp2_with fail
   generalize w.alloc (.cells #[ii g, ii b, ii p, ii t, sC A xs.length c, sC A2 ms.length c2, sC A3 n c3, sC A4 im.length c4] 49) = W at *
   go_loopw [4] (fun i wr => ∃ (k : Nat), k <= a /\ i = ii k /\ Nx w wr /\ Box wr w.heap.size 49 #[ii g, ii b, ii p, ii t, sC A xs.length c, sC A2 ms.length c2, sC A3 n c3, sC A4 im.length c4]) (fun i _ => n - (intOf i).toNat)
   case atStart => exact ⟨0, oM, rfl, hx0, b0⟩
   case round =>
    obtain ⟨k, hk, rfl, hnx, hb⟩ := hrel
    clear hx0 b0
    have hkn : k < n := oM
    obtain ⟨_, _, _, _, _, _, c6, _⟩ := hb.e8
    obtain ⟨bb, off, rfl, hbb, p0, p1, p2, p3⟩ := h3' k hkn _ _ hnx hB
    have hF := HF.out k hkn
    have hT : (gs.getD k sgZ).t = atK b gs (k + 1) := rfl
    obtain ⟨⟨f, t9, m, Ac, cc, cs⟩, Hs⟩ := nM (gs.getD k sgZ)
    rw [Hs.out] at p0 p1 p2 p3 hF hT
    simp only at p0 p1 p2 p3 hF hT
    have hkc : (k : Int) < (n : Int) := oM
    have hk0 : (0 : Int) <= (k : Int) := oM
    have hbd : Box wr.drew w.heap.size 49 #[ii g, ii b, ii p, ii t, sC A xs.length c, sC A2 ms.length c2, sC (some ⟨bb, off, none⟩) n c3, sC A4 im.length c4] := hb
    by_cases hka : k = a
    . have hfe : (f == p) = true := by rw [beq_iff_eq, hF, hka]; exact HA.out
      have HKA := qh hka
      clear hF hT hka
      go_wp2_with fail
      refine wp_lexA (kf9 (kf9 (ff :: []))) (fun w' => (CC w' w.heap.size 0 (ii g) /\ CC w' w.heap.size 1 (ii b) /\ CC w' w.heap.size 2 (ii p) /\ CC w' w.heap.size 3 (ii t) /\ CC w' w.heap.size 4 (sC A xs.length c) /\ CC w' w.heap.size 5 (sC A2 ms.length c2) /\ CC w' w.heap.size 6 (sC (some ⟨bb, off, none⟩) n c3) /\ CC w' w.heap.size 7 (sC A4 im.length c4)) /\ CC w' bb (off + k * 4) (ii f) /\ CC w' bb (off + k * 4 + 1) (ii t9) /\ CC w' bb (off + k * 4 + 2) (ii m) /\ CC w' bb (off + k * 4 + 3) (sC Ac cs.length cc)) (by exact ⟨hbd.e8, p0, p1, p2, p3⟩) ?_
      refine hLr ?_
      refine HL.done ?_
      go_wp2
      exact bodyPost_ret (v := .tuple #[ii k, .bool true]) (by simp [results, results228, go_sem]) rfl ⟨by rw [HKA.out], hnx.drew⟩
    . have hfe : (f == p) = false := by rw [beq_eq_false_iff_ne, hF]; exact fun he => hka (HI.out k oM he)
      have HKA := qh hka
      clear hF hT hka
      go_wp2_with fail
      refine wp_lexA (kf9 (kf9 (ff :: []))) (fun w' => (CC w' w.heap.size 0 (ii g) /\ CC w' w.heap.size 1 (ii b) /\ CC w' w.heap.size 2 (ii p) /\ CC w' w.heap.size 3 (ii t) /\ CC w' w.heap.size 4 (sC A xs.length c) /\ CC w' w.heap.size 5 (sC A2 ms.length c2) /\ CC w' w.heap.size 6 (sC (some ⟨bb, off, none⟩) n c3) /\ CC w' w.heap.size 7 (sC A4 im.length c4)) /\ CC w' bb (off + k * 4) (ii f) /\ CC w' bb (off + k * 4 + 1) (ii t9) /\ CC w' bb (off + k * 4 + 2) (ii m) /\ CC w' bb (off + k * 4 + 3) (sC Ac cs.length cc)) (by exact ⟨hbd.e8, p0, p1, p2, p3⟩) ?_
      refine hLr ?_
      refine HL.done ?_
      have p0 : wr.drew.cell? ⟨bb, off + k * 4, none⟩ = _ := p0
      have p1 : wr.drew.cell? ⟨bb, off + k * 4 + 1, none⟩ = _ := p1
      have p2 : wr.drew.cell? ⟨bb, off + k * 4 + 2, none⟩ = _ := p2
      have p3 : wr.drew.cell? ⟨bb, off + k * 4 + 3, none⟩ = _ := p3
      have hnxd := hnx.drew
      go_wp2_with fail
      generalize wr.drew = wr at *
      have hbd : Box wr.drew w.heap.size 49 #[ii g, ii b, ii p, ii t, sC A xs.length c, sC A2 ms.length c2, sC (some ⟨bb, off, none⟩) n c3, sC A4 im.length c4] := hbd
      refine wp_lexA (kf9 (kf9 (ff :: []))) (fun w' => (CC w' w.heap.size 0 (ii g) /\ CC w' w.heap.size 1 (ii b) /\ CC w' w.heap.size 2 (ii p) /\ CC w' w.heap.size 3 (ii t) /\ CC w' w.heap.size 4 (sC A xs.length c) /\ CC w' w.heap.size 5 (sC A2 ms.length c2) /\ CC w' w.heap.size 6 (sC (some ⟨bb, off, none⟩) n c3) /\ CC w' w.heap.size 7 (sC A4 im.length c4)) /\ CC w' bb (off + k * 4) (ii f) /\ CC w' bb (off + k * 4 + 1) (ii t9) /\ CC w' bb (off + k * 4 + 2) (ii m) /\ CC w' bb (off + k * 4 + 3) (sC Ac cs.length cc)) (by exact ⟨hbd.e8, p0, p1, p2, p3⟩) ?_
      refine hLr ?_
      refine HL.done ?_
      go_wp2
      go_roundw
      case rel => exact ⟨k + 1, by have := HKA.out; omega, by go_num, hnxd.drew, hbd⟩
      case measure => simp [intOf]; omega
 by_cases hgt : t < p
 . rw [if_neg hlt, if_pos hgt]
   have hd1 : decide (p < t) = false := decide_eq_false hlt
   have hd2 : decide (t < p) = true := decide_eq_true hgt
   have han := hd.2 hgt
   clear hd hgt hlt
   go_enter func228, ntmps228
   go_wp2_with fail
   generalize w.alloc (.cells #[ii g, ii b, ii p, ii t, sC A xs.length c, sC A2 ms.length c2, sC A3 n c3, sC A4 im.length c4] 49) = W at *
   go_loopw [4] (fun i wr => ∃ (k : Nat), k <= (a - 1) /\ i = ii k /\ Nx w wr /\ Box wr w.heap.size 49 #[ii g, ii b, ii p, ii t, sC A xs.length c, sC A2 ms.length c2, sC A3 n c3, sC A4 im.length c4]) (fun i _ => n - (intOf i).toNat)
   case atStart => exact ⟨0, oM, rfl, hx0, b0⟩
   case round =>
    obtain ⟨k, hk, rfl, hnx, hb⟩ := hrel
    clear hx0 b0
    have hkn : k < n := oM
    obtain ⟨_, _, _, _, _, _, c6, _⟩ := hb.e8
    obtain ⟨bb, off, rfl, hbb, p0, p1, p2, p3⟩ := h3' k hkn _ _ hnx hB
    have hF := HF.out k hkn
    have hT : (gs.getD k sgZ).t = atK b gs (k + 1) := rfl
    obtain ⟨⟨f, t9, m, Ac, cc, cs⟩, Hs⟩ := nM (gs.getD k sgZ)
    rw [Hs.out] at p0 p1 p2 p3 hF hT
    simp only at p0 p1 p2 p3 hF hT
    have hkc : (k : Int) < (n : Int) := oM
    have hk0 : (0 : Int) <= (k : Int) := oM
    have hbd : Box wr.drew w.heap.size 49 #[ii g, ii b, ii p, ii t, sC A xs.length c, sC A2 ms.length c2, sC (some ⟨bb, off, none⟩) n c3, sC A4 im.length c4] := hb
    by_cases hka : k + 1 = a
    . have hfe : (t9 == p) = true := by rw [beq_iff_eq, hT, hka]; exact HA.out
      have HKA := qh hka
      clear hF hT hka
      go_wp2_with fail
      refine wp_lexA (kf9 (kf9 (ff :: []))) (fun w' => (CC w' w.heap.size 0 (ii g) /\ CC w' w.heap.size 1 (ii b) /\ CC w' w.heap.size 2 (ii p) /\ CC w' w.heap.size 3 (ii t) /\ CC w' w.heap.size 4 (sC A xs.length c) /\ CC w' w.heap.size 5 (sC A2 ms.length c2) /\ CC w' w.heap.size 6 (sC (some ⟨bb, off, none⟩) n c3) /\ CC w' w.heap.size 7 (sC A4 im.length c4)) /\ CC w' bb (off + k * 4) (ii f) /\ CC w' bb (off + k * 4 + 1) (ii t9) /\ CC w' bb (off + k * 4 + 2) (ii m) /\ CC w' bb (off + k * 4 + 3) (sC Ac cs.length cc)) (by exact ⟨hbd.e8, p0, p1, p2, p3⟩) ?_
      refine hLr ?_
      refine HL.done ?_
      have p0 : wr.drew.cell? ⟨bb, off + k * 4, none⟩ = _ := p0
      have p1 : wr.drew.cell? ⟨bb, off + k * 4 + 1, none⟩ = _ := p1
      have p2 : wr.drew.cell? ⟨bb, off + k * 4 + 2, none⟩ = _ := p2
      have p3 : wr.drew.cell? ⟨bb, off + k * 4 + 3, none⟩ = _ := p3
      have hnxd := hnx.drew
      go_wp2_with fail
      generalize wr.drew = wr at *
      have hbd : Box wr.drew w.heap.size 49 #[ii g, ii b, ii p, ii t, sC A xs.length c, sC A2 ms.length c2, sC (some ⟨bb, off, none⟩) n c3, sC A4 im.length c4] := hbd
      refine wp_lexA (kf9 (kf9 (ff :: []))) (fun w' => (CC w' w.heap.size 0 (ii g) /\ CC w' w.heap.size 1 (ii b) /\ CC w' w.heap.size 2 (ii p) /\ CC w' w.heap.size 3 (ii t) /\ CC w' w.heap.size 4 (sC A xs.length c) /\ CC w' w.heap.size 5 (sC A2 ms.length c2) /\ CC w' w.heap.size 6 (sC (some ⟨bb, off, none⟩) n c3) /\ CC w' w.heap.size 7 (sC A4 im.length c4)) /\ CC w' bb (off + k * 4) (ii f) /\ CC w' bb (off + k * 4 + 1) (ii t9) /\ CC w' bb (off + k * 4 + 2) (ii m) /\ CC w' bb (off + k * 4 + 3) (sC Ac cs.length cc)) (by exact ⟨hbd.e8, p0, p1, p2, p3⟩) ?_
      refine hLr ?_
      refine HL.done ?_
      go_wp2
      exact bodyPost_ret (v := .tuple #[ii k, .bool false]) (by simp [results, results228, go_sem]) rfl ⟨by rw [show (a : Int) - 1 = (k : Int) by have := HKA.out; omega], hnxd.drew⟩
    . have hfe : (t9 == p) = false := by rw [beq_eq_false_iff_ne, hT]; exact fun he => hka (HI.out (k + 1) oM he)
      have HKA := qh hka
      clear hF hT hka
      go_wp2_with fail
      refine wp_lexA (kf9 (kf9 (ff :: []))) (fun w' => (CC w' w.heap.size 0 (ii g) /\ CC w' w.heap.size 1 (ii b) /\ CC w' w.heap.size 2 (ii p) /\ CC w' w.heap.size 3 (ii t) /\ CC w' w.heap.size 4 (sC A xs.length c) /\ CC w' w.heap.size 5 (sC A2 ms.length c2) /\ CC w' w.heap.size 6 (sC (some ⟨bb, off, none⟩) n c3) /\ CC w' w.heap.size 7 (sC A4 im.length c4)) /\ CC w' bb (off + k * 4) (ii f) /\ CC w' bb (off + k * 4 + 1) (ii t9) /\ CC w' bb (off + k * 4 + 2) (ii m) /\ CC w' bb (off + k * 4 + 3) (sC Ac cs.length cc)) (by exact ⟨hbd.e8, p0, p1, p2, p3⟩) ?_
      refine hLr ?_
      refine HL.done ?_
      have p0 : wr.drew.cell? ⟨bb, off + k * 4, none⟩ = _ := p0
      have p1 : wr.drew.cell? ⟨bb, off + k * 4 + 1, none⟩ = _ := p1
      have p2 : wr.drew.cell? ⟨bb, off + k * 4 + 2, none⟩ = _ := p2
      have p3 : wr.drew.cell? ⟨bb, off + k * 4 + 3, none⟩ = _ := p3
      have hnxd := hnx.drew
      go_wp2_with fail
      generalize wr.drew = wr at *
      have hbd : Box wr.drew w.heap.size 49 #[ii g, ii b, ii p, ii t, sC A xs.length c, sC A2 ms.length c2, sC (some ⟨bb, off, none⟩) n c3, sC A4 im.length c4] := hbd
      refine wp_lexA (kf9 (kf9 (ff :: []))) (fun w' => (CC w' w.heap.size 0 (ii g) /\ CC w' w.heap.size 1 (ii b) /\ CC w' w.heap.size 2 (ii p) /\ CC w' w.heap.size 3 (ii t) /\ CC w' w.heap.size 4 (sC A xs.length c) /\ CC w' w.heap.size 5 (sC A2 ms.length c2) /\ CC w' w.heap.size 6 (sC (some ⟨bb, off, none⟩) n c3) /\ CC w' w.heap.size 7 (sC A4 im.length c4)) /\ CC w' bb (off + k * 4) (ii f) /\ CC w' bb (off + k * 4 + 1) (ii t9) /\ CC w' bb (off + k * 4 + 2) (ii m) /\ CC w' bb (off + k * 4 + 3) (sC Ac cs.length cc)) (by exact ⟨hbd.e8, p0, p1, p2, p3⟩) ?_
      refine hLr ?_
      refine HL.done ?_
      go_wp2
      go_roundw
      case rel => exact ⟨k + 1, by have := HKA.out; omega, by go_num, hnxd.drew, hbd⟩
      case measure => simp [intOf]; omega
 rw [if_neg hlt, if_neg hgt]
 have hd1 : decide (p < t) = false := decide_eq_false hlt
 have hd2 : decide (t < p) = false := decide_eq_false hgt
 clear hd hlt hgt
 go_enter func228, ntmps228
 go_wp2_with fail
 generalize w.alloc (.cells #[ii g, ii b, ii p, ii t, sC A xs.length c, sC A2 ms.length c2, sC A3 n c3, sC A4 im.length c4] 49) = W at *
 go_loopw [4] (fun i wr => ∃ (k : Nat), k <= n /\ i = ii k /\ Nx w wr /\ Box wr w.heap.size 49 #[ii g, ii b, ii p, ii t, sC A xs.length c, sC A2 ms.length c2, sC A3 n c3, sC A4 im.length c4]) (fun i _ => n - (intOf i).toNat)
 case atStart => exact ⟨0, oM, rfl, hx0, b0⟩
 case round =>
  obtain ⟨k, hk, rfl, hnx, hb⟩ := hrel
  clear hx0 b0
  by_cases hkn : k < n
  case neg =>
   obtain rfl : k = n := oM
   obtain ⟨_, _, _, _, _, _, c6, _⟩ := hb.e8
   go_wp2
   exact bodyPost_ret (v := .tuple #[ii (-1), .bool false]) (by simp [results, results228, go_sem]) rfl ⟨rfl, hnx⟩
  obtain ⟨_, _, _, _, _, _, c6, _⟩ := hb.e8
  obtain ⟨bb, off, rfl, hbb, p0, p1, p2, p3⟩ := h3' k hkn _ _ hnx hB
  have hF := HF.out k hkn
  have hT : (gs.getD k sgZ).t = atK b gs (k + 1) := rfl
  obtain ⟨⟨f, t9, m, Ac, cc, cs⟩, Hs⟩ := nM (gs.getD k sgZ)
  rw [Hs.out] at p0 p1 p2 p3 hF hT
  simp only at p0 p1 p2 p3 hF hT
  have hkc : (k : Int) < (n : Int) := oM
  have hk0 : (0 : Int) <= (k : Int) := oM
  have hbd : Box wr.drew w.heap.size 49 #[ii g, ii b, ii p, ii t, sC A xs.length c, sC A2 ms.length c2, sC (some ⟨bb, off, none⟩) n c3, sC A4 im.length c4] := hb
  clear hF hT
  go_wp2_with fail
  refine wp_lexA (kf9 (kf9 (ff :: []))) (fun w' => (CC w' w.heap.size 0 (ii g) /\ CC w' w.heap.size 1 (ii b) /\ CC w' w.heap.size 2 (ii p) /\ CC w' w.heap.size 3 (ii t) /\ CC w' w.heap.size 4 (sC A xs.length c) /\ CC w' w.heap.size 5 (sC A2 ms.length c2) /\ CC w' w.heap.size 6 (sC (some ⟨bb, off, none⟩) n c3) /\ CC w' w.heap.size 7 (sC A4 im.length c4)) /\ CC w' bb (off + k * 4) (ii f) /\ CC w' bb (off + k * 4 + 1) (ii t9) /\ CC w' bb (off + k * 4 + 2) (ii m) /\ CC w' bb (off + k * 4 + 3) (sC Ac cs.length cc)) (by exact ⟨hbd.e8, p0, p1, p2, p3⟩) ?_
  refine hLr ?_
  refine HL.done ?_
  have p0 : wr.drew.cell? ⟨bb, off + k * 4, none⟩ = _ := p0
  have p1 : wr.drew.cell? ⟨bb, off + k * 4 + 1, none⟩ = _ := p1
  have p2 : wr.drew.cell? ⟨bb, off + k * 4 + 2, none⟩ = _ := p2
  have p3 : wr.drew.cell? ⟨bb, off + k * 4 + 3, none⟩ = _ := p3
  have hnxd := hnx.drew
  go_wp2_with fail
  generalize wr.drew = wr at *
  have hbd : Box wr.drew w.heap.size 49 #[ii g, ii b, ii p, ii t, sC A xs.length c, sC A2 ms.length c2, sC (some ⟨bb, off, none⟩) n c3, sC A4 im.length c4] := hbd
  refine wp_lexA (kf9 (kf9 (ff :: []))) (fun w' => (CC w' w.heap.size 0 (ii g) /\ CC w' w.heap.size 1 (ii b) /\ CC w' w.heap.size 2 (ii p) /\ CC w' w.heap.size 3 (ii t) /\ CC w' w.heap.size 4 (sC A xs.length c) /\ CC w' w.heap.size 5 (sC A2 ms.length c2) /\ CC w' w.heap.size 6 (sC (some ⟨bb, off, none⟩) n c3) /\ CC w' w.heap.size 7 (sC A4 im.length c4)) /\ CC w' bb (off + k * 4) (ii f) /\ CC w' bb (off + k * 4 + 1) (ii t9) /\ CC w' bb (off + k * 4 + 2) (ii m) /\ CC w' bb (off + k * 4 + 3) (sC Ac cs.length cc)) (by exact ⟨hbd.e8, p0, p1, p2, p3⟩) ?_
  refine hLr ?_
  refine HL.done ?_
  go_wp2
  go_roundw
  case rel => exact ⟨k + 1, oM, by go_num, hnxd.drew, hbd⟩
  case measure => simp [intOf]; omega
def RetAn (w : World) (ys : List Int) (n : Int) (e : Ending) (w' : World) : Prop := ∃ (A : Option Addr) (c : Nat), e = .returned (.tuple #[sC A 8 c, ii n]) /\ Ins w' w'.heap.size A ys /\ Nx w w'
theorem l05Anchor_c (V : Vl) (B : Nat) (w : World) (h : Vlt w B V) (hB : B <= w.heap.size) (hn : VlN V 1048576) (hl : Lead V.b V.gs) (hc : V.im.length = 8) (hp : isRet V.b V.gs V.p = true) (hd : (V.p < V.t -> ahd V.b V.gs V.p < V.gs.length) /\ (V.t < V.p -> 0 < ahd V.b V.gs V.p)) :
 Calls Tryz.prog 208 #[V.v] w (RetAn w (stp V.b V.p V.t V.gs V.im).1 (atK V.b V.gs (stp V.b V.p V.t V.gs V.im).2)) := by
 have HST := qh (l05Step_c V B)
 obtain ⟨g, b, p, t, A, c, xs, A2, c2, ms, A3, c3, gs, A4, c4, im⟩ := V
 obtain ⟨h, h2, h3, h4⟩ := h
 obtain ⟨hn, hn2, hn3, hn4, hn5⟩ := hn
 simp only [Vl.v, Vl.cells] at *
 obtain ⟨a, Ha⟩ := nM (ahd b gs p)
 have ha := ahd_at hp
 have HD := qh hd
 have HPx := qh hp
 have HLd := qh hl
 have HNN : Hid (VlN ⟨g, b, p, t, A, c, xs, A2, c2, ms, A3, c3, gs, A4, c4, im⟩ 1048576) := qh ⟨hn, hn2, hn3, hn4, hn5⟩
 have HVT := qh (fun (w' : World) (hx : Nx w w') => (⟨h.below hx hB, h2.below hx hB, h3.below hx hB, h4.below hx hB⟩ : Vlt w' B ⟨g, b, p, t, A, c, xs, A2, c2, ms, A3, c3, gs, A4, c4, im⟩))
 have Hstp : Hid (stp b p t gs im = if p < t then (app pN im (gs.getD a sgZ).cs, a + 1) else if t < p then (app pO im (gs.getD (a - 1) sgZ).cs, a - 1) else (im, a)) := qh (by rw [<- Ha.out]; rfl)
 have HsI : Hid (stI b p t gs = if p < t then ((a : Int), true) else if t < p then ((a : Int) - 1, false) else (-1, false)) := qh (by rw [<- Ha.out]; rfl)
 rw [Ha.out] at ha hd
 obtain ⟨n, Hn⟩ := nM (gs.length)
 have h3' : ∀ k, k < n -> _ := fun k hk w' B' hw hB' => ((h3.below (w' := w') (B' := B') hw hB').row.at4 (k := k) (by rw [Hn.out]; exact hk))
 have h3c : ∀ k, k < n -> _ := fun k hk => h3.chs k (by rw [Hn.out]; exact hk)
 have HF := qh (fun k (hk : k < n) => hl.from_ k (by rw [Hn.out]; exact hk))
 have HOKs := qh (fun k (hk : k < n) => hl.ok k (by rw [Hn.out]; exact hk))
 have HA := qh ha.2
 have ha1 := ha.1
 have H8 := qh hc
 rw [Hn.out] at hn3 hd ha1
 rw [H8.out] at hn5
 have b0 := Box.new w 49 #[ii g, ii b, ii p, ii t, sC A xs.length c, sC A2 ms.length c2, sC A3 n c3, sC A4 8 c4]
 have hx0 := (Nx.refl w).alloc (.cells #[ii g, ii b, ii p, ii t, sC A xs.length c, sC A2 ms.length c2, sC A3 n c3, sC A4 8 c4] 49)
 clear hl hp ha h3 hc hn4
 have Hcall := qh (fun (w' : World) (hx : Nx w w') => HST.out w' (HVT.out w' hx) (ntr hB hx.size) HNN.out HLd.out HPx.out HD.out)
 rw [Hn.out, H8.out] at Hcall
 clear HST
 go_enter func208, ntmps208
 rw [Hn.out, H8.out]
 go_wp2_with fail
 generalize w.alloc (.cells #[ii g, ii b, ii p, ii t, sC A xs.length c, sC A2 ms.length c2, sC A3 n c3, sC A4 8 c4] 49) = W at *
 refine (Hcall.out W hx0).mono ?_
 rintro e w1 ⟨rfl, hx1⟩
 rw [HsI.out]
 replace hx0 := hx0.trans hx1
 have b1 := b0.nx hx1
 clear b0 hx1 Hcall
 by_cases hlt : p < t
 . rw [if_pos hlt]
   have HSB := qh (show stp b p t gs im = (app pN im (gs.getD a sgZ).cs, a + 1) by rw [Hstp.out, if_pos hlt])
   have han := hd.1 hlt
   clear hd hlt
   obtain ⟨k, Hk⟩ := nM (a)
   have hkn : k < n := by have := Hk.out; omega
   have hak : (a : Int) = (k : Int) := by have := Hk.out; omega
   rw [hak]
   clear hak
   have hk9 : decide ((k : Int) < 0) = false := decide_eq_false oM
   have hk0 : (0 : Int) <= (k : Int) := oM
   have hk1 : (k : Int) < (n : Int) := oM
   have hF := HF.out k hkn
   have hT : (gs.getD k sgZ).t = atK b gs (k + 1) := rfl
   have HOK := qh (HOKs.out k hkn)
   have hch := h3c k hkn
   obtain ⟨bb, off, rfl, hbb, p0, p1, p2, p3⟩ := h3' k hkn _ _ hx0 hB
   have HEQ := qh ((rfl : app pN im (gs.getD k sgZ).cs = app pN im (gs.getD k sgZ).cs))
   obtain ⟨⟨f, t9, m, Ac, cc, cs⟩, Hs⟩ := nM (gs.getD k sgZ)
   rw [Hs.out] at p0 p1 p2 p3 hF hT hch HOK HEQ
   simp only at p0 p1 p2 p3 hF hT hch HOK HEQ
   obtain ⟨ys, Hys⟩ := nM (app pN im cs)
   have HLA : Hid (ys.length = 8) := qh (by rw [<- Hys.out, app_len, H8.out])
   have HFT := qh hF
   have HTT := qh hT
   clear hF hT
   go_wp2_with fail
   have hbd := b1.nx (Nx.refl _).drew
   have hx2 := hx0.drew
   have hxc := hx2
   have hbw : bb < w1.drew.heap.size := Nat.lt_of_lt_of_le hbb (ntr hB hx2.size)
   refine wp_planA (.t 0 (.t 1 (.t 2 (.t 3 (.t 4 (.t 5 (.t 6 (.t 8 (.t 9 (.t 10 (.t 11 (.t 12 (.t 13 (.c 7 (.t 14 (.t 15 .e)))))))))))))))) (fun w' => (CC w' w.heap.size 0 (ii g) /\ CC w' w.heap.size 1 (ii b) /\ CC w' w.heap.size 2 (ii p) /\ CC w' w.heap.size 3 (ii t) /\ CC w' w.heap.size 4 (sC A xs.length c) /\ CC w' w.heap.size 5 (sC A2 ms.length c2) /\ CC w' w.heap.size 6 (sC (some ⟨bb, off, none⟩) n c3) /\ CC w' w.heap.size 7 (sC A4 8 c4)) /\ CC w' bb (off + k * 4) (ii f) /\ CC w' bb (off + k * 4 + 1) (ii t9) /\ CC w' bb (off + k * 4 + 2) (ii m) /\ CC w' bb (off + k * 4 + 3) (sC Ac cs.length cc)) (by exact ⟨hbd.e8, p0, p1, p2, p3⟩) ?_
   simp only [psOf, List.getD_cons_zero, List.getD_cons_succ]
   refine hPr ?_
   refine hPc fun K hK => ?_
   go_simp
   have hcl := l03Forward_c A4 c4 B im f t9 m Ac cc cs _ (h4.below hx2 hB) (hch.below hxc hB) (ntr hB hx2.size) HOK.out H8.out; rw [H8.out] at hcl; refine hcl.mono ?_; rintro e w2 ⟨A9, c9, rfl, hS9, hx3⟩; clear hcl; have hb2 := hbd.nx hx3; replace p0 := (hx3.cell (p := ⟨bb, off + k * 4, none⟩) hbw).trans p0; replace p1 := (hx3.cell (p := ⟨bb, off + k * 4 + 1, none⟩) hbw).trans p1; replace p2 := (hx3.cell (p := ⟨bb, off + k * 4 + 2, none⟩) hbw).trans p2; replace p3 := (hx3.cell (p := ⟨bb, off + k * 4 + 3, none⟩) hbw).trans p3; have hX3 := hx2.trans hx3; rw [Hys.out] at hS9 ⊢; rw [HLA.out]
   go_wp2_with fail
   refine hK.out _ _ (by exact ⟨hb2.e8, p0, p1, p2, p3⟩) ?_
   clear hK K
   refine nZ ?_
   refine hPr ?_
   refine HP.done ?_
   go_wp2
   exact bodyPost_ret (v := .tuple #[sC A9 8 c9, ii t9]) (by simp [results, results208, go_sem]) rfl ⟨A9, c9, by rw [HSB.out, HTT.out, <- Hk.out], by rw [HSB.out]; show Ins _ _ _ (app pN im (gs.getD a sgZ).cs); rw [Hk.out, Hs.out]; show Ins _ _ _ (app pN im cs); rw [Hys.out]; exact hS9.row, hX3⟩
 by_cases hgt : t < p
 . rw [if_neg hlt, if_pos hgt]
   have HSB := qh (show stp b p t gs im = (app pO im (gs.getD (a - 1) sgZ).cs, a - 1) by rw [Hstp.out, if_neg hlt, if_pos hgt])
   have han := hd.2 hgt
   clear hd hlt hgt
   obtain ⟨k, Hk⟩ := nM (a - 1)
   have hkn : k < n := by have := Hk.out; omega
   have hak : (a : Int) - 1 = (k : Int) := by have := Hk.out; omega
   rw [hak]
   clear hak
   have hk9 : decide ((k : Int) < 0) = false := decide_eq_false oM
   have hk0 : (0 : Int) <= (k : Int) := oM
   have hk1 : (k : Int) < (n : Int) := oM
   have hF := HF.out k hkn
   have hT : (gs.getD k sgZ).t = atK b gs (k + 1) := rfl
   have HOK := qh (HOKs.out k hkn)
   have hch := h3c k hkn
   obtain ⟨bb, off, rfl, hbb, p0, p1, p2, p3⟩ := h3' k hkn _ _ hx0 hB
   have HEQ := qh ((rfl : app pO im (gs.getD k sgZ).cs = app pO im (gs.getD k sgZ).cs))
   obtain ⟨⟨f, t9, m, Ac, cc, cs⟩, Hs⟩ := nM (gs.getD k sgZ)
   rw [Hs.out] at p0 p1 p2 p3 hF hT hch HOK HEQ
   simp only at p0 p1 p2 p3 hF hT hch HOK HEQ
   obtain ⟨ys, Hys⟩ := nM (app pO im cs)
   have HLA : Hid (ys.length = 8) := qh (by rw [<- Hys.out, app_len, H8.out])
   have HFT := qh hF
   have HTT := qh hT
   clear hF hT
   go_wp2_with fail
   have hbd := b1.nx (Nx.refl _).drew
   have hx2 := hx0.drew
   have hxc := hx2
   have hbw : bb < w1.drew.heap.size := Nat.lt_of_lt_of_le hbb (ntr hB hx2.size)
   refine wp_planA (.t 0 (.t 1 (.t 2 (.t 3 (.t 4 (.t 5 (.t 6 (.t 8 (.t 9 (.t 10 (.t 11 (.t 12 (.t 13 (.c 7 (.t 14 (.t 15 .e)))))))))))))))) (fun w' => (CC w' w.heap.size 0 (ii g) /\ CC w' w.heap.size 1 (ii b) /\ CC w' w.heap.size 2 (ii p) /\ CC w' w.heap.size 3 (ii t) /\ CC w' w.heap.size 4 (sC A xs.length c) /\ CC w' w.heap.size 5 (sC A2 ms.length c2) /\ CC w' w.heap.size 6 (sC (some ⟨bb, off, none⟩) n c3) /\ CC w' w.heap.size 7 (sC A4 8 c4)) /\ CC w' bb (off + k * 4) (ii f) /\ CC w' bb (off + k * 4 + 1) (ii t9) /\ CC w' bb (off + k * 4 + 2) (ii m) /\ CC w' bb (off + k * 4 + 3) (sC Ac cs.length cc)) (by exact ⟨hbd.e8, p0, p1, p2, p3⟩) ?_
   simp only [psOf, List.getD_cons_zero, List.getD_cons_succ]
   refine hPr ?_
   refine hPc fun K hK => ?_
   go_simp
   have hcl := l03Backward_c A4 c4 B im f t9 m Ac cc cs _ (h4.below hx2 hB) (hch.below hxc hB) (ntr hB hx2.size) HOK.out H8.out; rw [H8.out] at hcl; refine hcl.mono ?_; rintro e w2 ⟨A9, c9, rfl, hS9, hx3⟩; clear hcl; have hb2 := hbd.nx hx3; replace p0 := (hx3.cell (p := ⟨bb, off + k * 4, none⟩) hbw).trans p0; replace p1 := (hx3.cell (p := ⟨bb, off + k * 4 + 1, none⟩) hbw).trans p1; replace p2 := (hx3.cell (p := ⟨bb, off + k * 4 + 2, none⟩) hbw).trans p2; replace p3 := (hx3.cell (p := ⟨bb, off + k * 4 + 3, none⟩) hbw).trans p3; have hX3 := hx2.trans hx3; rw [Hys.out] at hS9 ⊢; rw [HLA.out]
   go_wp2_with fail
   refine hK.out _ _ (by exact ⟨hb2.e8, p0, p1, p2, p3⟩) ?_
   clear hK K
   refine nZ ?_
   refine hPr ?_
   refine HP.done ?_
   go_wp2
   exact bodyPost_ret (v := .tuple #[sC A9 8 c9, ii f]) (by simp [results, results208, go_sem]) rfl ⟨A9, c9, by rw [HSB.out, HFT.out, <- Hk.out], by rw [HSB.out]; show Ins _ _ _ (app pO im (gs.getD (a - 1) sgZ).cs); rw [Hk.out, Hs.out]; show Ins _ _ _ (app pO im cs); rw [Hys.out]; exact hS9.row, hX3⟩
 rw [if_neg hlt, if_neg hgt]
 have HSB := qh (show stp b p t gs im = (im, a) by rw [Hstp.out, if_neg hlt, if_neg hgt])
 clear hd hlt hgt
 have hbd := b1.nx (Nx.refl _).drew
 have hx2 := hx0.drew
 have q8 := b1.e8
 obtain ⟨_, _, y2, _, _, _, _, y7⟩ := q8
 go_wp2_with fail
 refine wp_lexA (kf7 ([])) (fun w' => CC w' w.heap.size 0 (ii g) /\ CC w' w.heap.size 1 (ii b) /\ CC w' w.heap.size 2 (ii p) /\ CC w' w.heap.size 3 (ii t) /\ CC w' w.heap.size 4 (sC A xs.length c) /\ CC w' w.heap.size 5 (sC A2 ms.length c2) /\ CC w' w.heap.size 6 (sC A3 n c3) /\ CC w' w.heap.size 7 (sC A4 8 c4)) (by exact hbd.e8) ?_
 refine hLr ?_
 refine HL.done ?_
 go_wp2
 exact bodyPost_ret (v := .tuple #[sC A4 8 c4, ii p]) (by simp [results, results208, go_sem]) rfl ⟨A4, c4, by rw [HSB.out, HA.out], by rw [HSB.out]; exact (h4.below hx2 hB).more (ntr hB hx2.size), hx2⟩
theorem specVaultOK_c (V : Vl) (B : Nat) (w : World) (h : Vlt w B V) (hB : B <= w.heap.size) (hn : VlN V 1048576) (hc : V.xs.length <= V.c) (hm : AllM V.ms) :
 Calls Tryz.prog 198 #[V.v] w fun e w' => e = .returned (.bool V.ok) /\ Nx w w' := by
 have HISx := qh (l05Is_c V)
 have HANx := qh (l05Anchor_c V B)
 obtain ⟨g, b, p, t, A, c, xs, A2, c2, ms, A3, c3, gs, A4, c4, im⟩ := V
 obtain ⟨h, h2, h3, h4⟩ := h
 obtain ⟨hn, hn2, hn3, hn4, hn5⟩ := hn
 simp only [Vl.v, Vl.cells] at *
 have HOKv : Hid (Vl.ok ⟨g, b, p, t, A, c, xs, A2, c2, ms, A3, c3, gs, A4, c4, im⟩ = vltB g b p t xs ms gs im) := qh rfl
 rw [HOKv.out]
 have HNo := qh (vltB_no (g := g) (b := b) (p := p) (t := t) (xs := xs) (ms := ms) (gs := gs) (im := im))
 have HYes := qh (fun h => VltY.b (g := g) (b := b) (p := p) (t := t) (xs := xs) (ms := ms) (gs := gs) (im := im) h)
 have HNN : Hid (VlN ⟨g, b, p, t, A, c, xs, A2, c2, ms, A3, c3, gs, A4, c4, im⟩ 1048576) := qh ⟨hn, hn2, hn3, hn4, hn5⟩
 have HVT := qh (fun (w' : World) (hx : Nx w w') => (⟨h.below hx hB, h2.below hx hB, h3.below hx hB, h4.below hx hB⟩ : Vlt w' B ⟨g, b, p, t, A, c, xs, A2, c2, ms, A3, c3, gs, A4, c4, im⟩))
 have HSup := qh (fun (w' : World) (hx : Nx w w') => specSuperOK_c g b p t A A2 c c2 B xs ms w' (h.below hx hB) (h2.below hx hB) (ntr hB hx.size) hn hn2 hc hm)
 have HCon := qh (fun (w' : World) (hx : Nx w w') => specContentOK_c A4 c4 B im w' (h4.below hx hB) (ntr hB hx.size) hn5)
 have HCha := qh (fun (w' : World) (hx : Nx w w') => specChainOK_c b A3 c3 B gs w' (h3.below hx hB) (ntr hB hx.size) hn3 hn4)
 have HMk := qh (fun (k : Nat) (hk : k < ms.length) (w' : World) (hx : Nx w w') => (h2.below hx hB).at_ hk)
 have HSg := qh (fun (k : Nat) (hk : k < gs.length) (w' : World) (hx : Nx w w') => (h3.below hx hB).row.at4 hk)
 have HCh := qh (fun (k : Nat) (hk : k < gs.length) (w' : World) (hx : Nx w w') => (h3.chs k hk).below hx hB)
 obtain ⟨n, Hn⟩ := nM (gs.length)
 obtain ⟨q, Hq⟩ := nM (im.length)
 obtain ⟨r, Hr⟩ := nM (ms.length)
 obtain ⟨z, Hz⟩ := nM (xs.length)
 rw [Hn.out, Hr.out, Hz.out, Hq.out] at HISx HANx
 rw [Hz.out, Hr.out] at HSup
 rw [Hq.out] at HCon
 rw [Hn.out] at HCha HSg HCh hn3
 rw [Hr.out] at HMk hn2
 rw [Hz.out] at hn
 rw [Hq.out] at hn5
 rw [Hn.out, Hq.out, Hr.out, Hz.out]
 have b0 := Box.new w 49 #[ii g, ii b, ii p, ii t, sC A z c, sC A2 r c2, sC A3 n c3, sC A4 q c4]
 have hx0 := (Nx.refl w).alloc (.cells #[ii g, ii b, ii p, ii t, sC A z c, sC A2 r c2, sC A3 n c3, sC A4 q c4] 49)
 clear h h2 h3 h4 hn4 hc hm
 go_enter func198, ntmps198
 go_wp2_with fail
 generalize w.alloc (.cells #[ii g, ii b, ii p, ii t, sC A z c, sC A2 r c2, sC A3 n c3, sC A4 q c4] 49) = W at *
 refine (HSup.out W hx0).mono ?_
 rintro e w1 ⟨rfl, hk⟩
 have b1 := b0.nx hk
 have hx := hx0.trans hk
 clear hx0 b0 hk
 cases h1 : superB g b p t xs ms with
 | false =>
   have HR := qh (HNo.out (.inl h1))
   clear h1
   go_wp2
   go_ret
   exact ⟨ret_bool HR.out.symm, hx⟩
 | true =>
 have H1 := qh h1
 clear h1
 obtain ⟨y0, y1, y2, y3, y4, y5, y6, y7⟩ := b1.e8
 go_wp2_with fail
 refine (HCon.out _ hx).mono ?_
 clear y0 y1 y2 y3 y4 y5 y6 y7
 rintro e w2 ⟨rfl, hk⟩
 have b2 := b1.nx hk
 replace hx := hx.trans hk
 clear b1 hk
 cases h2 : contB im with
 | false =>
   have HR := qh (HNo.out (.inr (.inl h2)))
   clear h2
   go_wp2
   go_ret
   exact ⟨ret_bool HR.out.symm, hx⟩
 | true =>
 have H2 := qh h2
 clear h2
 obtain ⟨y0, y1, y2, y3, y4, y5, y6, y7⟩ := b2.e8
 go_wp2_with fail
 refine (HCha.out _ hx).mono ?_
 clear y0 y1 y2 y3 y4 y5 y6 y7
 rintro e w3 ⟨rfl, hk⟩
 have b3 := b2.nx hk
 replace hx := hx.trans hk
 clear b2 hk
 cases h3 : chainB b gs with
 | false =>
   have HR := qh (HNo.out (.inr (.inr (.inr (.inl h3)))))
   clear h3
   go_wp2
   go_ret
   exact ⟨ret_bool HR.out.symm, hx⟩
 | true =>
 have H3 := qh h3
 clear h3
 obtain ⟨y0, y1, y2, y3, y4, y5, y6, y7⟩ := b3.e8
 by_cases hle : n = z
 case neg =>
  have hd : ((n : Int) != (z : Int)) = true := by simp; omega
  have HR := qh (HNo.out (.inr (.inr (.inl (by rw [Hn.out, Hz.out]; exact hle)))))
  clear hle
  go_wp2
  go_ret
  exact ⟨ret_bool HR.out.symm, hx⟩
 have hd : ((n : Int) != (z : Int)) = false := by simp; omega
 have H4 := qh hle
 have HLd := qh (chainB_lead H3.out)
 have hn4 : n <= 4096 := by have := HLd.out.short; rw [Hn.out] at this; exact this
 have HIs := qh (fun (x : Int) (w' : World) (hx : Nx w w') => HISx.out x B w' (HVT.out w' hx) (ntr hB hx.size) HNN.out hn4)
 clear hle
 go_wp2_with fail
 refine (HIs.out p _ hx).mono ?_
 clear y0 y1 y2 y3 y4 y5 y6 y7 hd
 rintro e w4 ⟨rfl, hk⟩
 have b4 := b3.nx hk
 replace hx := hx.trans hk
 clear b3 hk
 cases h5 : isRet b gs p with
 | false =>
   have HR := qh (HNo.out (.inr (.inr (.inr (.inr (.inl (by unfold plcB; rw [h5]; simp)))))))
   clear h5
   go_wp2
   go_ret
   exact ⟨ret_bool HR.out.symm, hx⟩
 | true =>
 have H5 := qh h5
 clear h5
 obtain ⟨y0, y1, y2, y3, y4, y5, y6, y7⟩ := b4.e8
 go_wp2_with fail
 refine (HIs.out t _ hx).mono ?_
 clear y0 y1 y2 y3 y4 y5 y6 y7
 rintro e w5 ⟨rfl, hk⟩
 have b5 := b4.nx hk
 replace hx := hx.trans hk
 clear b4 hk
 cases h6 : isRet b gs t with
 | false =>
   have HR := qh (HNo.out (.inr (.inr (.inr (.inr (.inl (by unfold plcB; rw [h6]; simp)))))))
   clear h6
   go_wp2
   go_ret
   exact ⟨ret_bool HR.out.symm, hx⟩
 | true =>
 have H6 := qh h6
 clear h6
 obtain ⟨y0, y1, y2, y3, y4, y5, y6, y7⟩ := b5.e8
 go_wp2_with fail
 clear y0 y1 y2 y3 y4 y5 y6 y7
 go_loopw [3] (fun i wr => ∃ k : Nat, k <= r /\ i = ii k /\ MksTo b gs ms k /\ Nx w wr /\ Box wr w.heap.size 49 #[ii g, ii b, ii p, ii t, sC A z c, sC A2 r c2, sC A3 n c3, sC A4 q c4]) (fun i _ => r - (intOf i).toNat)
 case atStart => exact ⟨0, Nat.zero_le _, rfl, MksTo.zero _ _ _, hx, b5⟩
 case round =>
 obtain ⟨k, hk, rfl, hto, hnx, hb⟩ := hrel
 clear hx b5
 by_cases hlt : k < r
 . obtain ⟨bm, om, rfl, hbm, _, k1⟩ := HMk.out k hlt _ hnx
   have HT := qh (fun hh => hto.succ hh)
   have HF := qh (fun hh => mksR_no (b := b) (gs := gs) (ms := ms) (k := k) (by rw [Hr.out]; exact hlt) hh)
   obtain ⟨⟨q0, q1⟩, Hm⟩ := nM (ms.getD k mrZ)
   rw [Hm.out] at k1 HT HF
   simp only at k1 HT HF
   have hbd : Box wr.drew w.heap.size 49 #[ii g, ii b, ii p, ii t, sC A z c, sC (some ⟨bm, om, none⟩) r c2, sC A3 n c3, sC A4 q c4] := hb
   have hnxd := hnx.drew
   have hbw : bm < wr.drew.heap.size := Nat.lt_of_lt_of_le hbm (ntr hB hnx.size)
   have hkc : (k : Int) < (r : Int) := oM
   have hk0 : (0 : Int) <= (k : Int) := oM
   clear hto
   obtain ⟨y0, y1, y2, y3, y4, y5, y6, y7⟩ := hb.e8
   cases hq : isRet b gs q1 with
   | false =>
     have HR := qh (HNo.out (.inr (.inr (.inr (.inr (.inl (by unfold plcB; rw [HF.out hq]; rfl)))))))
     have HQ := qh hq
     clear hq HT HF
     go_wp2_with fail
     refine wp_lexA (kf8 (true :: ff :: [])) (fun w' => (CC w' w.heap.size 0 (ii g) /\ CC w' w.heap.size 1 (ii b) /\ CC w' w.heap.size 2 (ii p) /\ CC w' w.heap.size 3 (ii t) /\ CC w' w.heap.size 4 (sC A z c) /\ CC w' w.heap.size 5 (sC (some ⟨bm, om, none⟩) r c2) /\ CC w' w.heap.size 6 (sC A3 n c3) /\ CC w' w.heap.size 7 (sC A4 q c4)) /\ CC w' bm (om + k * 2 + 1) (ii q1)) (by exact ⟨hbd.e8, k1⟩) ?_
     refine hLr ?_
     refine hLc fun K hK => ?_
     go_simp
     refine (HIs.out q1 _ hnxd).mono ?_; rintro e w9 ⟨rfl, hx9⟩; have hb9 := hbd.nx hx9; replace k1 := (hx9.cell (p := ⟨bm, om + k * 2 + 1, none⟩) hbw).trans k1; have hnx9 := hnxd.trans hx9; rw [HQ.out]
     go_wp2_with fail
     refine hK.out _ _ (by exact ⟨hb9.e8, k1⟩) ?_
     clear hK K
     refine nZ ?_
     refine hLr ?_
     refine HL.done ?_
     go_wp2
     go_ret
     exact ⟨ret_bool HR.out.symm, hnx9⟩
   | true =>
     have HT' := qh (HT.out hq)
     have HQ := qh hq
     clear hq HT HF
     go_wp2_with fail
     refine wp_lexA (kf8 (true :: ff :: [])) (fun w' => (CC w' w.heap.size 0 (ii g) /\ CC w' w.heap.size 1 (ii b) /\ CC w' w.heap.size 2 (ii p) /\ CC w' w.heap.size 3 (ii t) /\ CC w' w.heap.size 4 (sC A z c) /\ CC w' w.heap.size 5 (sC (some ⟨bm, om, none⟩) r c2) /\ CC w' w.heap.size 6 (sC A3 n c3) /\ CC w' w.heap.size 7 (sC A4 q c4)) /\ CC w' bm (om + k * 2 + 1) (ii q1)) (by exact ⟨hbd.e8, k1⟩) ?_
     refine hLr ?_
     refine hLc fun K hK => ?_
     go_simp
     refine (HIs.out q1 _ hnxd).mono ?_; rintro e w9 ⟨rfl, hx9⟩; have hb9 := hbd.nx hx9; replace k1 := (hx9.cell (p := ⟨bm, om + k * 2 + 1, none⟩) hbw).trans k1; have hnx9 := hnxd.trans hx9; rw [HQ.out]
     go_wp2_with fail
     refine hK.out _ _ (by exact ⟨hb9.e8, k1⟩) ?_
     clear hK K
     refine nZ ?_
     refine hLr ?_
     refine HL.done ?_
     go_wp2
     go_roundw
     case rel => exact ⟨k + 1, oM, by go_num, HT'.out, hnx9, hb9⟩
     case measure => (simp [intOf] <;> omega)
 obtain rfl : r = k := oM
 have HPl := qh (show plcB b p t gs ms = true by unfold plcB; rw [(show mksR b gs ms = true from MksTo.all (by rw [Hr.out]; exact hto)), H5.out, H6.out]; rfl)
 have hx := hnx
 have b6 := hb
 clear hnx hb hto hlt hk
 have HSL := qh (stp_le (t := t) im HLd.out HPl.out)
 have H8 : Hid (q = 8) := qh (by rw [<- Hq.out]; exact (contB_yes H2.out).1)
 have HSL' := qh (show (p < t -> ahd b gs p < n) /\ (t < p -> 0 < ahd b gs p) by rw [<- Hn.out]; exact HSL.out.2)
 obtain rfl : q = 8 := H8.out
 have HAn := qh (fun (w' : World) (hx : Nx w w') => HANx.out w' (HVT.out w' hx) (ntr hB hx.size) HNN.out HLd.out rfl H5.out HSL'.out)
 obtain ⟨c0, Hc0⟩ := nM ((stp b p t gs im).1)
 obtain ⟨at9, Hat⟩ := nM ((stp b p t gs im).2)
 have HL0 : Hid (c0.length = 8) := qh (by rw [<- Hc0.out, stp_len, Hq.out])
 have hat : at9 <= n := by have := HSL.out.1; rw [Hat.out, Hn.out] at this; exact this
 rw [Hc0.out, Hat.out] at HNo HAn
 obtain ⟨N, HNv⟩ := nM (atK b gs at9)
 rw [HNv.out] at HAn
 have HGe := qh (fun (k : Nat) (hk : k < n) => (⟨HLd.out.from_ k (by rw [Hn.out]; exact hk), fun (hh : at9 <= k) => HLd.out.le (j := at9) (k := k) hh (by rw [Hn.out]; omega), fun (hh : k < at9) => HLd.out.lt (j := k) at9 hh (by rw [Hn.out]; exact hat)⟩ : (gs.getD k sgZ).f = atK b gs k /\ (at9 <= k -> atK b gs at9 <= atK b gs k) /\ (k < at9 -> atK b gs k < atK b gs at9)))
 have HLe := qh (fun (k : Nat) (hk : k < n) => (⟨rfl, fun (hh : k < at9) => HLd.out.le (j := k + 1) (k := at9) hh (by rw [Hn.out]; exact hat), fun (hh : at9 <= k) => HLd.out.lt (j := at9) (k + 1) oM (by rw [Hn.out]; exact hk)⟩ : (gs.getD k sgZ).t = atK b gs (k + 1) /\ (k < at9 -> atK b gs (k + 1) <= atK b gs at9) /\ (at9 <= k -> atK b gs at9 < atK b gs (k + 1))))
 have HOKs := qh (fun k (hk : k < n) => HLd.out.ok k (by rw [Hn.out]; exact hk))
 rw [HNv.out] at HGe HLe
 obtain ⟨y0, y1, y2, y3, y4, y5, y6, y7⟩ := b6.e8
 go_wp2_with fail
 clear y0 y1 y2 y3 y4 y5 y6 y7
 refine (HAn.out _ hx).mono ?_
 rintro e w7 ⟨Ac, cc, rfl, hI, hk⟩
 have b7 := b6.nx hk
 replace hx := hx.trans hk
 clear b6 hk
 go_wp2_with fail
 go_loopw [4, 6] (fun v i wr => ∃ k : Nat, k <= n /\ i = ii k /\ (∃ Ac cc, v = sC Ac 8 cc /\ Ins wr wr.heap.size Ac (fwK c0 gs at9 (k - at9))) /\ FitF c0 gs at9 (k - at9) /\ Nx w wr /\ Box wr w.heap.size 49 #[ii g, ii b, ii p, ii t, sC A z c, sC A2 r c2, sC A3 n c3, sC A4 8 c4]) (fun _ i _ => n - (intOf i).toNat)
 case atStart => exact ⟨0, Nat.zero_le _, rfl, ⟨_, _, rfl, by rw [show 0 - at9 = 0 by omega]; exact hI⟩, by rw [show 0 - at9 = 0 by omega]; exact FitF.zero _ _ _, hx, b7⟩
 case round =>
 obtain ⟨k, hk, rfl, ⟨Ac, cc, rfl, hI⟩, hfit, hnx, hb⟩ := hrel
 clear hx b7
 obtain ⟨y0, y1, y2, y3, y4, y5, y6, y7⟩ := hb.e8
 by_cases hlt : k < n
 . obtain ⟨bb, off, rfl, hbb, p0, p1, p2, p3⟩ := HSg.out k hlt _ hnx
   have hbw : bb < wr.heap.size := Nat.lt_of_lt_of_le hbb (ntr hB hnx.size)
   have hch := HCh.out k hlt wr hnx
   have hG := HGe.out k hlt
   have HOKc := qh (HOKs.out k hlt)
   have hkc : (k : Int) < (n : Int) := oM
   have hk0 : (0 : Int) <= (k : Int) := oM
   by_cases hka : at9 <= k
   case neg =>
    obtain ⟨s, Hs⟩ := nM (gs.getD k sgZ)
    rw [Hs.out] at p0 p1 p2 p3 hG
    obtain ⟨f, t9, m, Am, cm, cs⟩ := s
    simp only at p0 p1 p2 p3 hG
    have hdn : decide (N <= f) = false := decide_eq_false (by have := hG.2.2 oM; omega)
    rw [show k - at9 = 0 by omega] at hI hfit
    have HI := qh hI
    have HKA := qh hka
    clear hka hG hI
    go_wp2
    go_roundw
    case rel => exact ⟨k + 1, oM, by go_num, ⟨_, _, rfl, by rw [show k + 1 - at9 = 0 by have := HKA.out; omega]; exact HI.out⟩, by rw [show k + 1 - at9 = 0 by have := HKA.out; omega]; exact hfit, hnx, hb⟩
    case measure => (simp [intOf] <;> omega)
   obtain ⟨j, Hj⟩ := nM (k - at9)
   have Hkj : Hid (k = at9 + j) := qh (by have := Hj.out; omega)
   have HLj : Hid ((fwK c0 gs at9 j).length = 8) := qh (by rw [fwK_len]; exact HL0.out)
   have HFs := qh (fun hh => hfit.succ hh)
   have HFn := qh (fun hh => fitF_no (c := c0) (gs := gs) (a := at9) (k := k - at9) (by rw [Hn.out]; omega) hh)
   have Hsuc : Hid (fwK c0 gs at9 (j + 1) = app pN (fwK c0 gs at9 j) (gs.getD k sgZ).cs) := qh (by rw [Hkj.out]; rfl)
   rw [Hj.out] at hI HFs HFn
   rw [<- Hkj.out] at HFs HFn
   obtain ⟨cj, Hcj⟩ := nM (fwK c0 gs at9 j)
   rw [Hcj.out] at hI HFs HFn Hsuc HLj
   obtain ⟨s, Hs⟩ := nM (gs.getD k sgZ)
   rw [Hs.out] at p0 p1 p2 p3 hG HFs HFn Hsuc hch HOKc
   obtain ⟨f, t9, m, Am, cm, cs⟩ := s
   simp only at p0 p1 p2 p3 hG hch HOKc Hsuc
   have hdn : decide (N <= f) = true := decide_eq_true (by have := hG.2.1 hka; omega)
   have hchw := hch.more (ntr hB hnx.size)
   have HKA := qh hka
   clear hG hka hfit hch
   go_wp2_with fail
   refine (l05Old_c Ac cc wr.heap.size cj ⟨f, t9, m, Am, cm, cs⟩ wr hI hchw nle HOKc.out HLj.out).mono ?_
   rintro e w8 ⟨rfl, hk8⟩
   replace p0 := (hk8.cell (p := ⟨bb, off + k * 4, none⟩) hbw).trans p0
   replace p1 := (hk8.cell (p := ⟨bb, off + k * 4 + 1, none⟩) hbw).trans p1
   replace p2 := (hk8.cell (p := ⟨bb, off + k * 4 + 2, none⟩) hbw).trans p2
   replace p3 := (hk8.cell (p := ⟨bb, off + k * 4 + 3, none⟩) hbw).trans p3
   have hb8 := hb.nx hk8
   have hnx8 := hnx.trans hk8
   have hI8 := (hI.below hk8 nle)
   have hch8 := hchw.below hk8 nle
   have hsz8 := hk8.size
   clear y0 y1 y2 y3 y4 y5 y6 y7 hb hI hchw
   cases ho : oldB cj ⟨f, t9, m, Am, cm, cs⟩ with
   | false =>
     have HR := qh (HNo.out (.inr (.inr (.inr (.inr (.inr (.inl (HFn.out ho))))))))
     clear ho HFs HFn
     go_wp2
     go_ret
     exact ⟨ret_bool HR.out.symm, hnx8⟩
   | true =>
   have HFs' := qh (HFs.out ho)
   clear ho HFs HFn
   obtain ⟨y0, y1, y2, y3, y4, y5, y6, y7⟩ := hb8.e8
   go_wp2_with fail
   have hcl := l03Forward_c Ac cc wr.heap.size cj f t9 m Am cm cs w8 hI8 hch8 hsz8 HOKc.out HLj.out
   rw [HLj.out] at hcl
   refine hcl.mono ?_
   rintro e w10 ⟨A9, c9, rfl, hS, hk10⟩
   have hb10 := hb8.nx hk10
   have hnx10 := hnx8.trans hk10
   have hIn := hS.row
   have HLn : Hid ((app pN cj cs).length = 8) := qh (by rw [app_len]; exact HLj.out)
   rw [HLn.out]
   have HIn := qh (show Ins w10 w10.heap.size A9 (fwK c0 gs at9 (j + 1)) by rw [Hsuc.out]; exact hIn)
   clear y0 y1 y2 y3 y4 y5 y6 y7 hcl hS hIn p0 p1 p2 p3 hI8 hch8 hb8
   go_wp2
   go_roundw
   case rel => exact ⟨k + 1, oM, by go_num, ⟨_, _, rfl, by rw [show k + 1 - at9 = j + 1 by have := Hkj.out; omega]; exact HIn.out⟩, by rw [show k + 1 - at9 = j + 1 by have := Hkj.out; omega]; exact HFs'.out, hnx10, hb10⟩
   case measure => (simp [intOf] <;> omega)
 obtain rfl : n = k := oM
 have HFF := qh (show fitF c0 gs at9 = true from FitF.all (by rw [Hn.out]; exact hfit))
 have hx := hnx
 have b6 := hb
 clear hnx hb hfit hlt hk hI
 go_wp2_with fail
 clear y0 y1 y2 y3 y4 y5 y6 y7
 refine (HAn.out _ hx).mono ?_
 rintro e w7 ⟨Ac, cc, rfl, hI, hk⟩
 have b7 := b6.nx hk
 replace hx := hx.trans hk
 clear b6 hk
 obtain ⟨y0, y1, y2, y3, y4, y5, y6, y7⟩ := b7.e8
 have hwn : IntKind.i64.wrap ((n : Int) - 1) = (n : Int) - 1 := IntWalk.i64_in _ oM
 go_wp2_with fail
 clear y0 y1 y2 y3 y4 y5 y6 y7
 go_loopw [4, 7] (fun v i wr => ∃ k : Nat, k <= n /\ i = ii ((k : Int) - 1) /\ (∃ Ac cc, v = sC Ac 8 cc /\ Ins wr wr.heap.size Ac (bkK c0 gs at9 (at9 - k))) /\ FitB c0 gs at9 (at9 - k) /\ Nx w wr /\ Box wr w.heap.size 49 #[ii g, ii b, ii p, ii t, sC A z c, sC A2 r c2, sC A3 n c3, sC A4 8 c4]) (fun _ i _ => (intOf i + 1).toNat)
 case atStart => exact ⟨n, Nat.le_refl _, rfl, ⟨_, _, rfl, by rw [show at9 - n = 0 by omega]; exact hI⟩, by rw [show at9 - n = 0 by omega]; exact FitB.zero _ _ _, hx, b7⟩
 case round =>
 obtain ⟨k, hk, rfl, ⟨Ac, cc, rfl, hI⟩, hfit, hnx, hb⟩ := hrel
 clear hx b7 hwn
 obtain ⟨y0, y1, y2, y3, y4, y5, y6, y7⟩ := hb.e8
 by_cases hlt : k = 0
 case pos =>
  have HR := qh (HYes.out ⟨H1.out, H2.out, by rw [Hn.out, Hz.out]; exact H4.out, H3.out, HPl.out, by rw [Hc0.out, Hat.out]; exact HFF.out, by rw [Hc0.out, Hat.out]; exact FitB.all (by rw [hlt, Nat.sub_zero] at hfit; exact hfit)⟩)
  rw [show ((k : Int) - 1) = -1 by omega]
  clear hlt hfit
  go_wp2
  go_ret
  exact ⟨ret_bool HR.out.symm, hnx⟩
 obtain ⟨i, rfl⟩ : ∃ i, k = i + 1 := ⟨k - 1, oM⟩
 rw [show ((i + 1 : Nat) : Int) - 1 = (i : Int) by omega]
 have hin : i < n := oM
 obtain ⟨bb, off, rfl, hbb, p0, p1, p2, p3⟩ := HSg.out i hin _ hnx
 have hbw : bb < wr.heap.size := Nat.lt_of_lt_of_le hbb (ntr hB hnx.size)
 have hch := HCh.out i hin wr hnx
 have hG := HLe.out i hin
 have HOKc := qh (HOKs.out i hin)
 have hkc : (i : Int) < (n : Int) := oM
 have hk0 : (0 : Int) <= (i : Int) := oM
 have hwi : IntKind.i64.wrap ((i : Int) - 1) = (i : Int) - 1 := IntWalk.i64_in _ oM
 by_cases hka : at9 <= i
 case pos =>
  obtain ⟨s, Hs⟩ := nM (gs.getD i sgZ)
  rw [Hs.out] at p0 p1 p2 p3 hG
  obtain ⟨f, t9, m, Am, cm, cs⟩ := s
  simp only at p0 p1 p2 p3 hG
  have hdn : decide (N < t9) = true := decide_eq_true (by have := hG.2.2 hka; omega)
  rw [show at9 - (i + 1) = 0 by omega] at hI hfit
  have HI := qh hI
  have HKA := qh hka
  clear hka hG hI hlt
  go_wp2
  go_roundw
  case rel => exact ⟨i, oM, rfl, ⟨_, _, rfl, by rw [show at9 - i = 0 by have := HKA.out; omega]; exact HI.out⟩, by rw [show at9 - i = 0 by have := HKA.out; omega]; exact hfit, hnx, hb⟩
  case measure => (simp [intOf] <;> omega)
 obtain ⟨j, Hj⟩ := nM (at9 - (i + 1))
 have Hkj : Hid (i = at9 - 1 - j) := qh (by have := Hj.out; omega)
 have HLj : Hid ((bkK c0 gs at9 j).length = 8) := qh (by rw [bkK_len]; exact HL0.out)
 have HFs := qh (fun hh => hfit.succ hh)
 have HFn := qh (fun hh => fitB_no (c := c0) (gs := gs) (a := at9) (k := at9 - (i + 1)) oM hh)
 have Hsuc : Hid (bkK c0 gs at9 (j + 1) = app pO (bkK c0 gs at9 j) (gs.getD i sgZ).cs) := qh (by rw [Hkj.out]; rfl)
 rw [Hj.out] at hI HFs HFn
 rw [<- Hkj.out] at HFs HFn
 obtain ⟨cj, Hcj⟩ := nM (bkK c0 gs at9 j)
 rw [Hcj.out] at hI HFs HFn Hsuc HLj
 have HNb := qh (newB_back (c := cj) (g := gs.getD i sgZ) HOKc.out HLj.out)
 obtain ⟨s, Hs⟩ := nM (gs.getD i sgZ)
 rw [Hs.out] at p0 p1 p2 p3 hG HFs HFn Hsuc hch HOKc HNb
 obtain ⟨f, t9, m, Am, cm, cs⟩ := s
 simp only at p0 p1 p2 p3 hG hch HOKc Hsuc
 have hdn : decide (N < t9) = false := decide_eq_false (by have := hG.2.1 oM; omega)
 have hchw := hch.more (ntr hB hnx.size)
 have HKA := qh hka
 clear hG hka hfit hch hlt
 go_wp2_with fail
 have hcl := l03Backward_c Ac cc wr.heap.size cj f t9 m Am cm cs wr hI hchw nle HOKc.out HLj.out
 rw [HLj.out] at hcl
 refine hcl.mono ?_
 rintro e w8 ⟨A8, c8, rfl, hS, hk8⟩
 have HL8 : Hid ((app pO cj cs).length = 8) := qh (by rw [app_len]; exact HLj.out)
 rw [HL8.out]
 have hI8 := hS.row
 replace p0 := (hk8.cell (p := ⟨bb, off + i * 4, none⟩) hbw).trans p0
 replace p1 := (hk8.cell (p := ⟨bb, off + i * 4 + 1, none⟩) hbw).trans p1
 replace p2 := (hk8.cell (p := ⟨bb, off + i * 4 + 2, none⟩) hbw).trans p2
 replace p3 := (hk8.cell (p := ⟨bb, off + i * 4 + 3, none⟩) hbw).trans p3
 have hb8 := hb.nx hk8
 have hnx8 := hnx.trans hk8
 have hc8 := hI.below hk8 nle
 have hch8 := (hchw.below hk8 nle).more hk8.size
 have hsz8 := hk8.size
 clear y0 y1 y2 y3 y4 y5 y6 y7 hb hI hchw hcl hS
 obtain ⟨y0, y1, y2, y3, y4, y5, y6, y7⟩ := hb8.e8
 obtain ⟨bj, Hbj⟩ := nM (app pO cj cs)
 rw [Hbj.out] at hI8 HL8 Hsuc
 rw [Hbj.out] at HNb
 rw [HL8.out] at hI8
 have hI8' : Ins w8 w8.heap.size A8 bj := by unfold Ins; rw [HL8.out]; exact hI8
 go_wp2_with fail
 have hcl := l03Forward_c A8 c8 w8.heap.size bj f t9 m Am cm cs w8 hI8' hch8 nle HOKc.out HL8.out
 rw [HL8.out] at hcl
 refine hcl.mono ?_
 rintro e w10 ⟨A9, c9, rfl, hS, hk10⟩
 have HL9 : Hid ((app pN bj cs).length = 8) := qh (by rw [app_len]; exact HL8.out)
 rw [HL9.out]
 have hIn := hS.row
 obtain ⟨fj, Hfj⟩ := nM (app pN bj cs)
 rw [Hfj.out] at hIn HL9
 rw [Hfj.out] at HNb
 have hb10 := hb8.nx hk10
 have hnx10 := hnx8.trans hk10
 have hcA := (hc8.below hk10 hsz8).more (ntr hsz8 hk10.size)
 have hI10 := hI8'.below hk10 nle
 have hsz10 := hk10.size
 clear y0 y1 y2 y3 y4 y5 y6 y7 hcl hS p0 p1 p2 p3 hch8 hb8 hc8 hI8 hI8'
 go_wp2_with fail
 refine (l05Same_c A9 Ac c9 cc w10.heap.size fj cj w10 hIn hcA nle HL9.out HLj.out).mono ?_
 rintro e w11 ⟨rfl, hk11⟩
 have hb11 := hb10.nx hk11
 have hnx11 := hnx10.trans hk11
 have hI11 := (hI10.below hk11 hsz10).more (ntr hsz10 hk11.size)
 rw [<- HNb.out]
 clear hb10 hnx10 hcA hI10 hIn
 cases ho : newB cj ⟨f, t9, m, Am, cm, cs⟩ with
 | false =>
   have HR := qh (HNo.out (.inr (.inr (.inr (.inr (.inr (.inr (HFn.out ho))))))))
   clear ho HFs HFn
   go_wp2
   go_ret
   exact ⟨ret_bool HR.out.symm, hnx11⟩
 | true =>
 have HFs' := qh (HFs.out ho)
 clear ho HFs HFn
 have HIn := qh (show Ins w11 w11.heap.size A8 (bkK c0 gs at9 (j + 1)) by rw [Hsuc.out]; exact hI11)
 go_wp2
 go_roundw
 case rel => exact ⟨i, oM, rfl, ⟨_, _, rfl, by rw [show at9 - i = j + 1 by have := Hj.out; have := HKA.out; omega]; exact HIn.out⟩, by rw [show at9 - i = j + 1 by have := Hj.out; have := HKA.out; omega]; exact HFs'.out, hnx11, hb11⟩
 case measure => (simp [intOf] <;> omega)
def Vl.wcells (V : Vl) : Array Value := #[ii V.g, ii V.b, ii V.p, ii V.t, sC V.A V.xs.length V.c, sC V.A2 V.ms.length V.c2, sC V.A3 V.gs.length V.c3, inAt V.im 0, inAt V.im 1, inAt V.im 2, inAt V.im 3, inAt V.im 4, inAt V.im 5, inAt V.im 6, inAt V.im 7]
def Vl.w (V : Vl) : Value := .agg V.wcells
theorem Box.e15 {w : World} {g : Nat} {t : TypeId} {v0 v1 v2 v3 v4 v5 v6 v7 v8 v9 v10 v11 v12 v13 v14 : Value} (h : Box w g t #[v0, v1, v2, v3, v4, v5, v6, v7, v8, v9, v10, v11, v12, v13, v14]) : w.cell? ⟨g, 0, none⟩ = some v0 /\ w.cell? ⟨g, 1, none⟩ = some v1 /\ w.cell? ⟨g, 2, none⟩ = some v2 /\ w.cell? ⟨g, 3, none⟩ = some v3 /\ w.cell? ⟨g, 4, none⟩ = some v4 /\ w.cell? ⟨g, 5, none⟩ = some v5 /\ w.cell? ⟨g, 6, none⟩ = some v6 /\ w.cell? ⟨g, 7, none⟩ = some v7 /\ w.cell? ⟨g, 8, none⟩ = some v8 /\ w.cell? ⟨g, 9, none⟩ = some v9 /\ w.cell? ⟨g, 10, none⟩ = some v10 /\ w.cell? ⟨g, 11, none⟩ = some v11 /\ w.cell? ⟨g, 12, none⟩ = some v12 /\ w.cell? ⟨g, 13, none⟩ = some v13 /\ w.cell? ⟨g, 14, none⟩ = some v14 :=
 ⟨h.cell 0, h.cell 1, h.cell 2, h.cell 3, h.cell 4, h.cell 5, h.cell 6, h.cell 7, h.cell 8, h.cell 9, h.cell 10, h.cell 11, h.cell 12, h.cell 13, h.cell 14⟩
theorem Box.row {w : World} {g : Nat} {t : TypeId} {cs : Array Value} (h : Box w g t cs) (ds : Array Value) : Box (w.setRow g ds) g t ds := setRow_heap w g cs ds t _ h
theorem heap_setRow_ne (w : World) (g : Nat) (ds : Array Value) {k : Nat} (h : k ≠ g) : (w.setRow g ds).heap[k]? = w.heap[k]? := by
 simp only [World.setRow, Array.getElem?_modify]
 rw [if_neg (fun e : g = k => h e.symm)]
theorem size_setRow (w : World) (g : Nat) (ds : Array Value) : (w.setRow g ds).heap.size = w.heap.size := by simp [World.setRow]
theorem Nx.setRow {a w : World} (h : Nx a w) {g : Nat} (hg : a.heap.size <= g) (ds : Array Value) : Nx a (w.setRow g ds) :=
 ⟨h.os, h.tape, h.output, by rw [size_setRow]; exact h.size, fun k hk => (heap_setRow_ne w g ds oM).trans (h.block k hk)⟩
theorem Box.rowfar {w : World} {g k : Nat} {t : TypeId} {cs : Array Value} (h : Box w k t cs) (hne : k ≠ g) (ds : Array Value) : Box (w.setRow g ds) k t cs := (heap_setRow_ne w g ds hne).trans h
theorem Own.rowfar {w : World} {g k m : Nat} {t : TypeId} {f : Nat -> Value} (h : Own w k t m f) (hne : k ≠ g) (ds : Array Value) : Own (w.setRow g ds) k t m f := h.of_block (heap_setRow_ne w g ds hne)
theorem Sl.rowfar {w : World} {lo m g : Nat} {A : Option Addr} {t : TypeId} {f : Nat -> Value} (h : Sl w lo A t m f) (hg : g < lo) (ds : Array Value) : Sl (w.setRow g ds) lo A t m f := fun hm => by
 obtain ⟨k, e, hl, ho⟩ := h hm; exact ⟨k, e, hl, ho.rowfar oM ds⟩
theorem goesForward_c (g b p t : Int) (A A2 : Option Addr) (c c2 n n2 : Nat) (w : World) :
 Calls Tryz.prog 204 #[.agg #[ii g, ii b, ii p, ii t, sC A n c, sC A2 n2 c2]] w fun e w' => e = .returned (.bool (decide (p < t))) /\ Nx w w' := by
 have hx0 := (Nx.refl w).alloc (.cells #[ii g, ii b, ii p, ii t, sC A n c, sC A2 n2 c2] 26)
 go_enter func204, ntmps204
 go_wp2
 go_ret
 exact ⟨rfl, hx0⟩
theorem goesBack_c (g b p t : Int) (A A2 : Option Addr) (c c2 n n2 : Nat) (w : World) :
 Calls Tryz.prog 205 #[.agg #[ii g, ii b, ii p, ii t, sC A n c, sC A2 n2 c2]] w fun e w' => e = .returned (.bool (decide (t < p))) /\ Nx w w' := by
 have hx0 := (Nx.refl w).alloc (.cells #[ii g, ii b, ii p, ii t, sC A n c, sC A2 n2 c2] 26)
 go_enter func205, ntmps205
 go_wp2
 go_ret
 exact ⟨rfl, hx0⟩
theorem view_c (V : Vl) (B : Nat) (w : World) (h : Ins w B V.A4 V.im) (hB : B <= w.heap.size) (h8 : V.im.length = 8) :
 Calls Tryz.prog 67 #[V.v] w fun e w' => e = .returned V.w /\ Nx w w' := by
 obtain ⟨g, b, p, t, A, c, xs, A2, c2, ms, A3, c3, gs, A4, c4, im⟩ := V
 simp only [Vl.v, Vl.cells, Vl.w, Vl.wcells] at *
 have H8 := qh h8
 have h4 := h
 clear h8 h
 have b0 : Box ((w.alloc (.cells #[ii g, ii b, ii p, ii t, sC A xs.length c, sC A2 ms.length c2, sC A3 gs.length c3, sC A4 8 c4] 49)).alloc (.cells #[ii 0, ii 0, ii 0, ii 0, nsl, nsl, nsl, ii 0, ii 0, ii 0, ii 0, ii 0, ii 0, ii 0, ii 0] 107)) w.heap.size 49 #[ii g, ii b, ii p, ii t, sC A xs.length c, sC A2 ms.length c2, sC A3 gs.length c3, sC A4 8 c4] := (Box.new w _ _).alloc _
 have r0 : Box ((w.alloc (.cells #[ii g, ii b, ii p, ii t, sC A xs.length c, sC A2 ms.length c2, sC A3 gs.length c3, sC A4 8 c4] 49)).alloc (.cells #[ii 0, ii 0, ii 0, ii 0, nsl, nsl, nsl, ii 0, ii 0, ii 0, ii 0, ii 0, ii 0, ii 0, ii 0] 107)) (w.heap.size + 1) 107 #[ii 0, ii 0, ii 0, ii 0, nsl, nsl, nsl, ii 0, ii 0, ii 0, ii 0, ii 0, ii 0, ii 0, ii 0] := by have := Box.new (w.alloc (.cells #[ii g, ii b, ii p, ii t, sC A xs.length c, sC A2 ms.length c2, sC A3 gs.length c3, sC A4 8 c4] 49)) 107 #[ii 0, ii 0, ii 0, ii 0, nsl, nsl, nsl, ii 0, ii 0, ii 0, ii 0, ii 0, ii 0, ii 0, ii 0]; rwa [World.size_alloc] at this
 have hx0 := ((Nx.refl w).alloc (.cells #[ii g, ii b, ii p, ii t, sC A xs.length c, sC A2 ms.length c2, sC A3 gs.length c3, sC A4 8 c4] 49)).alloc (.cells #[ii 0, ii 0, ii 0, ii 0, nsl, nsl, nsl, ii 0, ii 0, ii 0, ii 0, ii 0, ii 0, ii 0, ii 0] 107)
 go_enter func67, ntmps67
 rw [H8.out]
 go_wp2_with fail
 generalize ((w.alloc (.cells #[ii g, ii b, ii p, ii t, sC A xs.length c, sC A2 ms.length c2, sC A3 gs.length c3, sC A4 8 c4] 49)).alloc (.cells #[ii 0, ii 0, ii 0, ii 0, nsl, nsl, nsl, ii 0, ii 0, ii 0, ii 0, ii 0, ii 0, ii 0, ii 0] 107)) = W at *
 obtain ⟨gR, HgR⟩ := nM (w.heap.size + 1)
 have hgR : w.heap.size <= gR := by have := HgR.out; omega
 have hne : w.heap.size ≠ gR := by have := HgR.out; omega
 rw [HgR.out]
 rw [HgR.out] at r0
 refine wp_lexA (kf6 (true :: ff :: true :: [])) (fun w' => CC w' w.heap.size 0 (ii g) /\ CC w' w.heap.size 1 (ii b) /\ CC w' w.heap.size 2 (ii p) /\ CC w' w.heap.size 3 (ii t) /\ CC w' w.heap.size 4 (sC A xs.length c) /\ CC w' w.heap.size 5 (sC A2 ms.length c2) /\ CC w' w.heap.size 6 (sC A3 gs.length c3) /\ CC w' w.heap.size 7 (sC A4 8 c4)) (by exact b0.e8) ?_
 refine hLr ?_
 refine hLc fun K hK => ?_
 go_simp
 have hcv := valuesOf_c A4 c4 B im _ (h4.below hx0.drew hB) (ntr hB hx0.drew.size) H8.out; rw [H8.out] at hcv; refine hcv.mono ?_; clear hcv; rintro e w1 ⟨rfl, hk⟩; have b1 := (b0.nx (Nx.refl _).drew).nx hk; have r1 := (r0.nx (Nx.refl _).drew).nx hk; have hx1 := hx0.drew.trans hk; unfold vA
 go_wp2_with fail
 refine hK.out _ _ (by exact b1.e8) ?_
 clear hK K
 refine nZ ?_
 refine hLr ?_
 refine hLc fun K hK => ?_
 refine wp_store_row _ _ _ rfl gR #[ii g, ii b, ii p, ii t, sC A xs.length c, sC A2 ms.length c2, sC A3 gs.length c3, inAt im 0, inAt im 1, inAt im 2, inAt im 3, inAt im 4, inAt im 5, inAt im 6, inAt im 7] rfl rfl 107 #[ii 0, ii 0, ii 0, ii 0, nsl, nsl, nsl, ii 0, ii 0, ii 0, ii 0, ii 0, ii 0, ii 0, ii 0] r1 (by kernel_rfl) rfl (by simp [Value.oneCell', inAt]) ?_
 refine hK.out _ _ (by exact (b1.rowfar hne #[ii g, ii b, ii p, ii t, sC A xs.length c, sC A2 ms.length c2, sC A3 gs.length c3, inAt im 0, inAt im 1, inAt im 2, inAt im 3, inAt im 4, inAt im 5, inAt im 6, inAt im 7]).e8) ?_
 clear hK K
 try simp only [Act.put]
 refine HL.done ?_
 have rq := r1.row #[ii g, ii b, ii p, ii t, sC A xs.length c, sC A2 ms.length c2, sC A3 gs.length c3, inAt im 0, inAt im 1, inAt im 2, inAt im 3, inAt im 4, inAt im 5, inAt im 6, inAt im 7]
 have hnf := hx1.setRow hgR #[ii g, ii b, ii p, ii t, sC A xs.length c, sC A2 ms.length c2, sC A3 gs.length c3, inAt im 0, inAt im 1, inAt im 2, inAt im 3, inAt im 4, inAt im 5, inAt im 6, inAt im 7]
 generalize w1.setRow gR #[ii g, ii b, ii p, ii t, sC A xs.length c, sC A2 ms.length c2, sC A3 gs.length c3, inAt im 0, inAt im 1, inAt im 2, inAt im 3, inAt im 4, inAt im 5, inAt im 6, inAt im 7] = Wf at *
 obtain ⟨g0, g1, g2, g3, g4, g5, g6, g7, g8, g9, g10, g11, g12, g13, g14⟩ := rq.e15
 go_wp2
 exact bodyPost_ret (v := .agg #[ii g, ii b, ii p, ii t, sC A xs.length c, sC A2 ms.length c2, sC A3 gs.length c3, inAt im 0, inAt im 1, inAt im 2, inAt im 3, inAt im 4, inAt im 5, inAt im 6, inAt im 7]) (by simp [results, results67, go_sem, g0, g1, g2, g3, g4, g5, g6, g7, g8, g9, g10, g11, g12, g13, g14]) rfl ⟨rfl, hnf⟩
theorem retained_c (V : Vl) (B : Nat) (w : World) (h : Sgs w B V.A3 V.gs) (hB : B <= w.heap.size) (hn : V.gs.length <= 1048576) :
 Calls Tryz.prog 147 #[V.w] w (RetIc w (retL V.b V.gs)) := by
 obtain ⟨g, b, p, t, A, c, xs, A2, c2, ms, A3, c3, gs, A4, c4, im⟩ := V
 have h3 := h
 have hn3 := hn
 clear h hn
 simp only [Vl.w, Vl.wcells] at *
 obtain ⟨n, Hn⟩ := nM (gs.length)
 have HS := qh (fun k (hk : k < n) => retTo_succ (b := b) (gs := gs) (k := k) (by rw [Hn.out]; exact hk))
 have HL := qh (fun k (hk : k <= n) => retTo_len (b := b) (gs := gs) (k := k) (by rw [Hn.out]; exact hk))
 have HA := qh (retTo_all b gs)
 have h3' : ∀ k, k < n -> _ := fun k hk w' B' hw hB' => ((h3.below (w' := w') (B' := B') hw hB').row.at4 (k := k) (by rw [Hn.out]; exact hk))
 rw [Hn.out] at hn3 HA ⊢
 have b0 := (Box.new w 107 #[ii g, ii b, ii p, ii t, sC A xs.length c, sC A2 ms.length c2, sC A3 n c3, inAt im 0, inAt im 1, inAt im 2, inAt im 3, inAt im 4, inAt im 5, inAt im 6, inAt im 7]).alloc (.cells #[ii b] 3)
 have hx0 := (Nx.refl w).alloc (.cells #[ii g, ii b, ii p, ii t, sC A xs.length c, sC A2 ms.length c2, sC A3 n c3, inAt im 0, inAt im 1, inAt im 2, inAt im 3, inAt im 4, inAt im 5, inAt im 6, inAt im 7] 107)
 have hrow0 := RowI.one (w.alloc (.cells #[ii g, ii b, ii p, ii t, sC A xs.length c, sC A2 ms.length c2, sC A3 n c3, inAt im 0, inAt im 1, inAt im 2, inAt im 3, inAt im 4, inAt im 5, inAt im 6, inAt im 7] 107)) (B := w.heap.size + 1) (by simp) b
 rw [World.size_alloc] at hrow0
 have hx1 := hx0.alloc (.cells #[ii b] 3)
 have hz1 : w.heap.size + 1 <= ((w.alloc (.cells #[ii g, ii b, ii p, ii t, sC A xs.length c, sC A2 ms.length c2, sC A3 n c3, inAt im 0, inAt im 1, inAt im 2, inAt im 3, inAt im 4, inAt im 5, inAt im 6, inAt im 7] 107)).alloc (.cells #[ii b] 3)).heap.size := by simp
 clear hx0 h3
 go_enter func147, ntmps147
 go_wp2_with fail
 generalize ((w.alloc (.cells #[ii g, ii b, ii p, ii t, sC A xs.length c, sC A2 ms.length c2, sC A3 n c3, inAt im 0, inAt im 1, inAt im 2, inAt im 3, inAt im 4, inAt im 5, inAt im 6, inAt im 7] 107)).alloc (.cells #[ii b] 3)) = W at *
 obtain ⟨_, _, _, _, _, _, y6, _, _, _, _, _, _, _, _⟩ := b0.e15
 go_loopw [3, 13] (fun v i wr => ∃ (k : Nat), k <= n /\ i = ii k /\ (∃ u, u = v /\ RowI wr (w.heap.size + 1) u (retTo b gs k)) /\ Nx w wr /\ w.heap.size + 1 <= wr.heap.size) (fun _ i _ => n - (intOf i).toNat)
 case atStart => exact ⟨0, oM, rfl, ⟨_, rfl, hrow0⟩, hx1, hz1⟩
 case round =>
  obtain ⟨k, hk, rfl, ⟨u, rfl, hrow⟩, hnx, hsz⟩ := hrel
  clear hrow0 hx1 hz1 b0 y6
  by_cases hlt : k < n
  case neg =>
   obtain rfl : n = k := oM
   rw [HA.out] at hrow
   obtain ⟨A', c', rfl, hc', hS⟩ := hrow.slc
   go_wp2
   go_ret
   exact ⟨A', c', rfl, hc', hS.low oM, hnx⟩
  obtain ⟨bb, off, rfl, hbb, p0, p1, p2, p3⟩ := h3' k hlt _ _ hnx hB
  have HS' := qh (HS.out k hlt)
  have HLk := qh (HL.out k oM)
  obtain ⟨⟨f, t9, m, Ac, cc, cs⟩, Hs⟩ := nM (gs.getD k sgZ)
  rw [Hs.out] at p0 p1 p2 p3 HS'
  simp only at p0 p1 p2 p3 HS'
  have hxa := (Nx.refl wr).alloc (.cells #[ii f, ii t9, ii m, sC Ac cs.length cc] 122)
  have hx2 := hxa.alloc (.cells #[ii t9] 3)
  have hbx := Box.new (wr.alloc (.cells #[ii f, ii t9, ii m, sC Ac cs.length cc] 122)) 3 #[ii t9]
  rw [World.size_alloc] at hbx
  have hrow1 := hrow.nx hx2
  have hnx2 := hnx.trans hx2
  have hsz2 := ntr hsz hx2.size
  have HR := qh hrow1
  have HB := qh hbx
  clear hrow hrow1 hbx hxa
  go_wp2_with (at_builtin; refine wpList_addI rfl _ _ rfl (w.heap.size + 1) (wr.heap.size + 1) _ (retTo b gs k) t9 rfl rfl HR.out HB.out (by have := HLk.out; omega) hsz2 ?_)
  intro A' k' w' hr' hg'
  have hnx3 := hg'.nx w hnx2 oM
  have hsz3 := ntr hsz2 hg'.size
  go_wp2
  go_roundw
  case rel => exact ⟨k + 1, oM, by go_num, ⟨_, rfl, by rw [HS'.out]; exact hr'⟩, hnx3, hsz3⟩
  case measure => simp [intOf]; omega
theorem segsAhead_c (V : Vl) (x : Int) (B : Nat) (w : World) (h : Sgs w B V.A3 V.gs) (hB : B <= w.heap.size) (hN : V.gs.length <= 4096) (hr : isRet V.b V.gs x = true) :
 Calls Tryz.prog 149 #[V.w, ii x] w fun e w' => e = .returned (ii (ahd V.b V.gs x : Int)) /\ Nx w w' := by
 have hR := retained_c V B
 obtain ⟨g, b, p, t, A, c, xs, A2, c2, ms, A3, c3, gs, A4, c4, im⟩ := V
 have h3 := h
 simp only [Vl.w, Vl.wcells] at *
 have hx0 := (Nx.refl w).alloc (.cells #[ii g, ii b, ii p, ii t, sC A xs.length c, sC A2 ms.length c2, sC A3 gs.length c3, inAt im 0, inAt im 1, inAt im 2, inAt im 3, inAt im 4, inAt im 5, inAt im 6, inAt im 7] 107)
 have HR := qh hR
 clear hR h
 go_enter func149, ntmps149
 go_wp2_with fail
 generalize w.alloc (.cells #[ii g, ii b, ii p, ii t, sC A xs.length c, sC A2 ms.length c2, sC A3 gs.length c3, inAt im 0, inAt im 1, inAt im 2, inAt im 3, inAt im 4, inAt im 5, inAt im 6, inAt im 7] 107) = W at *
 refine (HR.out W (h3.below hx0 hB) (ntr hB hx0.size) oM).mono ?_
 rintro e w1 ⟨A9, c9, rfl, _, hS, hx1⟩
 have hl := retL_len b gs
 have HI := qh (idxI_ahd (b := b) (gs := gs) (x := x) hr)
 obtain ⟨m, Hm⟩ := nM ((retL b gs).length)
 have Hl := qh hl
 clear hl
 rw [Hm.out] at ⊢
 go_wp2_with fail
 refine (indexI_c A9 m c9 _ (retL b gs) x _ hS.row Hm.out.symm (by rw [Hl.out]; omega)).mono ?_
 rintro e w2 ⟨rfl, rfl⟩
 rw [HI.out]
 go_wp2
 go_ret
 exact ⟨rfl, hx0.trans hx1⟩
theorem isRetained_c (V : Vl) (x : Int) (B : Nat) (w : World) (h : Sgs w B V.A3 V.gs) (hB : B <= w.heap.size) (hN : V.gs.length <= 4096) :
 Calls Tryz.prog 70 #[V.w, ii x] w fun e w' => e = .returned (.bool (isRet V.b V.gs x)) /\ Nx w w' := by
 have hR := retained_c V B
 obtain ⟨g, b, p, t, A, c, xs, A2, c2, ms, A3, c3, gs, A4, c4, im⟩ := V
 have h3 := h
 simp only [Vl.w, Vl.wcells] at *
 have hx0 := (Nx.refl w).alloc (.cells #[ii g, ii b, ii p, ii t, sC A xs.length c, sC A2 ms.length c2, sC A3 gs.length c3, inAt im 0, inAt im 1, inAt im 2, inAt im 3, inAt im 4, inAt im 5, inAt im 6, inAt im 7] 107)
 have HR := qh hR
 clear hR h
 go_enter func70, ntmps70
 go_wp2_with fail
 generalize w.alloc (.cells #[ii g, ii b, ii p, ii t, sC A xs.length c, sC A2 ms.length c2, sC A3 gs.length c3, inAt im 0, inAt im 1, inAt im 2, inAt im 3, inAt im 4, inAt im 5, inAt im 6, inAt im 7] 107) = W at *
 refine (HR.out W (h3.below hx0 hB) (ntr hB hx0.size) oM).mono ?_
 rintro e w1 ⟨A9, c9, rfl, _, hS, hx1⟩
 have hl := retL_len b gs
 have HI0 := qh (isRet_hasB (b := b) (gs := gs) (x := x) hl)
 have HI := HI0
 obtain ⟨m, Hm⟩ := nM ((retL b gs).length)
 have Hl := qh hl
 clear hl
 rw [Hm.out] at HI ⊢
 go_wp2_with fail
 refine (contains_c A9 m c9 _ (retL b gs) x _ hS.row (by rw [Hm.out]; exact Nat.le_refl _) (by rw [Hl.out]; omega)).mono ?_
 rintro e w2 ⟨rfl, rfl⟩
 rw [HI.out]
 go_wp2
 go_ret
 exact ⟨rfl, hx0.trans hx1⟩
theorem hasPlaces_c (V : Vl) (B : Nat) (w : World) (h : Sgs w B V.A3 V.gs) (hm : Mks w B V.A2 V.ms) (hB : B <= w.heap.size) (hN : V.gs.length <= 4096) (hr : V.ms.length <= 1048576) :
 Calls Tryz.prog 143 #[V.w] w fun e w' => e = .returned (.bool (plcB V.b V.p V.t V.gs V.ms)) /\ Nx w w' := by
 have hIs := isRetained_c V
 obtain ⟨g, b, p, t, A, c, xs, A2, c2, ms, A3, c3, gs, A4, c4, im⟩ := V
 simp only [Vl.w, Vl.wcells] at *
 have HIs := qh (fun (x : Int) (w' : World) (hx : Nx w w') => hIs x B w' (h.below hx hB) (ntr hB hx.size) hN)
 have HMk := qh (fun (k : Nat) (hk : k < ms.length) (w' : World) (hx : Nx w w') => (hm.below hx hB).at_ hk)
 obtain ⟨r, Hr⟩ := nM (ms.length)
 rw [Hr.out] at HIs HMk hr ⊢
 have b0 := Box.new w 107 #[ii g, ii b, ii p, ii t, sC A xs.length c, sC A2 r c2, sC A3 gs.length c3, inAt im 0, inAt im 1, inAt im 2, inAt im 3, inAt im 4, inAt im 5, inAt im 6, inAt im 7]
 have hx0 := (Nx.refl w).alloc (.cells #[ii g, ii b, ii p, ii t, sC A xs.length c, sC A2 r c2, sC A3 gs.length c3, inAt im 0, inAt im 1, inAt im 2, inAt im 3, inAt im 4, inAt im 5, inAt im 6, inAt im 7] 107)
 clear hIs h hm
 go_enter func143, ntmps143
 go_wp2_with fail
 generalize w.alloc (.cells #[ii g, ii b, ii p, ii t, sC A xs.length c, sC A2 r c2, sC A3 gs.length c3, inAt im 0, inAt im 1, inAt im 2, inAt im 3, inAt im 4, inAt im 5, inAt im 6, inAt im 7] 107) = W at *
 go_loopw [9] (fun i wr => ∃ k : Nat, k <= r /\ i = ii k /\ MksTo b gs ms k /\ Nx w wr /\ Box wr w.heap.size 107 #[ii g, ii b, ii p, ii t, sC A xs.length c, sC A2 r c2, sC A3 gs.length c3, inAt im 0, inAt im 1, inAt im 2, inAt im 3, inAt im 4, inAt im 5, inAt im 6, inAt im 7]) (fun i _ => r - (intOf i).toNat)
 case atStart => exact ⟨0, Nat.zero_le _, rfl, MksTo.zero _ _ _, hx0, b0⟩
 case round =>
 obtain ⟨k, hk, rfl, hto, hnx, hb⟩ := hrel
 clear hx0 b0
 by_cases hlt : k < r
 . obtain ⟨bm, om, rfl, hbm, k0, k1⟩ := HMk.out k hlt _ hnx
   have HT := qh (fun hh => hto.succ hh)
   have HF := qh (fun hh => mksR_no (b := b) (gs := gs) (ms := ms) (k := k) (by rw [Hr.out]; exact hlt) hh)
   obtain ⟨⟨q0, q1⟩, Hm⟩ := nM (ms.getD k mrZ)
   rw [Hm.out] at k0 k1 HT HF
   simp only at k0 k1 HT HF
   have bq := Box.new wr 136 #[.string q0, ii q1]
   have hxq := (Nx.refl wr).alloc (.cells #[.string q0, ii q1] 136)
   have hba := hb.nx hxq
   have hnxa := hnx.trans hxq
   obtain ⟨y0, y1, y2, y3, y4, y5, y6, y7, y8, y9, y10, y11, y12, y13, y14⟩ := hba.e15
   have z1 := bq.c1
   clear hto hb
   go_wp2_with fail
   generalize wr.alloc (.cells #[.string q0, ii q1] 136) = wa at *
   refine (HIs.out q1 _ hnxa).mono ?_
   rintro e w9 ⟨rfl, hx9⟩
   have hb9 := hba.nx hx9
   have hnx9 := hnxa.trans hx9
   clear y0 y1 y2 y3 y4 y5 y6 y7 y8 y9 y10 y11 y12 y13 y14 z1 k0 k1
   cases hq : isRet b gs q1 with
   | false =>
     have HR := qh (show plcB b p t gs ms = false by unfold plcB; rw [HF.out hq]; rfl)
     clear hq HT HF
     go_wp2
     go_ret
     exact ⟨ret_bool HR.out.symm, hnx9⟩
   | true =>
     have HT' := qh (HT.out hq)
     clear hq HT HF
     go_wp2
     go_roundw
     case rel => exact ⟨k + 1, oM, by go_num, HT'.out, hnx9, hb9⟩
     case measure => simp [intOf]; omega
 obtain rfl : r = k := oM
 have HM := qh (show mksR b gs ms = true from MksTo.all (by rw [Hr.out]; exact hto))
 clear hto hlt hk
 obtain ⟨y0, y1, y2, y3, y4, y5, y6, y7, y8, y9, y10, y11, y12, y13, y14⟩ := hb.e15
 go_wp2_with fail
 clear y0 y1 y2 y3 y4 y5 y6 y7 y8 y9 y10 y11 y12 y13 y14
 refine (HIs.out p _ hnx).mono ?_
 rintro e w5 ⟨rfl, hk⟩
 have b5 := hb.nx hk
 have hx := hnx.trans hk
 clear hk hb hnx
 cases h5 : isRet b gs p with
 | false =>
   have HR := qh (show plcB b p t gs ms = false by unfold plcB; rw [h5]; simp)
   clear h5
   go_wp2
   go_ret
   exact ⟨ret_bool HR.out.symm, hx⟩
 | true =>
 have H5 := qh h5
 clear h5
 obtain ⟨y0, y1, y2, y3, y4, y5, y6, y7, y8, y9, y10, y11, y12, y13, y14⟩ := b5.e15
 go_wp2_with fail
 clear y0 y1 y2 y3 y4 y5 y6 y7 y8 y9 y10 y11 y12 y13 y14
 refine (HIs.out t _ hx).mono ?_
 rintro e w6 ⟨rfl, hk⟩
 have HR := qh (show plcB b p t gs ms = isRet b gs t by unfold plcB; rw [HM.out, H5.out]; rfl)
 have hx6 := hx.trans hk
 obtain ⟨z, Hz⟩ := nM (isRet b gs t)
 rw [Hz.out] at HR ⊢
 cases z <;> (go_wp2; go_ret; exact ⟨ret_bool HR.out.symm, hx6⟩)
end
end Go.Proofs.YtieoiailjjnnoaaGreatDoor
