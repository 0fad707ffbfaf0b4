/-
  Texts of the proof, in their order.
  Conditions: those of each.
-/
import Derived.Test.YtieoiailjjnnoaaGreatDoorMn13
import Derived.Outline
import Derived.Lib.ConvBytes
import Derived.Laws.BytesArg
import Derived.Deep.QuietTactic
import Derived.BigQuiet
import Derived.Deep.Slices
import Derived.ChangeSame
import Derived.Deep.RegionWith
namespace Go.Proofs.YtieoiailjjnnoaaGreatDoor
set_option linter.unusedVariables false
open _root_.Go.Proofs.Tryz
set_option maxRecDepth 100000
set_option maxHeartbeats 16000000
section
open Go.RowKit
def RetAp (w : World) (R : (List BA × List (Int × BA)) × Int) (e : Ending) (w' : World) : Prop :=
 ∃ (A : Option Addr) (n c : Nat) (A2 : Option Addr) (n2 c2 : Nat), e = .returned (.tuple #[.agg #[sC A n c, sC A2 n2 c2], ii R.2]) /\ Strs w' w'.heap.size A n R.1.1 /\ Wrs w' w'.heap.size A2 n2 R.1.2 /\ Nx w w'
theorem RetAp.mk {w w' : World} {ss : List BA} {ws : List (Int × BA)} {R : (List BA × List (Int × BA)) × Int} {k : Int} {A A2 : Option Addr} {n c n2 c2 : Nat} (hR : R = ((ss, ws), k)) (hS : Strs w' w'.heap.size A n ss) (hW : Wrs w' w'.heap.size A2 n2 ws) (hn : Nx w w') :
 RetAp w R (.returned (.tuple #[.agg #[sC A n c, sC A2 n2 c2], ii k])) w' := by subst hR; exact ⟨A, n, c, A2, n2, c2, rfl, hS, hW, hn⟩
theorem mergeAp {G : Nat -> Option Addr -> Nat -> Option Addr -> Nat -> World -> Prop} {F : Nat -> Option Addr -> Nat -> World -> Prop} {R : Prop} (main : (∀ g Aq cq As cs W, F g As cs W -> G g Aq cq As cs W) -> R) (key : ∀ g Aq cq As cs W, F g As cs W -> G g Aq cq As cs W) : R := main key
theorem ldVN {ss : List BA} {ws : List (Int × BA)} (hD : diskB ss ws = true) : VlN (ldV ss ws).1 1048576 := by
 rcases ldV_size hD with h | ⟨hy, _, hc⟩
 . rw [h]; exact ⟨by decide, by decide, by decide, fun k hk => absurd hk (by simp [zVl]), by decide⟩
 . have h1 := hy.len
   have h2 := (tbB_yes (superB_yes hy.super).2.2.2.2.1).1
   have h3 := (msB_yes (superB_yes hy.super).2.2.2.2.2).1
   exact ⟨oM, oM, oM, fun k hk => by have := hc k hk; omega, by rw [hy.l8]; decide⟩
theorem wpList_addAllI {w : World} {ops : Array Oper} {rest : List Oper} {o : Oper} {a : Act} {Q : Exit -> Act -> World -> Prop} (hgd : o.guard = none)
 (s x : Operand) (ho : o.op = .call { callee := .builtin .append, args := #[s, x], argTypes := #[23, 23] })
 (B g0 : Nat) (A : Option Addr) (c : Nat) (xs : List Int) (hs : a.eval s = sC (some ⟨g0, 0, none⟩) 0 0) (hx : a.eval x = sC A xs.length c) (hown : RowI w B (sC (some ⟨g0, 0, none⟩) 0 0) []) {B' : Nat} (hrow : Ins w B' A xs)
 (hm : xs.length <= 1048576) (hB : B <= w.heap.size)
 (hK : ∀ A' k' w', RowI w' B (sC A' xs.length k') xs -> GrewT 3 B w w' -> (∀ k, k < w.heap.size -> k ≠ g0 -> w'.heap[k]? = w.heap[k]?) -> wpList Tryz.prog ops Q rest (a.put o.dst (sC A' xs.length k')) w') :
 wpList Tryz.prog ops Q (o :: rest) a w :=
 wpList_plain hgd fun K h => wp_addAllI s x ho B g0 A c xs hs hx hown hrow hm hB fun A' k' w' h1 h2 h3 => h _ _ (hK A' k' w' h1 h2 h3)
theorem rg_put4 (u : World) (g : Nat) (v0 v1 v2 v3 : Value) : Rg g (g + 1) u (put4 u g v0 v1 v2 v3) :=
 ((((Rg.of_nx (Nx.refl u)).setCell (p := ⟨g, 0, none⟩) nle (Nat.lt_succ_self _) v0).setCell (p := ⟨g, 1, none⟩) nle (Nat.lt_succ_self _) v1).setCell (p := ⟨g, 2, none⟩) nle (Nat.lt_succ_self _) v2).setCell (p := ⟨g, 3, none⟩) nle (Nat.lt_succ_self _) v3
theorem VlP.rgA {w w' : World} {lo mid hi a b : Nat} {V : Vl} (h : VlP w lo mid hi V) (hr : Rg a b w w') (hd : hi <= a) : VlP w' lo mid hi V :=
 have h2 := h.le2
 ⟨h.tab.rg hr (.inl oM), h.mks.rg hr (.inl oM), h.row.rg hr (.inl hd), fun k hk => (h.chs k hk).rg hr (.inl hd), h.img.rg hr (.inl hd), h.dj, h.cap, h.cap3, h.le, h.le2⟩
theorem l05Append_c (A A2 : Option Addr) (n c n2 c2 B : Nat) (ss : List BA) (p v t : Int) (n0 : Nat) (w : World) (h : Strs w B A n ss) (h2 : Wrs w B A2 n2 []) (hB : B <= w.heap.size) (hD : diskB ss [] = true) (hf : frameB p (n0 : Int) v t = true) :
 Calls Tryz.prog 77 #[.agg #[sC A n c, sC A2 n2 c2], .agg #[ii p, ii (n0 : Int), ii v, ii t]] w (RetAp w (apP ss p n0 v t)) := by
 have HD := qh hD
 have HF := qh hf
 obtain rfl : n = 64 := by rw [<- h.1]; exact (diskB_len64 hD).1
 obtain rfl : n2 = 0 := h2.1.symm
 obtain ⟨⟨V, cd⟩, HL⟩ := nM (ldV ss [])
 have HcdL := qh (ldV_code ss [])
 have HVN := qh (ldVN hD)
 rw [HL.out] at HcdL HVN
 have HV := fun w1 h1 h2 h3 => l05Load_c A A2 64 c 0 c2 B ss [] w1 h1 h2 h3 oM oM hD
 rw [HL.out] at HV
 have HV := qh HV
 obtain ⟨R, HR⟩ := nM (apP ss p n0 v t)
 have HN := qh (fun k (hc : apC V cd p = k /\ k ≠ 0) => HR.out.symm.trans (apP_no (p := p) (n := n0) (v := v) (t := t) HL.out hc.1 hc.2))
 rw [HR.out]
 clear hD hf
 have zE : Box (((w.alloc (.cells #[sC A 64 c, sC A2 0 c2] 35)).alloc (.cells #[ii p, ii (n0 : Int), ii v, ii t] 55)).alloc (.cells #[nsl, nsl] 35)) w.heap.size 35 #[sC A 64 c, sC A2 0 c2] := ((Box.new w _ _).alloc _).alloc _
 have zF : Box (((w.alloc (.cells #[sC A 64 c, sC A2 0 c2] 35)).alloc (.cells #[ii p, ii (n0 : Int), ii v, ii t] 55)).alloc (.cells #[nsl, nsl] 35)) (w.heap.size + 1) 55 #[ii p, ii (n0 : Int), ii v, ii t] := by have := (Box.new (w.alloc (.cells #[sC A 64 c, sC A2 0 c2] 35)) 55 #[ii p, ii (n0 : Int), ii v, ii t]).alloc (.cells #[nsl, nsl] 35); rwa [World.size_alloc] at this
 have zR : Box (((w.alloc (.cells #[sC A 64 c, sC A2 0 c2] 35)).alloc (.cells #[ii p, ii (n0 : Int), ii v, ii t] 55)).alloc (.cells #[nsl, nsl] 35)) (w.heap.size + 1 + 1) 35 #[nsl, nsl] := by have := Box.new ((w.alloc (.cells #[sC A 64 c, sC A2 0 c2] 35)).alloc (.cells #[ii p, ii (n0 : Int), ii v, ii t] 55)) 35 #[nsl, nsl]; rwa [World.size_alloc, World.size_alloc] at this
 have zX := (((Nx.refl w).alloc (.cells #[sC A 64 c, sC A2 0 c2] 35)).alloc (.cells #[ii p, ii (n0 : Int), ii v, ii t] 55)).alloc (.cells #[nsl, nsl] 35)
 have y0 := zE.c0
 have y1 := zE.c1
 go_enter func77, ntmps77
 go_wp2_with fail
 generalize ((w.alloc (.cells #[sC A 64 c, sC A2 0 c2] 35)).alloc (.cells #[ii p, ii (n0 : Int), ii v, ii t] 55)).alloc (.cells #[nsl, nsl] 35) = W at *
 obtain ⟨gF, HgF⟩ := nM (w.heap.size + 1)
 obtain ⟨gR, HgR⟩ := nM (w.heap.size + 1 + 1)
 have hgR : w.heap.size <= gR := by have := HgR.out; omega
 have hneE : w.heap.size ≠ gR := by have := HgR.out; omega
 rw [HgR.out] at zR ⊢
 rw [HgF.out] at zF ⊢
 clear y0 y1
 refine (HV.out W (h.below zX hB) (h2.below zX hB) (ntr hB zX.size)).mono ?_
 rintro e w1 ⟨V1, mid, rfl, hs, hp, hk⟩
 have zP := hp.low zX.size
 replace zE := zE.nx hk; replace zF := zF.nx hk; replace zR := zR.nx hk; replace zX := zX.trans hk
 clear hk hp
 simp only [Vl.v, Vl.cells]
 have zV := Box.new w1 49 #[ii V1.g, ii V1.b, ii V1.p, ii V1.t, sC V1.A V1.xs.length V1.c, sC V1.A2 V1.ms.length V1.c2, sC V1.A3 V1.gs.length V1.c3, sC V1.A4 V1.im.length V1.c4]
 have hk := (Nx.refl w1).alloc (.cells #[ii V1.g, ii V1.b, ii V1.p, ii V1.t, sC V1.A V1.xs.length V1.c, sC V1.A2 V1.ms.length V1.c2, sC V1.A3 V1.gs.length V1.c3, sC V1.A4 V1.im.length V1.c4] 49)
 have hneVR : gR ≠ w1.heap.size := Nat.ne_of_lt zR.lt
 obtain ⟨hi1, Hhi⟩ := nM (w1.heap.size)
 have hRhi : gR < hi1 := by have := zR.lt; have := Hhi.out; omega
 rw [Hhi.out] at zP
 have hHi : hi1 <= (w1.alloc (.cells #[ii V1.g, ii V1.b, ii V1.p, ii V1.t, sC V1.A V1.xs.length V1.c, sC V1.A2 V1.ms.length V1.c2, sC V1.A3 V1.gs.length V1.c3, sC V1.A4 V1.im.length V1.c4] 49)).heap.size := by have := Hhi.out; simp; omega
 replace zE := zE.nx hk; replace zF := zF.nx hk; replace zR := zR.nx hk; replace zP := zP.nx hk; replace zX := zX.trans hk
 clear hk
 rcases Decidable.em (cd = 0) with h0 | h0
 rotate_left
 . skip
   have HR2 := qh (HN.out cd (⟨apC_code h0, h0⟩))
   have y0 := zE.c0
   have y1 := zE.c1
   have m0 := zR.c0
   have m1 := zR.c1
   have mf0 := zR.frozen 0
   have mf1 := zR.frozen 1
   go_wp2_with fail
   generalize (w1.alloc (.cells #[ii V1.g, ii V1.b, ii V1.p, ii V1.t, sC V1.A V1.xs.length V1.c, sC V1.A2 V1.ms.length V1.c2, sC V1.A3 V1.gs.length V1.c3, sC V1.A4 V1.im.length V1.c4] 49)) = w2 at *
   have rq := (zR.set0 (sC A 64 c)).set1 (sC A2 0 c2)
   have hnf := (zX.setCell (p := ⟨gR, 0, none⟩) hgR (sC A 64 c)).setCell (p := ⟨gR, 1, none⟩) hgR (sC A2 0 c2)
   generalize (w2.setCell ⟨gR, 0, none⟩ (sC A 64 c)).setCell ⟨gR, 1, none⟩ (sC A2 0 c2) = Wf at *
   clear y0 y1 m0 m1 mf0 mf1
   have q0 := rq.c0
   have q1 := rq.c1
   go_wp2
   exact bodyPost_ret (v := .tuple #[.agg #[sC A 64 c, sC A2 0 c2], ii cd]) (by simp [results, results77, go_sem, q0, q1]) rfl (RetAp.mk HR2.out ((h.below hnf hB).more (ntr hB hnf.size)) ((h2.below hnf hB).more (ntr hB hnf.size)) hnf)
 obtain rfl : cd = 0 := h0
 obtain ⟨y0, y1, y2, y3, y4, y5, y6, y7⟩ := zV.e8
 go_wp2_with fail
 generalize (w1.alloc (.cells #[ii V1.g, ii V1.b, ii V1.p, ii V1.t, sC V1.A V1.xs.length V1.c, sC V1.A2 V1.ms.length V1.c2, sC V1.A3 V1.gs.length V1.c3, sC V1.A4 V1.im.length V1.c4] 49)) = w2 at *
 clear y0 y1 y2 y3 y4 y5 y6 y7
 obtain ⟨gV, HgV⟩ := nM (w1.heap.size)
 rw [HgV.out] at zV hneVR ⊢
 have HLY := qh (ldV_ldY HL.out)
 have HsV : Hid (VlS V V1) := qh hs
 have HY := qh (HsV.out.y HLY.out.ok)
 replace HVN := qh (HsV.out.n HVN.out)
 clear hs
 have hC0 := l05Tip_c V1 w2.heap.size w2 zP.own.vlt nle HVN.out
 simp only [Vl.v, Vl.cells] at hC0
 refine hC0.mono ?_
 clear hC0
 rintro e w3 ⟨rfl, hk⟩
 replace zE := zE.nx hk; replace zF := zF.nx hk; replace zV := zV.nx hk; replace zR := zR.nx hk; replace zP := zP.nx hk; replace zX := zX.trans hk; replace hHi := ntr hHi hk.size
 clear hk
 have HTp : Hid (V.tip = V1.tip) := qh HsV.out.tip.symm
 have HTr := qh ((ahd_of (chainB_lead HY.out.chain) (Nat.le_refl V1.gs.length)).1)
 have HTop : Hid (cntV V1.b V1.p V1.t V1.gs V1.im V1.tip = V1.top) := qh rfl
 have Htl := qh (contB_yes (top_cont HY.out)).1
 have hTi := HY.out.tipIn
 obtain ⟨T, HT⟩ := nM (tipV V1.b V1.gs)
 obtain ⟨top9, Htp⟩ := nM (V1.top)
 change Hid (V1.top.length = 8) at Htl
 change Hid (isRet V1.b V1.gs (tipV V1.b V1.gs) = true) at HTr
 change Hid (cntV V1.b V1.p V1.t V1.gs V1.im (tipV V1.b V1.gs) = V1.top) at HTop
 rw [HT.out] at HTr HTop hTi ⊢
 rw [Htp.out] at HTop Htl
 have hw1 : IntKind.i64.wrap (T + 1) = T + 1 := IntWalk.i64_in _ oM
 have y0 := zF.cell 0
 change w3.cell? ⟨gF, 0, none⟩ = some (ii p) at y0
 by_cases h1 : p <= T
 . have hd1 : decide (p <= T) = true := decide_eq_true h1
   have HTT := qh (show V.tip = T from HTp.out.trans HT.out)
   have HR2 := qh (HN.out 9 (⟨apC_there (by rw [HTT.out]; exact h1), by decide⟩))
   have y0 := zE.c0
   have y1 := zE.c1
   have m0 := zR.c0
   have m1 := zR.c1
   have mf0 := zR.frozen 0
   have mf1 := zR.frozen 1
   go_wp2_with fail
   have rq := (zR.set0 (sC A 64 c)).set1 (sC A2 0 c2)
   have hnf := (zX.setCell (p := ⟨gR, 0, none⟩) hgR (sC A 64 c)).setCell (p := ⟨gR, 1, none⟩) hgR (sC A2 0 c2)
   generalize (w3.setCell ⟨gR, 0, none⟩ (sC A 64 c)).setCell ⟨gR, 1, none⟩ (sC A2 0 c2) = Wf at *
   clear y0 y1 m0 m1 mf0 mf1
   have q0 := rq.c0
   have q1 := rq.c1
   go_wp2
   exact bodyPost_ret (v := .tuple #[.agg #[sC A 64 c, sC A2 0 c2], ii 9]) (by simp [results, results77, go_sem, q0, q1]) rfl (RetAp.mk HR2.out ((h.below hnf hB).more (ntr hB hnf.size)) ((h2.below hnf hB).more (ntr hB hnf.size)) hnf)
 have hd1 : decide (p <= T) = false := decide_eq_false h1
 by_cases h7 : T + 1 < p
 . have hd7 : decide (T + 1 < p) = true := decide_eq_true h7
   have HTT := qh (show V.tip = T from HTp.out.trans HT.out)
   have HR2 := qh (HN.out 17 (⟨apC_gap (by rw [HTT.out]; exact h7), by decide⟩))
   have y0 := zE.c0
   have y1 := zE.c1
   have m0 := zR.c0
   have m1 := zR.c1
   have mf0 := zR.frozen 0
   have mf1 := zR.frozen 1
   go_wp2_with fail
   have rq := (zR.set0 (sC A 64 c)).set1 (sC A2 0 c2)
   have hnf := (zX.setCell (p := ⟨gR, 0, none⟩) hgR (sC A 64 c)).setCell (p := ⟨gR, 1, none⟩) hgR (sC A2 0 c2)
   generalize (w3.setCell ⟨gR, 0, none⟩ (sC A 64 c)).setCell ⟨gR, 1, none⟩ (sC A2 0 c2) = Wf at *
   clear y0 y1 m0 m1 mf0 mf1
   have q0 := rq.c0
   have q1 := rq.c1
   go_wp2
   exact bodyPost_ret (v := .tuple #[.agg #[sC A 64 c, sC A2 0 c2], ii 17]) (by simp [results, results77, go_sem, q0, q1]) rfl (RetAp.mk HR2.out ((h.below hnf hB).more (ntr hB hnf.size)) ((h2.below hnf hB).more (ntr hB hnf.size)) hnf)
 have hd7 : decide (T + 1 < p) = false := decide_eq_false h7
 have Hp1 := qh (show p = V1.tip + 1 from (show p = T + 1 by omega).trans (congrArg (· + 1) (show T = V1.tip from HT.out.symm)))
 have HP0 := qh (show p = V.tip + 1 from Hp1.out.trans (congrArg (· + 1) HsV.out.tip))
 obtain ⟨x0, x1, x2, x3, x4, x5, x6, x7⟩ := zV.e8
 by_cases h20 : V1.gs.length = 20
 . have Hl := qh (show V.gs.length = 20 from HsV.out.len.symm.trans h20)
   have hd20 : decide ((V1.gs.length : Int) = 20) = true := decide_eq_true oM
   have HR2 := qh (HN.out 7 (⟨apC_full HP0.out (.inl Hl.out), by decide⟩))
   have y0 := zE.c0
   have y1 := zE.c1
   have m0 := zR.c0
   have m1 := zR.c1
   have mf0 := zR.frozen 0
   have mf1 := zR.frozen 1
   go_wp2_with fail
   have rq := (zR.set0 (sC A 64 c)).set1 (sC A2 0 c2)
   have hnf := (zX.setCell (p := ⟨gR, 0, none⟩) hgR (sC A 64 c)).setCell (p := ⟨gR, 1, none⟩) hgR (sC A2 0 c2)
   generalize (w3.setCell ⟨gR, 0, none⟩ (sC A 64 c)).setCell ⟨gR, 1, none⟩ (sC A2 0 c2) = Wf at *
   clear y0 y1 m0 m1 mf0 mf1
   have q0 := rq.c0
   have q1 := rq.c1
   go_wp2
   exact bodyPost_ret (v := .tuple #[.agg #[sC A 64 c, sC A2 0 c2], ii 7]) (by simp [results, results77, go_sem, q0, q1]) rfl (RetAp.mk HR2.out ((h.below hnf hB).more (ntr hB hnf.size)) ((h2.below hnf hB).more (ntr hB hnf.size)) hnf)
 have hd20 : decide ((V1.gs.length : Int) = 20) = false := decide_eq_false oM
 by_cases h9 : V1.g = 999999
 . have Hl := qh (show V.g = 999999 from HsV.out.g.symm.trans h9)
   have hd9 : decide (V1.g = 999999) = true := decide_eq_true h9
   have hd9b : (V1.g == 999999) = true := beq_iff_eq.2 h9
   have HR2 := qh (HN.out 7 (⟨apC_full HP0.out (.inr Hl.out), by decide⟩))
   have y0 := zE.c0
   have y1 := zE.c1
   have m0 := zR.c0
   have m1 := zR.c1
   have mf0 := zR.frozen 0
   have mf1 := zR.frozen 1
   go_wp2_with fail
   have rq := (zR.set0 (sC A 64 c)).set1 (sC A2 0 c2)
   have hnf := (zX.setCell (p := ⟨gR, 0, none⟩) hgR (sC A 64 c)).setCell (p := ⟨gR, 1, none⟩) hgR (sC A2 0 c2)
   generalize (w3.setCell ⟨gR, 0, none⟩ (sC A 64 c)).setCell ⟨gR, 1, none⟩ (sC A2 0 c2) = Wf at *
   clear y0 y1 m0 m1 mf0 mf1
   have q0 := rq.c0
   have q1 := rq.c1
   go_wp2
   exact bodyPost_ret (v := .tuple #[.agg #[sC A 64 c, sC A2 0 c2], ii 7]) (by simp [results, results77, go_sem, q0, q1]) rfl (RetAp.mk HR2.out ((h.below hnf hB).more (ntr hB hnf.size)) ((h2.below hnf hB).more (ntr hB hnf.size)) hnf)
 have hd9 : decide (V1.g = 999999) = false := decide_eq_false h9
 have hd9b : (V1.g == 999999) = false := beq_eq_false_iff_ne.2 h9
 have H20 : Hid (V.gs.length ≠ 20) := qh (by rw [<- HsV.out.len]; exact h20)
 have H9 : Hid (V.g ≠ 999999) := qh (by rw [<- HsV.out.g]; exact h9)
 go_wp2_with fail
 clear y0 x0 x1 x2 x3 x4 x5 x6 x7 hd1 hd7 hd20 hd9 hd9b hw1 h1 h7
 have HAs : Hid (Asked ss V p n0 v t) := qh ⟨HD.out, HLY.out, HF.out, HP0.out, H20.out, H9.out⟩
 have HS1 : Hid (superB V1.g V1.b V1.p V1.t (V1.xs ++ [freeS V1.xs]) V1.ms = true) := qh (by rw [HsV.out.g, HsV.out.b, HsV.out.p, HsV.out.t, HsV.out.xs, HsV.out.ms]; exact HLY.out.table H20.out)
 have HS2 : Hid (superB (V1.g + 1) V1.b V1.p V1.t (V1.xs ++ [freeS V1.xs]) V1.ms = true) := qh (by rw [HsV.out.g, HsV.out.b, HsV.out.p, HsV.out.t, HsV.out.xs, HsV.out.ms]; exact HAs.out.y.super)
 have HXL : Hid (V1.xs.length <= 20) := qh (by rw [HsV.out.xs]; have := HLY.out.room H20.out; omega)
 have HFr := qh (frameB_yes HF.out)
 obtain ⟨m9, Hm9⟩ := nM (lastM V1.gs t)
 obtain ⟨o9, Ho9'⟩ : ∃ q, Hid (V1.top.getD n0 0 = q) := ⟨_, rfl⟩
 have Ho9 : Hid (top9.getD n0 0 = o9) := qh (by rw [<- Htp.out]; exact Ho9'.out)
 have HGR : Hid (segB (p - 1) p m9 [((n0 : Int), v, o9)] = true) := qh (by rw [<- Hm9.out, <- Ho9'.out]; exact (newG_nxt HY.out HF.out Hp1.out).seg)
 have HGT : Hid (sealS (numsS (segN (p - 1) p m9 [((n0 : Int), v, o9)])) = segT (newG V p n0 v t)) := qh (by rw [<- Hm9.out, <- Ho9'.out, <- HsV.out.newG]; rfl)
 obtain ⟨x9, Hx9⟩ := nM (freeS V1.xs)
 obtain ⟨X9, HX9⟩ := nM (V1.xs ++ [x9])
 obtain ⟨s9, Hs9⟩ := nM (segT (newG V p n0 v t))
 have HXe : Hid (freeS V.xs = x9) := qh (by rw [<- HsV.out.xs]; exact Hx9.out)
 have HXl : Hid (X9.length = V1.xs.length + 1) := qh (by rw [<- HX9.out]; simp)
 rw [Hs9.out] at HGT
 rw [Hx9.out, HX9.out] at HS1 HS2
 obtain ⟨z9, Hz9⟩ := nM (sltV ss [])
 have HSS : Hid (settleTo kpAll ss ([] ++ [(x9, s9)]) 1 = apS ss V p n0 v t) := qh (by rw [settle_put]; unfold apS; rw [HXe.out, Hs9.out])
 have HNU : Hid (newU (rdU (readP (settleTo kpAll ss ([] ++ [(x9, s9)]) 1) [] 0)) (rdU (readP (settleTo kpAll ss ([] ++ [(x9, s9)]) 1) [] 1)) = some ((V1.g, V1.b, V1.p, V1.t, V1.xs, V1.ms), z9)) := qh (by rw [HSS.out, HAs.out.keep.nu, HsV.out.g, HsV.out.b, HsV.out.p, HsV.out.t, HsV.out.xs, HsV.out.ms, HAs.out.keepS, Hz9.out])
 have HF0 : Hid ((readP (settleTo kpAll ss ([] ++ [(x9, s9)]) 1) [] 0).size <= 65536) := qh (by rw [HSS.out]; have := readP_size HAs.out.diskS 0; omega)
 have HF1 : Hid ((readP (settleTo kpAll ss ([] ++ [(x9, s9)]) 1) [] 1).size <= 65536) := qh (by rw [HSS.out]; have := readP_size HAs.out.diskS 1; omega)
 have HWo : Hid (List.all ([] ++ [(x9, s9)]) wOk = true) := qh (by rw [<- HXe.out, <- Hs9.out]; exact (diskB_len64 (HLY.out.put (p := p) (n := n0) (v := v) (t := t) HD.out H20.out)).2.2.2)
 have HRy : Hid (R = ((settleTo kpAll ss ([] ++ [(x9, s9)]) 1, [(1 - z9, supT (V1.g + 1) V1.b V1.p V1.t X9 V1.ms)]), 0)) := qh (by
  rw [<- HR.out, apP_yes HL.out (apC_yes HP0.out H20.out H9.out), HSS.out]
  unfold apD apS
  rw [HXe.out, Hz9.out, <- HX9.out, HsV.out.g, HsV.out.b, HsV.out.p, HsV.out.t, HsV.out.xs, HsV.out.ms])
 refine mergeAp (F := fun gz As cs Wq => Box Wq gz 122 #[ii (p - 1), ii p, ii t, sC As 1 cs] /\ Box Wq w.heap.size 35 #[sC A 64 c, sC A2 0 c2] /\ Box Wq gF 55 #[ii p, ii (n0 : Int), ii v, ii t] /\ Box Wq gV 49 #[ii V1.g, ii V1.b, ii V1.p, ii V1.t, sC V1.A V1.xs.length V1.c, sC V1.A2 V1.ms.length V1.c2, sC V1.A3 V1.gs.length V1.c3, sC V1.A4 V1.im.length V1.c4] /\ Box Wq gR 35 #[nsl, nsl] /\ VlP Wq w.heap.size mid hi1 V1 /\ Nx w Wq /\ Sl Wq w.heap.size As 192 3 (chAt [((n0 : Int), v, o9)]) /\ hi1 <= gz /\ gV ≠ gz) (G := ?_) (fun key => ?_) ?_
 rotate_left
 . have kd : Nx w3 w3.drew := (Nx.refl w3).drew
   replace zE := zE.nx kd; replace zF := zF.nx kd; replace zV := zV.nx kd; replace zR := zR.nx kd; replace zP := zP.nx kd; replace zX := zX.trans kd; replace hHi := ntr hHi kd.size
   clear kd
   refine wp_planA (.t 0 (.t 1 (.t 3 (.b 2 (.b 4 (.c 5 (.c 6 .e)) 5 (.c 4 (.c 6 .e))) 5 (.c 2 (.c 4 (.c 6 .e))))))) (fun w' => (CC w' gV 0 (ii V1.g) /\ CC w' gV 1 (ii V1.b) /\ CC w' gV 2 (ii V1.p) /\ CC w' gV 3 (ii V1.t) /\ CC w' gV 4 (sC V1.A V1.xs.length V1.c) /\ CC w' gV 5 (sC V1.A2 V1.ms.length V1.c2) /\ CC w' gV 6 (sC V1.A3 V1.gs.length V1.c3) /\ CC w' gV 7 (sC V1.A4 V1.im.length V1.c4)) /\ (CC w' gF 0 (ii p) /\ CC w' gF 1 (ii (n0 : Int)) /\ CC w' gF 2 (ii v) /\ CC w' gF 3 (ii t))) (by exact ⟨zV.e8, zF.d4⟩) ?_
   simp only [psOf, List.getD_cons_zero, List.getD_cons_succ]
   generalize w3.drew = wv at *
   repeat' (first
    | (have hDn := hDone; have rc0 := bz.cell 0; have rf0 := bz.frozen 0; have rc1 := bz.cell 1; have rf1 := bz.frozen 1; have rc2 := bz.cell 2; have rf2 := bz.frozen 2; have rc3 := bz.cell 3; have rf3 := bz.frozen 3; have rlt := bz.lt; (with_reducible refine HP.call ?_); refine cSt fun K hK => ?_; go_simp; refine hK.out _ _ (by exact ⟨((((zV.far (p := ⟨gz, 0, none⟩) hnV (ii (p - 1))).far (p := ⟨gz, 1, none⟩) hnV (ii p)).far (p := ⟨gz, 2, none⟩) hnV (ii t)).far (p := ⟨gz, 3, none⟩) hnV (sC As 1 cs)).e8, ((((zF.far (p := ⟨gz, 0, none⟩) hnF (ii (p - 1))).far (p := ⟨gz, 1, none⟩) hnF (ii p)).far (p := ⟨gz, 2, none⟩) hnF (ii t)).far (p := ⟨gz, 3, none⟩) hnF (sC As 1 cs)).d4⟩) ?_; clear hK K; (try simp only [Act.put, qqA, qqB, qqC]); clear rc0 rf0 rc1 rf1 rc2 rf2 rc3 rf3; refine HP.done ?_; have rq := put4_box bz (ii (p - 1)) (ii p) (ii t) (sC As 1 cs); unfold put4 at rq; have fzE := ((((zE.far (p := ⟨gz, 0, none⟩) hnE (ii (p - 1))).far (p := ⟨gz, 1, none⟩) hnE (ii p)).far (p := ⟨gz, 2, none⟩) hnE (ii t)).far (p := ⟨gz, 3, none⟩) hnE (sC As 1 cs)); have fzF := ((((zF.far (p := ⟨gz, 0, none⟩) hnF (ii (p - 1))).far (p := ⟨gz, 1, none⟩) hnF (ii p)).far (p := ⟨gz, 2, none⟩) hnF (ii t)).far (p := ⟨gz, 3, none⟩) hnF (sC As 1 cs)); have fzV := ((((zV.far (p := ⟨gz, 0, none⟩) hnV (ii (p - 1))).far (p := ⟨gz, 1, none⟩) hnV (ii p)).far (p := ⟨gz, 2, none⟩) hnV (ii t)).far (p := ⟨gz, 3, none⟩) hnV (sC As 1 cs)); have fzR := ((((zR.far (p := ⟨gz, 0, none⟩) hnR (ii (p - 1))).far (p := ⟨gz, 1, none⟩) hnR (ii p)).far (p := ⟨gz, 2, none⟩) hnR (ii t)).far (p := ⟨gz, 3, none⟩) hnR (sC As 1 cs)); have fX := put4_nx (g := gz) zX hgz (ii (p - 1)) (ii p) (ii t) (sC As 1 cs); unfold put4 at fX; have fP := zP.rgA (rg_put4 _ gz (ii (p - 1)) (ii p) (ii t) (sC As 1 cs)) hSlt; unfold put4 at fP; have fQ := slput4q hSq bz dC (ii (p - 1)) (ii p) (ii t) (sC As 1 cs); unfold put4 at fQ; generalize ((((wv.setCell ⟨gz, 0, none⟩ (ii (p - 1))).setCell ⟨gz, 1, none⟩ (ii p)).setCell ⟨gz, 2, none⟩ (ii t)).setCell ⟨gz, 3, none⟩ (sC As 1 cs)) = Wf at *; exact key gz Aq cq As cs Wf ⟨rq, fzE, fzF, fzV, fzR, fP, fX, fQ, hSlt, hnV⟩)
    | (with_reducible refine HP.both ?_ ?_)
    | (with_reducible refine HP.three ?_ ?_ ?_)
    | (with_reducible refine HP.call ?_)
    | (refine HP.tk ?_; (try simp only [Act.put, qqA, qqB, qqC]))
    | (refine HP.sk ?_; (try simp only [Act.put, qqA, qqB, qqC]))
    | (refine cSt fun K hK => ?_; go_simp; first
      | ((with_reducible refine callAt 161 ?_); have HC := l05Content_c V1 T wv.heap.size wv zP.own.vlt nle HVN.out HY.out HTr.out; rw [HTop.out] at HC; refine HC.mono ?_; clear HC; rintro e wv ⟨Aq, cq, rfl, hC, hk⟩; (try replace bz := bz.nx hk); replace zE := zE.nx hk; replace zF := zF.nx hk; replace zV := zV.nx hk; replace zR := zR.nx hk; replace zP := zP.nx hk; replace zX := zX.trans hk; replace hHi := ntr hHi hk.size; (try replace hSq := hSq.nx hk); clear hk; go_wp2_with fail; refine hK.out _ _ (by exact ⟨zV.e8, zF.d4⟩) ?_; clear hK K; (try simp only [Act.put, qqA, qqB, qqC]))
      | ((with_reducible refine callAt 160 ?_); have HC := l03Of_c Aq cq wv.heap.size n0 top9 p v t wv hC nle (by have := Htl.out; have := HFr.out.2.1; omega) (by have := Htl.out; omega) (by have := HFr.out.1; omega) (by have := HFr.out.1; omega); rw [Htl.out, Ho9.out] at HC; refine HC.mono ?_; clear HC; rintro e wv ⟨As, cs, rfl, hSq, hk⟩; replace hSq := hSq.low zX.size; have hDone := True.intro; (try replace bz := bz.nx hk); replace zE := zE.nx hk; replace zF := zF.nx hk; replace zV := zV.nx hk; replace zR := zR.nx hk; replace zP := zP.nx hk; replace zX := zX.trans hk; replace hHi := ntr hHi hk.size; (try replace hC := (hC.below hk nle).more hk.size); clear hk; go_wp2_with fail; refine hK.out _ _ (by exact ⟨zV.e8, zF.d4⟩) ?_; clear hK K; (try simp only [Act.put, qqA, qqB, qqC]))
      | (have bz := Box.new wv 122 #[ii 0, ii 0, ii 0, nsl]; have hz := (Nx.refl wv).alloc (.cells #[ii 0, ii 0, ii 0, nsl] 122); have hnE := Nat.ne_of_lt zE.lt; have hnV := Nat.ne_of_lt zV.lt; have hnF := Nat.ne_of_lt zF.lt; have hnR := Nat.ne_of_lt zR.lt; have hgz := zX.size; have hSlt := hHi; (try replace bz := bz.nx hz); replace zE := zE.nx hz; replace zF := zF.nx hz; replace zV := zV.nx hz; replace zR := zR.nx hz; replace zP := zP.nx hz; replace zX := zX.trans hz; replace hHi := ntr hHi hz.size; (try replace hC := (hC.below hz nle).more hz.size); (try replace hSq := hSq.nx hz); refine hK.out _ _ (by exact ⟨zV.e8, zF.d4⟩) ?_; clear hK K; (try simp only [Act.put, qqA, qqB, qqC]); clear hz; change HP _ _ _ _ _ _ (wv.alloc (.cells #[ii 0, ii 0, ii 0, nsl] 122)); generalize wv.heap.size = gz at *; generalize wv.alloc (.cells #[ii 0, ii 0, ii 0, nsl] 122) = wv at *)))
 intro gz Aq cq As cs W4 ⟨zG, zE, zF, zV, zR, zP, zX, hSq, hgz, hnV⟩
 clear zF
 rcases Nat.eq_zero_or_pos V1.gs.length with hk0 | hk0
 . have hd : decide (0 < (V1.gs.length : Int)) = false := decide_eq_false oM
   rw [show t = m9 from (lastM_nil t hk0).symm.trans Hm9.out] at zG
   obtain ⟨y0, y1, y2, y3, y4, y5, y6, y7⟩ := zV.e8
   go_wp2_with fail
   clear y0 y1 y2 y3 y4 y5 y6 y7
   refine (l04Free_c V1.g V1.b V1.p V1.t V1.A V1.A2 V1.c V1.c2 W4.heap.size V1.xs V1.ms W4 zP.own.vlt.tab nle (by have := HXL.out; omega)).mono ?_
   rintro e w7 ⟨A7, c7, rfl, _, hS7, hk⟩
   have HfL := qh (freeTo_some (xs := V1.xs) (by have := HXL.out; omega))
   obtain ⟨b7, o7, rfl, hb7, q7⟩ := Ins.at_ (k := 0) hS7.row HfL.out
   obtain ⟨L7, HL7⟩ := nM ((freeTo V1.xs 54).length)
   have hL7 : 0 < L7 := HL7.out ▸ HfL.out
   rw [HL7.out]
   have hL8 : (0 : Int) < (L7 : Int) := oM
   change w7.cell? ⟨b7, o7, none⟩ = some (ii (freeS V1.xs)) at q7
   rw [Hx9.out] at q7
   replace zE := zE.nx hk; replace zV := zV.nx hk; replace zR := zR.nx hk; replace zP := zP.nx hk; replace zG := zG.nx hk; replace hSq := hSq.nx hk; replace zX := zX.trans hk
   clear hS7 hk HfL HL7
   obtain ⟨y0, y1, y2, y3, y4, y5, y6, y7⟩ := zV.e8
   have zS := Box.new w7 26 #[ii V1.g, ii V1.b, ii V1.p, ii V1.t, sC V1.A V1.xs.length V1.c, sC V1.A2 V1.ms.length V1.c2]
   have hMk : Mks w7 w7.heap.size V1.A2 V1.ms := zP.own.vlt.mks
   have hk := (Nx.refl w7).alloc (.cells #[ii V1.g, ii V1.b, ii V1.p, ii V1.t, sC V1.A V1.xs.length V1.c, sC V1.A2 V1.ms.length V1.c2] 26)
   have hgS := zX.size
   have hneR : gR ≠ w7.heap.size := Nat.ne_of_lt zR.lt
   have hneZ : gz ≠ w7.heap.size := Nat.ne_of_lt zG.lt
   have hneD : w.heap.size ≠ w7.heap.size := Nat.ne_of_lt zE.lt
   replace zE := zE.nx hk; replace zR := zR.nx hk; replace zP := zP.nx hk; replace zG := zG.nx hk; replace hSq := hSq.nx hk; replace zX := zX.trans hk
   replace hMk := hMk.below hk nle
   clear hk
   have zSl := zS.lt
   obtain ⟨z0, z1, z2, z3, z4, z5⟩ := zS.d6
   have hOw := RowI.new (w7.alloc (.cells #[ii V1.g, ii V1.b, ii V1.p, ii V1.t, sC V1.A V1.xs.length V1.c, sC V1.A2 V1.ms.length V1.c2] 26)) nle
   have hka := (Nx.refl (w7.alloc (.cells #[ii V1.g, ii V1.b, ii V1.p, ii V1.t, sC V1.A V1.xs.length V1.c, sC V1.A2 V1.ms.length V1.c2] 26))).alloc (.cells #[] 3)
   have hIn := (zP.nx hka).own.vlt.tab
   have hsa := hka.size
   have hsb : w7.heap.size + 1 <= ((w7.alloc (.cells #[ii V1.g, ii V1.b, ii V1.p, ii V1.t, sC V1.A V1.xs.length V1.c, sC V1.A2 V1.ms.length V1.c2] 26)).alloc (.cells #[] 3)).heap.size := by simp
   simp only [World.size_alloc] at hOw
   go_wp2_with (at_builtin; refine wpList_addAllI rfl _ _ rfl (w7.heap.size + 1) (w7.heap.size + 1) V1.A V1.c V1.xs rfl rfl hOw hIn (by have := HXL.out; omega) hsb ?_)
   intro A8 k8 w8 hr8 hg8 hs8
   have hk8 := hg8.nx (w7.alloc (.cells #[ii V1.g, ii V1.b, ii V1.p, ii V1.t, sC V1.A V1.xs.length V1.c, sC V1.A2 V1.ms.length V1.c2] 26)) hka (by simp)
   have hszS : (w7.alloc (.cells #[ii V1.g, ii V1.b, ii V1.p, ii V1.t, sC V1.A V1.xs.length V1.c, sC V1.A2 V1.ms.length V1.c2] 26)).heap.size = w7.heap.size + 1 := by simp
   clear z0 z1 z2 z3 z4 z5 y0 y1 y2 y3 y4 y5 y6 y7 hg8 hs8 hsa hsb hOw hIn hka zSl q7 hb7
   generalize w7.alloc (.cells #[ii V1.g, ii V1.b, ii V1.p, ii V1.t, sC V1.A V1.xs.length V1.c, sC V1.A2 V1.ms.length V1.c2] 26) = wS at *
   have hz8 : w7.heap.size + 1 <= w8.heap.size := by have := hk8.size; omega
   have hgS8 : w.heap.size <= w7.heap.size := hgS
   obtain ⟨gS, HgS⟩ := nM (w7.heap.size)
   rw [HgS.out] at zS hMk hr8 hz8 hgS8 hneR hneZ hneD hszS ⊢
   have hka := (Nx.refl w8).alloc (.cells #[ii x9] 3)
   have hr9 := hr8.nx hka
   have hbx := Box.new w8 3 #[ii x9]
   have hsb := ntr hz8 hka.size
   go_wp2_with (at_builtin; refine wpList_addI rfl _ _ rfl (gS + 1) w8.heap.size _ V1.xs x9 rfl rfl hr9 hbx (by have := HXL.out; omega) hsb ?_)
   intro A9 k9 w9 hr10 hg10
   have hk := hg10.nx wS (hk8.trans hka) oM
   clear hk8
   replace zE := zE.nx hk; replace zR := zR.nx hk; replace zG := zG.nx hk; replace zS := zS.nx hk; replace hSq := hSq.nx hk; replace zX := zX.trans hk
   replace hMk := hMk.below hk oM
   obtain ⟨A9', c9', he9, hcap9, hTb⟩ := hr10.slc
   rw [HX9.out] at he9 hTb hcap9
   rw [HXl.out] at he9 hcap9
   injection he9 with he91 he92 he93
   subst he91 he93
   clear he92 hr10 hg10 hk hr9 hbx hsb hka hr8 zP zV
   have zSl := zS.lt
   have zf := zS.frozen 4
   obtain ⟨z0, z1, z2, z3, z4, z5⟩ := zS.d6
   have hgSn : w.heap.size <= gS := hgS8
   have hTb := (hTb.far (p := ⟨gS, 4, none⟩) (Nat.lt_succ_self gS) (sC A9 (V1.xs.length + 1) k9)).low hgSn.step
   have hSq := hSq.far_ty (p := ⟨gS, 4, none⟩) zS dC (sC A9 (V1.xs.length + 1) k9)
   have zE := zE.far (p := ⟨gS, 4, none⟩) hneD (sC A9 (V1.xs.length + 1) k9)
   have zR := zR.far (p := ⟨gS, 4, none⟩) hneR (sC A9 (V1.xs.length + 1) k9)
   have zG := zG.far (p := ⟨gS, 4, none⟩) hneZ (sC A9 (V1.xs.length + 1) k9)
   have hMk := (hMk.below (Below.setCell (Below.refl gS w9) (p := ⟨gS, 4, none⟩) nle (sC A9 (V1.xs.length + 1) k9)) nle).more (Nat.le_of_lt (zS.set 4 (sC A9 (V1.xs.length + 1) k9)).lt)
   have zS := zS.set 4 (sC A9 (V1.xs.length + 1) k9)
   have zX := zX.setCell (p := ⟨gS, 4, none⟩) hgSn (sC A9 (V1.xs.length + 1) k9)
   simp only [List.setIfInBounds_toArray, List.set_cons_zero, List.set_cons_succ] at zS
   go_wp2_with fail
   clear z0 z1 z2 z3 z4 z5 zSl zf
   generalize w9.setCell ⟨gS, 4, none⟩ (sC A9 (V1.xs.length + 1) k9) = w10 at *
   have hneG : gz ≠ gR := oM
   have hneS : gS ≠ gR := hneR.symm
   have hk : Nx w10 w10.drew := (Nx.refl w10).drew
   replace zE := zE.nx hk; replace zG := zG.nx hk; replace zS := zS.nx hk; replace zR := zR.nx hk; replace hSq := hSq.nx hk; replace hTb := hTb.nx hk; replace hMk := (hMk.below hk nle).more hk.size; replace zX := zX.trans hk; clear hk
   refine wp_planA (.t 0 (.t 1 (.t 2 (.t 6 (.c 3 (.c 4 (.c 5 (.c 7 (.c 8 (.t 9 .e)))))))))) (fun w' => (CC w' w.heap.size 0 (sC A 64 c) /\ CC w' w.heap.size 1 (sC A2 0 c2)) /\ (CC w' gz 0 (ii (p - 1)) /\ CC w' gz 1 (ii p) /\ CC w' gz 2 (ii m9) /\ CC w' gz 3 (sC As 1 cs)) /\ (CC w' gS 0 (ii V1.g) /\ CC w' gS 1 (ii V1.b) /\ CC w' gS 2 (ii V1.p) /\ CC w' gS 3 (ii V1.t) /\ CC w' gS 4 (sC A9 (V1.xs.length + 1) k9) /\ CC w' gS 5 (sC V1.A2 V1.ms.length V1.c2))) (by exact ⟨⟨zE.c0, zE.c1⟩, zG.d4, zS.d6⟩) ?_
   simp only [psOf, List.getD_cons_zero, List.getD_cons_succ]
   refine hPr ?_
   refine hPc fun K hK => ?_
   go_simp
   refine (l02Text_c (p - 1) p m9 As cs _ [((n0 : Int), v, o9)] _ hSq.row nle (by simp) HGR.out).mono ?_; rintro e v1 ⟨he, hk⟩; rw [HGT.out] at he; subst he; replace zE := zE.nx hk; replace zG := zG.nx hk; replace zS := zS.nx hk; replace zR := zR.nx hk; replace hSq := hSq.nx hk; replace hTb := hTb.nx hk; replace hMk := (hMk.below hk nle).more hk.size; replace zX := zX.trans hk; clear hk
   go_wp2_with fail
   refine hK.out _ _ (by exact ⟨⟨zE.c0, zE.c1⟩, zG.d4, zS.d6⟩) ?_
   clear hK K
   refine nZ ?_
   refine hPc fun K hK => ?_
   go_simp
   refine (l01Write_c A A2 64 c 0 c2 B [] x9 s9 _ (h2.below zX hB) (ntr hB zX.size) oM).mono ?_; rintro e v2 ⟨A5, n5, c5, rfl, hW5, hk⟩; obtain rfl : n5 = 1 := hW5.1.symm; replace zE := zE.nx hk; replace zG := zG.nx hk; replace zS := zS.nx hk; replace zR := zR.nx hk; replace hSq := hSq.nx hk; replace hTb := hTb.nx hk; replace hMk := (hMk.below hk nle).more hk.size; replace zX := zX.trans hk; clear hk
   go_wp2_with fail
   refine hK.out _ _ (by exact ⟨⟨zE.c0, zE.c1⟩, zG.d4, zS.d6⟩) ?_
   clear hK K
   refine nZ ?_
   refine hPc fun K hK => ?_
   go_simp
   refine (l01Flush_c A A5 c 1 c5 _ ss ([] ++ [(x9, s9)]) _ ((h.below zX hB).more (ntr hB zX.size)) hW5.wrs nle oM HWo.out).mono ?_; rintro e v3 ⟨A6, n6, c6, A7, n7, c7, rfl, hS6, hW6, hk⟩; obtain rfl : n6 = 64 := (by rw [<- hS6.1, settleTo_len]; exact h.1); obtain rfl : n7 = 0 := hW6.1.symm; replace zE := zE.nx hk; replace zG := zG.nx hk; replace zS := zS.nx hk; replace zR := zR.nx hk; replace hSq := hSq.nx hk; replace hTb := hTb.nx hk; replace hMk := (hMk.below hk nle).more hk.size; replace zX := zX.trans hk; clear hk
   go_wp2_with fail
   refine hK.out _ _ (by exact ⟨⟨zE.c0, zE.c1⟩, zG.d4, zS.d6⟩) ?_
   clear hK K
   refine nZ ?_
   refine hPc fun K hK => ?_
   go_simp
   have HC := l04Put_c A6 A7 64 c6 0 c7 v3.heap.size (settleTo kpAll ss ([] ++ [(x9, s9)]) 1) [] V1.g V1.b V1.p V1.t A9 V1.A2 k9 V1.c2 X9 V1.ms v3 hS6.strs hW6.wrs hTb.row hMk nle oM oM oM HF0.out HF1.out _ _ HNU.out HS2.out; rw [HXl.out] at HC; refine HC.mono ?_; clear HC; rintro e v4 ⟨A8, n8, c8, rfl, hW8, hk⟩; obtain rfl : n8 = 1 := hW8.1.symm; replace hS6 := hS6.nx hk; replace zE := zE.nx hk; replace zG := zG.nx hk; replace zS := zS.nx hk; replace zR := zR.nx hk; replace hSq := hSq.nx hk; replace hTb := hTb.nx hk; replace hMk := (hMk.below hk nle).more hk.size; replace zX := zX.trans hk; clear hk; have m0 := zR.c0; have m1 := zR.c1; have mf0 := zR.frozen 0; have mf1 := zR.frozen 1; have mlt := zR.lt
   go_wp2_with fail
   refine hK.out _ _ (by exact ⟨⟨zE.c0, zE.c1⟩, zG.d4, zS.d6⟩) ?_
   clear hK K
   refine nZ ?_
   refine hPc fun K hK => ?_
   go_simp
   refine hK.out _ _ (by exact ⟨⟨((zE.far (p := ⟨gR, 0, none⟩) hneE (sC A6 64 c6)).far (p := ⟨gR, 1, none⟩) hneE (sC A8 1 c8)).c0, ((zE.far (p := ⟨gR, 0, none⟩) hneE (sC A6 64 c6)).far (p := ⟨gR, 1, none⟩) hneE (sC A8 1 c8)).c1⟩, ((zG.far (p := ⟨gR, 0, none⟩) hneG (sC A6 64 c6)).far (p := ⟨gR, 1, none⟩) hneG (sC A8 1 c8)).d4, ((zS.far (p := ⟨gR, 0, none⟩) hneS (sC A6 64 c6)).far (p := ⟨gR, 1, none⟩) hneS (sC A8 1 c8)).d6⟩) ?_
   clear hK K
   refine nZ ?_
   refine hPr ?_
   refine HP.done ?_
   clear m0 m1 mf0 mf1
   have rq := (zR.set0 (sC A6 64 c6)).set1 (sC A8 1 c8)
   have hnf := (zX.setCell (p := ⟨gR, 0, none⟩) hgR (sC A6 64 c6)).setCell (p := ⟨gR, 1, none⟩) hgR (sC A8 1 c8)
   have hSf := hS6.twoW zR (sC A6 64 c6) (sC A8 1 c8)
   have hWf := hW8.twoW zR (sC A6 64 c6) (sC A8 1 c8)
   generalize (v4.setCell ⟨gR, 0, none⟩ (sC A6 64 c6)).setCell ⟨gR, 1, none⟩ (sC A8 1 c8) = Wf at *
   have q0 := rq.c0
   have q1 := rq.c1
   go_wp2
   exact bodyPost_ret (v := .tuple #[.agg #[sC A6 64 c6, sC A8 1 c8], ii 0]) (by simp [results, results77, go_sem, q0, q1]) rfl (RetAp.mk HRy.out hSf.strs hWf.wrs hnf)
 have hd : decide (0 < (V1.gs.length : Int)) = true := decide_eq_true oM
 obtain ⟨k, hk1⟩ : ∃ k, Hid (V1.gs.length = k + 1) := ⟨V1.gs.length - 1, qh oM⟩
 obtain ⟨bb, off, hA3, hbb, q0, q1, q2, q3⟩ := zP.own.vlt.sgs.row.at4 (k := k) (by have := hk1.out; omega)
 obtain ⟨g', hA, _, hg', _⟩ := zP.row (by have := hk1.out; omega)
 obtain rfl : g' = bb := by rw [hA3] at hA; injection hA with hA; injection hA with hA; exact hA.symm
 obtain ⟨q9, Hq9⟩ := nM ((V1.gs.getD k sgZ).m)
 rw [Hq9.out] at q2
 have HMx : Hid (max t q9 = m9) := qh (by rw [<- Hm9.out, <- Hq9.out]; exact (lastM_some t hk1.out).symm)
 clear q0 q1 q3 hA
 have hk20 := HY.out.n4
 have hsub : ((V1.gs.length : Nat) : Int) - 1 = (k : Int) := by have := hk1.out; omega
 have hlk : (k : Int) < ((V1.gs.length : Nat) : Int) := by have := hk1.out; omega
 have hwk : IntKind.i64.wrap (k : Int) = (k : Int) := IntWalk.i64_in _ (by have := hk1.out; omega)
 rw [hA3] at zV ⊢
 obtain ⟨y0, y1, y2, y3, y4, y5, y6, y7⟩ := zV.e8
 go_wp2_with fail
 clear y0 y1 y2 y3 y4 y5 y6 y7
 have kd : Nx W4 W4.drew := (Nx.refl W4).drew
 have hle1 := zP.le
 have hle2 := zP.le2
 have hnE : w.heap.size ≠ gz := oM
 have hnR : gR ≠ gz := oM
 have hbg : g' < gz := oM
 have hgw : w.heap.size <= gz := oM
 have vd := zV.nx kd
 have gd := zG.nx kd
 have pd : W4.drew.cell? ⟨g', off + k * 4 + 2, none⟩ = some (ii q9) := q2
 have yw : W4.cell? ⟨gz, 2, none⟩ = some (ii t) := zG.cell 2
 have yd : W4.drew.cell? ⟨gz, 2, none⟩ = some (ii t) := zG.cell 2
 have yz := gd.frozen 2
 have yl := gd.lt
 refine wp_planA (.t 0 (.t 2 (.t 3 (.t 4 (.t 5 (.t 6 (.t 7 (.t 8 (.c 1 (.t 9 (.t 10 (.c 11 .e)))))))))))) (fun w' => CC w' gV 6 (sC (some ⟨g', off, none⟩) V1.gs.length V1.c3) /\ CC w' g' (off + k * 4 + 2) (ii q9)) (by exact ⟨vd.cell 6, pd⟩) ?_
 simp only [psOf, List.getD_cons_zero, List.getD_cons_succ]
 refine hPr ?_
 refine hPc fun K hK => ?_
 go_simp
 refine hK.out _ _ (by exact ⟨vd.cell 6, pd⟩) ?_
 clear hK K
 refine nZ ?_
 refine hPr ?_
 refine hPc fun K hK => ?_
 go_simp
 refine hK.out _ _ (by exact ⟨(zV.far (p := ⟨gz, 2, none⟩) hnV (ii (max t q9))).cell 6, ((Below.setCell (Below.refl gz W4) (p := ⟨gz, 2, none⟩) nle (ii (max t q9))).cell (p := ⟨g', off + k * 4 + 2, none⟩) hbg).trans q2⟩) ?_
 clear hK K
 refine nZ ?_
 refine HP.done ?_
 have zV := (zV.far (p := ⟨gz, 2, none⟩) hnV (ii (max t q9))).nx (Nx.refl _).drew
 have zE := (zE.far (p := ⟨gz, 2, none⟩) hnE (ii (max t q9))).nx (Nx.refl _).drew
 have zR := (zR.far (p := ⟨gz, 2, none⟩) hnR (ii (max t q9))).nx (Nx.refl _).drew
 have zP := (zP.rgA ((Rg.of_nx (Nx.refl W4)).setCell (p := ⟨gz, 2, none⟩) (Nat.le_refl gz) (Nat.lt_succ_self gz) (ii (max t q9))) hgz).nx (Nx.refl _).drew
 have hSq := (hSq.far_ty (p := ⟨gz, 2, none⟩) zG dC (ii (max t q9))).nx (Nx.refl _).drew
 have zG := (zG.set 2 (ii (max t q9))).nx (Nx.refl _).drew
 have zX := (zX.setCell (p := ⟨gz, 2, none⟩) hgw (ii (max t q9))).drew
 simp only [List.setIfInBounds_toArray, List.set_cons_zero, List.set_cons_succ] at zG
 clear vd gd pd yw yd yz yl kd q2
 generalize (W4.setCell ⟨gz, 2, none⟩ (ii (max t q9))).drew = W5 at *
 rw [HMx.out] at zG
 obtain ⟨y0, y1, y2, y3, y4, y5, y6, y7⟩ := zV.e8
 go_wp2_with fail
 clear y0 y1 y2 y3 y4 y5 y6 y7
 refine (l04Free_c V1.g V1.b V1.p V1.t V1.A V1.A2 V1.c V1.c2 W5.heap.size V1.xs V1.ms W5 zP.own.vlt.tab nle (by have := HXL.out; omega)).mono ?_
 rintro e w7 ⟨A7, c7, rfl, _, hS7, hk⟩
 have HfL := qh (freeTo_some (xs := V1.xs) (by have := HXL.out; omega))
 obtain ⟨b7, o7, rfl, hb7, q7⟩ := Ins.at_ (k := 0) hS7.row HfL.out
 obtain ⟨L7, HL7⟩ := nM ((freeTo V1.xs 54).length)
 have hL7 : 0 < L7 := HL7.out ▸ HfL.out
 rw [HL7.out]
 have hL8 : (0 : Int) < (L7 : Int) := oM
 change w7.cell? ⟨b7, o7, none⟩ = some (ii (freeS V1.xs)) at q7
 rw [Hx9.out] at q7
 replace zE := zE.nx hk; replace zV := zV.nx hk; replace zR := zR.nx hk; replace zP := zP.nx hk; replace zG := zG.nx hk; replace hSq := hSq.nx hk; replace zX := zX.trans hk
 clear hS7 hk HfL HL7
 obtain ⟨y0, y1, y2, y3, y4, y5, y6, y7⟩ := zV.e8
 have zS := Box.new w7 26 #[ii V1.g, ii V1.b, ii V1.p, ii V1.t, sC V1.A V1.xs.length V1.c, sC V1.A2 V1.ms.length V1.c2]
 have hMk : Mks w7 w7.heap.size V1.A2 V1.ms := zP.own.vlt.mks
 have hk := (Nx.refl w7).alloc (.cells #[ii V1.g, ii V1.b, ii V1.p, ii V1.t, sC V1.A V1.xs.length V1.c, sC V1.A2 V1.ms.length V1.c2] 26)
 have hgS := zX.size
 have hneR : gR ≠ w7.heap.size := Nat.ne_of_lt zR.lt
 have hneZ : gz ≠ w7.heap.size := Nat.ne_of_lt zG.lt
 have hneD : w.heap.size ≠ w7.heap.size := Nat.ne_of_lt zE.lt
 replace zE := zE.nx hk; replace zR := zR.nx hk; replace zP := zP.nx hk; replace zG := zG.nx hk; replace hSq := hSq.nx hk; replace zX := zX.trans hk
 replace hMk := hMk.below hk nle
 clear hk
 have zSl := zS.lt
 obtain ⟨z0, z1, z2, z3, z4, z5⟩ := zS.d6
 have hOw := RowI.new (w7.alloc (.cells #[ii V1.g, ii V1.b, ii V1.p, ii V1.t, sC V1.A V1.xs.length V1.c, sC V1.A2 V1.ms.length V1.c2] 26)) nle
 have hka := (Nx.refl (w7.alloc (.cells #[ii V1.g, ii V1.b, ii V1.p, ii V1.t, sC V1.A V1.xs.length V1.c, sC V1.A2 V1.ms.length V1.c2] 26))).alloc (.cells #[] 3)
 have hIn := (zP.nx hka).own.vlt.tab
 have hsa := hka.size
 have hsb : w7.heap.size + 1 <= ((w7.alloc (.cells #[ii V1.g, ii V1.b, ii V1.p, ii V1.t, sC V1.A V1.xs.length V1.c, sC V1.A2 V1.ms.length V1.c2] 26)).alloc (.cells #[] 3)).heap.size := by simp
 simp only [World.size_alloc] at hOw
 go_wp2_with (at_builtin; refine wpList_addAllI rfl _ _ rfl (w7.heap.size + 1) (w7.heap.size + 1) V1.A V1.c V1.xs rfl rfl hOw hIn (by have := HXL.out; omega) hsb ?_)
 intro A8 k8 w8 hr8 hg8 hs8
 have hk8 := hg8.nx (w7.alloc (.cells #[ii V1.g, ii V1.b, ii V1.p, ii V1.t, sC V1.A V1.xs.length V1.c, sC V1.A2 V1.ms.length V1.c2] 26)) hka (by simp)
 have hszS : (w7.alloc (.cells #[ii V1.g, ii V1.b, ii V1.p, ii V1.t, sC V1.A V1.xs.length V1.c, sC V1.A2 V1.ms.length V1.c2] 26)).heap.size = w7.heap.size + 1 := by simp
 clear z0 z1 z2 z3 z4 z5 y0 y1 y2 y3 y4 y5 y6 y7 hg8 hs8 hsa hsb hOw hIn hka zSl q7 hb7
 generalize w7.alloc (.cells #[ii V1.g, ii V1.b, ii V1.p, ii V1.t, sC V1.A V1.xs.length V1.c, sC V1.A2 V1.ms.length V1.c2] 26) = wS at *
 have hz8 : w7.heap.size + 1 <= w8.heap.size := by have := hk8.size; omega
 have hgS8 : w.heap.size <= w7.heap.size := hgS
 obtain ⟨gS, HgS⟩ := nM (w7.heap.size)
 rw [HgS.out] at zS hMk hr8 hz8 hgS8 hneR hneZ hneD hszS ⊢
 have hka := (Nx.refl w8).alloc (.cells #[ii x9] 3)
 have hr9 := hr8.nx hka
 have hbx := Box.new w8 3 #[ii x9]
 have hsb := ntr hz8 hka.size
 go_wp2_with (at_builtin; refine wpList_addI rfl _ _ rfl (gS + 1) w8.heap.size _ V1.xs x9 rfl rfl hr9 hbx (by have := HXL.out; omega) hsb ?_)
 intro A9 k9 w9 hr10 hg10
 have hk := hg10.nx wS (hk8.trans hka) oM
 clear hk8
 replace zE := zE.nx hk; replace zR := zR.nx hk; replace zG := zG.nx hk; replace zS := zS.nx hk; replace hSq := hSq.nx hk; replace zX := zX.trans hk
 replace hMk := hMk.below hk oM
 obtain ⟨A9', c9', he9, hcap9, hTb⟩ := hr10.slc
 rw [HX9.out] at he9 hTb hcap9
 rw [HXl.out] at he9 hcap9
 injection he9 with he91 he92 he93
 subst he91 he93
 clear he92 hr10 hg10 hk hr9 hbx hsb hka hr8 zP zV
 have zSl := zS.lt
 have zf := zS.frozen 4
 obtain ⟨z0, z1, z2, z3, z4, z5⟩ := zS.d6
 have hgSn : w.heap.size <= gS := hgS8
 have hTb := (hTb.far (p := ⟨gS, 4, none⟩) (Nat.lt_succ_self gS) (sC A9 (V1.xs.length + 1) k9)).low hgSn.step
 have hSq := hSq.far_ty (p := ⟨gS, 4, none⟩) zS dC (sC A9 (V1.xs.length + 1) k9)
 have zE := zE.far (p := ⟨gS, 4, none⟩) hneD (sC A9 (V1.xs.length + 1) k9)
 have zR := zR.far (p := ⟨gS, 4, none⟩) hneR (sC A9 (V1.xs.length + 1) k9)
 have zG := zG.far (p := ⟨gS, 4, none⟩) hneZ (sC A9 (V1.xs.length + 1) k9)
 have hMk := (hMk.below (Below.setCell (Below.refl gS w9) (p := ⟨gS, 4, none⟩) nle (sC A9 (V1.xs.length + 1) k9)) nle).more (Nat.le_of_lt (zS.set 4 (sC A9 (V1.xs.length + 1) k9)).lt)
 have zS := zS.set 4 (sC A9 (V1.xs.length + 1) k9)
 have zX := zX.setCell (p := ⟨gS, 4, none⟩) hgSn (sC A9 (V1.xs.length + 1) k9)
 simp only [List.setIfInBounds_toArray, List.set_cons_zero, List.set_cons_succ] at zS
 go_wp2_with fail
 clear z0 z1 z2 z3 z4 z5 zSl zf
 generalize w9.setCell ⟨gS, 4, none⟩ (sC A9 (V1.xs.length + 1) k9) = w10 at *
 have hneG : gz ≠ gR := oM
 have hneS : gS ≠ gR := hneR.symm
 have hk : Nx w10 w10.drew := (Nx.refl w10).drew
 replace zE := zE.nx hk; replace zG := zG.nx hk; replace zS := zS.nx hk; replace zR := zR.nx hk; replace hSq := hSq.nx hk; replace hTb := hTb.nx hk; replace hMk := (hMk.below hk nle).more hk.size; replace zX := zX.trans hk; clear hk
 refine wp_planA (.t 0 (.t 1 (.t 2 (.t 6 (.c 3 (.c 4 (.c 5 (.c 7 (.c 8 (.t 9 .e)))))))))) (fun w' => (CC w' w.heap.size 0 (sC A 64 c) /\ CC w' w.heap.size 1 (sC A2 0 c2)) /\ (CC w' gz 0 (ii (p - 1)) /\ CC w' gz 1 (ii p) /\ CC w' gz 2 (ii m9) /\ CC w' gz 3 (sC As 1 cs)) /\ (CC w' gS 0 (ii V1.g) /\ CC w' gS 1 (ii V1.b) /\ CC w' gS 2 (ii V1.p) /\ CC w' gS 3 (ii V1.t) /\ CC w' gS 4 (sC A9 (V1.xs.length + 1) k9) /\ CC w' gS 5 (sC V1.A2 V1.ms.length V1.c2))) (by exact ⟨⟨zE.c0, zE.c1⟩, zG.d4, zS.d6⟩) ?_
 simp only [psOf, List.getD_cons_zero, List.getD_cons_succ]
 refine hPr ?_
 refine hPc fun K hK => ?_
 go_simp
 refine (l02Text_c (p - 1) p m9 As cs _ [((n0 : Int), v, o9)] _ hSq.row nle (by simp) HGR.out).mono ?_; rintro e v1 ⟨he, hk⟩; rw [HGT.out] at he; subst he; replace zE := zE.nx hk; replace zG := zG.nx hk; replace zS := zS.nx hk; replace zR := zR.nx hk; replace hSq := hSq.nx hk; replace hTb := hTb.nx hk; replace hMk := (hMk.below hk nle).more hk.size; replace zX := zX.trans hk; clear hk
 go_wp2_with fail
 refine hK.out _ _ (by exact ⟨⟨zE.c0, zE.c1⟩, zG.d4, zS.d6⟩) ?_
 clear hK K
 refine nZ ?_
 refine hPc fun K hK => ?_
 go_simp
 refine (l01Write_c A A2 64 c 0 c2 B [] x9 s9 _ (h2.below zX hB) (ntr hB zX.size) oM).mono ?_; rintro e v2 ⟨A5, n5, c5, rfl, hW5, hk⟩; obtain rfl : n5 = 1 := hW5.1.symm; replace zE := zE.nx hk; replace zG := zG.nx hk; replace zS := zS.nx hk; replace zR := zR.nx hk; replace hSq := hSq.nx hk; replace hTb := hTb.nx hk; replace hMk := (hMk.below hk nle).more hk.size; replace zX := zX.trans hk; clear hk
 go_wp2_with fail
 refine hK.out _ _ (by exact ⟨⟨zE.c0, zE.c1⟩, zG.d4, zS.d6⟩) ?_
 clear hK K
 refine nZ ?_
 refine hPc fun K hK => ?_
 go_simp
 refine (l01Flush_c A A5 c 1 c5 _ ss ([] ++ [(x9, s9)]) _ ((h.below zX hB).more (ntr hB zX.size)) hW5.wrs nle oM HWo.out).mono ?_; rintro e v3 ⟨A6, n6, c6, A7, n7, c7, rfl, hS6, hW6, hk⟩; obtain rfl : n6 = 64 := (by rw [<- hS6.1, settleTo_len]; exact h.1); obtain rfl : n7 = 0 := hW6.1.symm; replace zE := zE.nx hk; replace zG := zG.nx hk; replace zS := zS.nx hk; replace zR := zR.nx hk; replace hSq := hSq.nx hk; replace hTb := hTb.nx hk; replace hMk := (hMk.below hk nle).more hk.size; replace zX := zX.trans hk; clear hk
 go_wp2_with fail
 refine hK.out _ _ (by exact ⟨⟨zE.c0, zE.c1⟩, zG.d4, zS.d6⟩) ?_
 clear hK K
 refine nZ ?_
 refine hPc fun K hK => ?_
 go_simp
 have HC := l04Put_c A6 A7 64 c6 0 c7 v3.heap.size (settleTo kpAll ss ([] ++ [(x9, s9)]) 1) [] V1.g V1.b V1.p V1.t A9 V1.A2 k9 V1.c2 X9 V1.ms v3 hS6.strs hW6.wrs hTb.row hMk nle oM oM oM HF0.out HF1.out _ _ HNU.out HS2.out; rw [HXl.out] at HC; refine HC.mono ?_; clear HC; rintro e v4 ⟨A8, n8, c8, rfl, hW8, hk⟩; obtain rfl : n8 = 1 := hW8.1.symm; replace hS6 := hS6.nx hk; replace zE := zE.nx hk; replace zG := zG.nx hk; replace zS := zS.nx hk; replace zR := zR.nx hk; replace hSq := hSq.nx hk; replace hTb := hTb.nx hk; replace hMk := (hMk.below hk nle).more hk.size; replace zX := zX.trans hk; clear hk; have m0 := zR.c0; have m1 := zR.c1; have mf0 := zR.frozen 0; have mf1 := zR.frozen 1; have mlt := zR.lt
 go_wp2_with fail
 refine hK.out _ _ (by exact ⟨⟨zE.c0, zE.c1⟩, zG.d4, zS.d6⟩) ?_
 clear hK K
 refine nZ ?_
 refine hPc fun K hK => ?_
 go_simp
 refine hK.out _ _ (by exact ⟨⟨((zE.far (p := ⟨gR, 0, none⟩) hneE (sC A6 64 c6)).far (p := ⟨gR, 1, none⟩) hneE (sC A8 1 c8)).c0, ((zE.far (p := ⟨gR, 0, none⟩) hneE (sC A6 64 c6)).far (p := ⟨gR, 1, none⟩) hneE (sC A8 1 c8)).c1⟩, ((zG.far (p := ⟨gR, 0, none⟩) hneG (sC A6 64 c6)).far (p := ⟨gR, 1, none⟩) hneG (sC A8 1 c8)).d4, ((zS.far (p := ⟨gR, 0, none⟩) hneS (sC A6 64 c6)).far (p := ⟨gR, 1, none⟩) hneS (sC A8 1 c8)).d6⟩) ?_
 clear hK K
 refine nZ ?_
 refine hPr ?_
 refine HP.done ?_
 clear m0 m1 mf0 mf1
 have rq := (zR.set0 (sC A6 64 c6)).set1 (sC A8 1 c8)
 have hnf := (zX.setCell (p := ⟨gR, 0, none⟩) hgR (sC A6 64 c6)).setCell (p := ⟨gR, 1, none⟩) hgR (sC A8 1 c8)
 have hSf := hS6.twoW zR (sC A6 64 c6) (sC A8 1 c8)
 have hWf := hW8.twoW zR (sC A6 64 c6) (sC A8 1 c8)
 generalize (v4.setCell ⟨gR, 0, none⟩ (sC A6 64 c6)).setCell ⟨gR, 1, none⟩ (sC A8 1 c8) = Wf at *
 have q0 := rq.c0
 have q1 := rq.c1
 go_wp2
 exact bodyPost_ret (v := .tuple #[.agg #[sC A6 64 c6, sC A8 1 c8], ii 0]) (by simp [results, results77, go_sem, q0, q1]) rfl (RetAp.mk HRy.out hSf.strs hWf.wrs hnf)
section
variable {w w' : World}
theorem SrcR.farU {g n c k : Nat} {A : Option Addr} (h : SrcR w g A n c k) {p : Addr} (hp : g ≠ p.block) (u : Value) : SrcR (w.setCell p u) g A n c k := by
 obtain ⟨a, sd, h1, h2, h3⟩ := h
 unfold Src at h3
 exact ⟨a, sd, h1, h2, h3.far hp u⟩
end
section
variable {w wr w' : World} {g : Nat} {A : Option Addr} {n c K K' X : Nat} {cs : Array Value} {vT vM vT' vM' : Value} {xs xs' : List Int} {ms ms' : List Mrk}
end
theorem chanceU_c (m g : Nat) (A : Option Addr) (n c k B : Nat) (ys : List Nat) (w : World) (hm : 2 <= m) (hm2 : m <= 256) (hb : SrcR w g A n c k) (h : U8s w B A n ys) (hB : B <= g) (hn : n <= 1048576) (hk : k + 3 <= 1048576) :
 Calls Tryz.prog 98 #[.pointer (some ⟨g, 0, none⟩), ii m] w fun e w' => ∃ b : Bool, e = .returned (.bool b) /\ SrcR w' g A n c (k + 3) /\ Rg g (g + 1) w w' := by
 obtain ⟨a, sd, h1, h2, h3⟩ := hb
 obtain ⟨⟨b, a', sd'⟩, HPx⟩ : ∃ x, byteP ys a sd = x := ⟨_, rfl⟩
 obtain ⟨k1, k2, k3⟩ := byteP_lt h.2.1 h2 HPx
 exact (chance_c m g A n c a sd B ys b a' sd' w hm hm2 h3 h hB hn oM h2 HPx).mono fun e w' ⟨he, hs, hr⟩ => ⟨_, he, ⟨a', sd', oM, k3, hs⟩, hr⟩





def kOf (gs : List SgR) (k j : Nat) : Nat := k + j * 3 + ssum gs j * 3
def mkSg (gs : List SgR) (k i : Nat) : Value := if i % 4 = 3 then sgAt gs i else ii ((kOf gs k (i / 4) + i % 4 : Nat) : Int)
def k1V (V : Vl) : Nat := 1 + V.xs.length + V.ms.length * 2
structure MkV (w : World) (lo mid hi : Nat) (V : Vl) : Prop where
 tab : Sr w lo mid V.A 3 V.xs.length (mkAt 1)
 mks : Sr w lo mid V.A2 136 (V.ms.length * 2) (mrAt (markM (1 + V.xs.length) V.ms.length))
 row : Sr w mid hi V.A3 122 (V.gs.length * 4) (mkSg V.gs (k1V V))
 chs : ∀ i, i < V.gs.length -> Sr w mid hi (V.gs.getD i sgZ).A 192 ((V.gs.getD i sgZ).cs.length * 3) (markAt (kOf V.gs (k1V V) i + 3))
 img : Sr w mid hi V.A4 3 V.im.length (mkAt (kOf V.gs (k1V V) V.gs.length))
end
section
open Go.Joins Go.ChangeShapes Go.WideShapes Go.RowKit Go.Deep
section
variable {H : Type} {enc : TypeId × Value -> H} {w : World} {base : Nat} {spare : Nat -> Bool} {held : Bool}
end
end
section
open Go.RowKit
theorem RetLd.un {w w' : World} {e : Ending} {g b p q : Int} {xs : List Int} {ms : List Mrk} {gs : List SgR} {im : List Int} {A0 A1 A2 A3 : Option Addr} {k0 k1 k2 k3 : Nat} {cd : Int} (h : RetLd w (⟨g, b, p, q, A0, k0, xs, A1, k1, ms, A2, k2, gs, A3, k3, im⟩, cd) e w') :
 ∃ A c A2' c2 A3' c3 gs' A4 c4 mid, e = .returned (.tuple #[.agg #[ii g, ii b, ii p, ii q, sC A xs.length c, sC A2' ms.length c2, sC A3' gs'.length c3, sC A4 im.length c4], ii cd])
   /\ VlS ⟨g, b, p, q, A0, k0, xs, A1, k1, ms, A2, k2, gs, A3, k3, im⟩ ⟨g, b, p, q, A, c, xs, A2', c2, ms, A3', c3, gs', A4, c4, im⟩ /\ VlP w' w.heap.size mid w'.heap.size ⟨g, b, p, q, A, c, xs, A2', c2, ms, A3', c3, gs', A4, c4, im⟩ /\ Nx w w' := by
 obtain ⟨⟨g5, b5, p5, t5, A5, c5, xs5, A25, c25, ms5, A35, c35, gs5, A45, c45, im5⟩, mid, rfl, hs, hp, hk⟩ := h
 obtain ⟨e1, e2, e3, e4, e5, e6, e7, e8⟩ := hs
 simp only at e1 e2 e3 e4 e5 e6 e7 e8
 subst e1 e2 e3 e4 e5 e6 e8
 exact ⟨A5, c5, A25, c25, A35, c35, gs5, A45, c45, mid, rfl, ⟨rfl, rfl, rfl, rfl, rfl, rfl, e7, rfl⟩, hp, hk⟩
theorem MkV.rg {w w' : World} {lo mid hi a b : Nat} {V : Vl} (h : MkV w lo mid hi V) (hb : Rg a b w w') (hd : hi <= a \/ b <= lo) (h1 : lo <= mid) (h2 : mid <= hi) : MkV w' lo mid hi V :=
 ⟨h.tab.rg hb oM, h.mks.rg hb oM, h.row.rg hb oM, fun k hk => (h.chs k hk).rg hb oM, h.img.rg hb oM⟩
theorem VlP.rg {w w' : World} {lo mid hi a b : Nat} {V : Vl} (h : VlP w lo mid hi V) (hb : Rg a b w w') (hd : hi <= a \/ b <= lo) : VlP w' lo mid hi V :=
 have h1 := h.le
 have h2 := h.le2
 ⟨h.tab.rg hb oM, h.mks.rg hb oM, h.row.rg hb oM, fun k hk => (h.chs k hk).rg hb oM, h.img.rg hb oM, h.dj, h.cap, h.cap3, h.le, h.le2⟩
theorem ldA_b (ss : List BA) (ws : List (Int × BA)) : VlB (ldA ss ws).1 := by
 cases hD : diskB ss ws with
 | false => rw [ldA_bad hD]; exact VlB.zero
 | true => rw [ldA_yes hD]; exact ldV_b hD
theorem size_c (g : Nat) (A : Option Addr) (n c k : Nat) (w : World) (hb : SrcR w g A n c k) (hn : n <= 1048576) :
 Calls Tryz.prog 135 #[.pointer (some ⟨g, 0, none⟩), ii 16] w fun e w' => ∃ m : Nat, e = .returned (ii (m : Int)) /\ m <= 16 /\ Nx w w' := by
 obtain ⟨a, sd, h1, h2, h3⟩ := hb
 unfold Src at h3
 have d0 := h3.d0
 have hlt := h3.lt
 go_enter func135, ntmps135
 go_wp2
 go_ret
 exact ⟨min (1 + n / 12) 16, ret_int oM, oM, Nx.refl _⟩
theorem frameK_c (g : Nat) (A : Option Addr) (n c B k0 : Nat) (ys : List Nat) (w : World) (hb : SrcR w g A n c k0) (h : U8s w B A n ys) (hB : B <= g) (hn : n <= 1048576) (hk0 : k0 <= 1000000) :
 Calls Tryz.prog 69 #[.pointer (some ⟨g, 0, none⟩)] w fun e w' => ∃ (q0 : Int) (q1 q2 q3 : Nat), e = .returned (.agg #[ii q0, ii (q1 : Int), ii (q2 : Int), ii (q3 : Int)]) /\ (1 <= q0 /\ q0 <= 20 /\ q1 < 8 /\ q2 < 900 /\ q3 < 200) /\ SrcR w' g A n c (k0 + 12) /\ Rg g (g + 1) w w' := by
 have hz0 := hb.lt
 have b0 := Box.new w 55 #[ii 0, ii 0, ii 0, ii 0]
 have hx0 := (Nx.refl w).alloc (.cells #[ii 0, ii 0, ii 0, ii 0] 55)
 have s0 := hb.nx hx0
 have t0 : Rg g (g + 1) w (w.alloc (.cells #[ii 0, ii 0, ii 0, ii 0] 55)) := Rg.of_nx hx0
 clear hb hx0
 go_enter func69, ntmps69
 go_wp2_with fail
 generalize w.alloc (.cells #[ii 0, ii 0, ii 0, ii 0] 55) = W at *
 refine (nextR_c 20 g A n c k0 B ys W oM oM s0 (h.rg t0 hB (Nat.le_of_lt hz0)) hB hn oM).mono ?_
 rintro e w1 ⟨v0, rfl, hv0, s1, r1⟩
 have b1 := b0.rg r1 (.inr oM)
 have t1 := t0.trans r1
 clear b0 t0 r1 s0
 go_wp2_with fail
 refine (nextR_c 8 g A n c (k0 + 3) B ys w1 oM oM s1 (h.rg t1 hB (Nat.le_of_lt hz0)) hB hn oM).mono ?_
 rintro e w2 ⟨v1, rfl, hv1, s2, r2⟩
 have b2 := b1.rg r2 (.inr oM)
 have t2 := t1.trans r2
 clear b1 t1 r2 s1
 go_wp2_with fail
 refine (nextR_c 900 g A n c (k0 + 3 + 3) B ys w2 oM oM s2 (h.rg t2 hB (Nat.le_of_lt hz0)) hB hn oM).mono ?_
 rintro e w3 ⟨v2, rfl, hv2, s3, r3⟩
 have b3 := b2.rg r3 (.inr oM)
 have t3 := t2.trans r3
 clear b2 t2 r3 s2
 go_wp2_with fail
 refine (nextR_c 200 g A n c (k0 + 3 + 3 + 3) B ys w3 oM oM s3 (h.rg t3 hB (Nat.le_of_lt hz0)) hB hn oM).mono ?_
 rintro e w4 ⟨v3, rfl, hv3, s4, r4⟩
 have b4 := b3.rg r4 (.inr oM)
 have t4 := t3.trans r4
 clear b3 t3 r4 s3
 obtain ⟨q0, Hq0⟩ := nM ((1 : Int) + (v0 : Int) : Int)
 obtain ⟨c0, c1, c2, c3⟩ := b4.d4
 have f0 := b4.frozen 0
 have f1 := b4.frozen 1
 have f2 := b4.frozen 2
 have f3 := b4.frozen 3
 go_wp2
 rw [Hq0.out]
 have q := put4_box b4 (ii q0) (ii v1) (ii v2) (ii v3)
 have hnf := (((t4.setNew8 (p := ⟨w.heap.size, 0, none⟩) nle (ii q0)).setNew8 (p := ⟨w.heap.size, 1, none⟩) nle (ii v1)).setNew8 (p := ⟨w.heap.size, 2, none⟩) nle (ii v2)).setNew8 (p := ⟨w.heap.size, 3, none⟩) nle (ii v3)
 have hsf := (((s4.farU (p := ⟨w.heap.size, 0, none⟩) sM (ii q0)).farU (p := ⟨w.heap.size, 1, none⟩) sM (ii v1)).farU (p := ⟨w.heap.size, 2, none⟩) sM (ii v2)).farU (p := ⟨w.heap.size, 3, none⟩) sM (ii v3)
 change Rg _ _ _ (put4 w4 w.heap.size (ii q0) (ii v1) (ii v2) (ii v3)) at hnf
 change SrcR (put4 w4 w.heap.size (ii q0) (ii v1) (ii v2) (ii v3)) _ _ _ _ _ at hsf
 change bodyPost _ _ _ _ _ (put4 w4 w.heap.size (ii q0) (ii v1) (ii v2) (ii v3))
 generalize put4 w4 w.heap.size (ii q0) (ii v1) (ii v2) (ii v3) = Wf at *
 obtain ⟨g0, g1, g2, g3⟩ := q.d4
 exact bodyPost_ret (v := .agg #[ii q0, ii v1, ii v2, ii v3]) (by simp [results, results69, go_sem, g0, g1, g2, g3]) rfl ⟨q0, v1, v2, v3, rfl, ⟨by have := Hq0.out; omega, by have := Hq0.out; omega, hv1, hv2, hv3⟩, hsf.more oM, hnf⟩
theorem nextFrame_c (g : Nat) (A : Option Addr) (n c B k0 : Nat) (ys : List Nat) (Ad : Option Addr) (cd : Nat) (A2 : Option Addr) (c2 lo : Nat) (ss : List BA) (V : Vl) (K : Int) (w : World) (hb : SrcR w g A n c k0) (h : U8s w B A n ys) (hB : B <= g) (hn : n <= 1048576) (hk0 : k0 <= 900000)
 (hS : SlS w lo Ad 64 ss) (hD : Dv ss V K) (hK : K <= 900000) :
 Calls Tryz.prog 136 #[.pointer (some ⟨g, 0, none⟩), .agg #[sC Ad 64 cd, sC A2 0 c2]] w fun e w' => ∃ (p : Int) (q1 q2 q3 : Nat), e = .returned (.agg #[ii p, ii (q1 : Int), ii (q2 : Int), ii (q3 : Int)]) /\ (1 <= p /\ p <= K + 1000 /\ q1 < 8 /\ q2 < 900 /\ q3 < 200) /\ SrcR w' g A n c (k0 + 18) /\ Rg g (g + 1) w w' := by
 have hz0 := hb.lt
 have hgL : Hid (ldV ss [] = (V, 0)) := qh hD.ld.v
 have hVB := ldV_b hD.disk
 rw [hgL.out] at hVB
 have hTip := qh hD.tip
 have hTip0 := qh hD.ld.ok.tipIn
 have HV := fun w1 h1 h2 h3 => l05Load_c Ad A2 64 cd 0 c2 w1.heap.size ss [] w1 h1 h2 h3 oM oM hD.disk
 rw [hgL.out] at HV
 have HV := qh HV
 have HVB := qh hVB
 clear hVB hD
 have e0 : Box ((w.alloc (.cells #[sC Ad 64 cd, sC A2 0 c2] 35)).alloc (.cells #[ii 0, ii 0, ii 0, ii 0] 55)) w.heap.size 35 #[sC Ad 64 cd, sC A2 0 c2] := (Box.new w _ _).alloc _
 have r0 : Box ((w.alloc (.cells #[sC Ad 64 cd, sC A2 0 c2] 35)).alloc (.cells #[ii 0, ii 0, ii 0, ii 0] 55)) (w.heap.size + 1) 55 #[ii 0, ii 0, ii 0, ii 0] := by have := Box.new (w.alloc (.cells #[sC Ad 64 cd, sC A2 0 c2] 35)) 55 #[ii 0, ii 0, ii 0, ii 0]; rwa [World.size_alloc] at this
 have hx0 := ((Nx.refl w).alloc (.cells #[sC Ad 64 cd, sC A2 0 c2] 35)).alloc (.cells #[ii 0, ii 0, ii 0, ii 0] 55)
 have y0 := e0.c0
 have y1 := e0.c1
 go_enter func136, ntmps136
 go_wp2_with fail
 generalize (w.alloc (.cells #[sC Ad 64 cd, sC A2 0 c2] 35)).alloc (.cells #[ii 0, ii 0, ii 0, ii 0] 55) = W at *
 obtain ⟨gR, HgR⟩ := nM (w.heap.size + 1)
 have hgR : w.heap.size <= gR := by have := HgR.out; omega
 rw [HgR.out] at r0 ⊢
 clear y0 y1 e0
 refine (HV.out W (hS.nx hx0).strs ⟨rfl, fun h => absurd h oM⟩ nle).mono ?_
 rintro e w1 ⟨V1, mid, rfl, hs, hp, hk⟩
 have HVN1 := qh ((HVB.out.s hs).n)
 simp only [Vl.v, Vl.cells]
 have zV := Box.new w1 49 #[ii V1.g, ii V1.b, ii V1.p, ii V1.t, sC V1.A V1.xs.length V1.c, sC V1.A2 V1.ms.length V1.c2, sC V1.A3 V1.gs.length V1.c3, sC V1.A4 V1.im.length V1.c4]
 have hk2 := hk.alloc (.cells #[ii V1.g, ii V1.b, ii V1.p, ii V1.t, sC V1.A V1.xs.length V1.c, sC V1.A2 V1.ms.length V1.c2, sC V1.A3 V1.gs.length V1.c3, sC V1.A4 V1.im.length V1.c4] 49)
 have r1 := r0.nx hk2
 have hx1 := hx0.trans hk2
 have zP := hp.nx ((Nx.refl w1).alloc (.cells #[ii V1.g, ii V1.b, ii V1.p, ii V1.t, sC V1.A V1.xs.length V1.c, sC V1.A2 V1.ms.length V1.c2, sC V1.A3 V1.gs.length V1.c3, sC V1.A4 V1.im.length V1.c4] 49))
 have hW1 : g + 1 <= W.heap.size := by have := hx0.size; omega
 have hgW : w.heap.size <= w1.heap.size := (hx0.trans hk).size
 have hgRV : gR < w1.heap.size := Nat.lt_of_lt_of_le r0.lt hk.size
 clear hk hk2 hp r0 hx0 HV
 go_wp2_with fail
 generalize w1.alloc (.cells #[ii V1.g, ii V1.b, ii V1.p, ii V1.t, sC V1.A V1.xs.length V1.c, sC V1.A2 V1.ms.length V1.c2, sC V1.A3 V1.gs.length V1.c3, sC V1.A4 V1.im.length V1.c4] 49) = w2 at *
 generalize w1.heap.size = gV at *
 have t2 : Rg g (g + 1) w w2 := Rg.of_nx hx1
 refine (frameK_c g A n c B k0 ys w2 (hb.nx hx1) (h.rg t2 hB (Nat.le_of_lt hz0)) hB hn oM).mono ?_
 rintro e w3 ⟨f0, f1, f2, f3, rfl, hf, s3, rr⟩
 have r3 := r1.rg rr (.inr oM)
 have zV3 := zV.rg rr (.inr oM)
 have zP3 := zP.rg rr (.inr hW1)
 have t3 := t2.trans rr
 have hk := (Nx.refl w3).alloc (.cells #[ii f0, ii f1, ii f2, ii f3] 55)
 have zF := Box.new w3 55 #[ii f0, ii f1, ii f2, ii f3]
 have hgF : gV < w3.heap.size := zV3.lt
 have r4 := r3.nx hk
 have zV4 := zV3.nx hk
 have zP4 := zP3.nx hk
 have t4 := t3.trans (Rg.of_nx hk)
 have s4 := s3.nx hk
 obtain ⟨x0, x1, x2, x3, x4, x5, x6, x7⟩ := zV3.e8
 clear hb t2 hx1 r1 r3 zV zP zV3 zP3 rr t3 s3 hk
 go_wp2_with fail
 clear x0 x1 x2 x3 x4 x5 x6 x7
 generalize w3.alloc (.cells #[ii f0, ii f1, ii f2, ii f3] 55) = w4 at *
 generalize w3.heap.size = gF at *
 refine (l05Tip_c V1 _ w4 zP4.own.vlt nle HVN1.out).mono ?_
 rintro e w5 ⟨rfl, hk⟩
 rw [show tipV V1.b V1.gs = V.tip from hs.tip]
 obtain ⟨T, HT⟩ := nM (V.tip)
 obtain ⟨T1, HT1⟩ := nM (T + 1)
 rw [HT.out] at hTip ⊢
 have hT0 : 0 <= T := by rw [<- HT.out]; exact hTip0.out.1
 have hT9 : T <= K := hTip.out
 have hw1 : IntKind.i64.wrap (T + 1) = T1 := by rw [IntWalk.i64_in _ oM]; exact HT1.out
 have r5 := r4.nx hk
 have zF5 := zF.nx hk
 have t5 := t4.trans (Rg.of_nx hk)
 have s5 := s4.nx hk
 clear hk r4 zF zV4 zP4 t4 s4 hs
 go_wp2_with fail
 refine (nextR_c 12 g A n c (k0 + 12) B ys w5 oM oM s5 (h.rg t5 hB (Nat.le_of_lt hz0)) hB hn oM).mono ?_
 rintro e w6 ⟨x, rfl, hx, s6, rr⟩
 have r6 := r5.rg rr (.inr oM)
 have zF6 := zF5.rg rr (.inr oM)
 have t6 := t5.trans rr
 clear rr r5 zF5 t5 s5
 obtain ⟨T2, HT2⟩ := nM (T1 + (x : Int) / 10)
 have hw2 : IntKind.i64.wrap (T1 + (x : Int) / 10) = T2 := by have := HT1.out; rw [IntWalk.i64_in _ oM]; exact HT2.out
 go_wp2_with fail
 refine (nextR_c 12 g A n c (k0 + 12 + 3) B ys w6 oM oM s6 (h.rg t6 hB (Nat.le_of_lt hz0)) hB hn oM).mono ?_
 rintro e w7 ⟨y, rfl, hy, s7, rr⟩
 have r7 := r6.rg rr (.inr oM)
 have zF7 := zF6.rg rr (.inr oM)
 have t7 := t6.trans rr
 clear rr r6 zF6 t6 s6
 obtain ⟨T3, HT3⟩ := nM (T2 - (y : Int) / 10)
 have hw3 : IntKind.i64.wrap (T2 - (y : Int) / 10) = T3 := by have := HT1.out; have := HT2.out; rw [IntWalk.i64_in _ oM]; exact HT3.out
 obtain ⟨T4, HT4⟩ := nM (max 1 T3)
 obtain ⟨z0, z1, z2, z3⟩ := zF7.d4
 have zf0 := zF7.frozen 0
 have zfl := zF7.lt
 obtain ⟨m0, m1, m2, m3⟩ := r7.d4
 have mf0 := r7.frozen 0
 have mf1 := r7.frozen 1
 have mf2 := r7.frozen 2
 have mf3 := r7.frozen 3
 have mlt := r7.lt
 have hne : gF ≠ gR := oM
 have hne2 : gR ≠ gF := oM
 go_wp2
 rw [HT4.out]
 have r8 := r7.far (p := ⟨gF, 0, none⟩) hne2 (ii T4)
 have s8 := s7.farU (p := ⟨gF, 0, none⟩) sM (ii T4)
 have t8 := t7.setNew8 (p := ⟨gF, 0, none⟩) sM (ii T4)
 generalize w7.setCell ⟨gF, 0, none⟩ (ii T4) = w8 at *
 have q := put4_box r8 (ii T4) (ii (f1 : Int)) (ii (f2 : Int)) (ii (f3 : Int))
 have hnf := ((((t8.setNew8 (p := ⟨gR, 0, none⟩) hgR (ii T4)).setNew8 (p := ⟨gR, 1, none⟩) hgR (ii (f1 : Int))).setNew8 (p := ⟨gR, 2, none⟩) hgR (ii (f2 : Int))).setNew8 (p := ⟨gR, 3, none⟩) hgR (ii (f3 : Int)))
 have hsf := ((((s8.farU (p := ⟨gR, 0, none⟩) sM (ii T4)).farU (p := ⟨gR, 1, none⟩) sM (ii (f1 : Int))).farU (p := ⟨gR, 2, none⟩) sM (ii (f2 : Int))).farU (p := ⟨gR, 3, none⟩) sM (ii (f3 : Int)))
 change Rg _ _ _ (put4 w8 gR (ii T4) (ii (f1 : Int)) (ii (f2 : Int)) (ii (f3 : Int))) at hnf
 change SrcR (put4 w8 gR (ii T4) (ii (f1 : Int)) (ii (f2 : Int)) (ii (f3 : Int))) _ _ _ _ _ at hsf
 change bodyPost _ _ _ _ _ (put4 w8 gR (ii T4) (ii (f1 : Int)) (ii (f2 : Int)) (ii (f3 : Int)))
 generalize put4 w8 gR (ii T4) (ii (f1 : Int)) (ii (f2 : Int)) (ii (f3 : Int)) = Wf at *
 obtain ⟨g0, g1, g2, g3⟩ := q.d4
 exact bodyPost_ret (v := .agg #[ii T4, ii (f1 : Int), ii (f2 : Int), ii (f3 : Int)]) (by simp [results, results136, go_sem, g0, g1, g2, g3]) rfl ⟨T4, f1, f2, f3, rfl, ⟨by have := HT4.out; omega, by have := HT4.out; have := HT1.out; have := HT2.out; have := HT3.out; omega, hf.2.2.1, hf.2.2.2.1, hf.2.2.2.2⟩, hsf.more oM, hnf⟩

theorem next1_c (g : Nat) (w : World) : Calls Tryz.prog 96 #[.pointer (some ⟨g, 0, none⟩), ii 1] w fun e w' => e = .returned (ii 0) /\ w' = w := by
 go_enter func96, ntmps96
 go_wp2
 go_ret
 exact ⟨rfl, rfl⟩
theorem nextM_c (m g : Nat) (A : Option Addr) (n c k B : Nat) (ys : List Nat) (w : World) (hm : 1 <= m) (hm2 : m <= 100000) (hb : SrcR w g A n c k) (h : U8s w B A n ys) (hB : B <= g) (hn : n <= 1048576) (hk : k + 3 <= 1048576) :
 Calls Tryz.prog 96 #[.pointer (some ⟨g, 0, none⟩), ii (m : Int)] w (RetV m g A n c k w) := by
 rcases Nat.lt_or_ge m 2 with h2 | h2
 . obtain rfl : m = 1 := oM
   refine (next1_c g w).mono ?_
   rintro e w' ⟨rfl, rfl⟩
   exact ⟨0, rfl, oM, hb.more oM, Rg.of_nx (Nx.refl _)⟩
 . exact nextR_c m g A n c k B ys w h2 hm2 hb h hB hn hk
section
variable {w w' : World} {g : Nat} {xs : List Int}
end
theorem sOk_at {ss : List BA} (h : ss.all sOk = true) (k : Nat) : (ss.getD k ByteArray.empty).size <= 300 := by
 rw [gdE]
 cases hk : ss[k]? with
 | none => exact Nat.zero_le _
 | some t =>
   have := List.all_eq_true.mp h t (List.mem_of_getElem? hk)
   unfold sOk at this
   simpa using this
section
variable {w wr w' : World} {g : Nat} {A : Option Addr} {n c K K' gd gb cb : Nat} {A2 : Option Addr} {c2 : Nat} {ss : List BA}
end
--BODY
end
section
open Go.ChangeShapes Go.WideShapes Go.RowKit Go.Deep
theorem info_bool : (Tryz.prog.info? 4).map (fun i => (i.zero, i.size, i.bytes)) = some (some (.bool false), 1, 1) := by kernel_rfl
def OwnB (w : World) (g : Nat) (bs : List Bool) : Prop := Own w g 4 bs.length (blAt bs)
def SrB (w : World) (lo hi : Nat) (A : Option Addr) (n : Nat) (bs : List Bool) : Prop := bs.length = n /\ (0 < n -> ∃ g, A = some ⟨g, 0, none⟩ /\ lo <= g /\ g < hi /\ OwnB w g bs)
section
variable {w w' : World} {lo hi n a b : Nat} {A : Option Addr} {bs : List Bool}
theorem SrB.nx (h : SrB w lo hi A n bs) (hb : Nx w w') : SrB w' lo hi A n bs := ⟨h.1, fun hn => by obtain ⟨g, e, hl, hh, ho⟩ := h.2 hn; exact ⟨g, e, hl, hh, Own.nx ho hb⟩⟩
theorem SrB.bls (h : SrB w lo hi A n bs) : Bls w w.heap.size A n bs := ⟨h.1, fun hn => by
 obtain ⟨g, e, hl, hh, ho⟩ := h.2 hn
 subst e
 have := Own.row ho (Own.lt ho)
 rw [h.1] at this
 exact this hn⟩
end
def RetB (w : World) (bs : List Bool) (e : Ending) (w' : World) : Prop := ∃ (A : Option Addr) (n c : Nat), e = .returned (sC A n c) /\ SrB w' w.heap.size w'.heap.size A n bs /\ Nx w w'
end
section
open Go.RowKit
theorem owns_rg {w w' : World} {base : Nat} {e : TypeId} {size n lo hi : Nat} {v : Value} {xs : List Value} (h : w.ownsRow base e size v n xs) (hr : Rg lo hi w w') (hb : hi <= base) : w'.ownsRow base e size v n xs := by
 refine ⟨h.1, ?_⟩
 rcases h.2 with hn | ⟨g, cap, cur, rfl, hbg, hgg, rest⟩
 . exact .inl hn
 . refine .inr ⟨g, cap, cur, rfl, hbg, ?_, rest⟩
   rw [hr.block g ?_ (.inr oM)]
   . exact hgg
   . rcases Nat.lt_or_ge g w.heap.size with hlt | hge
     . exact hlt
     . rw [Array.getElem?_eq_none hge] at hgg; cases hgg
theorem Rg.grown {lo hi : Nat} {a w w' : World} {row : Option Nat} (h : Rg lo hi a w) (hg : w.grownBy w' row) (hrow : ∀ k, row = some k -> a.heap.size <= k) : Rg lo hi a w' :=
 ⟨hg.os.trans h.os, hg.tape.trans h.tape, hg.output.trans h.output, ntr h.size hg.size, fun k hk hr => (hg.block k (Nat.lt_of_lt_of_le hk h.size) (fun e => by have := hrow k e.symm; omega)).trans (h.block k hk hr)⟩
theorem box1_row {w : World} {g : Nat} {ty : TypeId} {v : Value} (h : Box w g ty #[v]) : Row w w.heap.size (some ⟨g, 0, none⟩) (1 * 1) (fun _ => v) := fun _ =>
 ⟨g, 0, rfl, h.lt, fun i hi => by
  obtain rfl : i = 0 := oM
  exact h.cell 0⟩
def keepsP (ys : List Nat) : Nat -> Nat -> Nat -> List Bool
 | 0, _, _ => []
 | i + 1, a, sd => decide ((byteP ys a sd).1 % 2 = 1) :: keepsP ys i (byteP ys a sd).2.1 (byteP ys a sd).2.2
def keepsOf (ys : List Nat) : List Bool := keepsP ys ((byteP ys 0 (ys.length % 1000)).1 % 4) (byteP ys 0 (ys.length % 1000)).2.1 (byteP ys 0 (ys.length % 1000)).2.2
theorem keepsP_len (ys : List Nat) : ∀ i a sd, (keepsP ys i a sd).length = i
 | 0, _, _ => rfl
 | i + 1, a, sd => by unfold keepsP; rw [List.length_cons, keepsP_len ys i]
theorem keepsOf_len (ys : List Nat) : (keepsOf ys).length < 4 := by unfold keepsOf; rw [keepsP_len]; omega
theorem bl_list (bs : List Bool) : bs.map Value.bool = (List.range bs.length).map (blAt bs) := by
 apply List.ext_getElem?
 intro k
 rw [List.getElem?_map, List.getElem?_map]
 by_cases hk : k < bs.length
 . rw [List.getElem?_range hk, List.getElem?_eq_getElem hk]
   show some (Value.bool bs[k]) = some (Value.bool (bs.getD k false))
   rw [gdE, List.getElem?_eq_getElem hk]; rfl
 . rw [List.getElem?_eq_none oM, List.getElem?_eq_none (by simpa using hk)]; rfl
theorem srB_of_owns {w : World} {base : Nat} {v : Value} {bs : List Bool} {n : Nat} (h : w.ownsRow base 4 1 v n (bs.map Value.bool)) : ∃ K kc, v = sC K n kc /\ SrB w base w.heap.size K n bs := by
 have hl : bs.length = n := by have := h.1; rw [List.length_map] at this; omega
 rcases Nat.eq_zero_or_pos n with h0 | hp
 . subst h0
   rcases h.2 with ⟨rfl, _⟩ | ⟨g, cap, cur, rfl, _⟩
   . exact ⟨_, _, rfl, hl, fun h => absurd h oM⟩
   . exact ⟨_, _, rfl, hl, fun h => absurd h oM⟩
 . rw [bl_list] at h
   obtain ⟨g, cap, rfl, hb, ho⟩ := own_of_owns h hp oM
   exact ⟨_, _, rfl, hl, fun _ => ⟨g, rfl, hb, ho.lt, ho⟩⟩
theorem keeps_c (g : Nat) (A : Option Addr) (n c B : Nat) (ys : List Nat) (w : World) (hb : Src w g A n c 0 (n % 1000)) (h : U8s w B A n ys) (hB : B <= g) (hn : n <= 1048576) :
 Calls Tryz.prog 80 #[.pointer (some ⟨g, 0, none⟩)] w fun e w' => ∃ (K : Option Addr) (m kc : Nat), e = .returned (sC K m kc) /\ SrB w' w.heap.size w'.heap.size K m (keepsOf ys) /\ Rg g (g + 1) w w' := by
 obtain ⟨i0, hi0, hz0, hz1, hz2⟩ := info_parts info_bool
 have hgl := Box.lt hb
 have m0 := Box.new w 4 #[]
 have hown0 := owns_empty _ w.heap.size 4 1 w.heap.size nle m0
 have hnx0 := (Nx.refl w).alloc (.cells #[] 4)
 have hb0 := Box.nx hb hnx0
 have hu0 := h.below (hnx0.mono (Nat.le_of_lt hgl)) hB
 obtain ⟨b, a', s2, HP⟩ : ∃ b a' s2, byteP ys 0 (n % 1000) = (b, a', s2) := ⟨_, _, _, rfl⟩
 obtain ⟨hb256, rfl, hs2⟩ := byteP_lt h.2.1 oM HP
 have HK := qh (show keepsOf ys = keepsP ys (b % 4) (0 + 1) s2 by unfold keepsOf; rw [h.1, HP])
 have HH := qh HP
 clear HP
 go_enter func80, ntmps80
 go_wp2_with fail
 refine (next_c 4 g A n c 0 (n % 1000) B ys b (0 + 1) s2 _ oM oM hb0 hu0 hB hn oM oM HH.out).mono ?_
 rintro e w1 ⟨rfl, h1, hr1⟩
 have hown1 := owns_rg hown0 hr1 oM
 have hr2 := (Rg.of_nx (lo := g) (hi := g + 1) hnx0).trans hr1
 clear hown0 hnx0 hb0 hu0 hb hr1 HH m0
 generalize hx : b % 4 = x at *
 have hx4 : x < 4 := oM
 clear hx
 go_wp2
 go_loopw [3, 4] (fun out i wr => ∃ (j k a' sd' : Nat) (bs : List Bool), i = ii j /\ bs.length = k /\ k + j <= 4 /\ wr.ownsRow w.heap.size 4 1 out k (bs.map Value.bool) /\ Src wr g A n c a' sd' /\ a' + j <= 5 /\ sd' < 2147483648 /\ keepsOf ys = bs ++ keepsP ys j a' sd' /\ Rg g (g + 1) w wr) (fun _ i _ => (intOf i).toNat)
 case atStart => exact ⟨x, 0, 0 + 1, s2, [], rfl, rfl, oM, hown1, h1, oM, hs2, HK.out, hr2⟩
 case round =>
  obtain ⟨j, k, a', sd', bs, rfl, hbl, hkj, hown, hsrc, ha', hsd, hP, hr⟩ := hrel
  clear hown1 h1 hr2 HK
  have hu := h.rg hr hB (Nat.le_of_lt hgl)
  rcases Nat.eq_zero_or_pos j with hz | hp
  . subst hz
    obtain ⟨K, kc, rfl, hB2⟩ := srB_of_owns hown
    have HF := qh (show keepsOf ys = bs by rw [hP]; unfold keepsP; rw [List.append_nil])
    clear hP hown hu hsrc
    go_wp2
    go_ret
    exact ⟨K, k, kc, rfl, by rw [HF.out]; exact hB2, hr⟩
  . obtain ⟨j', rfl⟩ : ∃ j', j = j' + 1 := ⟨j - 1, oM⟩
    obtain ⟨b1, a1, s1, HP⟩ : ∃ b a1 s2, byteP ys a' sd' = (b, a1, s2) := ⟨_, _, _, rfl⟩
    obtain ⟨hb1, rfl, hs1⟩ := byteP_lt h.2.1 hsd HP
    have HF := qh (show keepsOf ys = (bs ++ [decide (b1 % 2 = 1)]) ++ keepsP ys j' (a' + 1) s1 by rw [hP, List.append_assoc]; rw [keepsP, HP]; rfl)
    have HH := qh HP
    clear HP hP
    have hd2 : decide (0 < ((j' : Int) + 1)) = true := decide_eq_true oM
    go_wp2_with fail
    refine (chance_c 2 g A n c a' sd' B ys b1 (a' + 1) s1 _ oM oM hsrc hu hB hn oM hsd HH.out).mono ?_
    rintro e w2 ⟨rfl, h2, hr2⟩
    rw [show 2 - 1 = 1 from rfl]
    have hown1 := owns_rg hown hr2 oM
    have hr3 := hr.trans hr2
    clear hown hsrc hr hr2 hu HH
    generalize decide (b1 % 2 = 1) = q at *
    have m1 := Box.new w2 4 #[.bool q]
    have hown2 := hown1.alloc (.cells #[.bool q] 4)
    have h3 := Box.alloc h2 (.cells #[.bool q] 4)
    have hr4 := hr3.trans (Rg.of_nx ((Nx.refl w2).alloc (.cells #[.bool q] 4)))
    have hbs := owns_base hown1
    have hsz := hr4.size
    clear hown1 h2 hr3
    go_wp2_with (at_builtin; refine wpList_append_row rfl (.tmp 12) (.tmp 15) 63 rfl w.heap.size 4 i0 _ 1 1 underlying63 hi0 hz0 hz1 hz2 rfl oM _ k _ rfl hown2 (some ⟨w2.heap.size, 0, none⟩) 1 1 _ (fun _ => .bool q) rfl (box1_row m1) (fun _ => rfl) ?c1 ?c2 ?c3 ?_)
    case c1 => unfold maxLen; omega
    case c2 => omega
    case c3 => exact hsz
    intro v2 w3 hown3 hg2
    have h4 := Box.grown h3 hg2 (fun e => by have := hbs _ e.symm; omega)
    have hr5 := hr4.grown hg2 hbs
    clear m1 hown2 h3 hr4 hg2 hbs hsz
    go_wp2
    go_roundw
    case rel => exact ⟨j', k + 1, a' + 1, s1, bs ++ [q], by go_num, by simp [hbl], oM, by simpa using hown3, h4, oM, hs1, HF.out, hr5⟩
    case measure => simp [intOf]
theorem keepsOf_c (A : Option Addr) (n c B : Nat) (ys : List Nat) (w : World) (h : U8s w B A n ys) (hB : B <= w.heap.size) (hn : n <= 1048576) :
 Calls Tryz.prog 30 #[sC A n c] w (RetB w (keepsOf ys)) := by
 go_enter func30, ntmps30
 go_wp2_with fail
 refine (l00Source_c A n c _ hn).mono ?_
 rintro e w1 ⟨rfl, hs, hx⟩
 go_wp2_with fail
 refine (keeps_c w.heap.size A n c B ys _ hs (h.below hx hB) hB hn).mono ?_
 rintro e w2 ⟨K, m, kc, rfl, hk, hr⟩
 have hz := hx.size
 go_wp2
 go_ret
 refine ⟨K, m, kc, rfl, ⟨hk.1, fun hm => ?_⟩, Rg.nx_of hx hr nle⟩
 obtain ⟨g, e, h1, h2, h3⟩ := hk.2 hm
 exact ⟨g, e, oM, h2, h3⟩
theorem box_own {w : World} {g : Nat} {t : TypeId} {cs : Array Value} (h : Box w g t cs) : Own w g t 0 (fun _ => .bool false) := ⟨cs, h, Nat.zero_le _, fun i hi => absurd hi oM⟩
theorem SlS.rg {w w' : World} {lo n a b : Nat} {A : Option Addr} {ss : List BA} (h : SlS w lo A n ss) (hb : Rg a b w w') (hd : b <= lo) : SlS w' lo A n ss := (h.sr.rg hb (.inr hd)).sl




theorem isRet_at {b : Int} {gs : List SgR} {k : Nat} (h : k <= gs.length) : isRet b gs ((retL b gs).getD k 0) = true := by
 have := idx_lt (xs := retL b gs) (k := k) (n := (retL b gs).getD k 0) (by rw [retL_len]; omega) rfl
 unfold isRet
 exact decide_eq_true oM
end
end Go.Proofs.YtieoiailjjnnoaaGreatDoor
