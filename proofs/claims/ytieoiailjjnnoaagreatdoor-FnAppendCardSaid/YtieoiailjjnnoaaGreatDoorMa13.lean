/-
  Texts of the proof, in their order.
  Conditions: those of each.
-/
import Derived.Test.YtieoiailjjnnoaaGreatDoorMa12
namespace Go.Proofs.YtieoiailjjnnoaaGreatDoor
set_option linter.unusedVariables false
open _root_.Go.Proofs.Tryz
set_option maxRecDepth 100000
set_option maxHeartbeats 16000000
section
open Go.RowKit
theorem merge4L {G : Nat -> Option Addr -> Nat -> World -> Prop} {F : Nat -> Option Addr -> Nat -> World -> Prop} {R : Prop} (main : (∀ g A c W, F g A c W -> G g A c W) -> R) (key : ∀ g A c W, F g A c W -> G g A c W) : R := main key
theorem merge2L {G : Nat -> World -> Prop} {F : Nat -> World -> Prop} {R : Prop} (main : (∀ g W, F g W -> G g W) -> R) (key : ∀ g W, F g W -> G g W) : R := main key
theorem slput4q {u : World} {lo g m : Nat} {A : Option Addr} {t t' : TypeId} {f : Nat -> Value} {a b c d : Value} (h : Sl u lo A t m f) (hb : Box u g t' #[a, b, c, d]) (ht : t' ≠ t) (v0 v1 v2 v3 : Value) : Sl (put4 u g v0 v1 v2 v3) lo A t m f :=
 (((h.far_ty (p := ⟨g, 0, none⟩) hb ht v0).far_ty (p := ⟨g, 1, none⟩) (hb.set 0 v0) ht v1).far_ty (p := ⟨g, 2, none⟩) ((hb.set 0 v0).set 1 v1) ht v2).far_ty (p := ⟨g, 3, none⟩) (((hb.set 0 v0).set 1 v1).set 2 v2) ht v3
theorem RowS.farB {w : World} {B g i : Nat} {v : Value} {gs : List SgR} {t : TypeId} {cs : Array Value} (h : RowS w B v gs) (hb : Box w g t cs) (ht : t ≠ 122) (x : Value) : RowS (w.setCell ⟨g, i, none⟩ x) B v gs :=
 World.ownsRow.kept (row := some g) h ⟨rfl, rfl, rfl, by simp [World.setCell], fun k hk hn => Below.heap_setCell _ _ _ _ (fun e => hn (by rw [e]))⟩ (.inr (fun e => h.ne hb.own ht e.symm))
theorem RowI.farB {w : World} {B g i : Nat} {v : Value} {xs : List Int} {t : TypeId} {cs : Array Value} (h : RowI w B v xs) (hb : Box w g t cs) (ht : t ≠ 3) (x : Value) : RowI (w.setCell ⟨g, i, none⟩ x) B v xs :=
 World.ownsRow.kept (row := some g) h ⟨rfl, rfl, rfl, by simp [World.setCell], fun k hk hn => Below.heap_setCell _ _ _ _ (fun e => hn (by rw [e]))⟩ (.inr (fun e => h.ne hb ht e.symm))
theorem ChO.farB {w : World} {B g i : Nat} {gs : List SgR} {t : TypeId} {cs : Array Value} (h : ChO w B gs) (hb : Box w g t cs) (ht : t ≠ 192) (x : Value) : ChO (w.setCell ⟨g, i, none⟩ x) B gs := fun k hk => (h k hk).far_ty (p := ⟨g, i, none⟩) hb ht x
theorem SgO.farB {w : World} {lo g i : Nat} {A : Option Addr} {gs : List SgR} {t : TypeId} {cs : Array Value} (h : SgO w lo A gs) (hb : Box w g t cs) (ht : t ≠ 122) (ht2 : t ≠ 192) (x : Value) : SgO (w.setCell ⟨g, i, none⟩ x) lo A gs :=
 ⟨h.row.far_ty (p := ⟨g, i, none⟩) hb ht x, fun k hk => (h.chs k hk).far_ty (p := ⟨g, i, none⟩) hb ht2 x⟩
theorem wp_addI {w : World} {o : Oper} {a : Act} {K : Act -> World -> Prop} {Q : Exit -> Act -> World -> Prop}
 (s x : Operand) (ho : o.op = .call { callee := .builtin .append, args := #[s, x], argTypes := #[23, 23] })
 (B gd : Nat) (v : Value) (xs : List Int) (x0 : Int) (hs : a.eval s = v) (hx : a.eval x = sC (some ⟨gd, 0, none⟩) 1 1) (hown : RowI w B v xs) (hbx : Box w gd 3 #[ii x0])
 (hl : xs.length <= 1048576) (hB : B <= w.heap.size)
 (hK : ∀ A' k' w', RowI w' B (sC A' (xs.length + 1) k') (xs ++ [x0]) -> GrewT 3 B w w' -> K (a.put o.dst (sC A' (xs.length + 1) k')) w') :
 o.wp Tryz.prog a w K Q := by
 obtain ⟨i0, hi0, hz0, hz1, hz2⟩ := info_parts info_int
 refine wp_append_own w s x 23 ho B 3 i0 _ 1 8 underlying23 hi0 hz0 hz1 hz2 rfl oM v xs.length _ hs hown ⟨gd, 0, none⟩ 1 1 [ii x0] hx rfl (fun j u hj => ?_) (fun u hu => by simp only [List.mem_cons, List.not_mem_nil, or_false] at hu; rcases hu with rfl; rfl) (by unfold maxLen; omega) oM hB ?_
 . rw [addr_add', Nat.zero_add, hbx.cell j]
   rw [<- hj]
   rcases j with _ | j <;> simp
 . intro v' w' hw' hg' _
   have hr : RowI w' B v' (xs ++ [x0]) := by
    unfold RowI iV
    rw [List.map_append, List.length_append]
    exact hw'
   obtain ⟨A', k', rfl, _⟩ := hr.sl
   rw [List.length_append] at hr ⊢
   have hrow : ∀ k, Value.ownBlock v = some k -> B <= k := fun k hk => (World.ownsRow.lt hown k hk).1
   refine hK A' k' w' hr ⟨fun b hb hbB => Below.grown hb hg' hb.size (fun k hk => ntr hbB (hrow k hk)), fun lo hi b hb hbB => ?_, fun g t xs' ht hbg => hbg.grown hg' (hown.ne hbg ht), hg'.size⟩
   refine ⟨hg'.os.trans hb.os, hg'.tape.trans hb.tape, hg'.output.trans hb.output, ntr hb.size hg'.size, fun k hk hr => (hg'.block k (Nat.lt_of_lt_of_le hk hb.size) fun e => ?_).trans (hb.block k hk hr)⟩
   have := hrow k e.symm
   omega
theorem l05Load_c (A A2 : Option Addr) (n c n2 c2 B : Nat) (ss : List BA) (ws : List (Int × BA)) (w : World) (h : Strs w B A n ss) (h2 : Wrs w B A2 n2 ws) (hB : B <= w.heap.size) (hn : n <= 1048576) (hn2 : n2 <= 1048576) (hD : diskB ss ws = true) :
 Calls Tryz.prog 137 #[.agg #[sC A n c, sC A2 n2 c2]] w (RetLd w (ldV ss ws)) := by
 have r0 : Box ((w.alloc (.cells #[sC A n c, sC A2 n2 c2] 35)).alloc (.cells #[ii 0, ii 0, ii 0, ii 0, nsl, nsl, nsl, nsl] 49)) (w.heap.size + 1) 49 #[ii 0, ii 0, ii 0, ii 0, nsl, nsl, nsl, nsl] := by have := Box.new (w.alloc (.cells #[sC A n c, sC A2 n2 c2] 35)) 49 #[ii 0, ii 0, ii 0, ii 0, nsl, nsl, nsl, nsl]; rwa [World.size_alloc] at this
 have e0 : Box ((w.alloc (.cells #[sC A n c, sC A2 n2 c2] 35)).alloc (.cells #[ii 0, ii 0, ii 0, ii 0, nsl, nsl, nsl, nsl] 49)) w.heap.size 35 #[sC A n c, sC A2 n2 c2] := (Box.new w _ _).alloc _
 have hx0 := ((Nx.refl w).alloc (.cells #[sC A n c, sC A2 n2 c2] 35)).alloc (.cells #[ii 0, ii 0, ii 0, ii 0, nsl, nsl, nsl, nsl] 49)
 go_enter func137, ntmps137
 go_wp2_with fail
 generalize (w.alloc (.cells #[sC A n c, sC A2 n2 c2] 35)).alloc (.cells #[ii 0, ii 0, ii 0, ii 0, nsl, nsl, nsl, nsl] 49) = W at *
 obtain ⟨gR, Hg⟩ := nM (w.heap.size + 1)
 have hgR : w.heap.size <= gR := by have := Hg.out; omega
 have hgR1 : w.heap.size < gR := by have := Hg.out; omega
 rw [Hg.out] at r0 ⊢
 have hltR0 := r0.lt
 have h1n : 64 <= n := by have := (diskB_len64 hD).1; have := h.1; omega
 have HD := qh hD
 have HDs := qh (fun a => readP_size hD a)
 clear hD
 have z0 := e0.c0
 have z1 := e0.c1
 go_wp2_with fail
 refine (l04Newest_c A A2 n c n2 c2 B ss ws _ (h.below hx0 hB) (h2.below hx0 hB) (ntr hB hx0.size) oM hn hn2 (by have := HDs.out 0; omega) (by have := HDs.out 1; omega)).mono ?_
 rintro e w2 ⟨hnx2, h1, h2'⟩
 have r2 := r0.nx hnx2
 have e2 := e0.nx hnx2
 have hw2 := hx0.trans hnx2
 have hltR : gR < W.heap.size := hltR0
 have hlt2 := r2.lt
 clear r0 e0 z0 z1 hltR0
 cases hu : newU (rdU (readP ss ws 0)) (rdU (readP ss ws 1)) with
 | none =>
   have HA := qh (ldV_none hu)
   obtain rfl := h1 hu
   clear h1 h2' hu
   have r3 := r2.alloc (.cells #[ii 0, ii 0, ii 0, ii 0, nsl, nsl] 26)
   have hx3 := hw2.alloc (.cells #[ii 0, ii 0, ii 0, ii 0, nsl, nsl] 26)
   have rq := r3.row #[ii 0, ii 0, ii 0, ii 0, nsl, nsl, nsl, nsl]
   have hnf := hx3.setRow hgR #[ii 0, ii 0, ii 0, ii 0, nsl, nsl, nsl, nsl]
   go_wp2_with (refine wpList_store_row rfl _ _ _ rfl gR #[ii 0, ii 0, ii 0, ii 0, nsl, nsl, nsl, nsl] rfl rfl 49 #[ii 0, ii 0, ii 0, ii 0, nsl, nsl, nsl, nsl] r3 (by kernel_rfl) rfl (by simp [Value.oneCell']) ?_)
   generalize (w2.alloc (.cells #[ii 0, ii 0, ii 0, ii 0, nsl, nsl] 26)).setRow gR #[ii 0, ii 0, ii 0, ii 0, nsl, nsl, nsl, nsl] = Wf at *
   obtain ⟨g0, g1, g2, g3, g4, g5, g6, g7⟩ := rq.e8
   exact bodyPost_ret (v := .tuple #[.agg #[ii 0, ii 0, ii 0, ii 0, nsl, nsl, nsl, nsl], ii 19]) (by simp [results, results137, go_sem, g0, g1, g2, g3, g4, g5, g6, g7]) rfl ⟨zVl, w.heap.size, by rw [HA.out]; rfl, by rw [HA.out]; exact VlS.refl _, VlP.zero _ hnf.size, hnf⟩
 | some us =>
   obtain ⟨⟨g, b, p, q, xs, ms⟩, sl⟩ := us
   obtain ⟨Ax, cx, Am, cm, he, hcc, hS1, hM1⟩ := h2' _ _ hu
   replace he : e = .returned (.tuple #[.agg #[ii g, ii b, ii p, ii q, sC Ax xs.length cx, sC Am ms.length cm], ii sl]) := he
   replace hS1 : SlI w2 W.heap.size Ax xs := hS1
   replace hM1 : SlM w2 W.heap.size Am ms := hM1
   replace hcc : xs.length <= cx := hcc
   have HCC := qh hcc
   have HU := qh hu
   have hsup := newU_super hu
   have HSup := qh hsup
   have htb := (superB_yes hsup).2.2.2.2.1
   have hsl := newU_slot hu
   have hd0 : decide (sl < 0) = false := decide_eq_false (by rcases hsl with rfl | rfl <;> omega)
   subst he
   clear h1 h2' hu hcc hsup hsl
   have Hta := qh (fun k (hk : k < xs.length) => tb_at htb hk)
   have hm20 := (tbB_yes htb).1
   have HSn := qh (fun k gs q (h1 : GsTo ss ws xs k gs) (h2 : k < xs.length) (h3 : ldG ss ws (xs.getD k 0) = some q) (A c) => h1.snoc h2 h3 A c)
   have HSg := qh (fun k (hk : k < xs.length) (hno : ldG ss ws (xs.getD k 0) = none) => ldV_seg HU.out hk hno)
   have HIg := qh (fun k (hk : k < 8) (hno : ldI ss ws k = none) => ldV_img HU.out hk hno)
   have HTab := qh hS1
   have HMks := qh hM1
   have hT3 := hS1.row
   obtain ⟨m, Hm⟩ := nM (xs.length)
   have h3' : ∀ k, k < m -> _ := fun k hk => (Ins.at_ (w := w2) (B := w2.heap.size) (A := Ax) (xs := xs) hT3 (k := k) (by rw [Hm.out]; exact hk))
   rw [Hm.out] at Hta hm20 HSn HSg
   clear htb hS1 hM1 hT3
   have s4 : Box ((((w2.alloc (.cells #[ii g, ii b, ii p, ii q, sC Ax xs.length cx, sC Am ms.length cm] 26)).alloc (.cells #[] 122)).alloc (.cells #[] 3)).alloc (.cells #[ii g, ii b, ii p, ii q, sC Ax xs.length cx, sC Am ms.length cm, sC (some ⟨w2.heap.size + 1, 0, none⟩) 0 0, sC (some ⟨w2.heap.size + 1 + 1, 0, none⟩) 0 0] 49)) w2.heap.size 26 #[ii g, ii b, ii p, ii q, sC Ax xs.length cx, sC Am ms.length cm] := (((Box.new w2 26 #[ii g, ii b, ii p, ii q, sC Ax xs.length cx, sC Am ms.length cm]).alloc _).alloc _).alloc _
   have v4 : Box ((((w2.alloc (.cells #[ii g, ii b, ii p, ii q, sC Ax xs.length cx, sC Am ms.length cm] 26)).alloc (.cells #[] 122)).alloc (.cells #[] 3)).alloc (.cells #[ii g, ii b, ii p, ii q, sC Ax xs.length cx, sC Am ms.length cm, sC (some ⟨w2.heap.size + 1, 0, none⟩) 0 0, sC (some ⟨w2.heap.size + 1 + 1, 0, none⟩) 0 0] 49)) (w2.heap.size + 1 + 1 + 1) 49 #[ii g, ii b, ii p, ii q, sC Ax xs.length cx, sC Am ms.length cm, sC (some ⟨w2.heap.size + 1, 0, none⟩) 0 0, sC (some ⟨w2.heap.size + 1 + 1, 0, none⟩) 0 0] := by have := Box.new (((w2.alloc (.cells #[ii g, ii b, ii p, ii q, sC Ax xs.length cx, sC Am ms.length cm] 26)).alloc (.cells #[] 122)).alloc (.cells #[] 3)) 49 #[ii g, ii b, ii p, ii q, sC Ax xs.length cx, sC Am ms.length cm, sC (some ⟨w2.heap.size + 1, 0, none⟩) 0 0, sC (some ⟨w2.heap.size + 1 + 1, 0, none⟩) 0 0]; rwa [World.size_alloc, World.size_alloc, World.size_alloc] at this
   have hrow4 : RowS ((((w2.alloc (.cells #[ii g, ii b, ii p, ii q, sC Ax xs.length cx, sC Am ms.length cm] 26)).alloc (.cells #[] 122)).alloc (.cells #[] 3)).alloc (.cells #[ii g, ii b, ii p, ii q, sC Ax xs.length cx, sC Am ms.length cm, sC (some ⟨w2.heap.size + 1, 0, none⟩) 0 0, sC (some ⟨w2.heap.size + 1 + 1, 0, none⟩) 0 0] 49)) w2.heap.size (sC (some ⟨w2.heap.size + 1, 0, none⟩) 0 0) [] := by
    have := ((RowS.new (w2.alloc (.cells #[ii g, ii b, ii p, ii q, sC Ax xs.length cx, sC Am ms.length cm] 26)) (B := w2.heap.size) (by simp)).nx ((Nx.refl _).alloc (.cells #[] 3))).nx ((Nx.refl _).alloc (.cells #[ii g, ii b, ii p, ii q, sC Ax xs.length cx, sC Am ms.length cm, sC (some ⟨w2.heap.size + 1, 0, none⟩) 0 0, sC (some ⟨w2.heap.size + 1 + 1, 0, none⟩) 0 0] 49))
    rwa [World.size_alloc] at this
   have hint4 : Box ((((w2.alloc (.cells #[ii g, ii b, ii p, ii q, sC Ax xs.length cx, sC Am ms.length cm] 26)).alloc (.cells #[] 122)).alloc (.cells #[] 3)).alloc (.cells #[ii g, ii b, ii p, ii q, sC Ax xs.length cx, sC Am ms.length cm, sC (some ⟨w2.heap.size + 1, 0, none⟩) 0 0, sC (some ⟨w2.heap.size + 1 + 1, 0, none⟩) 0 0] 49)) (w2.heap.size + 1 + 1) 3 #[] := by
    have := (Box.new ((w2.alloc (.cells #[ii g, ii b, ii p, ii q, sC Ax xs.length cx, sC Am ms.length cm] 26)).alloc (.cells #[] 122)) 3 #[]).alloc (.cells #[ii g, ii b, ii p, ii q, sC Ax xs.length cx, sC Am ms.length cm, sC (some ⟨w2.heap.size + 1, 0, none⟩) 0 0, sC (some ⟨w2.heap.size + 1 + 1, 0, none⟩) 0 0] 49)
    rwa [World.size_alloc, World.size_alloc] at this
   have hN4 : Nx w2 ((((w2.alloc (.cells #[ii g, ii b, ii p, ii q, sC Ax xs.length cx, sC Am ms.length cm] 26)).alloc (.cells #[] 122)).alloc (.cells #[] 3)).alloc (.cells #[ii g, ii b, ii p, ii q, sC Ax xs.length cx, sC Am ms.length cm, sC (some ⟨w2.heap.size + 1, 0, none⟩) 0 0, sC (some ⟨w2.heap.size + 1 + 1, 0, none⟩) 0 0] 49)) := ((((Nx.refl w2).alloc _).alloc _).alloc _).alloc _
   have y6 := s4.d6
   have z0 := (e2.nx hN4).c0
   have z1 := (e2.nx hN4).c1
   rw [Hm.out] at s4 v4 hrow4 hint4 hN4 y6 z0 z1 ⊢
   obtain ⟨y0, y1, y2, y3, y4, y5⟩ := y6
   go_wp2_with fail
   clear y0 y1 y2 y3 y4 y5 z0 z1
   generalize ((((w2.alloc (.cells #[ii g, ii b, ii p, ii q, sC Ax m cx, sC Am ms.length cm] 26)).alloc (.cells #[] 122)).alloc (.cells #[] 3)).alloc (.cells #[ii g, ii b, ii p, ii q, sC Ax m cx, sC Am ms.length cm, sC (some ⟨w2.heap.size + 1, 0, none⟩) 0 0, sC (some ⟨w2.heap.size + 1 + 1, 0, none⟩) 0 0] 49)) = W4 at *
   obtain ⟨gS, HgS⟩ := nM (w2.heap.size)
   obtain ⟨gA, HgA⟩ := nM (w2.heap.size + 1)
   obtain ⟨gI, HgI⟩ := nM (w2.heap.size + 1 + 1)
   obtain ⟨gV, HgV⟩ := nM (w2.heap.size + 1 + 1 + 1)
   have hgV2 : w2.heap.size <= gV := by have := HgV.out; omega
   have hgSV : gS ≠ gV := by have := HgV.out; have := HgS.out; omega
   rw [HgV.out, HgI.out, HgA.out] at v4
   rw [HgA.out] at hrow4
   rw [HgI.out] at hint4
   replace s4 : Box W4 gS 26 #[ii g, ii b, ii p, ii q, sC Ax m cx, sC Am ms.length cm] := by rw [<- HgS.out]; exact s4
   rw [HgV.out, HgS.out]
   go_loopw [7] (fun i wr => ∃ (k : Nat) (gs : List SgR) (u : Value), k <= m /\ i = ii k /\ RowS wr w2.heap.size u gs /\ ChO wr w2.heap.size gs /\ Dj gs /\ GsTo ss ws xs k gs /\ Nx w2 wr /\ Box wr gS 26 #[ii g, ii b, ii p, ii q, sC Ax m cx, sC Am ms.length cm] /\ Box wr gV 49 #[ii g, ii b, ii p, ii q, sC Ax m cx, sC Am ms.length cm, u, sC (some ⟨gI, 0, none⟩) 0 0] /\ Box wr gI 3 #[]) (fun i _ => m - (intOf i).toNat)
   case atStart => exact ⟨0, [], _, oM, rfl, hrow4, ChO.nil _ _, Dj.nil, GsTo.nil _ _ _, hN4, s4, v4, hint4⟩
   case round =>
    obtain ⟨k, gs, u, hk, rfl, hrow, hcho, hdj, hgs, hN, bS, bV, bI⟩ := hrel
    clear s4 v4 hrow4 hint4 hN4
    have HDj := qh hdj
    have HGs := qh hgs
    have Hlen := qh hgs.len
    clear hdj hgs
    have y4 := bS.d6.2.2.2.2.1
    by_cases hlt : k < m
    case neg =>
     obtain rfl : m = k := oM
     have HGm : Hid (GsTo ss ws xs xs.length gs) := qh (by rw [Hm.out]; exact HGs.out)
     obtain ⟨Ag, cg, rfl, hcg, hSg⟩ := hrow.sgoc hcho
     have HCG := qh hcg
     have HI0 : RowI wr w2.heap.size (sC (some ⟨gI, 0, none⟩) 0 0) [] := ⟨rfl, .inr ⟨gI, 0, #[], rfl, by have := HgI.out; omega, bI, by simp, by unfold maxLen; omega, rfl, rfl⟩⟩
     obtain ⟨ng, Hng⟩ := nM (gs.length)
     have hng9 : ng <= 20 := by have := Hng.out; have := Hlen.out; omega
     rw [Hng.out] at bV
     clear hcg hrow hcho
     go_wp2_with fail
     clear y4 bI
     go_loopw [10] (fun i wr => ∃ (j : Nat) (im : List Int) (u : Value), j <= 8 /\ i = ii j /\ RowI wr w2.heap.size u im /\ ImTo ss ws j im /\ SgO wr w2.heap.size Ag gs /\ Nx w2 wr /\ Box wr gS 26 #[ii g, ii b, ii p, ii q, sC Ax m cx, sC Am ms.length cm] /\ Box wr gV 49 #[ii g, ii b, ii p, ii q, sC Ax m cx, sC Am ms.length cm, sC Ag ng cg, u]) (fun i _ => 8 - (intOf i).toNat)
     case atStart => exact ⟨0, [], _, oM, rfl, HI0, ImTo.nil _ _, hSg, hN, bS, bV⟩
     case round =>
      obtain ⟨j, im, u, hj, rfl, hri, him, hSg2, hN2, bS2, bV2⟩ := hrel
      clear HI0 hSg hN bS bV
      have HIm := qh him
      have HlenI := qh him.len
      clear him
      have eR := e2.nx hN2
      by_cases hlt : j < 8
      case neg =>
       obtain rfl : j = 8 := oM
       obtain ⟨Ai, ci, rfl, hci, hSi⟩ := hri.slc
       have HIl : Hid (im.length = 8) := qh HlenI.out
       have r5 := r2.nx hN2
       have hx5 := hw2.trans hN2
       have hP6 : VlP wr W.heap.size w2.heap.size wr.heap.size ⟨g, b, p, q, Ax, cx, xs, Am, cm, ms, Ag, cg, gs, Ai, ci, im⟩ :=
        ⟨HTab.out.sr.nx hN2, HMks.out.sr.nx hN2, hSg2.row.sr, fun k hk => (hSg2.chs k hk).sr, hSi.sr, HDj.out, HCC.out, HCG.out, hnx2.size, hN2.size⟩
       obtain ⟨x0, x1, x2, x3, x4, x5, x6, x7⟩ := bV2.e8
       obtain ⟨hNs, hAm⟩ := ld_small HD.out HSup.out HGm.out HIm.out Ax cx Am cm Ag cg Ai ci
       have HW := qh (ldW_s (g := g) (b := b) (p := p) (t := q) (ms := ms) HGm.out HIm.out Ax cx Am cm Ag cg Ai ci)
       have HOk := qh (ldOk_of (u := (g, b, p, q, xs, ms)) HGm.out HIm.out)
       have hcall := specVaultOK_c ⟨g, b, p, q, Ax, cx, xs, Am, cm, ms, Ag, cg, gs, Ai, ci, im⟩ wr.heap.size wr (hP6.own.vlt) nle hNs HCC.out hAm
       simp only [Vl.v, Vl.cells] at hcall
       rw [Hm.out, Hng.out] at hcall
       have HCl := qh hcall
       clear hcall hNs hAm hri hSg2 hSi
       go_wp2_with fail
       refine HCl.out.mono ?_
       rintro e w7 ⟨rfl, hk7⟩
       rw [<- HW.out.ok]
       have r7 := r5.nx hk7
       have hx7 := hx5.trans hk7
       have hP7 := (hP6.nx hk7).up hk7.size
       have v7 := bV2.nx hk7
       clear r5 hx5 hP6 bV2 bS2 x0 x1 x2 x3 x4 x5 x6 x7 HCl
       obtain ⟨x0, x1, x2, x3, x4, x5, x6, x7⟩ := v7.e8
       cases hv : (ldW ss ws (g, b, p, q, xs, ms)).ok with
       | false =>
         have HA := qh (ldV_wrong HU.out hv)
         clear hv x0 x1 x2 x3 x4 x5 x6 x7
         have rq := r7.row #[ii 0, ii 0, ii 0, ii 0, nsl, nsl, nsl, nsl]
         have hnf := hx7.setRow hgR #[ii 0, ii 0, ii 0, ii 0, nsl, nsl, nsl, nsl]
         go_wp2_with (refine wpList_store_row rfl _ _ _ rfl gR #[ii 0, ii 0, ii 0, ii 0, nsl, nsl, nsl, nsl] rfl rfl 49 #[ii 0, ii 0, ii 0, ii 0, nsl, nsl, nsl, nsl] r7 (by kernel_rfl) rfl (by simp [Value.oneCell']) ?_)
         generalize w7.setRow gR #[ii 0, ii 0, ii 0, ii 0, nsl, nsl, nsl, nsl] = Wf at *
         obtain ⟨g0, g1, g2, g3, g4, g5, g6, g7⟩ := rq.e8
         exact bodyPost_ret (v := .tuple #[.agg #[ii 0, ii 0, ii 0, ii 0, nsl, nsl, nsl, nsl], ii 10]) (by simp [results, results137, go_sem, g0, g1, g2, g3, g4, g5, g6, g7]) rfl ⟨zVl, w.heap.size, by rw [HA.out]; rfl, by rw [HA.out]; exact VlS.refl _, VlP.zero _ hnf.size, hnf⟩
       | true =>
         have HA := qh (ldV_yes HU.out HOk.out hv)
         clear hv
         have rq := r7.row #[ii g, ii b, ii p, ii q, sC Ax m cx, sC Am ms.length cm, sC Ag ng cg, sC Ai im.length ci]
         have hnf := hx7.setRow hgR #[ii g, ii b, ii p, ii q, sC Ax m cx, sC Am ms.length cm, sC Ag ng cg, sC Ai im.length ci]
         have hvf := hP7.rowfar hltR #[ii g, ii b, ii p, ii q, sC Ax m cx, sC Am ms.length cm, sC Ag ng cg, sC Ai im.length ci]
         have hzf := size_setRow w7 gR #[ii g, ii b, ii p, ii q, sC Ax m cx, sC Am ms.length cm, sC Ag ng cg, sC Ai im.length ci]
         go_wp2_with (refine wpList_store_row rfl _ _ _ rfl gR #[ii g, ii b, ii p, ii q, sC Ax m cx, sC Am ms.length cm, sC Ag ng cg, sC Ai im.length ci] rfl rfl 49 #[ii 0, ii 0, ii 0, ii 0, nsl, nsl, nsl, nsl] r7 (by kernel_rfl) rfl (by simp [Value.oneCell']) ?_)
         generalize w7.setRow gR #[ii g, ii b, ii p, ii q, sC Ax m cx, sC Am ms.length cm, sC Ag ng cg, sC Ai im.length ci] = Wf at *
         obtain ⟨g0, g1, g2, g3, g4, g5, g6, g7⟩ := rq.e8
         exact bodyPost_ret (v := .tuple #[.agg #[ii g, ii b, ii p, ii q, sC Ax m cx, sC Am ms.length cm, sC Ag ng cg, sC Ai im.length ci], ii 0]) (by simp [results, results137, go_sem, g0, g1, g2, g3, g4, g5, g6, g7]) rfl ⟨⟨g, b, p, q, Ax, cx, xs, Am, cm, ms, Ag, cg, gs, Ai, ci, im⟩, w2.heap.size, by rw [HA.out]; unfold Vl.v Vl.cells; simp only; rw [Hm.out, Hng.out], by rw [HA.out]; exact HW.out, (hvf.low hx0.size).up oM, hnf⟩
      have HJ : Hid (ldI ss ws j = oneN (rdN (readP ss ws (2 + j)))) := qh rfl
      have z0 := eR.c0
      have z1 := eR.c1
      go_wp2_with fail
      rw [show ((2 : Int) + (j : Int)) = ((2 + j : Nat) : Int) by omega]
      refine (l01Read_c A A2 n c n2 c2 B (2 + j) ss ws _ (h.below (hw2.trans hN2) hB) (h2.below (hw2.trans hN2) hB) (ntr hB (hw2.trans hN2).size) oM hn hn2).mono ?_
      rintro e w5 ⟨rfl, hk5⟩
      clear z0 z1
      go_wp2_with fail
      refine (l02Open_c (readP ss ws (2 + j)) _ (by have := HDs.out (2 + j); omega)).mono ?_
      rintro e w6 ⟨x, rfl, hxs, hxo, hk6⟩
      have hx9 : x.size <= 65536 := by have := HDs.out (2 + j); omega
      have HXo := qh hxo
      clear hxo hxs
      go_wp2_with fail
      refine (l02Numbers_c x _ hx9).mono ?_
      rintro e w8 ⟨An, nn, cn, rfl, hyes, hk8⟩
      have hk := (hk5.trans hk6).trans hk8
      have hri8 := hri.nx hk
      have hSg8 := hSg2.nx hk
      have hN8 := hN2.trans hk
      have bS8 := bS2.nx hk
      have bV8 := bV2.nx hk
      have r8 := r2.nx hN8
      have hx8 := hw2.trans hN8
      clear hri hSg2 hN2 bS2 bV2 eR hk hk5 hk6 hk8
      cases ho : opensB (readP ss ws (2 + j)) with
      | false =>
        have HA : Hid (ldV ss ws = (zVl, 10)) := qh (HIg.out j hlt (by rw [HJ.out, rdN_no ho]; rfl))
        clear ho hyes
        have rq := r8.row #[ii 0, ii 0, ii 0, ii 0, nsl, nsl, nsl, nsl]
        have hnf := hx8.setRow hgR #[ii 0, ii 0, ii 0, ii 0, nsl, nsl, nsl, nsl]
        go_wp2_with (refine wpList_store_row rfl _ _ _ rfl gR #[ii 0, ii 0, ii 0, ii 0, nsl, nsl, nsl, nsl] rfl rfl 49 #[ii 0, ii 0, ii 0, ii 0, nsl, nsl, nsl, nsl] r8 (by kernel_rfl) rfl (by simp [Value.oneCell']) ?_)
        generalize w8.setRow gR #[ii 0, ii 0, ii 0, ii 0, nsl, nsl, nsl, nsl] = Wf at *
        obtain ⟨g0, g1, g2, g3, g4, g5, g6, g7⟩ := rq.e8
        exact bodyPost_ret (v := .tuple #[.agg #[ii 0, ii 0, ii 0, ii 0, nsl, nsl, nsl, nsl], ii 10]) (by simp [results, results137, go_sem, g0, g1, g2, g3, g4, g5, g6, g7]) rfl ⟨zVl, w.heap.size, by rw [HA.out]; rfl, by rw [HA.out]; exact VlS.refl _, VlP.zero _ hnf.size, hnf⟩
      | true =>
        obtain rfl := HXo.out ho
        cases hr : numsO (bodyOf (readP ss ws (2 + j))).data.toList with
        | none =>
          have HA : Hid (ldV ss ws = (zVl, 10)) := qh (HIg.out j hlt (by rw [HJ.out, rdN_yes ho, hr]; rfl))
          clear ho hr hyes
          simp only [Option.isSome_none]
          have rq := r8.row #[ii 0, ii 0, ii 0, ii 0, nsl, nsl, nsl, nsl]
          have hnf := hx8.setRow hgR #[ii 0, ii 0, ii 0, ii 0, nsl, nsl, nsl, nsl]
          go_wp2_with (refine wpList_store_row rfl _ _ _ rfl gR #[ii 0, ii 0, ii 0, ii 0, nsl, nsl, nsl, nsl] rfl rfl 49 #[ii 0, ii 0, ii 0, ii 0, nsl, nsl, nsl, nsl] r8 (by kernel_rfl) rfl (by simp [Value.oneCell']) ?_)
          generalize w8.setRow gR #[ii 0, ii 0, ii 0, ii 0, nsl, nsl, nsl, nsl] = Wf at *
          obtain ⟨g0, g1, g2, g3, g4, g5, g6, g7⟩ := rq.e8
          exact bodyPost_ret (v := .tuple #[.agg #[ii 0, ii 0, ii 0, ii 0, nsl, nsl, nsl, nsl], ii 10]) (by simp [results, results137, go_sem, g0, g1, g2, g3, g4, g5, g6, g7]) rfl ⟨zVl, w.heap.size, by rw [HA.out]; rfl, by rw [HA.out]; exact VlS.refl _, VlP.zero _ hnf.size, hnf⟩
        | some ns =>
          obtain ⟨rfl, hR, hcn⟩ := hyes ns hr
          by_cases h1 : ns.length = 1
          case neg =>
           have HA : Hid (ldV ss ws = (zVl, 10)) := qh (HIg.out j hlt (by rw [HJ.out, rdN_yes ho, hr]; exact oneN_no h1))
           have hne : ((ns.length : Int) != 1) = true := by rw [bne_iff_ne]; omega
           clear ho hr hyes hR
           simp only [Option.isSome_some]
           have rq := r8.row #[ii 0, ii 0, ii 0, ii 0, nsl, nsl, nsl, nsl]
           have hnf := hx8.setRow hgR #[ii 0, ii 0, ii 0, ii 0, nsl, nsl, nsl, nsl]
           go_wp2_with (refine wpList_store_row rfl _ _ _ rfl gR #[ii 0, ii 0, ii 0, ii 0, nsl, nsl, nsl, nsl] rfl rfl 49 #[ii 0, ii 0, ii 0, ii 0, nsl, nsl, nsl, nsl] r8 (by kernel_rfl) rfl (by simp [Value.oneCell']) ?_)
           generalize w8.setRow gR #[ii 0, ii 0, ii 0, ii 0, nsl, nsl, nsl, nsl] = Wf at *
           obtain ⟨g0, g1, g2, g3, g4, g5, g6, g7⟩ := rq.e8
           exact bodyPost_ret (v := .tuple #[.agg #[ii 0, ii 0, ii 0, ii 0, nsl, nsl, nsl, nsl], ii 10]) (by simp [results, results137, go_sem, g0, g1, g2, g3, g4, g5, g6, g7]) rfl ⟨zVl, w.heap.size, by rw [HA.out]; rfl, by rw [HA.out]; exact VlS.refl _, VlP.zero _ hnf.size, hnf⟩
          obtain ⟨x, rfl⟩ : ∃ x, ns = [x] := by
           match ns, h1 with
           | [x], _ => exact ⟨x, rfl⟩
          have HF : Hid (ldI ss ws j = some (x : Int)) := qh (by rw [HJ.out, rdN_yes ho, hr]; rfl)
          obtain ⟨bb, off, rfl, hbb, hcell⟩ := hR (by simp)
          have p0 : w8.cell? ⟨bb, off, none⟩ = some (ii (x : Int)) := hcell 0 (by simp)
          have HI1 := qh (HIm.out.snoc HF.out)
          clear ho hr hyes hR hcell h1
          simp only [Option.isSome_some, List.length_cons, List.length_nil, Nat.zero_add] at hcn ⊢
          go_wp2_with fail
          have hxd : Nx w8 w8.drew := (Nx.refl w8).drew
          have hriD := hri8.nx hxd
          have hSgD := hSg8.nx hxd
          have hND := hN8.trans hxd
          have bSD := bS8.nx hxd
          have bVD := bV8.nx hxd
          have p0D : w8.drew.cell? ⟨bb, off, none⟩ = some (ii (x : Int)) := p0
          clear p0 hri8 hSg8 hN8 bS8 bV8 hxd r8 hx8
          refine wp_region_plan (.t 0 (.t 2 (.t 3 (.b 1 (.c 4 (.c 5 (.c 6 (.t 7 (.c 8 .e))))) 4 (.b 1 (.c 5 (.c 6 (.t 7 (.c 8 .e)))) 5 (.c 1 (.c 6 (.t 7 (.c 8 .e))))))))) (fun _ => True) (by kernel_rfl) (by kernel_rfl) rfl (by kernel_rfl) (fun _ _ d _ _ h => by cases d <;> exact h) trivial ?_
          simp only [psOf, List.getD_cons_zero, List.getD_cons_succ]
          generalize w8.drew = W0 at *
          have hz3 := (Nx.refl W0).alloc (.cells #[ii (x : Int)] 3)
          have HR3 := qh (hriD.nx hz3)
          have HB3 := qh (Box.new W0 3 #[ii (x : Int)])
          have bVA := bVD.nx hz3
          have bSA := bSD.nx hz3
          have hSgA := hSgD.nx hz3
          have hNA := hND.trans hz3
          have hsz3 := hNA.size
          have hl9 : im.length <= 1048576 := by have := HlenI.out; omega
          obtain ⟨_, _, _, _, _, _, _, x7⟩ := bVD.e8
          obtain ⟨_, _, _, _, _, _, _, x7a⟩ := bVA.e8
          clear hriD hSgD hND bSD hz3
          refine hPr ?_
          refine HP.both ?_ ?_
          . refine cSt fun K hK => ?_
            go_simp
            refine hK.out _ _ (by exact trivial) ?_
            clear hK K
            refine nZ ?_
            refine hPc fun K hK => ?_
            go_simp
            refine hK.out _ _ (by exact trivial) ?_
            clear hK K
            refine nZ ?_
            refine hPc fun K hK => ?_
            go_simp
            refine hK.out _ _ (by exact trivial) ?_
            clear hK K
            refine nZ ?_
            refine hPc fun K hK => ?_
            refine wp_addI _ _ rfl w2.heap.size W0.heap.size _ im (x : Int) rfl rfl HR3.out HB3.out hl9 hsz3 ?_
            intro A9 k9 w9 hr9 hgr
            have hN9 := hgr.nx w2 hNA nle
            have bV9 := hgr.box _ _ _ dC bVA
            have bS9 := hgr.box _ _ _ dC bSA
            have hSg9 : SgO w9 w2.heap.size Ag gs := ⟨hSgA.row.grew hgr dC, fun k hk => (hSgA.chs k hk).grew hgr dC⟩
            clear HR3 HB3 hgr bVA bSA hSgA hNA x7 x7a p0D bVD hsz3
            obtain ⟨_, _, _, _, _, _, _, x7⟩ := bV9.e8
            have xf7 := bV9.frozen 7
            refine hK.out _ _ (by exact trivial) ?_
            clear hK K
            try simp only [Act.put]
            refine hPr ?_
            refine HP.call ?_
            have HriZ := qh (hr9.farB (i := 7) bV9 dC (sC A9 (im.length + 1) k9))
            have HSgZ := qh (hSg9.farB (i := 7) bV9 dC dC (sC A9 (im.length + 1) k9))
            have HNZ := qh (hN9.setCell (p := ⟨gV, 7, none⟩) hgV2 (sC A9 (im.length + 1) k9))
            have HSZ := qh (bS9.far (p := ⟨gV, 7, none⟩) hgSV (sC A9 (im.length + 1) k9))
            have HVZ := qh (bV9.set 7 (sC A9 (im.length + 1) k9))
            clear hr9 hSg9 hN9 bS9
            refine cSt fun K hK => ?_
            go_simp
            refine hK.out _ _ (by exact trivial) ?_
            clear hK K
            refine nZ ?_
            refine HP.done ?_
            go_wp2
            go_roundw
            case rel => exact ⟨j + 1, im ++ [(x : Int)], _, oM, by go_num, HriZ.out, HI1.out, HSgZ.out, HNZ.out, HSZ.out, HVZ.out⟩
            case measure => simp [intOf]; omega
          . refine cSt fun K hK => ?_
            go_simp
            refine hK.out _ _ (by exact trivial) ?_
            clear hK K
            refine nZ ?_
            refine HP.both ?_ ?_
            . refine cSt fun K hK => ?_
              go_simp
              refine hK.out _ _ (by exact trivial) ?_
              clear hK K
              refine nZ ?_
              refine hPc fun K hK => ?_
              go_simp
              refine hK.out _ _ (by exact trivial) ?_
              clear hK K
              refine nZ ?_
              refine hPc fun K hK => ?_
              refine wp_addI _ _ rfl w2.heap.size W0.heap.size _ im (x : Int) rfl rfl HR3.out HB3.out hl9 hsz3 ?_
              intro A9 k9 w9 hr9 hgr
              have hN9 := hgr.nx w2 hNA nle
              have bV9 := hgr.box _ _ _ dC bVA
              have bS9 := hgr.box _ _ _ dC bSA
              have hSg9 : SgO w9 w2.heap.size Ag gs := ⟨hSgA.row.grew hgr dC, fun k hk => (hSgA.chs k hk).grew hgr dC⟩
              clear HR3 HB3 hgr bVA bSA hSgA hNA x7 x7a p0D bVD hsz3
              obtain ⟨_, _, _, _, _, _, _, x7⟩ := bV9.e8
              have xf7 := bV9.frozen 7
              refine hK.out _ _ (by exact trivial) ?_
              clear hK K
              try simp only [Act.put]
              refine hPr ?_
              refine HP.call ?_
              have HriZ := qh (hr9.farB (i := 7) bV9 dC (sC A9 (im.length + 1) k9))
              have HSgZ := qh (hSg9.farB (i := 7) bV9 dC dC (sC A9 (im.length + 1) k9))
              have HNZ := qh (hN9.setCell (p := ⟨gV, 7, none⟩) hgV2 (sC A9 (im.length + 1) k9))
              have HSZ := qh (bS9.far (p := ⟨gV, 7, none⟩) hgSV (sC A9 (im.length + 1) k9))
              have HVZ := qh (bV9.set 7 (sC A9 (im.length + 1) k9))
              clear hr9 hSg9 hN9 bS9
              refine cSt fun K hK => ?_
              go_simp
              refine hK.out _ _ (by exact trivial) ?_
              clear hK K
              refine nZ ?_
              refine HP.done ?_
              go_wp2
              go_roundw
              case rel => exact ⟨j + 1, im ++ [(x : Int)], _, oM, by go_num, HriZ.out, HI1.out, HSgZ.out, HNZ.out, HSZ.out, HVZ.out⟩
              case measure => simp [intOf]; omega
            . refine cSt fun K hK => ?_
              go_simp
              refine hK.out _ _ (by exact trivial) ?_
              clear hK K
              refine nZ ?_
              refine hPc fun K hK => ?_
              go_simp
              refine hK.out _ _ (by exact trivial) ?_
              clear hK K
              refine nZ ?_
              refine hPc fun K hK => ?_
              refine wp_addI _ _ rfl w2.heap.size W0.heap.size _ im (x : Int) rfl rfl HR3.out HB3.out hl9 hsz3 ?_
              intro A9 k9 w9 hr9 hgr
              have hN9 := hgr.nx w2 hNA nle
              have bV9 := hgr.box _ _ _ dC bVA
              have bS9 := hgr.box _ _ _ dC bSA
              have hSg9 : SgO w9 w2.heap.size Ag gs := ⟨hSgA.row.grew hgr dC, fun k hk => (hSgA.chs k hk).grew hgr dC⟩
              clear HR3 HB3 hgr bVA bSA hSgA hNA x7 x7a p0D bVD hsz3
              obtain ⟨_, _, _, _, _, _, _, x7⟩ := bV9.e8
              have xf7 := bV9.frozen 7
              refine hK.out _ _ (by exact trivial) ?_
              clear hK K
              try simp only [Act.put]
              refine hPr ?_
              refine HP.call ?_
              have HriZ := qh (hr9.farB (i := 7) bV9 dC (sC A9 (im.length + 1) k9))
              have HSgZ := qh (hSg9.farB (i := 7) bV9 dC dC (sC A9 (im.length + 1) k9))
              have HNZ := qh (hN9.setCell (p := ⟨gV, 7, none⟩) hgV2 (sC A9 (im.length + 1) k9))
              have HSZ := qh (bS9.far (p := ⟨gV, 7, none⟩) hgSV (sC A9 (im.length + 1) k9))
              have HVZ := qh (bV9.set 7 (sC A9 (im.length + 1) k9))
              clear hr9 hSg9 hN9 bS9
              refine cSt fun K hK => ?_
              go_simp
              refine hK.out _ _ (by exact trivial) ?_
              clear hK K
              refine nZ ?_
              refine HP.done ?_
              go_wp2
              go_roundw
              case rel => exact ⟨j + 1, im ++ [(x : Int)], _, oM, by go_num, HriZ.out, HI1.out, HSgZ.out, HNZ.out, HSZ.out, HVZ.out⟩
              case measure => simp [intOf]; omega
    obtain ⟨a, ha, ha1, ha2⟩ := Hta.out k hlt
    obtain ⟨bb, off, rfl, hbb, p0'⟩ := h3' k hlt
    rw [ha] at p0'
    have HG : Hid (ldG ss ws (xs.getD k 0) = rdG (readP ss ws a)) := qh (by rw [ha]; rfl)
    clear ha
    have p0 := (hN.cell (p := ⟨bb, off + k, none⟩) hbb).trans p0'
    have hbbr : bb < wr.heap.size := Nat.lt_of_lt_of_le hbb hN.size
    have eR := e2.nx hN
    cases hr : rdG (readP ss ws a) with
    | none =>
      have Hr := qh hr
      have HA : Hid (ldV ss ws = (zVl, 10)) := qh (HSg.out k hlt (by rw [HG.out, hr]))
      clear hr
      go_wp2_with fail
      clear y4
      refine merge2L (F := (fun gq Wq => Nx wr Wq)) (G := ?_) (fun key => ?_) ?_
      rotate_left
      . have hXs : Nx wr wr.drew := (Nx.refl wr).drew
        have zd : wr.heap.size <= wr.drew.heap.size := Nat.le_refl _
        refine wp_planA (.t 0 (.t 1 (.t 2 (.t 3 (.t 4 (.t 5 (.b 6 (.b 7 (.t 8 (.t 9 (.t 10 (.c 11 (.c 12 (.t 13 .e)))))) 11 (.c 7 (.t 8 (.t 9 (.t 10 (.c 12 (.t 13 .e))))))) 11 (.c 6 (.c 7 (.t 8 (.t 9 (.t 10 (.c 12 (.t 13 .e)))))))))))))) (fun w' => (CC w' w.heap.size 0 (sC A n c) /\ CC w' w.heap.size 1 (sC A2 n2 c2)) /\ CC w' gS 4 (sC (some ⟨bb, off, none⟩) m cx) /\ CC w' bb (off + k) (ii (a : Int))) (by exact ⟨⟨(eR.nx hXs).c0, (eR.nx hXs).c1⟩, (bS.nx hXs).d6.2.2.2.2.1, ((hXs).cell (p := ⟨bb, off + k, none⟩) hbbr).trans p0⟩) ?_
        simp only [psOf, List.getD_cons_zero, List.getD_cons_succ]
        generalize wr.drew = wv at *
        repeat' (first
         | (have hDn := hDone; have rc0 := bz.cell 0; have rf0 := bz.frozen 0; have rc1 := bz.cell 1; have rf1 := bz.frozen 1; have rc2 := bz.cell 2; have rf2 := bz.frozen 2; have rc3 := bz.cell 3; have rf3 := bz.frozen 3; have rlt := bz.lt; (with_reducible refine HP.call ?_); refine cSt fun K hK => ?_; go_simp; refine hK.out _ _ (by exact ⟨⟨(eR.nx (put4_nx (g := gz) hXs oM (ii 0) (ii 0) (ii 0) (nsl))).c0, (eR.nx (put4_nx (g := gz) hXs oM (ii 0) (ii 0) (ii 0) (nsl))).c1⟩, (bS.nx (put4_nx (g := gz) hXs oM (ii 0) (ii 0) (ii 0) (nsl))).d6.2.2.2.2.1, (((put4_nx (g := gz) hXs oM (ii 0) (ii 0) (ii 0) (nsl))).cell (p := ⟨bb, off + k, none⟩) hbbr).trans p0⟩) ?_; clear hK K; (try simp only [Act.put, qqA, qqB, qqC]); clear rc0 rf0 rc1 rf1 rc2 rf2 rc3 rf3; repeat (first | (refine HP.tk ?_; (try simp only [Act.put, qqA, qqB, qqC])) | (refine HP.sk ?_; (try simp only [Act.put, qqA, qqB, qqC]))); refine HP.done ?_; have hnf := put4_nx (g := gz) hXs oM (ii 0) (ii 0) (ii 0) (nsl); unfold put4 at hnf; generalize ((((wv.setCell ⟨gz, 0, none⟩ (ii 0)).setCell ⟨gz, 1, none⟩ (ii 0)).setCell ⟨gz, 2, none⟩ (ii 0)).setCell ⟨gz, 3, none⟩ (nsl)) = Wf at *; exact key gz Wf hnf)
         | (with_reducible refine HP.both ?_ ?_)
         | (with_reducible refine HP.three ?_ ?_ ?_)
         | (with_reducible refine HP.call ?_)
         | (refine HP.tk ?_; (try simp only [Act.put, qqA, qqB, qqC]))
         | (refine HP.sk ?_; (try simp only [Act.put, qqA, qqB, qqC]))
         | (refine cSt fun K hK => ?_; go_simp; first
           | ((with_reducible refine callAt 130 ?_); refine (l01Read_c A A2 n c n2 c2 B a ss ws _ (h.below ((hw2.trans hN).trans hXs) hB) (h2.below ((hw2.trans hN).trans hXs) hB) (ntr hB ((hw2.trans hN).trans hXs).size) oM hn hn2).mono ?_; rintro e wv ⟨rfl, hv1⟩; have zhv1 := hv1.size; replace hXs := hXs.trans hv1; (try replace bz := bz.nx hv1); (try replace hSl := hSl.nx hv1); go_wp2_with fail; refine hK.out _ _ (by exact ⟨⟨(eR.nx hXs).c0, (eR.nx hXs).c1⟩, (bS.nx hXs).d6.2.2.2.2.1, ((hXs).cell (p := ⟨bb, off + k, none⟩) hbbr).trans p0⟩) ?_; clear hK K; (try simp only [Act.put, qqA, qqB, qqC]))
           | ((with_reducible refine callAt 197 ?_); refine (l02Read_c (readP ss ws a) _ (by have := HDs.out a; omega)).mono ?_; rintro e wv ⟨hv2, hno, hyes⟩; obtain rfl := hno Hr.out; clear hno hyes; have hDone := True.intro; have zhv2 := hv2.size; replace hXs := hXs.trans hv2; (try replace bz := bz.nx hv2); skip; go_wp2_with fail; refine hK.out _ _ (by exact ⟨⟨(eR.nx hXs).c0, (eR.nx hXs).c1⟩, (bS.nx hXs).d6.2.2.2.2.1, ((hXs).cell (p := ⟨bb, off + k, none⟩) hbbr).trans p0⟩) ?_; clear hK K; (try simp only [Act.put, qqA, qqB, qqC]))
           | (have bz := Box.new wv 122 #[ii 0, ii 0, ii 0, nsl]; have hz := (Nx.refl wv).alloc (.cells #[ii 0, ii 0, ii 0, nsl] 122); have hgz0 := hXs.size; have zhz := hz.size; replace hXs := hXs.trans hz; (try replace bz := bz.nx hz); (try replace hSl := hSl.nx hz); refine hK.out _ _ (by exact ⟨⟨(eR.nx hXs).c0, (eR.nx hXs).c1⟩, (bS.nx hXs).d6.2.2.2.2.1, ((hXs).cell (p := ⟨bb, off + k, none⟩) hbbr).trans p0⟩) ?_; clear hK K; (try simp only [Act.put, qqA, qqB, qqC]); clear hz; change HP _ _ _ _ _ _ (wv.alloc (.cells #[ii 0, ii 0, ii 0, nsl] 122)); generalize wv.heap.size = gz at *; generalize wv.alloc (.cells #[ii 0, ii 0, ii 0, nsl] 122) = wv at *)))
      intro gq Wq hXq
      have rf := (r2.nx hN).nx hXq
      have hxf := (hw2.trans hN).trans hXq
      have rq := rf.row #[ii 0, ii 0, ii 0, ii 0, nsl, nsl, nsl, nsl]
      have hnf := hxf.setRow hgR #[ii 0, ii 0, ii 0, ii 0, nsl, nsl, nsl, nsl]
      go_wp2_with (refine wpList_store_row rfl _ _ _ rfl gR #[ii 0, ii 0, ii 0, ii 0, nsl, nsl, nsl, nsl] rfl rfl 49 #[ii 0, ii 0, ii 0, ii 0, nsl, nsl, nsl, nsl] rf (by kernel_rfl) rfl (by simp [Value.oneCell']) ?_)
      generalize Wq.setRow gR #[ii 0, ii 0, ii 0, ii 0, nsl, nsl, nsl, nsl] = Wf at *
      obtain ⟨g0, g1, g2, g3, g4, g5, g6, g7⟩ := rq.e8
      exact bodyPost_ret (v := .tuple #[.agg #[ii 0, ii 0, ii 0, ii 0, nsl, nsl, nsl, nsl], ii 10]) (by simp [results, results137, go_sem, g0, g1, g2, g3, g4, g5, g6, g7]) rfl ⟨zVl, w.heap.size, by rw [HA.out]; rfl, by rw [HA.out]; exact VlS.refl _, VlP.zero _ hnf.size, hnf⟩
    | some qq =>
      obtain ⟨q0, q1, q2, cs⟩ := qq
      have Hr := qh hr
      have HF : Hid (ldG ss ws (xs.getD k 0) = some (q0, q1, q2, cs)) := qh (by rw [HG.out, hr])
      clear hr
      go_wp2_with fail
      clear y4
      refine merge4L (F := (fun gq Aq cq Wq => Box Wq gq 122 #[ii q0, ii q1, ii q2, sC Aq cs.length cq] /\ Sl Wq w2.heap.size Aq 192 (cs.length * 3) (chAt cs) /\ wr.heap.size <= gq /\ Nx wr Wq /\ Dj (gs ++ [⟨(q0 : Nat), (q1 : Nat), (q2 : Nat), Aq, cq, cs⟩]))) (G := ?_) (fun key => ?_) ?_
      rotate_left
      . have hXs : Nx wr wr.drew := (Nx.refl wr).drew
        have zd : wr.heap.size <= wr.drew.heap.size := Nat.le_refl _
        refine wp_planA (.t 0 (.t 1 (.t 2 (.t 3 (.t 4 (.t 5 (.b 6 (.b 7 (.t 8 (.t 9 (.t 10 (.c 11 (.c 12 (.t 13 .e)))))) 11 (.c 7 (.t 8 (.t 9 (.t 10 (.c 12 (.t 13 .e))))))) 11 (.c 6 (.c 7 (.t 8 (.t 9 (.t 10 (.c 12 (.t 13 .e)))))))))))))) (fun w' => (CC w' w.heap.size 0 (sC A n c) /\ CC w' w.heap.size 1 (sC A2 n2 c2)) /\ CC w' gS 4 (sC (some ⟨bb, off, none⟩) m cx) /\ CC w' bb (off + k) (ii (a : Int))) (by exact ⟨⟨(eR.nx hXs).c0, (eR.nx hXs).c1⟩, (bS.nx hXs).d6.2.2.2.2.1, ((hXs).cell (p := ⟨bb, off + k, none⟩) hbbr).trans p0⟩) ?_
        simp only [psOf, List.getD_cons_zero, List.getD_cons_succ]
        generalize wr.drew = wv at *
        repeat' (first
         | (have hDn := hDone; have rc0 := bz.cell 0; have rf0 := bz.frozen 0; have rc1 := bz.cell 1; have rf1 := bz.frozen 1; have rc2 := bz.cell 2; have rf2 := bz.frozen 2; have rc3 := bz.cell 3; have rf3 := bz.frozen 3; have rlt := bz.lt; (with_reducible refine HP.call ?_); refine cSt fun K hK => ?_; go_simp; refine hK.out _ _ (by exact ⟨⟨(eR.nx (put4_nx (g := gz) hXs oM (ii q0) (ii q1) (ii q2) (sC Aq cs.length cq))).c0, (eR.nx (put4_nx (g := gz) hXs oM (ii q0) (ii q1) (ii q2) (sC Aq cs.length cq))).c1⟩, (bS.nx (put4_nx (g := gz) hXs oM (ii q0) (ii q1) (ii q2) (sC Aq cs.length cq))).d6.2.2.2.2.1, (((put4_nx (g := gz) hXs oM (ii q0) (ii q1) (ii q2) (sC Aq cs.length cq))).cell (p := ⟨bb, off + k, none⟩) hbbr).trans p0⟩) ?_; clear hK K; (try simp only [Act.put, qqA, qqB, qqC]); clear rc0 rf0 rc1 rf1 rc2 rf2 rc3 rf3; repeat (first | (refine HP.tk ?_; (try simp only [Act.put, qqA, qqB, qqC])) | (refine HP.sk ?_; (try simp only [Act.put, qqA, qqB, qqC]))); refine HP.done ?_; have rq := put4_box bz (ii q0) (ii q1) (ii q2) (sC Aq cs.length cq); have hnf := put4_nx (g := gz) hXs oM (ii q0) (ii q1) (ii q2) (sC Aq cs.length cq); have hSf : Sl (put4 wv gz (ii q0) (ii q1) (ii q2) (sC Aq cs.length cq)) w2.heap.size Aq 192 (cs.length * 3) (chAt cs) := slput4q hSl bz dC (ii q0) (ii q1) (ii q2) (sC Aq cs.length cq); unfold put4 at rq hnf hSf; generalize ((((wv.setCell ⟨gz, 0, none⟩ (ii q0)).setCell ⟨gz, 1, none⟩ (ii q1)).setCell ⟨gz, 2, none⟩ (ii q2)).setCell ⟨gz, 3, none⟩ (sC Aq cs.length cq)) = Wf at *; exact key gz Aq cq Wf ⟨rq, hSf, oM, hnf, HD1.out⟩)
         | (with_reducible refine HP.both ?_ ?_)
         | (with_reducible refine HP.three ?_ ?_ ?_)
         | (with_reducible refine HP.call ?_)
         | (refine HP.tk ?_; (try simp only [Act.put, qqA, qqB, qqC]))
         | (refine HP.sk ?_; (try simp only [Act.put, qqA, qqB, qqC]))
         | (refine cSt fun K hK => ?_; go_simp; first
           | ((with_reducible refine callAt 130 ?_); refine (l01Read_c A A2 n c n2 c2 B a ss ws _ (h.below ((hw2.trans hN).trans hXs) hB) (h2.below ((hw2.trans hN).trans hXs) hB) (ntr hB ((hw2.trans hN).trans hXs).size) oM hn hn2).mono ?_; rintro e wv ⟨rfl, hv1⟩; have zhv1 := hv1.size; replace hXs := hXs.trans hv1; (try replace bz := bz.nx hv1); (try replace hSl := hSl.nx hv1); go_wp2_with fail; refine hK.out _ _ (by exact ⟨⟨(eR.nx hXs).c0, (eR.nx hXs).c1⟩, (bS.nx hXs).d6.2.2.2.2.1, ((hXs).cell (p := ⟨bb, off + k, none⟩) hbbr).trans p0⟩) ?_; clear hK K; (try simp only [Act.put, qqA, qqB, qqC]))
           | ((with_reducible refine callAt 197 ?_); refine (l02Read_c (readP ss ws a) _ (by have := HDs.out a; omega)).mono ?_; rintro e wv ⟨hv2, hno, hyes⟩; obtain ⟨Aq, cq, rfl, hSl⟩ := hyes _ Hr.out; simp only at hSl; have HD1 := qh (HDj.out.snoc (g := ⟨(q0 : Nat), (q1 : Nat), (q2 : Nat), Aq, cq, cs⟩) (hcho.nx hXs) hSl); replace hSl := hSl.low (lo' := w2.heap.size) (by have := hXs.size; have := hN.size; omega); clear hno hyes; have hDone := True.intro; have zhv2 := hv2.size; replace hXs := hXs.trans hv2; (try replace bz := bz.nx hv2); skip; go_wp2_with fail; refine hK.out _ _ (by exact ⟨⟨(eR.nx hXs).c0, (eR.nx hXs).c1⟩, (bS.nx hXs).d6.2.2.2.2.1, ((hXs).cell (p := ⟨bb, off + k, none⟩) hbbr).trans p0⟩) ?_; clear hK K; (try simp only [Act.put, qqA, qqB, qqC]))
           | (have bz := Box.new wv 122 #[ii 0, ii 0, ii 0, nsl]; have hz := (Nx.refl wv).alloc (.cells #[ii 0, ii 0, ii 0, nsl] 122); have hgz0 := hXs.size; have zhz := hz.size; replace hXs := hXs.trans hz; (try replace bz := bz.nx hz); (try replace hSl := hSl.nx hz); refine hK.out _ _ (by exact ⟨⟨(eR.nx hXs).c0, (eR.nx hXs).c1⟩, (bS.nx hXs).d6.2.2.2.2.1, ((hXs).cell (p := ⟨bb, off + k, none⟩) hbbr).trans p0⟩) ?_; clear hK K; (try simp only [Act.put, qqA, qqB, qqC]); clear hz; change HP _ _ _ _ _ _ (wv.alloc (.cells #[ii 0, ii 0, ii 0, nsl] 122)); generalize wv.heap.size = gz at *; generalize wv.alloc (.cells #[ii 0, ii 0, ii 0, nsl] 122) = wv at *)))
      intro gq Aq cq Wq ⟨bQ, hSl, hgq, hXq, hdq⟩
      have HD1 := qh hdq
      have HG1 := qh (HSn.out k gs _ HGs.out hlt HF.out Aq cq)
      have hrow2 := hrow.nx hXq
      have hcho2 := hcho.nx hXq
      have bV2 := bV.nx hXq
      have bS2 := bS.nx hXq
      have bI2 := bI.nx hXq
      have hN2 := hN.trans hXq
      clear hdq hrow hcho bV bS bI hXq eR p0 p0' hN
      have hz3 := (Nx.refl Wq).alloc (.cells #[ii q0, ii q1, ii q2, sC Aq cs.length cq] 122)
      have hrow3 := hrow2.nx hz3
      have hcho3 := hcho2.nx hz3
      have bV3 := bV2.nx hz3
      have bS3 := bS2.nx hz3
      have bI3 := bI2.nx hz3
      have hN3 := hN2.trans hz3
      have hSl3 := hSl.nx hz3
      have HR3 := qh hrow3
      have HB3 := qh (Box.new Wq 122 #[ii q0, ii q1, ii q2, sC Aq cs.length cq])
      have hl9 : gs.length <= 1048576 := by have := Hlen.out; omega
      have hsz3 := hN3.size
      obtain ⟨l0, l1, l2, l3⟩ := bQ.d4
      obtain ⟨_, _, _, _, _, _, x6, _⟩ := bV2.e8
      clear hrow2 hcho2 bS2 bI2 hN2 hrow3 hSl
      go_wp2_with (at_builtin; refine wpList_addS rfl _ _ rfl w2.heap.size Wq.heap.size _ gs ⟨(q0 : Nat), (q1 : Nat), (q2 : Nat), Aq, cq, cs⟩ rfl rfl HR3.out HB3.out hl9 hsz3 ?_)
      intro A9 k9 w9 hrow9 hgr
      have hN9 := hgr.nx w2 hN3 nle
      have hcho9 := (hgr.cho hcho3).snoc (g := ⟨(q0 : Nat), (q1 : Nat), (q2 : Nat), Aq, cq, cs⟩) (hgr.sl hSl3 dC)
      have bV9 := hgr.box _ _ _ dC bV3
      have bS9 := hgr.box _ _ _ dC bS3
      have bI9 := hgr.box _ _ _ dC bI3
      clear hcho3 hSl3 bV3 bS3 bI3 hgr HR3 HB3 l0 l1 l2 l3 x6 bQ bV2 hN3 hsz3 hz3
      obtain ⟨_, _, _, _, _, _, x6, _⟩ := bV9.e8
      have xf6 := bV9.frozen 6
      have HrowZ := qh (hrow9.farB (i := 6) bV9 dC (sC A9 (gs.length + 1) k9))
      have HchoZ := qh (hcho9.farB (i := 6) bV9 dC (sC A9 (gs.length + 1) k9))
      have HNZ := qh (hN9.setCell (p := ⟨gV, 6, none⟩) hgV2 (sC A9 (gs.length + 1) k9))
      have HSZ := qh (bS9.far (p := ⟨gV, 6, none⟩) hgSV (sC A9 (gs.length + 1) k9))
      have HIZ := qh (bI9.far (p := ⟨gV, 6, none⟩) (Box.ne_ty bI9 bV9 dC) (sC A9 (gs.length + 1) k9))
      have HVZ := qh (bV9.set 6 (sC A9 (gs.length + 1) k9))
      clear hrow9 hcho9 hN9 bS9 bI9
      go_wp2
      go_roundw
      case rel => exact ⟨k + 1, gs ++ [⟨(q0 : Nat), (q1 : Nat), (q2 : Nat), Aq, cq, cs⟩], _, oM, by go_num, HrowZ.out, HchoZ.out, HD1.out, HG1.out, HNZ.out, HSZ.out, HVZ.out, HIZ.out⟩
      case measure => simp [intOf]; omega
def RetCt (w : World) (ys : List Int) (e : Ending) (w' : World) : Prop := ∃ (A : Option Addr) (c : Nat), e = .returned (sC A 8 c) /\ Ins w' w'.heap.size A ys /\ Nx w w'
theorem l05Content_c (V : Vl) (x : Int) (B : Nat) (w : World) (h : Vlt w B V) (hB : B <= w.heap.size) (hn : VlN V 1048576) (hy : VltY V.g V.b V.p V.t V.xs V.ms V.gs V.im) (hr : isRet V.b V.gs x = true) :
 Calls Tryz.prog 161 #[V.v, ii x] w (RetCt w (cntV V.b V.p V.t V.gs V.im x)) := by
 have hAN := l05Anchor_c V B
 obtain ⟨g, b, p, t, A, c, xs, A2, c2, ms, A3, c3, gs, A4, c4, im⟩ := V
 obtain ⟨h, h2, h3, h4⟩ := h
 obtain ⟨hn, hn2, hn3, hn4, hn5⟩ := hn
 simp only [Vl.v, Vl.cells] at *
 have HLd := qh (chainB_lead hy.chain)
 have hah := hy.ahd
 have HAn := qh (fun (w' : World) (hx : Nx w w') => hAN w' ⟨h.below hx hB, h2.below hx hB, h3.below hx hB, h4.below hx hB⟩ (ntr hB hx.size) ⟨hn, hn2, hn3, hn4, hn5⟩ HLd.out hy.l8 hah.1 hah.2)
 have HSL := qh (stp_le (t := t) im HLd.out hy.places)
 have HSg := qh (fun (k : Nat) (hk : k < gs.length) (w' : World) (hx : Nx w w') => (h3.below hx hB).row.at4 hk)
 have HCh := qh (fun (k : Nat) (hk : k < gs.length) (w' : World) (hx : Nx w w') => (h3.chs k hk).below hx hB)
 have HAx := qh (ahd_at hr)
 have Hct : Hid (cntV b p t gs im x = bkK (fwK (stp b p t gs im).1 gs (stp b p t gs im).2 (ahd b gs x - (stp b p t gs im).2)) gs (stp b p t gs im).2 ((stp b p t gs im).2 - ahd b gs x)) := qh (by
  unfold cntV
  by_cases hle : (stp b p t gs im).2 <= ahd b gs x
  . rw [if_pos hle, show (stp b p t gs im).2 - ahd b gs x = 0 by omega]; rfl
  . rw [if_neg hle, show ahd b gs x - (stp b p t gs im).2 = 0 by omega]; rfl)
 have H8 := qh hy.l8
 have hn9 := hy.n4
 obtain ⟨n, Hn⟩ := nM (gs.length)
 rw [Hn.out] at HSg HCh HAx hn9
 rw [Hn.out, H8.out] at HAn
 rw [Hct.out]
 obtain ⟨c0, Hc0⟩ := nM ((stp b p t gs im).1)
 obtain ⟨a, Hat⟩ := nM ((stp b p t gs im).2)
 obtain ⟨e9, He⟩ := nM (ahd b gs x)
 have HL0 : Hid (c0.length = 8) := qh (by rw [<- Hc0.out, stp_len]; exact H8.out)
 rw [Hc0.out, Hat.out] at HAn
 rw [He.out] at HAx
 rw [Hc0.out, Hat.out, He.out, Hn.out, H8.out]
 have hat : a <= n := by have := HSL.out.1; rw [Hat.out, Hn.out] at this; exact this
 have hen : e9 <= n := HAx.out.1
 obtain ⟨N, HNv⟩ := nM (atK b gs a)
 rw [HNv.out] at HAn
 have HPos := qh (fun (j k : Nat) (hj : j < k) (hk : k <= n) => HLd.out.lt (j := j) k hj (by rw [Hn.out]; exact hk))
 have HPle := qh (fun (j k : Nat) (hj : j <= k) (hk : k <= n) => HLd.out.le (j := j) (k := k) hj (by rw [Hn.out]; exact hk))
 have HFr := qh (fun k (hk : k < n) => HLd.out.from_ k (by rw [Hn.out]; exact hk))
 have HOKs := qh (fun k (hk : k < n) => HLd.out.ok k (by rw [Hn.out]; exact hk))
 have HXv := qh HAx.out.2
 have b0 := Box.new w 49 #[ii g, ii b, ii p, ii t, sC A xs.length c, sC A2 ms.length c2, sC A3 n c3, sC A4 8 c4]
 have hx0 := (Nx.refl w).alloc (.cells #[ii g, ii b, ii p, ii t, sC A xs.length c, sC A2 ms.length c2, sC A3 n c3, sC A4 8 c4] 49)
 clear hAN h h2 h3 h4 hn hn2 hn3 hn4 hn5 hy hr hah
 go_enter func161, ntmps161
 go_wp2_with fail
 generalize w.alloc (.cells #[ii g, ii b, ii p, ii t, sC A xs.length c, sC A2 ms.length c2, sC A3 n c3, sC A4 8 c4] 49) = W at *
 refine (HAn.out _ hx0).mono ?_
 rintro e w1 ⟨Ac, cc, rfl, hI, hk⟩
 have b1 := b0.nx hk
 have hx := hx0.trans hk
 clear b0 hk hx0
 go_wp2_with fail
 go_loopw [5, 7] (fun v i wr => ∃ k : Nat, k <= n /\ i = ii k /\ (∃ Ac cc, v = sC Ac 8 cc /\ Ins wr wr.heap.size Ac (fwK c0 gs a (min k e9 - a))) /\ Nx w wr /\ Box wr w.heap.size 49 #[ii g, ii b, ii p, ii t, sC A xs.length c, sC A2 ms.length c2, sC A3 n c3, sC A4 8 c4]) (fun _ i _ => n - (intOf i).toNat)
 case atStart => exact ⟨0, Nat.zero_le _, rfl, ⟨_, _, rfl, by rw [show min 0 e9 - a = 0 by omega]; exact hI⟩, hx, b1⟩
 case round =>
 obtain ⟨k, hk, rfl, ⟨Ac, cc, rfl, hI⟩, hnx, hb⟩ := hrel
 clear hx b1
 obtain ⟨y0, y1, y2, y3, y4, y5, y6, y7⟩ := hb.e8
 by_cases hlt : k < n
 . obtain ⟨bb, off, rfl, hbb, p0, p1, p2, p3⟩ := HSg.out k hlt _ hnx
   have hbw : bb < wr.heap.size := Nat.lt_of_lt_of_le hbb (ntr hB hnx.size)
   have hch := HCh.out k hlt wr hnx
   have hF := HFr.out k hlt
   have hT : (gs.getD k sgZ).t = atK b gs (k + 1) := rfl
   have HOKc := qh (HOKs.out k hlt)
   have hkc : (k : Int) < (n : Int) := oM
   have hk0 : (0 : Int) <= (k : Int) := oM
   by_cases hka : a <= k
   case neg =>
    obtain ⟨s, Hs⟩ := nM (gs.getD k sgZ)
    rw [Hs.out] at p0 p1 p2 p3 hF
    obtain ⟨f, t9, m, Am, cm, cs⟩ := s
    simp only at p0 p1 p2 p3 hF
    have hdn : decide (N <= f) = false := decide_eq_false (by have := HPos.out k a oM hat; rw [HNv.out] at this; omega)
    have HKA := qh hka
    have HI := qh (show Ins wr wr.heap.size Ac (fwK c0 gs a (min (k + 1) e9 - a)) by rw [show min (k + 1) e9 - a = min k e9 - a by omega]; exact hI)
    clear hka hF hT hI
    go_wp2
    go_roundw
    case rel => exact ⟨k + 1, oM, by go_num, ⟨_, _, rfl, HI.out⟩, hnx, hb⟩
    case measure => (simp [intOf] <;> omega)
   by_cases hke : k + 1 <= e9
   case neg =>
    have hTx := HPos.out e9 (k + 1) oM oM
    rw [HXv.out, <- hT] at hTx
    obtain ⟨s, Hs⟩ := nM (gs.getD k sgZ)
    rw [Hs.out] at p0 p1 p2 p3 hF hTx
    obtain ⟨f, t9, m, Am, cm, cs⟩ := s
    simp only at p0 p1 p2 p3 hF hTx
    have hdn : decide (N <= f) = true := decide_eq_true (by have := HPle.out a k hka oM; rw [HNv.out] at this; omega)
    have hdt : decide (t9 <= x) = false := decide_eq_false oM
    have HI := qh (show Ins wr wr.heap.size Ac (fwK c0 gs a (min (k + 1) e9 - a)) by rw [show min (k + 1) e9 - a = min k e9 - a by omega]; exact hI)
    clear hka hF hT hI hTx hke
    go_wp2
    go_roundw
    case rel => exact ⟨k + 1, oM, by go_num, ⟨_, _, rfl, HI.out⟩, hnx, hb⟩
    case measure => (simp [intOf] <;> omega)
   have hTx := HPle.out (k + 1) e9 hke hen
   rw [HXv.out, <- hT] at hTx
   have Hmk : Hid (min k e9 - a = k - a) := qh oM
   have Hmk1 : Hid (min (k + 1) e9 - a = (k - a) + 1) := qh oM
   obtain ⟨j, Hj⟩ := nM (k - a)
   have Hkj : Hid (a + j = k) := qh (by have := Hj.out; omega)
   rw [Hj.out] at Hmk Hmk1
   rw [Hmk.out] at hI
   have HLj : Hid ((fwK c0 gs a j).length = 8) := qh (by rw [fwK_len]; exact HL0.out)
   have Hsuc : Hid (fwK c0 gs a (j + 1) = app pN (fwK c0 gs a j) (gs.getD k sgZ).cs) := qh (by rw [<- Hkj.out]; rfl)
   obtain ⟨cj, Hcj⟩ := nM (fwK c0 gs a j)
   rw [Hcj.out] at hI Hsuc HLj
   obtain ⟨s, Hs⟩ := nM (gs.getD k sgZ)
   rw [Hs.out] at p0 p1 p2 p3 hF hTx Hsuc hch HOKc
   obtain ⟨f, t9, m, Am, cm, cs⟩ := s
   simp only at p0 p1 p2 p3 hF hTx hch HOKc Hsuc
   have hdn : decide (N <= f) = true := decide_eq_true (by have := HPle.out a k hka oM; rw [HNv.out] at this; omega)
   have hdt : decide (t9 <= x) = true := decide_eq_true hTx
   have hchw := hch.more (ntr hB hnx.size)
   clear hF hT hTx hka hke hch
   go_wp2_with fail
   have hcl := l03Forward_c Ac cc wr.heap.size cj f t9 m Am cm cs wr hI hchw nle HOKc.out HLj.out
   rw [HLj.out] at hcl
   refine hcl.mono ?_
   rintro e w10 ⟨A9, c9, rfl, hS, hk10⟩
   have hb10 := hb.nx hk10
   have hnx10 := hnx.trans hk10
   have hIn := hS.row
   have HLn : Hid ((app pN cj cs).length = 8) := qh (by rw [app_len]; exact HLj.out)
   rw [HLn.out]
   have HIn := qh (show Ins w10 w10.heap.size A9 (fwK c0 gs a (min (k + 1) e9 - a)) by rw [Hmk1.out, Hsuc.out]; exact hIn)
   clear y0 y1 y2 y3 y4 y5 y6 y7 hcl hS hIn p0 p1 p2 p3 hI hb
   go_wp2
   go_roundw
   case rel => exact ⟨k + 1, oM, by go_num, ⟨_, _, rfl, HIn.out⟩, hnx10, hb10⟩
   case measure => (simp [intOf] <;> omega)
 obtain rfl : n = k := oM
 rw [show min n e9 - a = e9 - a by omega] at hI
 obtain ⟨d0, Hd0⟩ := nM (fwK c0 gs a (e9 - a))
 have HLd0 : Hid (d0.length = 8) := qh (by rw [<- Hd0.out, fwK_len]; exact HL0.out)
 rw [Hd0.out] at hI
 have hx := hnx
 have b7 := hb
 have hwn : IntKind.i64.wrap ((n : Int) - 1) = (n : Int) - 1 := IntWalk.i64_in _ oM
 clear hnx hb hlt hk
 go_wp2_with fail
 clear y0 y1 y2 y3 y4 y5 y6 y7
 go_loopw [5, 8] (fun v i wr => ∃ k : Nat, k <= n /\ i = ii ((k : Int) - 1) /\ (∃ Ac cc, v = sC Ac 8 cc /\ Ins wr wr.heap.size Ac (bkK d0 gs a (a - max k e9))) /\ Nx w wr /\ Box wr w.heap.size 49 #[ii g, ii b, ii p, ii t, sC A xs.length c, sC A2 ms.length c2, sC A3 n c3, sC A4 8 c4]) (fun _ i _ => (intOf i + 1).toNat)
 case atStart => exact ⟨n, Nat.le_refl _, rfl, ⟨_, _, rfl, by rw [show a - max n e9 = 0 by omega]; exact hI⟩, hx, b7⟩
 case round =>
 obtain ⟨k, hk, rfl, ⟨Ac, cc, rfl, hI⟩, hnx, hb⟩ := hrel
 clear hx b7 hwn
 obtain ⟨y0, y1, y2, y3, y4, y5, y6, y7⟩ := hb.e8
 by_cases hlt : k = 0
 case pos =>
  have HI := qh (show Ins wr wr.heap.size Ac (bkK (fwK c0 gs a (e9 - a)) gs a (a - e9)) by rw [Hd0.out, show a - e9 = a - max k e9 by omega]; exact hI)
  rw [show ((k : Int) - 1) = -1 by omega]
  clear hlt hI
  go_wp2
  go_ret
  exact ⟨Ac, cc, rfl, HI.out, hnx⟩
 obtain ⟨i, rfl⟩ : ∃ i, k = i + 1 := ⟨k - 1, oM⟩
 rw [show ((i + 1 : Nat) : Int) - 1 = (i : Int) by omega]
 have hin : i < n := oM
 obtain ⟨bb, off, rfl, hbb, p0, p1, p2, p3⟩ := HSg.out i hin _ hnx
 have hbw : bb < wr.heap.size := Nat.lt_of_lt_of_le hbb (ntr hB hnx.size)
 have hch := HCh.out i hin wr hnx
 have hF := HFr.out i hin
 have hT : (gs.getD i sgZ).t = atK b gs (i + 1) := rfl
 have HOKc := qh (HOKs.out i hin)
 have hkc : (i : Int) < (n : Int) := oM
 have hk0 : (0 : Int) <= (i : Int) := oM
 have hwi : IntKind.i64.wrap ((i : Int) - 1) = (i : Int) - 1 := IntWalk.i64_in _ oM
 by_cases hka : a <= i
 case pos =>
  have hTx := HPos.out a (i + 1) oM hin
  rw [HNv.out, <- hT] at hTx
  obtain ⟨s, Hs⟩ := nM (gs.getD i sgZ)
  rw [Hs.out] at p0 p1 p2 p3 hTx
  obtain ⟨f, t9, m, Am, cm, cs⟩ := s
  simp only at p0 p1 p2 p3 hTx
  have hdn : decide (t9 <= N) = false := decide_eq_false oM
  have HI := qh (show Ins wr wr.heap.size Ac (bkK d0 gs a (a - max i e9)) by rw [show a - max i e9 = a - max (i + 1) e9 by omega]; exact hI)
  clear hka hF hT hI hlt hTx
  go_wp2
  go_roundw
  case rel => exact ⟨i, oM, rfl, ⟨_, _, rfl, HI.out⟩, hnx, hb⟩
  case measure => (simp [intOf] <;> omega)
 by_cases hke : e9 <= i
 case neg =>
  have hTx := HPle.out (i + 1) a oM hat
  rw [HNv.out, <- hT] at hTx
  have hFx := HPos.out i e9 oM hen
  rw [HXv.out, <- hF] at hFx
  obtain ⟨s, Hs⟩ := nM (gs.getD i sgZ)
  rw [Hs.out] at p0 p1 p2 p3 hTx hFx
  obtain ⟨f, t9, m, Am, cm, cs⟩ := s
  simp only at p0 p1 p2 p3 hTx hFx
  have hdn : decide (t9 <= N) = true := decide_eq_true hTx
  have hdf : decide (x <= f) = false := decide_eq_false oM
  have HI := qh (show Ins wr wr.heap.size Ac (bkK d0 gs a (a - max i e9)) by rw [show a - max i e9 = a - max (i + 1) e9 by omega]; exact hI)
  clear hka hF hT hI hlt hTx hFx hke
  go_wp2
  go_roundw
  case rel => exact ⟨i, oM, rfl, ⟨_, _, rfl, HI.out⟩, hnx, hb⟩
  case measure => (simp [intOf] <;> omega)
 have hTx := HPle.out (i + 1) a oM hat
 rw [HNv.out, <- hT] at hTx
 have hFx := HPle.out e9 i hke oM
 rw [HXv.out, <- hF] at hFx
 obtain ⟨j, Hj⟩ := nM (a - (i + 1))
 have Hkj : Hid (i = a - 1 - j) := qh (by have := Hj.out; omega)
 have Hm1 : Hid (a - max i e9 = j + 1) := qh (by have := Hj.out; omega)
 rw [show a - max (i + 1) e9 = j by have := Hj.out; omega] at hI
 have HLj : Hid ((bkK d0 gs a j).length = 8) := qh (by rw [bkK_len]; exact HLd0.out)
 have Hsuc : Hid (bkK d0 gs a (j + 1) = app pO (bkK d0 gs a j) (gs.getD i sgZ).cs) := qh (by rw [Hkj.out]; rfl)
 obtain ⟨cj, Hcj⟩ := nM (bkK d0 gs a j)
 rw [Hcj.out] at hI Hsuc HLj
 obtain ⟨s, Hs⟩ := nM (gs.getD i sgZ)
 rw [Hs.out] at p0 p1 p2 p3 hTx hFx Hsuc hch HOKc
 obtain ⟨f, t9, m, Am, cm, cs⟩ := s
 simp only at p0 p1 p2 p3 hTx hFx hch HOKc Hsuc
 have hdn : decide (t9 <= N) = true := decide_eq_true hTx
 have hdf : decide (x <= f) = true := decide_eq_true hFx
 have hchw := hch.more (ntr hB hnx.size)
 have HKA := qh hka
 clear hF hT hTx hFx hka hke hch hlt
 go_wp2_with fail
 have hcl := l03Backward_c Ac cc wr.heap.size cj f t9 m Am cm cs wr hI hchw nle HOKc.out HLj.out
 rw [HLj.out] at hcl
 refine hcl.mono ?_
 rintro e w10 ⟨A9, c9, rfl, hS, hk10⟩
 have hb10 := hb.nx hk10
 have hnx10 := hnx.trans hk10
 have hIn := hS.row
 have HLn : Hid ((app pO cj cs).length = 8) := qh (by rw [app_len]; exact HLj.out)
 rw [HLn.out]
 have HIn := qh (show Ins w10 w10.heap.size A9 (bkK d0 gs a (a - max i e9)) by rw [Hm1.out, Hsuc.out]; exact hIn)
 clear y0 y1 y2 y3 y4 y5 y6 y7 hcl hS hIn p0 p1 p2 p3 hI hb
 go_wp2
 go_roundw
 case rel => exact ⟨i, oM, rfl, ⟨_, _, rfl, HIn.out⟩, hnx10, hb10⟩
 case measure => (simp [intOf] <;> omega)
theorem run_copy_ints (w : World) (ty : TypeId) (g n : Nat) (A : Option Addr) (c B : Nat) (xs : List Int) (cur : Array Value) (hl : xs.length = n) (hp : 0 < n) (hg : w.heap[g]? = some (.cells cur 3 (0, 0))) (hsz : cur.size = n) (hrow : Row w B A n (inAt xs)) :
 ∃ w' cs, (Builtin.copy_ #[23, 23] ty #[sC (some ⟨g, 0, none⟩) n n, sC A n c]).run Tryz.prog w = .ok (goInt n) w' /\ Box w' g 3 cs /\ cs.size = n /\ (∀ i, i < n -> cs[i]? = some (inAt xs i)) /\
   (∀ a, Nx a w -> a.heap.size <= g -> Nx a w') /\ w'.heap.size = w.heap.size /\ (∀ k, k ≠ g -> w'.heap[k]? = w.heap[k]?) := by
 obtain ⟨i, hi, hz0, hz1, hz2⟩ := info_parts info_int
 have hu := underlying23
 have hmin : Nat.min n n = n := Nat.min_self n
 obtain ⟨b, off, rfl, hb, hc⟩ := hrow hp
 have hll := run_loadCells_list (P := Tryz.prog) w ⟨b, off, none⟩ ((List.range n).map (inAt xs)) (fun j u h => by
  obtain ⟨hj, rfl⟩ := cells_list _ _ _ _ h
  rw [addr_add']; exact hc j hj)
 have hst := run_storeCells_at Tryz.prog g 0 3 ((List.range n).map (inAt xs)) 0 cur w hg sM (fun v hv => by
  simp only [List.mem_map, List.mem_range] at hv
  obtain ⟨k, _, rfl⟩ := hv
  rfl)
 simp only [List.length_map, List.length_range] at hll hst
 refine ⟨_, _, by
  simp only [Builtin.copy_]
  simp [run_underlying hu, Builtin.lenOf, Builtin.firstCells, sizeOf, typeInfo, hi, hmin, hz1, hll]
  rw [hst]; rfl, setRow_heap w g cur _ 3 _ hg, ?_, fun k hk => ?_, ?_, ?_, ?_⟩
 . simp; omega
 . simp [hk, List.getElem?_append]
 . intro a hna hag
   exact ⟨hna.os, hna.tape, hna.output, by have := hna.size; simpa [World.setRow] using this, fun k hk => (setRow_other w g k _ oM).trans (hna.block k hk)⟩
 . simp [World.setRow]
 . exact fun k hk => setRow_other w g k _ hk
theorem RowI.of_box {w : World} {B g n : Nat} {xs : List Int} {cs : Array Value} (hB : B <= g) (hb : Box w g 3 cs) (hs : cs.size = n) (hl : xs.length = n) (hn : n <= 1048576) (h : ∀ i, i < n -> cs[i]? = some (inAt xs i)) : RowI w B (sC (some ⟨g, 0, none⟩) n n) xs := by
 subst hl
 refine ⟨by simp [iV], .inr ⟨g, xs.length, cs, rfl, hB, hb, Nat.le_refl _, by unfold maxLen; omega, oM, ?_⟩⟩
 refine List.ext_getElem? fun i => ?_
 by_cases hi : i < xs.length
 . rw [List.getElem?_take_of_lt oM]
   have := h i hi
   rw [Array.getElem?_toList, this]
   unfold iV inAt
   rw [List.getElem?_map, List.getElem?_eq_getElem hi, gdE, List.getElem?_eq_getElem hi]; rfl
 . rw [List.getElem?_eq_none sM, List.getElem?_eq_none (by unfold iV; simp; omega)]
def RetRow (w : World) (xs : List Int) (e : Ending) (w' : World) : Prop := ∃ (A : Option Addr) (c : Nat), e = .returned (sC A xs.length c) /\ RowI w' w.heap.size (sC A xs.length c) xs /\ Nx w w'
theorem copyListR_c (A : Option Addr) (c B : Nat) (xs : List Int) (w : World) (h : Ins w B A xs) (hB : B <= w.heap.size) (hn : xs.length <= 1048576) :
 Calls Tryz.prog 116 #[sC A xs.length c] w (RetRow w xs) := by
 rcases Nat.eq_zero_or_pos xs.length with hz | hp
 . have h0 : ((xs.length : Int) == 0) = true := beq_iff_eq.2 oM
   have hnil : xs = [] := List.eq_nil_of_length_eq_zero hz
   subst hnil
   go_enter func116, ntmps116
   go_wp2
   go_ret
   exact ⟨none, 0, rfl, RowI.nil _ _, Nx.refl _⟩
 have h0 : ((xs.length : Int) == 0) = false := beq_eq_false_iff_ne.2 oM
 obtain ⟨i0, hi0, hz0, hz1, hz2⟩ := info_parts info_int
 have hmk := fun W => run_make_rowN (P := Tryz.prog) 23 3 i0 _ underlying23 hi0 hz0 .i64 .i64 xs.length xs.length nle (by rw [hz2]; omega) oM W
 rw [hz1] at hmk
 have hnx := (Nx.refl w).alloc (.cells (madeCells #[Value.int .i64 0] xs.length) 3)
 obtain ⟨w1, cs, hrun, hb1, hs1, hc1, hnx1, _, _⟩ := run_copy_ints (w.alloc (.cells (madeCells #[Value.int .i64 0] xs.length) 3)) 3 w.heap.size xs.length A c B xs _ rfl hp (heap_alloc_new w _) (size_madeCells _ _) (h.below hnx hB)
 have hx1 := hnx1 w hnx nle
 have HO := qh (RowI.of_box nle hb1 hs1 rfl hn hc1)
 clear hb1 hs1 hc1 hnx1
 go_enter func116, ntmps116
 go_wp2
 go_ret
 exact ⟨_, _, rfl, HO.out, hx1⟩
def RetSec (w : World) (g b p t : Int) (xs : List Int) (ms : List Mrk) (A2 : Option Addr) (c2 : Nat) (x : Int) (e : Ending) (w' : World) : Prop :=
 ∃ (A : Option Addr) (c : Nat), e = .returned (.agg #[ii g, ii b, ii p, ii t, sC A (xs ++ [x]).length c, sC A2 ms.length c2]) /\ (xs ++ [x]).length <= c /\ SlI w' w.heap.size A (xs ++ [x]) /\ Nx w w'
theorem withSector_c (g b p t : Int) (A A2 : Option Addr) (c c2 B : Nat) (xs : List Int) (ms : List Mrk) (x : Int) (w : World) (h : Ins w B A xs) (hB : B <= w.heap.size) (hn : xs.length <= 1048575) :
 Calls Tryz.prog 157 #[.agg #[ii g, ii b, ii p, ii t, sC A xs.length c, sC A2 ms.length c2], ii x] w (RetSec w g b p t xs ms A2 c2 x) := by
 have s0 : Box ((w.alloc (.cells #[ii g, ii b, ii p, ii t, sC A xs.length c, sC A2 ms.length c2] 26)).alloc (.cells #[ii 0, ii 0, ii 0, ii 0, nsl, nsl] 26)) w.heap.size 26 #[ii g, ii b, ii p, ii t, sC A xs.length c, sC A2 ms.length c2] := (Box.new w _ _).alloc _
 have r0 : Box ((w.alloc (.cells #[ii g, ii b, ii p, ii t, sC A xs.length c, sC A2 ms.length c2] 26)).alloc (.cells #[ii 0, ii 0, ii 0, ii 0, nsl, nsl] 26)) (w.heap.size + 1) 26 #[ii 0, ii 0, ii 0, ii 0, nsl, nsl] := by have := Box.new (w.alloc (.cells #[ii g, ii b, ii p, ii t, sC A xs.length c, sC A2 ms.length c2] 26)) 26 #[ii 0, ii 0, ii 0, ii 0, nsl, nsl]; rwa [World.size_alloc] at this
 have hx0 := ((Nx.refl w).alloc (.cells #[ii g, ii b, ii p, ii t, sC A xs.length c, sC A2 ms.length c2] 26)).alloc (.cells #[ii 0, ii 0, ii 0, ii 0, nsl, nsl] 26)
 go_enter func157, ntmps157
 go_wp2_with fail
 generalize (w.alloc (.cells #[ii g, ii b, ii p, ii t, sC A xs.length c, sC A2 ms.length c2] 26)).alloc (.cells #[ii 0, ii 0, ii 0, ii 0, nsl, nsl] 26) = W at *
 obtain ⟨gR, Hg⟩ := nM (w.heap.size + 1)
 have hgR : w.heap.size <= gR := by have := Hg.out; omega
 have hne : gR ≠ w.heap.size := by have := Hg.out; omega
 rw [Hg.out] at r0 ⊢
 have hltR := r0.lt
 have hltS := s0.lt
 refine (copyListR_c A c B xs W (h.below hx0 hB) (ntr hB hx0.size) oM).mono ?_
 rintro e w1 ⟨A1, c1, rfl, hR, hk⟩
 have hz := (Nx.refl w1).alloc (.cells #[ii x] 3)
 have s1 := s0.nx (hk.trans hz)
 have r1 := r0.nx (hk.trans hz)
 have hx1 := hx0.trans (hk.trans hz)
 have HR := qh (hR.nx hz)
 have HB := qh (Box.new w1 3 #[ii x])
 have hsz := (hk.trans hz).size
 clear hR hk hz s0 r0
 go_wp2_with (at_builtin; refine wpList_addI rfl _ _ rfl W.heap.size w1.heap.size _ xs x rfl rfl HR.out HB.out oM hsz ?_)
 intro A9 k9 w9 hrow9 hgr
 have s9 := hgr.box _ _ _ dC s1
 have r9 := hgr.box _ _ _ dC r1
 have hx9 := hgr.nx w hx1 hx0.size
 obtain ⟨A8, c8, he, hcap, hS⟩ := hrow9.slc
 rw [List.length_append] at he hcap
 injection he with he1 he2 he3
 subst he1 he3
 obtain ⟨y0, y1, y2, y3, y4, y5⟩ := s9.d6
 have ylt := s9.lt
 have yf := s9.frozen 4
 have s10 := s9.set 4 (sC A9 (xs.length + 1) k9)
 have r10 := r9.far (p := ⟨w.heap.size, 4, none⟩) hne (sC A9 (xs.length + 1) k9)
 have hx10 := hx9.setCell (p := ⟨w.heap.size, 4, none⟩) nle (sC A9 (xs.length + 1) k9)
 have hS10 := hS.far (p := ⟨w.heap.size, 4, none⟩) hltS (sC A9 (xs.length + 1) k9)
 replace s10 : Box (w9.setCell ⟨w.heap.size, 4, none⟩ (sC A9 (xs.length + 1) k9)) w.heap.size 26 #[ii g, ii b, ii p, ii t, sC A9 (xs.length + 1) k9, sC A2 ms.length c2] := s10
 have Hcap := qh hcap
 clear s9 r9 s1 r1 hgr hx9 hS HR HB hrow9 hsz hcap
 have rq := r10.row #[ii g, ii b, ii p, ii t, sC A9 (xs.length + 1) k9, sC A2 ms.length c2]
 have hnf := hx10.setRow hgR #[ii g, ii b, ii p, ii t, sC A9 (xs.length + 1) k9, sC A2 ms.length c2]
 have hsf := hS10.rowfar hltR #[ii g, ii b, ii p, ii t, sC A9 (xs.length + 1) k9, sC A2 ms.length c2]
 clear s10 hS10 hx10 hx1
 go_wp2_with (refine wpList_store_row rfl _ _ _ rfl gR #[ii g, ii b, ii p, ii t, sC A9 (xs.length + 1) k9, sC A2 ms.length c2] rfl rfl 26 #[ii 0, ii 0, ii 0, ii 0, nsl, nsl] r10 (by kernel_rfl) rfl (by simp [Value.oneCell']) ?_)
 generalize (w9.setCell ⟨w.heap.size, 4, none⟩ (sC A9 (xs.length + 1) k9)).setRow gR #[ii g, ii b, ii p, ii t, sC A9 (xs.length + 1) k9, sC A2 ms.length c2] = Wf at *
 obtain ⟨z0, z1, z2, z3, z4, z5⟩ := rq.d6
 refine bodyPost_ret (v := .agg #[ii g, ii b, ii p, ii t, sC A9 (xs.length + 1) k9, sC A2 ms.length c2]) (by simp [results, results157, go_sem, z0, z1, z2, z3, z4, z5]) rfl ⟨A9, k9, by rw [List.length_append]; rfl, by rw [List.length_append]; exact Hcap.out, hsf.low hx0.size, hnf⟩
theorem SlS.twoW {u : World} {lo n gz : Nat} {A : Option Addr} {ss : List BA} {a b : Value} (h : SlS u lo A n ss) (hb : Box u gz 35 #[a, b]) (v0 v1 : Value) : SlS ((u.setCell ⟨gz, 0, none⟩ v0).setCell ⟨gz, 1, none⟩ v1) lo A n ss :=
 ⟨h.1, fun hn => by
  have k : Sl u lo A 9 ss.length (strAt ss) := fun _ => h.2 hn
  exact ((k.far_ty (p := ⟨gz, 0, none⟩) hb dC v0).far_ty (p := ⟨gz, 1, none⟩) (hb.set0 v0) dC v1) (by rw [h.1]; exact hn)⟩
theorem SlW.twoW {u : World} {lo n gz : Nat} {A : Option Addr} {ws : List (Int × BA)} {a b : Value} (h : SlW u lo A n ws) (hb : Box u gz 35 #[a, b]) (v0 v1 : Value) : SlW ((u.setCell ⟨gz, 0, none⟩ v0).setCell ⟨gz, 1, none⟩ v1) lo A n ws :=
 ⟨h.1, fun hn => by
  have k : Sl u lo A 102 (ws.length * 2) (wrAt ws) := fun _ => h.2 hn
  exact ((k.far_ty (p := ⟨gz, 0, none⟩) hb dC v0).far_ty (p := ⟨gz, 1, none⟩) (hb.set0 v0) dC v1) (by rw [h.1]; omega)⟩
theorem contentAt_c (V : Vl) (x : Int) (B : Nat) (w : World) (h : Sgs w B V.A3 V.gs) (hB : B <= w.heap.size) (hy : VltY V.g V.b V.p V.t V.xs V.ms V.gs V.im) (hr : isRet V.b V.gs x = true) :
 Calls Tryz.prog 71 #[V.w, ii x] w fun e w' => e = .returned (vA (cntV V.b V.p V.t V.gs V.im x)) /\ Nx w w' := by
 have hSD := stepDone_c V B
 have hSA := segsAhead_c V x B
 obtain ⟨g, b, p, t, A, c, xs, A2, c2, ms, A3, c3, gs, A4, c4, im⟩ := V
 simp only [Vl.w, Vl.wcells] at *
 have HLd := qh (chainB_lead hy.chain)
 have HSD := qh (fun (w' : World) (hx : Nx w w') => hSD w' (h.below hx hB) (ntr hB hx.size) HLd.out hy.l8 hy.ahd.1 hy.ahd.2)
 have HSA := qh (fun (w' : World) (hx : Nx w w') => hSA w' (h.below hx hB) (ntr hB hx.size) hy.n4 hr)
 have HSL := qh (stp_le (t := t) im HLd.out hy.places)
 have HSg := qh (fun (k : Nat) (hk : k < gs.length) (w' : World) (hx : Nx w w') => (h.below hx hB).row.at4 hk)
 have HCh := qh (fun (k : Nat) (hk : k < gs.length) (w' : World) (hx : Nx w w') => (h.chs k hk).below hx hB)
 have HAx := qh (ahd_at hr)
 have Hct : Hid (cntV b p t gs im x = bkK (fwK (stp b p t gs im).1 gs (stp b p t gs im).2 (ahd b gs x - (stp b p t gs im).2)) gs (stp b p t gs im).2 ((stp b p t gs im).2 - ahd b gs x)) := qh (by
  unfold cntV
  by_cases hle : (stp b p t gs im).2 <= ahd b gs x
  . rw [if_pos hle, show (stp b p t gs im).2 - ahd b gs x = 0 by omega]; rfl
  . rw [if_neg hle, show ahd b gs x - (stp b p t gs im).2 = 0 by omega]; rfl)
 have H8 := qh hy.l8
 have hn9 := hy.n4
 obtain ⟨n, Hn⟩ := nM (gs.length)
 rw [Hn.out] at HSg HCh HAx hn9 HSD HSA
 rw [Hct.out]
 obtain ⟨c0, Hc0⟩ := nM ((stp b p t gs im).1)
 obtain ⟨a, Hat⟩ := nM ((stp b p t gs im).2)
 obtain ⟨e9, He⟩ := nM (ahd b gs x)
 have HL0 : Hid (c0.length = 8) := qh (by rw [<- Hc0.out, stp_len]; exact H8.out)
 rw [Hc0.out, Hat.out] at HSD
 rw [He.out] at HAx HSA
 rw [Hc0.out, Hat.out, He.out, Hn.out]
 have hat : a <= n := by have := HSL.out.1; rw [Hat.out, Hn.out] at this; exact this
 have hen : e9 <= n := HAx.out.1
 have HOKs := qh (fun k (hk : k < n) => HLd.out.ok k (by rw [Hn.out]; exact hk))
 have b0 : Box ((w.alloc (.cells #[ii g, ii b, ii p, ii t, sC A xs.length c, sC A2 ms.length c2, sC A3 n c3, inAt im 0, inAt im 1, inAt im 2, inAt im 3, inAt im 4, inAt im 5, inAt im 6, inAt im 7] 107)).alloc (.cells #[ii 0, ii 0, ii 0, ii 0, ii 0, ii 0, ii 0, ii 0] 105)) w.heap.size 107 #[ii g, ii b, ii p, ii t, sC A xs.length c, sC A2 ms.length c2, sC A3 n c3, inAt im 0, inAt im 1, inAt im 2, inAt im 3, inAt im 4, inAt im 5, inAt im 6, inAt im 7] := (Box.new w _ _).alloc _
 have r0 : Box ((w.alloc (.cells #[ii g, ii b, ii p, ii t, sC A xs.length c, sC A2 ms.length c2, sC A3 n c3, inAt im 0, inAt im 1, inAt im 2, inAt im 3, inAt im 4, inAt im 5, inAt im 6, inAt im 7] 107)).alloc (.cells #[ii 0, ii 0, ii 0, ii 0, ii 0, ii 0, ii 0, ii 0] 105)) (w.heap.size + 1) 105 #[ii 0, ii 0, ii 0, ii 0, ii 0, ii 0, ii 0, ii 0] := by have := Box.new (w.alloc (.cells #[ii g, ii b, ii p, ii t, sC A xs.length c, sC A2 ms.length c2, sC A3 n c3, inAt im 0, inAt im 1, inAt im 2, inAt im 3, inAt im 4, inAt im 5, inAt im 6, inAt im 7] 107)) 105 #[ii 0, ii 0, ii 0, ii 0, ii 0, ii 0, ii 0, ii 0]; rwa [World.size_alloc] at this
 have hx0 := ((Nx.refl w).alloc (.cells #[ii g, ii b, ii p, ii t, sC A xs.length c, sC A2 ms.length c2, sC A3 n c3, inAt im 0, inAt im 1, inAt im 2, inAt im 3, inAt im 4, inAt im 5, inAt im 6, inAt im 7] 107)).alloc (.cells #[ii 0, ii 0, ii 0, ii 0, ii 0, ii 0, ii 0, ii 0] 105)
 clear hSD hSA h hy hr
 go_enter func71, ntmps71
 go_wp2_with fail
 generalize ((w.alloc (.cells #[ii g, ii b, ii p, ii t, sC A xs.length c, sC A2 ms.length c2, sC A3 n c3, inAt im 0, inAt im 1, inAt im 2, inAt im 3, inAt im 4, inAt im 5, inAt im 6, inAt im 7] 107)).alloc (.cells #[ii 0, ii 0, ii 0, ii 0, ii 0, ii 0, ii 0, ii 0] 105)) = W at *
 obtain ⟨gR, HgR⟩ := nM (w.heap.size + 1)
 have hgR : w.heap.size <= gR := by have := HgR.out; omega
 rw [HgR.out]
 rw [HgR.out] at r0
 refine (HSD.out _ hx0).mono ?_
 rintro e w1 ⟨rfl, hk⟩
 unfold vA
 have b1 := b0.nx hk
 have r1 := r0.nx hk
 replace hx0 := hx0.trans hk
 have rz := Box.new w1 105 #[ii 0, ii 0, ii 0, ii 0, ii 0, ii 0, ii 0, ii 0]
 have b2 := (b1.alloc (.cells #[ii 0, ii 0, ii 0, ii 0, ii 0, ii 0, ii 0, ii 0] 105)).rowfar (show w.heap.size ≠ w1.heap.size by have := b1.lt; omega) #[inAt c0 0, inAt c0 1, inAt c0 2, inAt c0 3, inAt c0 4, inAt c0 5, inAt c0 6, inAt c0 7]
 have r2 := (r1.alloc (.cells #[ii 0, ii 0, ii 0, ii 0, ii 0, ii 0, ii 0, ii 0] 105)).rowfar (show gR ≠ w1.heap.size by have := r1.lt; omega) #[inAt c0 0, inAt c0 1, inAt c0 2, inAt c0 3, inAt c0 4, inAt c0 5, inAt c0 6, inAt c0 7]
 have ba := rz.row #[inAt c0 0, inAt c0 1, inAt c0 2, inAt c0 3, inAt c0 4, inAt c0 5, inAt c0 6, inAt c0 7]
 have hx2 := (hx0.alloc (.cells #[ii 0, ii 0, ii 0, ii 0, ii 0, ii 0, ii 0, ii 0] 105)).setRow (g := w1.heap.size) hx0.size #[inAt c0 0, inAt c0 1, inAt c0 2, inAt c0 3, inAt c0 4, inAt c0 5, inAt c0 6, inAt c0 7]
 have hneA : w.heap.size ≠ w1.heap.size := by have := b1.lt; omega
 have hneAR : gR ≠ w1.heap.size := by have := r1.lt; omega
 have hgA : w.heap.size <= w1.heap.size := hx0.size
 obtain ⟨y0, y1, y2, y3, y4, y5, y6, y7, y8, y9, y10, y11, y12, y13, y14⟩ := b2.e15
 clear b0 r0 hk b1 r1
 go_wp2_with (refine wpList_store_row rfl _ _ _ rfl w1.heap.size #[inAt c0 0, inAt c0 1, inAt c0 2, inAt c0 3, inAt c0 4, inAt c0 5, inAt c0 6, inAt c0 7] rfl rfl 105 #[ii 0, ii 0, ii 0, ii 0, ii 0, ii 0, ii 0, ii 0] rz (by kernel_rfl) rfl (by simp [Value.oneCell', inAt]) ?_)
 clear y0 y1 y2 y3 y4 y5 y6 y7 y8 y9 y10 y11 y12 y13 y14 rz hx0
 generalize (w1.alloc (.cells #[ii 0, ii 0, ii 0, ii 0, ii 0, ii 0, ii 0, ii 0] 105)).setRow w1.heap.size #[inAt c0 0, inAt c0 1, inAt c0 2, inAt c0 3, inAt c0 4, inAt c0 5, inAt c0 6, inAt c0 7] = Wl at *
 generalize w1.heap.size = gA at *
 refine (HSA.out _ hx2).mono ?_
 rintro e w3 ⟨rfl, hk⟩
 have ba3 := ba.nx hk
 have b3 := b2.nx hk
 have r3 := r2.nx hk
 have hx3 := hx2.trans hk
 clear ba b2 r2 hx2 hk
 go_wp2_with fail
 go_loopw [6] (fun i wr => ∃ k : Nat, a <= k /\ k <= max a e9 /\ i = ii k /\ Box wr gA 105 #[inAt (fwK c0 gs a (k - a)) 0, inAt (fwK c0 gs a (k - a)) 1, inAt (fwK c0 gs a (k - a)) 2, inAt (fwK c0 gs a (k - a)) 3, inAt (fwK c0 gs a (k - a)) 4, inAt (fwK c0 gs a (k - a)) 5, inAt (fwK c0 gs a (k - a)) 6, inAt (fwK c0 gs a (k - a)) 7] /\ Nx w wr /\ Box wr w.heap.size 107 #[ii g, ii b, ii p, ii t, sC A xs.length c, sC A2 ms.length c2, sC A3 n c3, inAt im 0, inAt im 1, inAt im 2, inAt im 3, inAt im 4, inAt im 5, inAt im 6, inAt im 7] /\ Box wr gR 105 #[ii 0, ii 0, ii 0, ii 0, ii 0, ii 0, ii 0, ii 0]) (fun i _ => max a e9 - (intOf i).toNat)
 case atStart => exact ⟨a, Nat.le_refl _, oM, rfl, by rw [Nat.sub_self]; exact ba3, hx3, b3, r3⟩
 case round =>
 obtain ⟨k, hka, hkm, rfl, hbx, hnx, hb, hr⟩ := hrel
 clear ba3 hx3 b3 r3
 by_cases hke : k < e9
 . have hd : decide ((k : Int) < (e9 : Int)) = true := decide_eq_true oM
   have hdN : decide (k < e9) = true := decide_eq_true hke
   have hkn : k < n := oM
   obtain ⟨j, Hj⟩ := nM (k - a)
   have Hkj : Hid (a + j = k) := qh (by have := Hj.out; omega)
   rw [Hj.out] at hbx
   obtain ⟨bb, off, rfl, hbb, p0, p1, p2, p3⟩ := HSg.out k hkn wr hnx
   have hbw : bb < wr.heap.size := Nat.lt_of_lt_of_le hbb (ntr hB hnx.size)
   have HCk := qh (HCh.out k hkn)
   have HOKc := qh (HOKs.out k hkn)
   have HLj : Hid ((fwK c0 gs a j).length = 8) := qh (by rw [fwK_len]; exact HL0.out)
   have Hsuc : Hid (fwK c0 gs a (j + 1) = app pN (fwK c0 gs a j) (gs.getD k sgZ).cs) := qh (by rw [<- Hkj.out]; rfl)
   obtain ⟨cj, Hcj⟩ := nM (fwK c0 gs a j)
   rw [Hcj.out] at HLj Hsuc hbx
   obtain ⟨⟨f, t9, m9, Ac, cc, cs⟩, Hs⟩ := nM (gs.getD k sgZ)
   rw [Hs.out] at p0 p1 p2 p3 HCk HOKc Hsuc
   simp only at p0 p1 p2 p3 HCk HOKc Hsuc
   have hkc : (k : Int) < (n : Int) := oM
   have hk0 : (0 : Int) <= (k : Int) := oM
   have Hin := qh hkn
   clear hkn
   have Hke := qh hke
   clear hke
   go_wp2_with fail
   have bae := hbx.nx (Nx.refl _).drew
   have vbe : Box wr.drew w.heap.size 107 #[ii g, ii b, ii p, ii t, sC A xs.length c, sC A2 ms.length c2, sC (some ⟨bb, off, none⟩) n c3, inAt im 0, inAt im 1, inAt im 2, inAt im 3, inAt im 4, inAt im 5, inAt im 6, inAt im 7] := hb
   have rre := hr.nx (Nx.refl _).drew
   have hnxe := hnx.drew
   replace hbw : bb < wr.drew.heap.size := hbw
   have p0 : wr.drew.cell? ⟨bb, off + k * 4, none⟩ = _ := p0; have p1 : wr.drew.cell? ⟨bb, off + k * 4 + 1, none⟩ = _ := p1; have p2 : wr.drew.cell? ⟨bb, off + k * 4 + 2, none⟩ = _ := p2; have p3 : wr.drew.cell? ⟨bb, off + k * 4 + 3, none⟩ = _ := p3
   have hneb : bb ≠ gA := oM
   clear hbx hb hr
   refine wp_planA (.t 1 (.t 2 (.t 3 (.t 4 (.t 5 (.c 0 (.c 6 (.c 7 .e)))))))) (fun w' => CC w' w.heap.size 6 (sC (some ⟨bb, off, none⟩) n c3) /\ CC w' bb (off + k * 4) (ii f) /\ CC w' bb (off + k * 4 + 1) (ii t9) /\ CC w' bb (off + k * 4 + 2) (ii m9) /\ CC w' bb (off + k * 4 + 3) (sC Ac cs.length cc)) (by exact ⟨vbe.cell 6, p0, p1, p2, p3⟩) ?_
   simp only [psOf, List.getD_cons_zero, List.getD_cons_succ]
   refine hPr ?_
   refine hPc fun K hK => ?_
   refine wp_load_row _ _ rfl gA rfl 105 #[inAt cj 0, inAt cj 1, inAt cj 2, inAt cj 3, inAt cj 4, inAt cj 5, inAt cj 6, inAt cj 7] (0, 0) _ bae und_values rfl (by kernel_rfl) ?_
   refine hK.out _ _ (by exact ⟨vbe.cell 6, p0, p1, p2, p3⟩) ?_
   clear hK K
   try simp only [Act.put]
   refine hPc fun K hK => ?_
   go_simp
   have hcl := valuesForward_c f t9 m9 Ac cc B cs cj _ (HCk.out _ hnxe) (ntr hB hnxe.size) HOKc.out HLj.out; unfold vA at hcl; refine hcl.mono ?_; rintro e w9 ⟨rfl, hk9⟩; clear hcl; have ba9 := bae.nx hk9; have vb9 := vbe.nx hk9; have hnx9 := hnxe.trans hk9; have hbw9 := hbw; replace hbw := Nat.lt_of_lt_of_le hbw hk9.size; have hbq9 : bb < w.heap.size := Nat.lt_of_lt_of_le hbb hB; replace p0 := (hk9.cell (p := ⟨bb, off + k * 4, none⟩) hbw9).trans p0; replace p1 := (hk9.cell (p := ⟨bb, off + k * 4 + 1, none⟩) hbw9).trans p1; replace p2 := (hk9.cell (p := ⟨bb, off + k * 4 + 2, none⟩) hbw9).trans p2; replace p3 := (hk9.cell (p := ⟨bb, off + k * 4 + 3, none⟩) hbw9).trans p3; have rr9 := rre.nx hk9
   go_wp2_with fail
   refine hK.out _ _ (by exact ⟨vb9.cell 6, p0, p1, p2, p3⟩) ?_
   clear hK K
   refine nZ ?_
   refine hPc fun K hK => ?_
   refine wp_store_row _ _ _ rfl gA #[inAt (app pN cj cs) 0, inAt (app pN cj cs) 1, inAt (app pN cj cs) 2, inAt (app pN cj cs) 3, inAt (app pN cj cs) 4, inAt (app pN cj cs) 5, inAt (app pN cj cs) 6, inAt (app pN cj cs) 7] rfl rfl 105 #[inAt cj 0, inAt cj 1, inAt cj 2, inAt cj 3, inAt cj 4, inAt cj 5, inAt cj 6, inAt cj 7] ba9 (by kernel_rfl) rfl (by simp [Value.oneCell', inAt]) ?_
   refine hK.out _ _ (by exact ⟨(vb9.rowfar hneA #[inAt (app pN cj cs) 0, inAt (app pN cj cs) 1, inAt (app pN cj cs) 2, inAt (app pN cj cs) 3, inAt (app pN cj cs) 4, inAt (app pN cj cs) 5, inAt (app pN cj cs) 6, inAt (app pN cj cs) 7]).cell 6, ((cell_row_far w9 gA #[inAt (app pN cj cs) 0, inAt (app pN cj cs) 1, inAt (app pN cj cs) 2, inAt (app pN cj cs) 3, inAt (app pN cj cs) 4, inAt (app pN cj cs) 5, inAt (app pN cj cs) 6, inAt (app pN cj cs) 7] (p := ⟨bb, off + k * 4, none⟩) sM).trans p0), ((cell_row_far w9 gA #[inAt (app pN cj cs) 0, inAt (app pN cj cs) 1, inAt (app pN cj cs) 2, inAt (app pN cj cs) 3, inAt (app pN cj cs) 4, inAt (app pN cj cs) 5, inAt (app pN cj cs) 6, inAt (app pN cj cs) 7] (p := ⟨bb, off + k * 4 + 1, none⟩) sM).trans p1), ((cell_row_far w9 gA #[inAt (app pN cj cs) 0, inAt (app pN cj cs) 1, inAt (app pN cj cs) 2, inAt (app pN cj cs) 3, inAt (app pN cj cs) 4, inAt (app pN cj cs) 5, inAt (app pN cj cs) 6, inAt (app pN cj cs) 7] (p := ⟨bb, off + k * 4 + 2, none⟩) sM).trans p2), ((cell_row_far w9 gA #[inAt (app pN cj cs) 0, inAt (app pN cj cs) 1, inAt (app pN cj cs) 2, inAt (app pN cj cs) 3, inAt (app pN cj cs) 4, inAt (app pN cj cs) 5, inAt (app pN cj cs) 6, inAt (app pN cj cs) 7] (p := ⟨bb, off + k * 4 + 3, none⟩) sM).trans p3)⟩) ?_
   clear hK K
   try simp only [Act.put]
   refine HP.done ?_
   have bz := ba9.row #[inAt (app pN cj cs) 0, inAt (app pN cj cs) 1, inAt (app pN cj cs) 2, inAt (app pN cj cs) 3, inAt (app pN cj cs) 4, inAt (app pN cj cs) 5, inAt (app pN cj cs) 6, inAt (app pN cj cs) 7]
   have vz := vb9.rowfar hneA #[inAt (app pN cj cs) 0, inAt (app pN cj cs) 1, inAt (app pN cj cs) 2, inAt (app pN cj cs) 3, inAt (app pN cj cs) 4, inAt (app pN cj cs) 5, inAt (app pN cj cs) 6, inAt (app pN cj cs) 7]
   have rz := rr9.rowfar hneAR #[inAt (app pN cj cs) 0, inAt (app pN cj cs) 1, inAt (app pN cj cs) 2, inAt (app pN cj cs) 3, inAt (app pN cj cs) 4, inAt (app pN cj cs) 5, inAt (app pN cj cs) 6, inAt (app pN cj cs) 7]
   have hnxz := hnx9.setRow hgA #[inAt (app pN cj cs) 0, inAt (app pN cj cs) 1, inAt (app pN cj cs) 2, inAt (app pN cj cs) 3, inAt (app pN cj cs) 4, inAt (app pN cj cs) 5, inAt (app pN cj cs) 6, inAt (app pN cj cs) 7]
   generalize w9.setRow gA #[inAt (app pN cj cs) 0, inAt (app pN cj cs) 1, inAt (app pN cj cs) 2, inAt (app pN cj cs) 3, inAt (app pN cj cs) 4, inAt (app pN cj cs) 5, inAt (app pN cj cs) 6, inAt (app pN cj cs) 7] = Wz at *
   go_wp2
   go_roundw
   case rel => exact ⟨k + 1, oM, by have := Hke.out; omega, by go_num, by rw [show k + 1 - a = j + 1 by have := Hkj.out; omega, Hsuc.out]; exact bz, hnxz, vz, rz⟩
   case measure => (have := Hke.out; simp [intOf] <;> omega)
 have hd : decide ((k : Int) < (e9 : Int)) = false := decide_eq_false oM
 have hdN : decide (k < e9) = false := decide_eq_false hke
 have Hkm : Hid (k = max a e9) := qh oM
 obtain ⟨d0, Hd0⟩ := nM (fwK c0 gs a (e9 - a))
 have HLd0 : Hid (d0.length = 8) := qh (by rw [<- Hd0.out, fwK_len]; exact HL0.out)
 rw [show k - a = e9 - a by have := Hkm.out; omega, Hd0.out] at hbx
 have Hke := qh hke
 clear hke
 go_wp2_with fail
 clear hd hdN
 go_loopw [6] (fun i wr => ∃ k : Nat, e9 <= k /\ k <= max a e9 /\ i = ii k /\ Box wr gA 105 #[inAt (bkK d0 gs a (a - k)) 0, inAt (bkK d0 gs a (a - k)) 1, inAt (bkK d0 gs a (a - k)) 2, inAt (bkK d0 gs a (a - k)) 3, inAt (bkK d0 gs a (a - k)) 4, inAt (bkK d0 gs a (a - k)) 5, inAt (bkK d0 gs a (a - k)) 6, inAt (bkK d0 gs a (a - k)) 7] /\ Nx w wr /\ Box wr w.heap.size 107 #[ii g, ii b, ii p, ii t, sC A xs.length c, sC A2 ms.length c2, sC A3 n c3, inAt im 0, inAt im 1, inAt im 2, inAt im 3, inAt im 4, inAt im 5, inAt im 6, inAt im 7] /\ Box wr gR 105 #[ii 0, ii 0, ii 0, ii 0, ii 0, ii 0, ii 0, ii 0]) (fun i _ => (intOf i).toNat)
 case atStart => exact ⟨k, by have := Hke.out; omega, hkm, rfl, by rw [show a - k = 0 by omega]; exact hbx, hnx, hb, hr⟩
 case round =>
 clear hbx hnx hb hr hka hkm Hke Hkm
 obtain ⟨u, hka, hkm, rfl, hbx, hnx, hb, hr⟩ := hrel
 by_cases hke : e9 < u
 case neg =>
  obtain rfl : e9 = u := oM
  have hd : decide ((e9 : Int) < (e9 : Int)) = false := by simp
  obtain ⟨y0, y1, y2, y3, y4, y5, y6, y7⟩ := hbx.e8
  have Hfin : Hid (bkK (fwK c0 gs a (e9 - a)) gs a (a - e9) = bkK d0 gs a (a - e9)) := qh (by rw [Hd0.out])
  obtain ⟨z, Hz⟩ := nM (bkK d0 gs a (a - e9))
  rw [Hz.out] at hbx y0 y1 y2 y3 y4 y5 y6 y7
  have q := hr.row #[inAt z 0, inAt z 1, inAt z 2, inAt z 3, inAt z 4, inAt z 5, inAt z 6, inAt z 7]
  have hnf := hnx.setRow hgR #[inAt z 0, inAt z 1, inAt z 2, inAt z 3, inAt z 4, inAt z 5, inAt z 6, inAt z 7]
  go_wp2_with (refine wpList_store_row rfl _ _ _ rfl gR #[inAt z 0, inAt z 1, inAt z 2, inAt z 3, inAt z 4, inAt z 5, inAt z 6, inAt z 7] rfl rfl 105 #[ii 0, ii 0, ii 0, ii 0, ii 0, ii 0, ii 0, ii 0] hr (by kernel_rfl) rfl (by simp [Value.oneCell', inAt]) ?_)
  generalize wr.setRow gR #[inAt z 0, inAt z 1, inAt z 2, inAt z 3, inAt z 4, inAt z 5, inAt z 6, inAt z 7] = Wf at *
  obtain ⟨g0, g1, g2, g3, g4, g5, g6, g7⟩ := q.e8
  exact bodyPost_ret (v := .agg #[inAt z 0, inAt z 1, inAt z 2, inAt z 3, inAt z 4, inAt z 5, inAt z 6, inAt z 7]) (by simp [results, results71, go_sem, g0, g1, g2, g3, g4, g5, g6, g7]) rfl ⟨by rw [Hfin.out, Hz.out]; rfl, hnf⟩
 obtain ⟨i, rfl⟩ : ∃ i, u = i + 1 := ⟨u - 1, oM⟩
 have hd : decide ((e9 : Int) < ((i + 1 : Nat) : Int)) = true := decide_eq_true oM
 have hd2 : decide ((e9 : Int) < (i : Int) + 1) = true := decide_eq_true oM
 have hdN : decide (e9 < i + 1) = true := decide_eq_true hke
 have hkn : i < n := oM
 have hwi : IntKind.i64.wrap (i : Int) = (i : Int) := IntWalk.i64_in _ oM
 obtain ⟨j, Hj⟩ := nM (a - (i + 1))
 have Hkj : Hid (i = a - 1 - j) := qh (by have := Hj.out; omega)
 have Hm1 : Hid (a - i = j + 1) := qh (by have := Hj.out; omega)
 rw [Hj.out] at hbx
 obtain ⟨bb, off, rfl, hbb, p0, p1, p2, p3⟩ := HSg.out i hkn wr hnx
 have hbw : bb < wr.heap.size := Nat.lt_of_lt_of_le hbb (ntr hB hnx.size)
 have HCk := qh (HCh.out i hkn)
 have HOKc := qh (HOKs.out i hkn)
 have HLj : Hid ((bkK d0 gs a j).length = 8) := qh (by rw [bkK_len]; exact HLd0.out)
 have Hsuc : Hid (bkK d0 gs a (j + 1) = app pO (bkK d0 gs a j) (gs.getD i sgZ).cs) := qh (by rw [Hkj.out]; rfl)
 obtain ⟨cj, Hcj⟩ := nM (bkK d0 gs a j)
 rw [Hcj.out] at HLj Hsuc hbx
 obtain ⟨⟨f, t9, m9, Ac, cc, cs⟩, Hs⟩ := nM (gs.getD i sgZ)
 rw [Hs.out] at p0 p1 p2 p3 HCk HOKc Hsuc
 simp only at p0 p1 p2 p3 HCk HOKc Hsuc
 have hkc : (i : Int) < (n : Int) := oM
 have hk0 : (0 : Int) <= (i : Int) := oM
 have Hin := qh hkn
 clear hkn
 have Hke := qh hke
 clear hke
 go_wp2_with fail
 have bae := hbx.nx (Nx.refl _).drew
 have vbe : Box wr.drew w.heap.size 107 #[ii g, ii b, ii p, ii t, sC A xs.length c, sC A2 ms.length c2, sC (some ⟨bb, off, none⟩) n c3, inAt im 0, inAt im 1, inAt im 2, inAt im 3, inAt im 4, inAt im 5, inAt im 6, inAt im 7] := hb
 have rre := hr.nx (Nx.refl _).drew
 have hnxe := hnx.drew
 replace hbw : bb < wr.drew.heap.size := hbw
 have p0 : wr.drew.cell? ⟨bb, off + i * 4, none⟩ = _ := p0; have p1 : wr.drew.cell? ⟨bb, off + i * 4 + 1, none⟩ = _ := p1; have p2 : wr.drew.cell? ⟨bb, off + i * 4 + 2, none⟩ = _ := p2; have p3 : wr.drew.cell? ⟨bb, off + i * 4 + 3, none⟩ = _ := p3
 have hneb : bb ≠ gA := oM
 clear hbx hb hr
 refine wp_planA (.t 1 (.t 2 (.t 3 (.t 4 (.t 5 (.t 6 (.c 0 (.c 7 (.c 8 .e))))))))) (fun w' => CC w' w.heap.size 6 (sC (some ⟨bb, off, none⟩) n c3) /\ CC w' bb (off + i * 4) (ii f) /\ CC w' bb (off + i * 4 + 1) (ii t9) /\ CC w' bb (off + i * 4 + 2) (ii m9) /\ CC w' bb (off + i * 4 + 3) (sC Ac cs.length cc)) (by exact ⟨vbe.cell 6, p0, p1, p2, p3⟩) ?_
 simp only [psOf, List.getD_cons_zero, List.getD_cons_succ]
 refine hPr ?_
 refine hPc fun K hK => ?_
 refine wp_load_row _ _ rfl gA rfl 105 #[inAt cj 0, inAt cj 1, inAt cj 2, inAt cj 3, inAt cj 4, inAt cj 5, inAt cj 6, inAt cj 7] (0, 0) _ bae und_values rfl (by kernel_rfl) ?_
 refine hK.out _ _ (by exact ⟨vbe.cell 6, p0, p1, p2, p3⟩) ?_
 clear hK K
 try simp only [Act.put]
 refine hPc fun K hK => ?_
 go_simp
 have hcl := valuesBackward_c f t9 m9 Ac cc B cs cj _ (HCk.out _ hnxe) (ntr hB hnxe.size) HOKc.out HLj.out; unfold vA at hcl; refine hcl.mono ?_; rintro e w9 ⟨rfl, hk9⟩; clear hcl; have ba9 := bae.nx hk9; have vb9 := vbe.nx hk9; have hnx9 := hnxe.trans hk9; have hbw9 := hbw; replace hbw := Nat.lt_of_lt_of_le hbw hk9.size; have hbq9 : bb < w.heap.size := Nat.lt_of_lt_of_le hbb hB; replace p0 := (hk9.cell (p := ⟨bb, off + i * 4, none⟩) hbw9).trans p0; replace p1 := (hk9.cell (p := ⟨bb, off + i * 4 + 1, none⟩) hbw9).trans p1; replace p2 := (hk9.cell (p := ⟨bb, off + i * 4 + 2, none⟩) hbw9).trans p2; replace p3 := (hk9.cell (p := ⟨bb, off + i * 4 + 3, none⟩) hbw9).trans p3; have rr9 := rre.nx hk9
 go_wp2_with fail
 refine hK.out _ _ (by exact ⟨vb9.cell 6, p0, p1, p2, p3⟩) ?_
 clear hK K
 refine nZ ?_
 refine hPc fun K hK => ?_
 refine wp_store_row _ _ _ rfl gA #[inAt (app pO cj cs) 0, inAt (app pO cj cs) 1, inAt (app pO cj cs) 2, inAt (app pO cj cs) 3, inAt (app pO cj cs) 4, inAt (app pO cj cs) 5, inAt (app pO cj cs) 6, inAt (app pO cj cs) 7] rfl rfl 105 #[inAt cj 0, inAt cj 1, inAt cj 2, inAt cj 3, inAt cj 4, inAt cj 5, inAt cj 6, inAt cj 7] ba9 (by kernel_rfl) rfl (by simp [Value.oneCell', inAt]) ?_
 refine hK.out _ _ (by exact ⟨(vb9.rowfar hneA #[inAt (app pO cj cs) 0, inAt (app pO cj cs) 1, inAt (app pO cj cs) 2, inAt (app pO cj cs) 3, inAt (app pO cj cs) 4, inAt (app pO cj cs) 5, inAt (app pO cj cs) 6, inAt (app pO cj cs) 7]).cell 6, ((cell_row_far w9 gA #[inAt (app pO cj cs) 0, inAt (app pO cj cs) 1, inAt (app pO cj cs) 2, inAt (app pO cj cs) 3, inAt (app pO cj cs) 4, inAt (app pO cj cs) 5, inAt (app pO cj cs) 6, inAt (app pO cj cs) 7] (p := ⟨bb, off + i * 4, none⟩) sM).trans p0), ((cell_row_far w9 gA #[inAt (app pO cj cs) 0, inAt (app pO cj cs) 1, inAt (app pO cj cs) 2, inAt (app pO cj cs) 3, inAt (app pO cj cs) 4, inAt (app pO cj cs) 5, inAt (app pO cj cs) 6, inAt (app pO cj cs) 7] (p := ⟨bb, off + i * 4 + 1, none⟩) sM).trans p1), ((cell_row_far w9 gA #[inAt (app pO cj cs) 0, inAt (app pO cj cs) 1, inAt (app pO cj cs) 2, inAt (app pO cj cs) 3, inAt (app pO cj cs) 4, inAt (app pO cj cs) 5, inAt (app pO cj cs) 6, inAt (app pO cj cs) 7] (p := ⟨bb, off + i * 4 + 2, none⟩) sM).trans p2), ((cell_row_far w9 gA #[inAt (app pO cj cs) 0, inAt (app pO cj cs) 1, inAt (app pO cj cs) 2, inAt (app pO cj cs) 3, inAt (app pO cj cs) 4, inAt (app pO cj cs) 5, inAt (app pO cj cs) 6, inAt (app pO cj cs) 7] (p := ⟨bb, off + i * 4 + 3, none⟩) sM).trans p3)⟩) ?_
 clear hK K
 try simp only [Act.put]
 refine HP.done ?_
 have bz := ba9.row #[inAt (app pO cj cs) 0, inAt (app pO cj cs) 1, inAt (app pO cj cs) 2, inAt (app pO cj cs) 3, inAt (app pO cj cs) 4, inAt (app pO cj cs) 5, inAt (app pO cj cs) 6, inAt (app pO cj cs) 7]
 have vz := vb9.rowfar hneA #[inAt (app pO cj cs) 0, inAt (app pO cj cs) 1, inAt (app pO cj cs) 2, inAt (app pO cj cs) 3, inAt (app pO cj cs) 4, inAt (app pO cj cs) 5, inAt (app pO cj cs) 6, inAt (app pO cj cs) 7]
 have rz := rr9.rowfar hneAR #[inAt (app pO cj cs) 0, inAt (app pO cj cs) 1, inAt (app pO cj cs) 2, inAt (app pO cj cs) 3, inAt (app pO cj cs) 4, inAt (app pO cj cs) 5, inAt (app pO cj cs) 6, inAt (app pO cj cs) 7]
 have hnxz := hnx9.setRow hgA #[inAt (app pO cj cs) 0, inAt (app pO cj cs) 1, inAt (app pO cj cs) 2, inAt (app pO cj cs) 3, inAt (app pO cj cs) 4, inAt (app pO cj cs) 5, inAt (app pO cj cs) 6, inAt (app pO cj cs) 7]
 generalize w9.setRow gA #[inAt (app pO cj cs) 0, inAt (app pO cj cs) 1, inAt (app pO cj cs) 2, inAt (app pO cj cs) 3, inAt (app pO cj cs) 4, inAt (app pO cj cs) 5, inAt (app pO cj cs) 6, inAt (app pO cj cs) 7] = Wz at *
 go_wp2
 go_roundw
 case rel => exact ⟨i, by have := Hke.out; omega, oM, rfl, by rw [Hm1.out, Hsuc.out]; exact bz, hnxz, vz, rz⟩
 case measure => (simp [intOf] <;> omega)
end
end Go.Proofs.YtieoiailjjnnoaaGreatDoor
