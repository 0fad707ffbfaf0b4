/-
  Texts of the proof, in their order.
  Conditions: those of each.
-/
import Derived.Test.YtieoiailjjnnoaaGreatDoorMa14
import Derived.Deep.QuietTactic
import Derived.BigQuiet
import Derived.Deep.Slices
import Derived.ChangeSame
import Derived.Outline
import Derived.Laws.BytesArg
import Derived.Deep.RegionWith
import Derived.Laws.StructEq
import Derived.Test.YtieoiailjjnnoaaGreatDoorRows
import Derived.LaidHandle
import Derived.Lay
import Derived.HandedShaped
import Derived.Shelf.Vars
import Derived.ProofKit
import Derived.LaidMore
import Derived.OpenShut
import Derived.OpenVars
import Derived.Stop.Joined
import Derived.Stop.LaidTwo
import Derived.Lib.LaidTab
import Derived.LaidLaws
import Derived.ShutString
import Derived.ChangeOld
import Derived.Below
namespace Go.Proofs.YtieoiailjjnnoaaGreatDoor
set_option linter.unusedVariables false
open _root_.Go.Proofs.Tryz
set_option maxRecDepth 100000
set_option maxHeartbeats 16000000
section
open Go.RowKit
def DisL (ss : List BA) : Prop := ss.length = 64 /\ ss.all sOk = true /\ low2 (ss.getD 0 ByteArray.empty) /\ low2 (ss.getD 1 ByteArray.empty)
def DisF (ss : List BA) : Prop := ss.length = 64 /\ ss.all sOk = true /\ lowB (ss.getD 0 ByteArray.empty) /\ lowB (ss.getD 1 ByteArray.empty)
theorem DisL.f {ss : List BA} (h : DisL ss) : DisF ss := ⟨h.1, h.2.1, h.2.2.1.low, h.2.2.2.low⟩
theorem sOk_set {ss : List BA} {k : Nat} {t : BA} (h : ss.all sOk = true) (ht : t.size <= 300) : (ss.set k t).all sOk = true := by
 rw [List.all_eq_true] at h ⊢
 intro x hx
 rcases List.mem_or_eq_of_mem_set hx with hx | rfl
 . exact h x hx
 . unfold sOk; simpa using ht
theorem sOk_at {ss : List BA} (h : ss.all sOk = true) (k : Nat) : (ss.getD k ByteArray.empty).size <= 300 := by
 rw [gdE]
 cases hk : ss[k]? with
 | none => exact Nat.zero_le _
 | some t =>
   have := List.all_eq_true.mp h t (List.mem_of_getElem? hk)
   unfold sOk at this
   simpa using this
theorem getD_setN {ss : List BA} {k j : Nat} {t : BA} (h : k < ss.length) : (ss.set k t).getD j ByteArray.empty = if j = k then t else ss.getD j ByteArray.empty := by
 rw [gdE, List.getElem?_set, gdE]
 by_cases e : k = j
 . subst e; rw [if_pos rfl, if_pos h, if_pos rfl]; rfl
 . rw [if_neg e, if_neg (fun h => e h.symm)]
theorem DisL.set {ss : List BA} {k : Nat} {t : BA} (h : DisL ss) (hk : k < 64) (ht : t.size <= 300) (h2 : low2 t) : DisL (ss.set k t) := by
 have hl : k < ss.length := by rw [h.1]; exact hk
 refine ⟨by rw [List.length_set]; exact h.1, sOk_set h.2.1 ht, ?_, ?_⟩
 . rw [getD_setN hl]; split
   . exact h2
   . exact h.2.2.1
 . rw [getD_setN hl]; split
   . exact h2
   . exact h.2.2.2
def SdS (w wr : World) (g : Nat) (A : Option Addr) (n c K gd gb cb : Nat) (A2 : Option Addr) (c2 : Nat) (ss : List BA) : Prop :=
 SrcR wr g A n c K /\ Rg g (g + 1) w wr /\ Box wr w.heap.size 35 #[nsl, nsl] /\ Box wr gd 35 #[sC (some ⟨gb, 0, none⟩) 64 cb, sC A2 0 c2] /\ Own wr gb 9 64 (strAt ss)
section
variable {w wr w' : World} {g : Nat} {A : Option Addr} {n c K K' gd gb cb : Nat} {A2 : Option Addr} {c2 : Nat} {ss : List BA}
theorem SdS.nx (h : SdS w wr g A n c K gd gb cb A2 c2 ss) (hb : Nx wr w') : SdS w w' g A n c K gd gb cb A2 c2 ss :=
 ⟨h.1.nx hb, h.2.1.trans (Rg.of_nx hb), h.2.2.1.nx hb, h.2.2.2.1.nx hb, h.2.2.2.2.nx hb⟩
theorem SdS.more (h : SdS w wr g A n c K gd gb cb A2 c2 ss) (hk : K <= K') : SdS w wr g A n c K' gd gb cb A2 c2 ss := ⟨h.1.more hk, h.2⟩
theorem SdS.rg (hg : g < w.heap.size) (hd : w.heap.size < gd) (hb : w.heap.size < gb) (h : SdS w wr g A n c K gd gb cb A2 c2 ss) (q : Rg g (g + 1) wr w') (s : SrcR w' g A n c K') : SdS w w' g A n c K' gd gb cb A2 c2 ss :=
 ⟨s, h.2.1.trans q, h.2.2.1.rg q (.inr oM), h.2.2.2.1.rg q (.inr oM), h.2.2.2.2.rg q (.inr oM)⟩
theorem SdS.set (hg : g < w.heap.size) (hb : w.heap.size < gb) (hne : gd ≠ gb) (hl : ss.length = 64) (h : SdS w wr g A n c K gd gb cb A2 c2 ss) {k : Nat} (hk : k < 64) (t : BA) : SdS w (wr.setCell ⟨gb, k, none⟩ (.string t)) g A n c K gd gb cb A2 c2 (ss.set k t) := by
 refine ⟨h.1.farU sM _, h.2.1.setNew8 sM _, h.2.2.1.far sM _, h.2.2.2.1.far hne _, (h.2.2.2.2.set hk _).congr fun i hi => ?_⟩
 unfold strAt
 rw [getD_setN oM]
 by_cases e : i = k
 . rw [if_pos e, if_pos e]
 . rw [if_neg e, if_neg e]
theorem SdS.cell (h : SdS w wr g A n c K gd gb cb A2 c2 ss) {k : Nat} (hk : k < 64) : wr.cell? ⟨gb, k, none⟩ = some (.string (ss.getD k ByteArray.empty)) := h.2.2.2.2.cell hk
end
--BODY
end
section
open Go.ChangeShapes Go.WideShapes Go.RowKit Go.Deep
def OwnB (w : World) (g : Nat) (bs : List Bool) : Prop := Own w g 4 bs.length (blAt bs)
def SrB (w : World) (lo hi : Nat) (A : Option Addr) (n : Nat) (bs : List Bool) : Prop := bs.length = n /\ (0 < n -> ∃ g, A = some ⟨g, 0, none⟩ /\ lo <= g /\ g < hi /\ OwnB w g bs)
section
variable {w w' : World} {lo hi n a b : Nat} {A : Option Addr} {bs : List Bool}
theorem SrB.nx (h : SrB w lo hi A n bs) (hb : Nx w w') : SrB w' lo hi A n bs := ⟨h.1, fun hn => by obtain ⟨g, e, hl, hh, ho⟩ := h.2 hn; exact ⟨g, e, hl, hh, Own.nx ho hb⟩⟩
theorem SrB.rg (h : SrB w lo hi A n bs) (hb : Rg a b w w') (hd : hi <= a \/ b <= lo) : SrB w' lo hi A n bs := ⟨h.1, fun hn => by obtain ⟨g, e, hl, hh, ho⟩ := h.2 hn; exact ⟨g, e, hl, hh, Own.rg ho hb oM⟩⟩
end
end
section
open Go.RowKit
theorem Rg.grown {lo hi : Nat} {a w w' : World} {row : Option Nat} (h : Rg lo hi a w) (hg : w.grownBy w' row) (hrow : ∀ k, row = some k -> a.heap.size <= k) : Rg lo hi a w' :=
 ⟨hg.os.trans h.os, hg.tape.trans h.tape, hg.output.trans h.output, ntr h.size hg.size, fun k hk hr => (hg.block k (Nat.lt_of_lt_of_le hk h.size) (fun e => by have := hrow k e.symm; omega)).trans (h.block k hk hr)⟩
theorem box_own {w : World} {g : Nat} {t : TypeId} {cs : Array Value} (h : Box w g t cs) : Own w g t 0 (fun _ => .bool false) := ⟨cs, h, Nat.zero_le _, fun i hi => absurd hi oM⟩
theorem SlS.put {w : World} {lo n gd i : Nat} {A : Option Addr} {ss : List BA} {cs : Array Value} (h : SlS w lo A n ss) (hb : Box w gd 35 cs) (v : Value) : SlS (w.setCell ⟨gd, i, none⟩ v) lo A n ss :=
 ⟨h.1, fun hn => by obtain ⟨g, e, hl, ho⟩ := h.2 hn; exact ⟨g, e, hl, Own.far ho (Own.ne_type (box_own hb) ho dC) v⟩⟩
theorem SlW.put {w : World} {lo n gd i : Nat} {A : Option Addr} {ws : List (Int × BA)} {cs : Array Value} (h : SlW w lo A n ws) (hb : Box w gd 35 cs) (v : Value) : SlW (w.setCell ⟨gd, i, none⟩ v) lo A n ws :=
 ⟨h.1, fun hn => by obtain ⟨g, e, hl, ho⟩ := h.2 hn; exact ⟨g, e, hl, Own.far ho (Own.ne_type (box_own hb) ho dC) v⟩⟩
theorem SlS.rg {w w' : World} {lo n a b : Nat} {A : Option Addr} {ss : List BA} (h : SlS w lo A n ss) (hb : Rg a b w w') (hd : b <= lo) : SlS w' lo A n ss := (h.sr.rg hb (.inr hd)).sl
theorem SlW.rg {w w' : World} {lo n a b : Nat} {A : Option Addr} {ws : List (Int × BA)} (h : SlW w lo A n ws) (hb : Rg a b w w') (hd : b <= lo) : SlW w' lo A n ws := (h.sr.rg hb (.inr hd)).sl
theorem implContentAt_c (V : Vl) (x : Int) (B : Nat) (w : World) (h : Vlt w B V) (hB : B <= w.heap.size) (hn : VlN V 1048576) (hc : V.xs.length <= V.c) (hc3 : V.gs.length <= V.c3) (hm : AllM V.ms) :
 Calls Tryz.prog 24 #[V.v, ii x] w (RetIC w (ctR V x).1 (ctR V x).2) := by
 have hOK := vaultRight_c V B
 have hIs := isRetained_c V x B
 have hCt := contentAt_c V x B
 have hVW := view_c V B
 cases hv : V.ok with
 | false =>
   have HT := qh (ctR_no (x := x) hv)
   rw [HT.out]
   have HOK := qh (fun (w' : World) (hx : Nx w w') => hOK w' (h.below hx hB) (ntr hB hx.size) hn hc hc3 hm)
   rw [hv] at HOK
   clear hOK h hn hc hc3 hm hv HT hIs hCt hVW
   obtain ⟨g, b, p, t, A, c, xs, A2, c2, ms, A3, c3, gs, A4, c4, im⟩ := V
   simp only [Vl.v, Vl.cells] at *
   have hx0 := (Nx.refl w).alloc (.cells #[ii g, ii b, ii p, ii t, sC A xs.length c, sC A2 ms.length c2, sC A3 gs.length c3, sC A4 im.length c4] 49)
   go_enter func24, ntmps24
   go_wp2_with fail
   generalize w.alloc (.cells #[ii g, ii b, ii p, ii t, sC A xs.length c, sC A2 ms.length c2, sC A3 gs.length c3, sC A4 im.length c4] 49) = W at *
   refine (HOK.out W hx0).mono ?_
   rintro e w1 ⟨rfl, hk⟩
   have hx := hx0.trans hk
   go_wp2
   go_ret2
   exact ⟨_, _, rfl, Sl.none_ _ _ _ _ _, hx⟩
 | true =>
   have HY := qh (Vl.y hv)
   have HOK := qh (fun (w' : World) (hx : Nx w w') => hOK w' (h.below hx hB) (ntr hB hx.size) hn hc hc3 hm)
   have HVW := qh (fun (w' : World) (hx : Nx w w') => hVW w' (h.img.below hx hB) (ntr hB hx.size) HY.out.l8)
   have HIs := qh (fun (w' : World) (hx : Nx w w') => hIs w' (h.sgs.below hx hB) (ntr hB hx.size) HY.out.n4)
   have HCt := qh (fun (w' : World) (hx : Nx w w') hr => hCt w' (h.sgs.below hx hB) (ntr hB hx.size) HY.out hr)
   have HLc := qh (show (cntV V.b V.p V.t V.gs V.im x).length = 8 by rw [cntV_len]; exact HY.out.l8)
   rw [hv] at HOK
   have HTn := qh (fun hr => ctR_none (x := x) hv hr)
   have HTy := qh (fun hr => ctR_yes (x := x) hv hr)
   obtain ⟨R, HRR⟩ := nM (ctR V x)
   rw [HRR.out] at HTn HTy ⊢
   clear HRR hOK h hn hc hc3 hm hv hIs hCt hVW
   obtain ⟨g, b, p, t, A, c, xs, A2, c2, ms, A3, c3, gs, A4, c4, im⟩ := V
   simp only [Vl.v, Vl.cells, Vl.w, Vl.wcells] at *
   have b0 := Box.new w 49 #[ii g, ii b, ii p, ii t, sC A xs.length c, sC A2 ms.length c2, sC A3 gs.length c3, sC A4 im.length c4]
   have hx0 := (Nx.refl w).alloc (.cells #[ii g, ii b, ii p, ii t, sC A xs.length c, sC A2 ms.length c2, sC A3 gs.length c3, sC A4 im.length c4] 49)
   go_enter func24, ntmps24
   go_wp2_with fail
   generalize w.alloc (.cells #[ii g, ii b, ii p, ii t, sC A xs.length c, sC A2 ms.length c2, sC A3 gs.length c3, sC A4 im.length c4] 49) = W at *
   refine (HOK.out W hx0).mono ?_
   rintro e w1 ⟨rfl, hk⟩
   have hx := hx0.trans hk
   have b1 := b0.nx hk
   clear b0 hx0 hk
   obtain ⟨y0, y1, y2, y3, y4, y5, y6, y7⟩ := b1.e8
   go_wp2_with fail
   clear y0 y1 y2 y3 y4 y5 y6 y7
   refine (HVW.out _ hx).mono ?_
   rintro e w2 ⟨rfl, hk⟩
   replace hx := hx.trans hk
   clear b1 hk
   have rz := Box.new w2 107 #[ii 0, ii 0, ii 0, ii 0, nsl, nsl, nsl, ii 0, ii 0, ii 0, ii 0, ii 0, ii 0, ii 0, ii 0]
   have bv := rz.row #[ii g, ii b, ii p, ii t, sC A xs.length c, sC A2 ms.length c2, sC A3 gs.length c3, inAt im 0, inAt im 1, inAt im 2, inAt im 3, inAt im 4, inAt im 5, inAt im 6, inAt im 7]
   have hx5 := (hx.alloc (.cells #[ii 0, ii 0, ii 0, ii 0, nsl, nsl, nsl, ii 0, ii 0, ii 0, ii 0, ii 0, ii 0, ii 0, ii 0] 107)).setRow (g := w2.heap.size) hx.size #[ii g, ii b, ii p, ii t, sC A xs.length c, sC A2 ms.length c2, sC A3 gs.length c3, inAt im 0, inAt im 1, inAt im 2, inAt im 3, inAt im 4, inAt im 5, inAt im 6, inAt im 7]
   obtain ⟨y0, y1, y2, y3, y4, y5, y6, y7, y8, y9, y10, y11, y12, y13, y14⟩ := bv.e15
   go_wp2_with (refine wpList_store_row rfl _ _ _ rfl w2.heap.size #[ii g, ii b, ii p, ii t, sC A xs.length c, sC A2 ms.length c2, sC A3 gs.length c3, inAt im 0, inAt im 1, inAt im 2, inAt im 3, inAt im 4, inAt im 5, inAt im 6, inAt im 7] rfl rfl 107 #[ii 0, ii 0, ii 0, ii 0, nsl, nsl, nsl, ii 0, ii 0, ii 0, ii 0, ii 0, ii 0, ii 0, ii 0] rz (by kernel_rfl) rfl (by simp [Value.oneCell', inAt]) ?_)
   clear y0 y1 y2 y3 y4 y5 y6 y7 y8 y9 y10 y11 y12 y13 y14 rz hx
   generalize (w2.alloc (.cells #[ii 0, ii 0, ii 0, ii 0, nsl, nsl, nsl, ii 0, ii 0, ii 0, ii 0, ii 0, ii 0, ii 0, ii 0] 107)).setRow w2.heap.size #[ii g, ii b, ii p, ii t, sC A xs.length c, sC A2 ms.length c2, sC A3 gs.length c3, inAt im 0, inAt im 1, inAt im 2, inAt im 3, inAt im 4, inAt im 5, inAt im 6, inAt im 7] = W5 at *
   generalize w2.heap.size = gV at *
   refine (HIs.out _ hx5).mono ?_
   rintro e w6 ⟨rfl, hk⟩
   have bv6 := bv.nx hk
   have hx6 := hx5.trans hk
   clear bv hx5 hk
   cases hr : isRet b gs x with
   | false =>
     have HR := qh (HTn.out hr)
     clear hr
     go_wp2
     go_ret2
     exact ⟨none, 0, by rw [HR.out]; rfl, by rw [HR.out]; exact Sl.none_ _ _ _ _ _, hx6⟩
   | true =>
   have HR := qh (HTy.out hr)
   have HCt' := qh (fun (w' : World) (hx : Nx w w') => HCt.out w' hx hr)
   clear hr
   obtain ⟨y0, y1, y2, y3, y4, y5, y6, y7, y8, y9, y10, y11, y12, y13, y14⟩ := bv6.e15
   go_wp2_with fail
   clear y0 y1 y2 y3 y4 y5 y6 y7 y8 y9 y10 y11 y12 y13 y14 bv6
   refine (HCt'.out _ hx6).mono ?_
   rintro e w7 ⟨rfl, hk⟩
   have hx7 := hx6.trans hk
   obtain ⟨ys, Hys⟩ := nM (cntV b p t gs im x)
   rw [Hys.out] at HLc HR ⊢
   go_wp2_with fail
   refine (valuesList_c ys _ HLc.out).mono ?_
   rintro e w8 ⟨A9, c9, rfl, hS, hk8⟩
   have hs := hx7.size
   go_wp2
   go_ret2
   exact ⟨A9, c9, by rw [HR.out]; rfl, by rw [HR.out]; exact hS.low hs, hx7.trans hk8⟩

theorem VlS.ss {V V' : Vl} (h : VlS V V') : ssum V'.gs V'.gs.length = ssum V.gs V.gs.length := by
 unfold ssum
 rw [List.take_length, List.take_length]
 have := congrArg (List.map (fun q : Sg4 => q.2.2.2.length)) h.gs
 rw [List.map_map, List.map_map] at this
 exact congrArg List.sum this
theorem ctR_s {V V' : Vl} (h : VlS V V') (x : Int) : ctR V' x = ctR V x := by unfold ctR; rw [<- h.ok, h.b, h.p, h.t, h.im, isRet_v h.gs, cntV_v h.gs]
theorem isRet_at {b : Int} {gs : List SgR} {k : Nat} (h : k <= gs.length) : isRet b gs ((retL b gs).getD k 0) = true := by
 have := idx_lt (xs := retL b gs) (k := k) (n := (retL b gs).getD k 0) (by rw [retL_len]; omega) rfl
 unfold isRet
 exact decide_eq_true oM
theorem wpList_addRowI {w : World} {ops : Array Oper} {rest : List Oper} {o : Oper} {a : Act} {Q : Exit -> Act -> World -> Prop} (hgd : o.guard = none)
 (s x : Operand) (ho : o.op = .call { callee := .builtin .append, args := #[s, x], argTypes := #[23, 23] })
 (B B' : Nat) (v : Value) (ys : List Int) (A : Option Addr) (c : Nat) (xs : List Int) (hs : a.eval s = v) (hx : a.eval x = sC A xs.length c) (hown : RowI w B v ys) (hrow : Ins w B' A xs)
 (hm : xs.length <= 1048576) (hm2 : ys.length <= 1048576) (hB : B <= w.heap.size)
 (hK : ∀ v' w', RowI w' B v' (ys ++ xs) -> GrewT 3 B w w' -> wpList Tryz.prog ops Q rest (a.put o.dst v') w') :
 wpList Tryz.prog ops Q (o :: rest) a w := by
 obtain ⟨i0, hi0, hz0, hz1, hz2⟩ := info_parts info_int
 refine wpList_append_row hgd s x 23 ho B 3 i0 _ 1 8 underlying23 hi0 hz0 hz1 hz2 rfl oM v ys.length _ hs hown A xs.length c B' (inAt xs) hx (by rw [Nat.mul_one]; exact hrow) (fun _ => rfl) (by unfold maxLen; omega) oM hB ?_
 intro v' w' hw' hg'
 refine hK v' w' ?_ (grewT_of hown hg')
 unfold RowI
 have e : iV (ys ++ xs) = iV ys ++ (List.range (xs.length * 1)).map (inAt xs) := by
  rw [Nat.mul_one]
  refine List.ext_getElem? fun j => ?_
  by_cases h1 : j < ys.length
  . rw [iV_get _ j (by rw [List.length_append]; omega), List.getElem?_append_left (by rw [iV_len]; exact h1), iV_get ys j h1]
    unfold inAt
    rw [gdE, gdE, List.getElem?_append_left h1]
  . by_cases h2 : j < (ys ++ xs).length
    . rw [iV_get _ j h2, List.getElem?_append_right (by rw [iV_len]; omega), iV_len, List.getElem?_map, List.getElem?_range (by rw [List.length_append] at h2; omega)]
      unfold inAt
      rw [gdE, List.getElem?_append_right oM, <- gdE]; rfl
    . rw [List.getElem?_eq_none (by rw [iV_len]; omega), List.getElem?_eq_none (by rw [List.length_append, iV_len, List.length_map, List.length_range]; rw [List.length_append] at h2; omega)]
 rw [e, List.length_append]
 exact hw'
theorem implRetainedOfK_c (V : Vl) (B : Nat) (w : World) (hv : V.ok = true) (h : Vlt w B V) (hB : B <= w.heap.size) (hn : VlN V 1048576) (hc : V.xs.length <= V.c) (hc3 : V.gs.length <= V.c3) (hm : AllM V.ms) :
 Calls Tryz.prog 78 #[V.v] w (RetIcC w (retL V.b V.gs) 0) := by
 have hOK := vaultRight_c V B
 have hRt := retained_c V B
 have hVW := view_c V B
 have HY := qh (Vl.y hv)
 have HOK := qh (fun (w' : World) (hx : Nx w w') => hOK w' (h.below hx hB) (ntr hB hx.size) hn hc hc3 hm)
 have HVW := qh (fun (w' : World) (hx : Nx w w') => hVW w' (h.img.below hx hB) (ntr hB hx.size) HY.out.l8)
 have HRt := qh (fun (w' : World) (hx : Nx w w') => hRt w' (h.sgs.below hx hB) (ntr hB hx.size) hn.gs)
 rw [hv] at HOK
 clear hOK h hn hc hc3 hm hv hRt hVW
 obtain ⟨g, b, p, t, A, c, xs, A2, c2, ms, A3, c3, gs, A4, c4, im⟩ := V
 simp only [Vl.v, Vl.cells, Vl.w, Vl.wcells] at *
 have b0 := Box.new w 49 #[ii g, ii b, ii p, ii t, sC A xs.length c, sC A2 ms.length c2, sC A3 gs.length c3, sC A4 im.length c4]
 have hx0 := (Nx.refl w).alloc (.cells #[ii g, ii b, ii p, ii t, sC A xs.length c, sC A2 ms.length c2, sC A3 gs.length c3, sC A4 im.length c4] 49)
 go_enter func78, ntmps78
 go_wp2_with fail
 generalize w.alloc (.cells #[ii g, ii b, ii p, ii t, sC A xs.length c, sC A2 ms.length c2, sC A3 gs.length c3, sC A4 im.length c4] 49) = W at *
 refine (HOK.out W hx0).mono ?_
 rintro e w1 ⟨rfl, hk⟩
 have hx := hx0.trans hk
 have b1 := b0.nx hk
 clear b0 hx0 hk
 obtain ⟨y0, y1, y2, y3, y4, y5, y6, y7⟩ := b1.e8
 go_wp2_with fail
 clear y0 y1 y2 y3 y4 y5 y6 y7
 refine (HVW.out _ hx).mono ?_
 rintro e w2 ⟨rfl, hk⟩
 replace hx := hx.trans hk
 go_wp2_with fail
 refine (HRt.out _ hx).mono ?_
 rintro e w3 ⟨A9, c9, rfl, hcap, hS, hk⟩
 have hs := hx.size
 go_wp2
 go_ret2
 exact ⟨A9, c9, rfl, hcap, hS.low hs, hx.trans hk⟩
def conT (V : Vl) : Nat -> List Int
 | 0 => []
 | k + 1 => conT V k ++ cntV V.b V.p V.t V.gs V.im ((retL V.b V.gs).getD k 0)
theorem conT_len {V : Vl} (h8 : V.im.length = 8) : ∀ k, (conT V k).length = 8 * k
 | 0 => rfl
 | k + 1 => by
   show (conT V k ++ _).length = _
   rw [List.length_append, conT_len h8 k, cntV_len, h8]; omega
theorem contents_c (V : Vl) (B : Nat) (w : World) (hv : V.ok = true) (h : Vlt w B V) (hB : B <= w.heap.size) (hn : VlB V) (hc : V.xs.length <= V.c) (hc3 : V.gs.length <= V.c3) :
 Calls Tryz.prog 27 #[V.v] w fun e w' => ∃ (A1 : Option Addr) (k1 : Nat) (A2 : Option Addr) (k2 : Nat), e = .returned (.tuple #[sC A1 (V.gs.length + 1) k1, sC A2 (8 * (V.gs.length + 1)) k2, .bool true]) /\ V.gs.length + 1 <= k1 /\ 8 * (V.gs.length + 1) <= k2 /\ SlI w' w.heap.size A1 (retL V.b V.gs) /\ SlI w' w.heap.size A2 (conT V (V.gs.length + 1)) /\ Nx w w' := by
 have hY := Vl.y hv
 have h8 := hY.l8
 have hgs := hn.gs
 have hRt := fun (w' : World) (hx : Nx w w') => implRetainedOfK_c V B w' hv (h.below hx hB) (ntr hB hx.size) hn.n hc hc3 hn.mka
 have hCa := fun (w' : World) (x : Int) (hx : Nx w w') (hr : isRet V.b V.gs x = true) => by
  have k := implContentAt_c V x B w' (h.below hx hB) (ntr hB hx.size) hn.n hc hc3 hn.mka
  rw [ctR_yes hv hr] at k
  exact k
 have HRt := qh hRt
 have HCa := qh hCa
 have hI := fun k (hk : k <= V.gs.length) => isRet_at (b := V.b) (gs := V.gs) hk
 have HI := qh hI
 have HR8 := qh (fun x => (cntV_len V.b V.p V.t V.gs V.im x).trans h8)
 have HLN := qh (conT_len h8)
 have HS := qh (show ∀ k u, u = conT V (k + 1) -> u = conT V k ++ cntV V.b V.p V.t V.gs V.im ((retL V.b V.gs).getD k 0) from fun k u hu => hu)
 have HZ := qh (show ∀ u : List Int, u = conT V 0 -> u = [] from fun u hu => hu)
 generalize conT V = C at *
 have hrl := retL_len V.b V.gs
 clear hRt hCa hI hY h8 hn hc hc3 h hv
 obtain ⟨g, b, p, t, A, c, xs, A2, c2, ms, A3, c3, gs, A4, c4, im⟩ := V
 simp only [Vl.v, Vl.cells] at *
 generalize cntV b p t gs im = CV at *
 obtain ⟨N, HN⟩ := nM (gs.length + 1)
 have hN : 1 <= N /\ N <= 21 := by have := HN.out; omega
 rw [HN.out] at hrl ⊢
 have b0 := Box.new w 49 #[ii g, ii b, ii p, ii t, sC A xs.length c, sC A2 ms.length c2, sC A3 gs.length c3, sC A4 im.length c4]
 have hx0 := (Nx.refl w).alloc (.cells #[ii g, ii b, ii p, ii t, sC A xs.length c, sC A2 ms.length c2, sC A3 gs.length c3, sC A4 im.length c4] 49)
 obtain ⟨y0, y1, y2, y3, y4, y5, y6, y7⟩ := b0.e8
 go_enter func27, ntmps27
 go_wp2_with fail
 clear y0 y1 y2 y3 y4 y5 y6 y7
 generalize w.alloc (.cells #[ii g, ii b, ii p, ii t, sC A xs.length c, sC A2 ms.length c2, sC A3 gs.length c3, sC A4 im.length c4] 49) = W at *
 refine (HRt.out _ hx0).mono ?_
 rintro e w1 ⟨Al, cl, rfl, hcl, hSl, hk⟩
 rw [hrl] at hcl ⊢
 have hSl1 := hSl.low (lo' := w.heap.size) hx0.size
 have hWl := hx0.size
 have b1 := b0.nx hk
 have hx1 := hx0.trans hk
 have hr1 := RowI.new w1 nle
 have hka := (Nx.refl w1).alloc (.cells #[] 3)
 clear hSl hk hx0 b0 HRt
 go_wp2_with fail
 generalize w1.alloc (.cells #[] 3) = w2 at *
 go_loopw [7, 8] (fun v i wr => ∃ (k : Nat), k <= N /\ i = ii (k : Int) /\ (∃ u, u = v /\ RowI wr w1.heap.size u (C k)) /\ Nx w1 wr) (fun _ i _ => N - (intOf i).toNat)
 case atStart => exact ⟨0, oM, rfl, ⟨_, rfl, by rw [show C 0 = [] from HZ.out _ rfl]; exact hr1⟩, hka⟩
 case round =>
  obtain ⟨k, hk, rfl, ⟨u, rfl, hr⟩, hX1⟩ := hrel
  clear hr1 hka
  by_cases hlt : k < N
  case neg =>
   obtain rfl : k = N := oM
   obtain ⟨A', c', rfl, hcap, hS⟩ := hr.slc
   have HCL := qh (HLN.out k)
   rw [HCL.out] at hcap ⊢
   have hN0 : decide ((0 : Int) < (k : Int)) = true := decide_eq_true oM
   have hN1 : decide (0 < k) = true := decide_eq_true oM
   have hSl := hSl1.nx hX1
   have hXf := hx1.trans hX1
   have hwl := hx1.size
   go_wp2
   go_ret3
   exact ⟨Al, cl, A', c', rfl, hcl, hcap, hSl, hS.low oM, hXf⟩
  have hlt2 : (k : Int) < (N : Int) := oM
  have hk0 : (0 : Int) <= (k : Int) := oM
  have hSl := hSl1.nx hX1
  have hli : Ins wr wr.heap.size Al (retL b gs) := hSl.row
  obtain ⟨lb, lf, rfl, hlb, hlc⟩ := hli.at_ (k := k) oM
  have HRx := qh (HI.out k (by have := HN.out; omega))
  have HSk := qh (HS.out k)
  generalize (retL b gs).getD k 0 = x at hlc HRx HSk
  have HC8 := qh (HR8.out x)
  clear hli hSl
  have bb := b1.nx hX1
  go_wp2_with fail
  have bd := bb.nx (Nx.refl wr).drew
  have hX1d := hX1.drew
  have hXd := hx1.trans hX1d
  have hrd := hr.nx (Nx.refl wr).drew
  have hlcd : wr.drew.cell? ⟨lb, lf + k, none⟩ = some (ii x) := hlc
  have hlbd : lb < wr.drew.heap.size := hlb
  clear bb hX1 hr hlc hlb
  refine wp_lexA (kf5 (true :: kf5 ([]))) (fun w' => (CC w' w.heap.size 0 (ii g) /\ CC w' w.heap.size 1 (ii b) /\ CC w' w.heap.size 2 (ii p) /\ CC w' w.heap.size 3 (ii t) /\ CC w' w.heap.size 4 (sC A xs.length c) /\ CC w' w.heap.size 5 (sC A2 ms.length c2) /\ CC w' w.heap.size 6 (sC A3 gs.length c3) /\ CC w' w.heap.size 7 (sC A4 im.length c4)) /\ CC w' lb (lf + k) (ii x)) (by exact ⟨bd.e8, hlcd⟩) ?_
  refine hLr ?_
  refine hLc fun K hK => ?_
  go_simp
  refine (HCa.out _ x hXd HRx.out).mono ?_; rintro e w5 ⟨Ac, cc, rfl, hSc, hk⟩; have b5 := bd.nx hk; have hX5 := hX1d.trans hk; have hr5 := hrd.nx hk; have hlc5 := (Below.cell hk (p := ⟨lb, lf + k, none⟩) hlbd).trans hlcd; rw [HC8.out]
  go_wp2_with fail
  refine hK.out _ _ (by exact ⟨b5.e8, hlc5⟩) ?_
  clear hK K
  refine nZ ?_
  refine hLr ?_
  refine HL.done ?_
  clear bd hX1d hXd hrd hlcd hlbd hlc5 b5
  have hlC : (C k).length <= 1048576 := by have := HLN.out k; omega
  have hw1s := hX5.size
  go_wp2_with (at_builtin; refine wpList_addRowI rfl _ _ rfl w1.heap.size w5.heap.size u (C k) Ac cc (CV x) rfl (by rw [HC8.out]; rfl) hr5 hSc.row (by rw [HC8.out]; omega) hlC hw1s ?_)
  intro v' w6 hr6 hg6
  rw [<- HSk.out _ rfl] at hr6
  have hX6 := hg6.nx w1 hX5 nle
  clear hg6 hr5 hX5
  go_wp2
  go_roundw
  case rel => exact ⟨k + 1, oM, by go_num, ⟨_, rfl, hr6⟩, hX6⟩
  case measure => simp [intOf]; omega
theorem wOk_slot {s : Int} {t : BA} (hs : s = 0 \/ s = 1) (ht : t.size <= 300) : [(1 - s, t)].all wOk = true := by
 have h1 : secB (1 - s) = true := by
  unfold secB
  rcases hs with rfl | rfl <;> decide
 have h2 : sOk t = true := decide_eq_true ht
 simp [wOk, h1, h2]
theorem SlS.putT {w : World} {lo n gd i : Nat} {A : Option Addr} {ss : List BA} {t : TypeId} {cs : Array Value} (h : SlS w lo A n ss) (hb : Box w gd t cs) (hne : 9 ≠ t) (v : Value) : SlS (w.setCell ⟨gd, i, none⟩ v) lo A n ss :=
 ⟨h.1, fun hn => by obtain ⟨g, e, hl, ho⟩ := h.2 hn; exact ⟨g, e, hl, Own.far ho (Own.ne_type (box_own hb) ho hne) v⟩⟩
theorem setRg (w : World) (p : Addr) (v : Value) : Rg p.block (p.block + 1) w (w.setCell p v) := (Rg.of_nx (Nx.refl w)).setCell nle (Nat.lt_succ_self _) v
theorem SlS.len {w : World} {lo n : Nat} {A : Option Addr} {ss : List BA} (h : SlS w lo A n ss) : ss.length = n := h.1
theorem vaultDisk_c (g : Nat) (A : Option Addr) (n c B k0 : Nat) (ys : List Nat) (w : World) (hb : SrcR w g A n c k0) (h : U8s w B A n ys) (hB : B <= g) (hn : n <= 1048576) (hk0 : k0 <= 700000) :
 Calls Tryz.prog 64 #[.pointer (some ⟨g, 0, none⟩)] w fun e w' => ∃ (A1 : Option Addr) (c1 : Nat) (A2 : Option Addr) (c2 : Nat) (ss : List BA) (V : Vl), e = .returned (.agg #[sC A1 64 c1, sC A2 0 c2]) /\ Dv ss V 41 /\ SlS w' w.heap.size A1 64 ss /\ SrcR w' g A n c (k0 + 700) /\ Rg g (g + 1) w w' := by
 have hz0 := hb.lt
 have zr := Box.new w 35 #[nsl, nsl]
 have zt : Rg g (g + 1) w (w.alloc (.cells #[nsl, nsl] 35)) := Rg.of_nx ((Nx.refl w).alloc _)
 have zs := hb.nx ((Nx.refl w).alloc (.cells #[nsl, nsl] 35))
 go_enter func64, ntmps64
 go_wp2_with fail
 generalize w.alloc (.cells #[nsl, nsl] 35) = W at *
 clear hb
 refine (content_c g A n c B k0 ys W zs (h.rg zt hB (Nat.le_of_lt hz0)) hB hn oM).mono ?_
 rintro e w1 ⟨Ac, cc, xs, rfl, hx8, hsm, hSc, zs2, rr⟩
 have hWl := zr.lt
 replace zr := zr.rg rr (.inr oM)
 replace zt := zt.trans rr
 replace zs := zs2
 clear rr zs2
 have hc := hsm.cont hx8
 have hDv := Dv.fm hc
 have hF := l05Format_c Ac cc w1.heap.size xs w1 hSc.row nle hc
 rw [hx8] at hF
 have HF := qh hF
 clear hF hSc hx8 hsm hc
 go_wp2_with fail
 refine HF.out.mono ?_
 rintro e w2 ⟨Ad, nn, cd, A2, mm, c2, rfl, zS, hW, hk⟩
 obtain rfl : 64 = nn := (fmT_len xs 8).symm.trans zS.1
 obtain rfl : 0 = mm := hW.1
 have hlo := zr.lt
 clear hW HF
 replace zr := zr.nx hk
 replace zt := zt.trans (Rg.of_nx hk)
 replace zs := zs.nx hk
 clear hk
 replace zS := zS.low (lo' := w.heap.size + 1) oM
 have zd := Box.new w2 35 #[sC Ad 64 cd, sC A2 0 c2]
 have hk := (Nx.refl w2).alloc (.cells #[sC Ad 64 cd, sC A2 0 c2] 35)
 have hgd : w.heap.size < w2.heap.size := zr.lt
 replace zr := zr.nx hk
 replace zt := zt.trans (Rg.of_nx hk)
 replace zs := zs.nx hk
 replace zS := zS.nx hk
 clear hk
 go_wp2_with fail
 generalize w2.alloc (.cells #[sC Ad 64 cd, sC A2 0 c2] 35) = w3 at *
 generalize w2.heap.size = gd at *
 refine (size_c g A n c (k0 + 24) w3 zs hn).mono ?_
 rintro e w4 ⟨m, rfl, hm, hk⟩
 replace zr := zr.nx hk
 replace zt := zt.trans (Rg.of_nx hk)
 replace zs := zs.nx hk
 replace zS := zS.nx hk
 replace zd := zd.nx hk
 clear hk
 obtain ⟨m5, Hm5⟩ := nM (m + 5 : Nat)
 have hw5 : IntKind.i64.wrap ((m : Int) + 5) = (m5 : Int) := by have := Hm5.out; rw [IntWalk.i64_in _ oM]; omega
 go_wp2_with fail
 refine (nextR_c m5 g A n c (k0 + 24) B ys w4 (by have := Hm5.out; omega) (by have := Hm5.out; omega) zs (h.rg zt hB (Nat.le_of_lt hz0)) hB hn oM).mono ?_
 rintro e w5 ⟨j0, rfl, hj0, zs2, rr⟩
 replace zr := zr.rg rr (.inr oM)
 replace zt := zt.trans rr
 replace zs := zs2
 replace zS := zS.rg rr oM
 replace zd := zd.rg rr (.inr oM)
 clear rr zs2
 have hj20 : j0 <= 20 := by have := Hm5.out; omega
 clear hw5 hj0
 go_wp2_with fail
 go_loopw [4, 5] (fun tm i wr => ∃ (T j : Nat) (Ad : Option Addr) (cd : Nat) (A2 : Option Addr) (c2 : Nat) (ss : List BA) (V : Vl), j <= 20 /\ tm = ii (T : Int) /\ i = ii (j : Int) /\ T <= 9 * (20 - j) /\ Hid (Dv ss V (1 + 2 * ((20 - j : Nat) : Int))) /\ SrcR wr g A n c (k0 + 27 + 30 * (20 - j)) /\ Rg g (g + 1) w wr /\ Box wr w.heap.size 35 #[nsl, nsl] /\ Box wr gd 35 #[sC Ad 64 cd, sC A2 0 c2] /\ SlS wr (w.heap.size + 1) Ad 64 ss) (fun _ i _ => (intOf i).toNat)
 case atStart => exact ⟨0, j0, Ad, cd, A2, c2, _, _, hj20, rfl, rfl, oM, qh (hDv.more oM), zs.more oM, zt, zr, zd, zS⟩
 case round =>
  clear zs zt zr zd zS hDv
  obtain ⟨T, j, Ad, cd, A2, c2, ss, V, hj, rfl, rfl, hT, HD, zs, zt, zr, zd, zS⟩ := hrel
  obtain ⟨K, HK⟩ := nM (1 + 2 * ((20 - j : Nat) : Int) : Int)
  rw [HK.out] at HD
  obtain ⟨k1, Hk1⟩ := nM (k0 + 27 + 30 * (20 - j))
  rw [Hk1.out] at zs
  have hK : K <= 41 := by have := HK.out; omega
  have hk1 : k1 <= 800000 := by have := Hk1.out; omega
  by_cases hlt : 0 < j
  case neg =>
   have HJ := qh (show j = 0 by omega)
   have hdj : decide (0 < (j : Int)) = false := by simp; omega
   have hdj2 : decide (0 < j) = false := by simp; omega
   clear hlt
   have zdy0 := zd.c0
   have zdy1 := zd.c1
   have zdyl := zd.lt
   have hdi := HD.out.disk
   have h64 := (diskB_len64 hdi).1
   go_wp2_with fail
   clear zdy0 zdy1 zdyl
   refine (l01Own_c Ad A2 64 cd 0 c2 wr.heap.size ss [] wr zS.strs ⟨rfl, fun h => absurd h oM⟩ nle oM oM).mono ?_
   rintro e w6 ⟨Ao, nn, co, Ao2, mm, co2, rfl, hS6, hW6, hk⟩
   obtain rfl : 64 = nn := h64.symm.trans hS6.1
   obtain rfl : 0 = mm := hW6.1
   have hle := zr.lt
   have zr6 := zr.nx hk
   have zt6 := zt.trans (Rg.of_nx hk)
   have zs6 := zs.nx hk
   have y0 := zr6.c0
   have y1 := zr6.c1
   have f0 := zr6.frozen 0
   have f1 := zr6.frozen 1
   have rl := zr6.lt
   go_wp2
   have rq := (zr6.set0 (sC Ao 64 co)).set1 (sC Ao2 0 co2)
   have rS := ((hS6.far (p := ⟨w.heap.size, 0, none⟩) hle (sC Ao 64 co)).far (p := ⟨w.heap.size, 1, none⟩) hle (sC Ao2 0 co2)).low (lo' := w.heap.size) oM
   have rs := (zs6.farU (p := ⟨w.heap.size, 0, none⟩) sM (sC Ao 64 co)).farU (p := ⟨w.heap.size, 1, none⟩) sM (sC Ao2 0 co2)
   have rt := (zt6.setNew8 (p := ⟨w.heap.size, 0, none⟩) (by simp) (sC Ao 64 co)).setNew8 (p := ⟨w.heap.size, 1, none⟩) (by simp) (sC Ao2 0 co2)
   generalize (w6.setCell ⟨w.heap.size, 0, none⟩ (sC Ao 64 co)).setCell ⟨w.heap.size, 1, none⟩ (sC Ao2 0 co2) = Wf at *
   have q0 := rq.c0
   have q1 := rq.c1
   exact bodyPost_ret (v := .agg #[sC Ao 64 co, sC Ao2 0 co2]) (by simp [results, results64, go_sem, q0, q1]) rfl ⟨Ao, co, Ao2, co2, ss, V, rfl, HD.out.more oM, rS, rs.more (by have := Hk1.out; omega), rt⟩
  have hdj : decide (0 < (j : Int)) = true := by simp; omega
  have hdj2 : decide (0 < j) = true := by simp; omega
  have hgdl := zd.lt
  have zdy0 := zd.c0
  have zdy1 := zd.c1
  have zdyl := zd.lt
  go_wp2_with fail
  clear zdy0 zdy1 zdyl
  refine (nextFrame_c g A n c B k1 ys Ad cd A2 c2 (w.heap.size + 1) ss V K wr zs (h.rg zt hB (Nat.le_of_lt hz0)) hB hn oM zS HD.out oM).mono ?_
  rintro e w6 ⟨p, q1, q2, q3, rfl, hf, zs2, rr⟩
  replace zs := zs2
  replace zt := zt.trans rr
  replace zr := zr.rg rr (.inr oM)
  replace zd := zd.rg rr (.inr oM)
  replace zS := zS.rg rr oM
  clear rr zs2
  have zf := Box.new w6 55 #[ii p, ii (q1 : Int), ii (q2 : Int), ii (q3 : Int)]
  have hk := (Nx.refl w6).alloc (.cells #[ii p, ii (q1 : Int), ii (q2 : Int), ii (q3 : Int)] 55)
  have hgf : gd < w6.heap.size := zd.lt
  replace zs := zs.nx hk
  replace zt := zt.trans (Rg.of_nx hk)
  replace zr := zr.nx hk
  replace zd := zd.nx hk
  replace zS := zS.nx hk
  clear hk
  go_wp2_with fail
  generalize w6.alloc (.cells #[ii p, ii (q1 : Int), ii (q2 : Int), ii (q3 : Int)] 55) = w7 at *
  generalize w6.heap.size = gf at *
  refine (nextR_c 9 g A n c (k1 + 18) B ys w7 oM oM zs (h.rg zt hB (Nat.le_of_lt hz0)) hB hn oM).mono ?_
  rintro e w8 ⟨x, rfl, hx, zs2, rr⟩
  replace zs := zs2
  replace zt := zt.trans rr
  replace zr := zr.rg rr (.inr oM)
  replace zd := zd.rg rr (.inr oM)
  replace zS := zS.rg rr oM
  replace zf := zf.rg rr (.inr oM)
  clear rr zs2
  obtain ⟨T2, HT2⟩ := nM (T + x : Nat)
  have hw2 : IntKind.i64.wrap ((T : Int) + (x : Int)) = (T2 : Int) := by have := HT2.out; rw [IntWalk.i64_in _ oM]; omega
  have hT2 : T2 <= 9 * (20 - (j - 1)) := by have := HT2.out; omega
  have HFr := qh (show frameB p (q1 : Int) (q2 : Int) (T2 : Int) = true by have := HT2.out; have := hf; unfold frameB inB; simp; omega)
  obtain ⟨zfy0, zfy1, zfy2, zfy3⟩ := zf.d4
  have zfyl := zf.lt
  have zff := zf.frozen 3
  have hgdf : gd ≠ gf := oM
  have hgfd : gf ≠ gd := oM
  have zdy0 := zd.c0
  have zdy1 := zd.c1
  have zdyl := zd.lt
  go_wp2_with fail
  clear zdy0 zdy1 zdyl
  clear zfy0 zfy1 zfy2 zfy3 zfyl
  clear zff hw2
  have zf2 := zf.set 3 (ii (T2 : Int))
  simp only [List.setIfInBounds_toArray, List.set_cons_zero, List.set_cons_succ] at zf2
  replace zs := zs.farU (p := ⟨gf, 3, none⟩) sM (ii (T2 : Int))
  replace zt := zt.setNew8 (p := ⟨gf, 3, none⟩) sM (ii (T2 : Int))
  replace zr := zr.far (p := ⟨gf, 3, none⟩) sM (ii (T2 : Int))
  replace zd := zd.far (p := ⟨gf, 3, none⟩) sM (ii (T2 : Int))
  replace zS := zS.putT (i := 3) zf dC (ii (T2 : Int))
  clear zf
  generalize w8.setCell ⟨gf, 3, none⟩ (ii (T2 : Int)) = w9 at *
  obtain ⟨ss2, V2, hse, hl2, hn2, hw2, hD2⟩ := HD.out.app oM HFr.out
  have HSE := qh hse
  have HD2 := qh hD2
  have HW2 := qh hw2
  clear hse hD2 hw2
  refine (l05Append_c Ad A2 64 cd 0 c2 w9.heap.size ss p (q2 : Int) (T2 : Int) q1 w9 zS.strs ⟨rfl, fun h => absurd h oM⟩ nle HD.out.disk HFr.out).mono ?_
  rintro e w10 ⟨Ax, nn, cx, Ax2, mm, cx2, rfl, hXS, hXW, hk⟩
  obtain rfl : 64 = nn := hl2.symm.trans hXS.1
  generalize apP ss p q1 (q2 : Int) (T2 : Int) = R at *
  obtain ⟨⟨R1, R2⟩, cR⟩ := R
  simp only at *
  obtain rfl : R2.length = mm := hXW.1
  clear zS zf2
  replace zs := zs.nx hk
  replace zt := zt.trans (Rg.of_nx hk)
  replace zr := zr.nx hk
  replace zd := zd.nx hk
  clear hk
  have hk := (Nx.refl w10).alloc (.cells #[sC Ax 64 cx, sC Ax2 R2.length cx2] 35)
  have hXS2 := hXS.below hk nle
  have hXW2 := hXW.below hk nle
  have hXl : w10.heap.size <= (w10.alloc (.cells #[sC Ax 64 cx, sC Ax2 R2.length cx2] 35)).heap.size := hk.size
  clear hXS hXW
  replace zs := zs.nx hk
  replace zt := zt.trans (Rg.of_nx hk)
  replace zr := zr.nx hk
  replace zd := zd.nx hk
  clear hk
  go_wp2_with fail
  generalize w10.alloc (.cells #[sC Ax 64 cx, sC Ax2 R2.length cx2] 35) = w11 at *
  refine (l01Flush_c Ax Ax2 cx R2.length cx2 w10.heap.size R1 R2 w11 hXS2 hXW2 hXl oM HW2.out).mono ?_
  rintro e w12 ⟨An, nn, cn, An2, mm, cn2, rfl, zS, hW, hk⟩
  rw [HSE.out] at zS
  obtain rfl : 64 = nn := (diskB_len64 HD2.out.disk).1.symm.trans zS.1
  obtain rfl : 0 = mm := hW.1
  have hdl := zd.lt
  clear hW hXS2 hXW2
  replace zs := zs.nx hk
  replace zt := zt.trans (Rg.of_nx hk)
  replace zr := zr.nx hk
  replace zd := zd.nx hk
  clear hk
  have zdy0 := zd.c0
  have zdy1 := zd.c1
  have zdyl := zd.lt
  have zdf0 := zd.frozen 0
  have zdf1 := zd.frozen 1
  go_wp2_with fail
  clear zdy0 zdy1 zdyl
  clear zdf0 zdf1
  replace zs := zs.farU (p := ⟨gd, 0, none⟩) sM (sC An 64 cn)
  replace zt := zt.setNew8 (p := ⟨gd, 0, none⟩) sM (sC An 64 cn)
  replace zr := zr.far (p := ⟨gd, 0, none⟩) sM (sC An 64 cn)
  replace zS := zS.far (p := ⟨gd, 0, none⟩) hdl (sC An 64 cn)
  replace zs := zs.farU (p := ⟨gd, 1, none⟩) sM (sC An2 0 cn2)
  replace zt := zt.setNew8 (p := ⟨gd, 1, none⟩) sM (sC An2 0 cn2)
  replace zr := zr.far (p := ⟨gd, 1, none⟩) sM (sC An2 0 cn2)
  replace zS := zS.far (p := ⟨gd, 1, none⟩) hdl (sC An2 0 cn2)
  replace zd := (zd.set0 (sC An 64 cn)).set1 (sC An2 0 cn2)
  replace zS := zS.low (lo' := w.heap.size + 1) oM
  generalize (w12.setCell ⟨gd, 0, none⟩ (sC An 64 cn)).setCell ⟨gd, 1, none⟩ (sC An2 0 cn2) = w13 at *
  refine (chanceU_c 4 g A n c (k1 + 21) B ys w13 oM oM zs (h.rg zt hB (Nat.le_of_lt hz0)) hB hn oM).mono ?_
  rintro e w14 ⟨ch, rfl, zs2, rr⟩
  replace zs := zs2
  replace zt := zt.trans rr
  replace zr := zr.rg rr (.inr oM)
  replace zd := zd.rg rr (.inr oM)
  replace zS := zS.rg rr oM
  clear rr zs2
  cases ch with
  | false =>
    go_wp2
    go_roundw
    case rel => exact ⟨T2, j - 1, An, cn, An2, cn2, ss2, V2, oM, rfl, by go_num, hT2, qh (HD2.out.more (by have := HK.out; omega)), zs.more (by have := Hk1.out; omega), zt, zr, zd, zS⟩
    case measure => simp [intOf]; omega
  | true =>
    have zdy0 := zd.c0
    have zdy1 := zd.c1
    have zdyl := zd.lt
    go_wp2_with fail
    clear zdy0 zdy1 zdyl
    obtain ⟨vg, vb, vp, vt, va0, vc0, xs, va1, vc1, ms, va2, vc2, gs, va3, vc3, im⟩ := V2
    have hVB := ldV_b HD2.out.disk
    rw [HD2.out.ld.v] at hVB
    have HVB := qh hVB
    clear hVB
    have HV := l05Load_c An An2 64 cn 0 cn2 w14.heap.size ss2 [] w14 zS.strs ⟨rfl, fun h => absurd h oM⟩ nle oM oM HD2.out.disk
    rw [HD2.out.ld.v] at HV
    have HV := qh HV
    refine HV.out.mono ?_
    clear HV
    intro e w15 hR
    obtain ⟨Bx, bx, Bm, bm, Bg, bg, gs2, Bi, bi, mid, rfl, hs, zP, hk⟩ := hR.un
    clear hR
    have HVN := qh (HVB.out.s hs).n
    have hPl : w14.heap.size <= w15.heap.size := hk.size
    have hg14 : g + 1 <= w14.heap.size := by have := zt.size; omega
    replace zs := zs.nx hk
    replace zt := zt.trans (Rg.of_nx hk)
    replace zr := zr.nx hk
    replace zd := zd.nx hk
    replace zS := zS.nx hk
    clear hk
    have zv := Box.new w15 49 #[ii vg, ii vb, ii vp, ii vt, sC Bx xs.length bx, sC Bm ms.length bm, sC Bg gs2.length bg, sC Bi im.length bi]
    have hk := (Nx.refl w15).alloc (.cells #[ii vg, ii vb, ii vp, ii vt, sC Bx xs.length bx, sC Bm ms.length bm, sC Bg gs2.length bg, sC Bi im.length bi] 49)
    have hdv : gd < w15.heap.size := zd.lt
    replace zs := zs.nx hk
    replace zt := zt.trans (Rg.of_nx hk)
    replace zr := zr.nx hk
    replace zd := zd.nx hk
    replace zS := zS.nx hk
    replace zP := zP.nx hk
    clear hk
    obtain ⟨zvy0, zvy1, zvy2, zvy3, zvy4, zvy5, zvy6, zvy7⟩ := zv.e8
    have zvyl := zv.lt
    by_cases hpt : vp = vt
    case neg =>
     have hpd : decide (vp = vt) = false := decide_eq_false hpt
     have hpd2 : (vp == vt) = false := by simp [hpt]
     clear hpt
     go_wp2
     go_roundw
     case rel => exact ⟨T2, j - 1, An, cn, An2, cn2, ss2, _, oM, rfl, by go_num, hT2, qh (HD2.out.more (by have := HK.out; omega)), zs.more (by have := Hk1.out; omega), zt, zr, zd, zS⟩
     case measure => simp [intOf]; omega
    subst hpt
    go_wp2_with fail
    clear zvy0 zvy1 zvy2 zvy3 zvy4 zvy5 zvy6 zvy7 zvyl
    generalize w15.alloc (.cells #[ii vg, ii vb, ii vp, ii vp, sC Bx xs.length bx, sC Bm ms.length bm, sC Bg gs2.length bg, sC Bi im.length bi] 49) = w16 at *
    generalize w15.heap.size = gv at *
    refine (l05Retained_c ⟨vg, vb, vp, vp, Bx, bx, xs, Bm, bm, ms, Bg, bg, gs2, Bi, bi, im⟩ w16.heap.size w16 zP.own.vlt nle HVN.out).mono ?_
    rintro e w17 ⟨Al, cl, rfl, _, zL, hk⟩
    have hg16 : g + 1 <= w16.heap.size := by have := zt.size; omega
    have hlen : (retL vb gs2).length = gs2.length + 1 := retL_len vb gs2
    have hg2 : gs2.length = gs.length := hs.len
    have hg20 := HVB.out.gs
    simp only at hg2 hg20
    have hvl := zv.lt
    replace zs := zs.nx hk
    replace zt := zt.trans (Rg.of_nx hk)
    replace zr := zr.nx hk
    replace zd := zd.nx hk
    replace zS := zS.nx hk
    replace zP := zP.nx hk
    replace zv := zv.nx hk
    clear hk
    obtain ⟨l1, Hl1⟩ : ∃ l1, Hid (l1 = gs2.length + 1) := ⟨_, qh rfl⟩
    rw [show (retL vb gs2).length = l1 by rw [hlen]; exact Hl1.out.symm]
    go_wp2_with fail
    refine (nextM_c l1 g A n c (k1 + 24) B ys w17 (by have := Hl1.out; omega) (by have := Hl1.out; omega) zs (h.rg zt hB (Nat.le_of_lt hz0)) hB hn oM).mono ?_
    rintro e w18 ⟨y, rfl, hy, zs2, rr⟩
    replace zs := zs2
    replace zt := zt.trans rr
    replace zr := zr.rg rr (.inr oM)
    replace zd := zd.rg rr (.inr oM)
    replace zS := zS.rg rr oM
    replace zP := zP.rg rr (.inr oM)
    replace zv := zv.rg rr (.inr oM)
    replace zL := (zL.sr.rg rr (.inr oM)).sl
    clear rr zs2
    have HL1 := Hl1.out
    have hret : retL vb gs2 = retL vb gs := retL_v hs.gs vb
    rw [hret] at zL
    have zLi : Ins w18 w18.heap.size Al (retL vb gs) := zL.row
    obtain ⟨lb, lf, rfl, hlb, hlc⟩ := zLi.at_ (k := y) (by rw [retL_len]; omega)
    have hy1 : (y : Int) < (l1 : Int) := oM
    have hy2 : (0 : Int) <= (y : Int) := oM
    have HRT := qh (isRet_at (b := vb) (gs := gs) (k := y) oM)
    generalize (retL vb gs).getD y 0 = t at hlc HRT
    obtain ⟨hsu, hdv⟩ := HD2.out.aim oM rfl HRT.out
    have HSU := qh hsu
    have HDV := qh hdv
    clear hsu hdv HL1 hlen hret zLi
    obtain ⟨zvy0, zvy1, zvy2, zvy3, zvy4, zvy5, zvy6, zvy7⟩ := zv.e8
    have zvyl := zv.lt
    have zvf := zv.frozen 3
    have zdy0 := zd.c0
    have zdy1 := zd.c1
    have zdyl := zd.lt
    have hdvl : gd ≠ gv := oM
    have hdvl2 : gv ≠ gd := oM
    go_wp2_with fail
    clear zdy0 zdy1 zdyl
    clear zvy0 zvy1 zvy2 zvy3 zvy4 zvy5 zvy6 zvy7 zvyl
    clear zvf hlc hlb zL
    replace zs := zs.farU (p := ⟨gv, 3, none⟩) sM (ii t)
    replace zt := zt.setNew8 (p := ⟨gv, 3, none⟩) sM (ii t)
    replace zr := zr.far (p := ⟨gv, 3, none⟩) sM (ii t)
    replace zd := zd.far (p := ⟨gv, 3, none⟩) hdvl (ii t)
    replace zS := zS.putT (i := 3) zv dC (ii t)
    replace zP := zP.rg (setRg w18 ⟨gv, 3, none⟩ (ii t)) (.inl nle)
    clear zv
    generalize w18.setCell ⟨gv, 3, none⟩ (ii t) = w19 at *
    refine (l04Put_c An An2 64 cn 0 cn2 w19.heap.size ss2 [] vg vb vp t Bx Bm bx bm xs ms w19 zS.strs ⟨rfl, fun h => absurd h oM⟩ zP.tab.sl.row zP.mks.sl.row nle oM oM oM (by rw [readP_nil]; have := sOk_at (diskB_len64 HD2.out.disk).2.2.1 0; omega) (by rw [readP_nil]; have := sOk_at (diskB_len64 HD2.out.disk).2.2.1 1; omega) _ _ HD2.out.ld.nu HSU.out).mono ?_
    rintro e w20 ⟨A5, n5, c5, rfl, hW5, hk⟩
    obtain rfl : 1 = n5 := hW5.1
    replace zs := zs.nx hk
    replace zt := zt.trans (Rg.of_nx hk)
    replace zr := zr.nx hk
    replace zd := zd.nx hk
    replace zS := zS.nx hk
    replace zP := zP.nx hk
    clear hk
    go_wp2_with fail
    refine (l01Flush_c An A5 cn 1 c5 w20.heap.size ss2 _ w20 zS.strs hW5.wrs nle oM (wOk_slot HD2.out.ld.slot (supT_size HSU.out))).mono ?_
    rintro e w21 ⟨Aq, nn, cq, Aq2, mm, cq2, rfl, zS2, hW, hk⟩
    replace zS2 : SlS w21 w20.heap.size Aq nn (ss2.set (1 - sltV ss2 []).toNat (supT (vg + 1) vb vp t xs ms)) := zS2
    obtain rfl : 64 = nn := (diskB_len64 HDV.out.disk).1.symm.trans zS2.1
    obtain rfl : 0 = mm := hW.1
    clear hW hW5 zS zP
    have hdl := zd.lt
    replace zs := zs.nx hk
    replace zt := zt.trans (Rg.of_nx hk)
    replace zr := zr.nx hk
    replace zd := zd.nx hk
    clear hk
    have zS := zS2
    clear zS2
    have zdy0 := zd.c0
    have zdy1 := zd.c1
    have zdyl := zd.lt
    have zdf0 := zd.frozen 0
    have zdf1 := zd.frozen 1
    go_wp2_with fail
    clear zdy0 zdy1 zdyl
    clear zdf0 zdf1
    replace zs := zs.farU (p := ⟨gd, 0, none⟩) sM (sC Aq 64 cq)
    replace zt := zt.setNew8 (p := ⟨gd, 0, none⟩) sM (sC Aq 64 cq)
    replace zr := zr.far (p := ⟨gd, 0, none⟩) sM (sC Aq 64 cq)
    replace zS := zS.far (p := ⟨gd, 0, none⟩) hdl (sC Aq 64 cq)
    replace zs := zs.farU (p := ⟨gd, 1, none⟩) sM (sC Aq2 0 cq2)
    replace zt := zt.setNew8 (p := ⟨gd, 1, none⟩) sM (sC Aq2 0 cq2)
    replace zr := zr.far (p := ⟨gd, 1, none⟩) sM (sC Aq2 0 cq2)
    replace zS := zS.far (p := ⟨gd, 1, none⟩) hdl (sC Aq2 0 cq2)
    replace zd := (zd.set0 (sC Aq 64 cq)).set1 (sC Aq2 0 cq2)
    replace zS := zS.low (lo' := w.heap.size + 1) oM
    generalize (w21.setCell ⟨gd, 0, none⟩ (sC Aq 64 cq)).setCell ⟨gd, 1, none⟩ (sC Aq2 0 cq2) = w22 at *
    go_wp2
    go_roundw
    case rel => exact ⟨T2, j - 1, Aq, cq, Aq2, cq2, _, _, oM, rfl, by go_num, hT2, qh (HDV.out.more (by have := HK.out; omega)), zs.more (by have := Hk1.out; omega), zt, zr, zd, zS⟩
    case measure => simp [intOf]; omega
def RetWS (w : World) (ss : List BA) (ws : List (Int × BA)) (b p t : Int) (xs : List Int) (ms : List Mrk) (o : Option (U6 × Int)) (e : Ending) (w' : World) : Prop :=
 Nx w w' /\ (o = none -> e = .returned (.tuple #[.agg #[nsl, nsl], slE 1 19])) /\ (∀ u s, o = some (u, s) -> u.1 = 999999 -> e = .returned (.tuple #[.agg #[nsl, nsl], slE s 7])) /\
 ∀ u s, o = some (u, s) -> u.1 ≠ 999999 -> ∃ A n c A2 n2 c2, e = .returned (.tuple #[.agg #[sC A n c, sC A2 n2 c2], .nilIface]) /\ SlS w' w.heap.size A n (settleTo kpAll ss ws ws.length) /\ SlW w' w.heap.size A2 n2 ([] ++ [(1 - s, nxtS u b p t xs ms)])
section
variable {w w' : World} {ss : List BA} {ws : List (Int × BA)} {b p t : Int} {xs : List Int} {ms : List Mrk} {o : Option (U6 × Int)} {u : U6} {s : Int}
theorem RetWS.no (h : o = none) (hn : Nx w w') : RetWS w ss ws b p t xs ms o (.returned (.tuple #[.agg #[nsl, nsl], slE 1 19])) w' :=
 ⟨hn, (fun _ => rfl), (fun u s h2 => by rw [h] at h2; cases h2), fun u s h2 => by rw [h] at h2; cases h2⟩
theorem RetWS.full (h : o = some (u, s)) (h9 : u.1 = 999999) (hn : Nx w w') : RetWS w ss ws b p t xs ms o (.returned (.tuple #[.agg #[nsl, nsl], slE s 7])) w' :=
 ⟨hn, (fun h2 => by rw [h] at h2; cases h2), (fun u' s' h2 _ => by rw [h] at h2; cases h2; rfl), fun u' s' h2 h3 => by rw [h] at h2; cases h2; exact absurd h9 h3⟩
theorem RetWS.yes {A A2 : Option Addr} {n c n2 c2 : Nat} {R1 : List BA} (h : o = some (u, s)) (h9 : u.1 ≠ 999999 /\ R1 = settleTo kpAll ss ws ws.length) (hS : SlS w' w.heap.size A n R1) (hW : SlW w' w.heap.size A2 n2 ([] ++ [(1 - s, nxtS u b p t xs ms)])) (hn : Nx w w') :
 RetWS w ss ws b p t xs ms o (.returned (.tuple #[.agg #[sC A n c, sC A2 n2 c2], .nilIface])) w' :=
 ⟨hn, (fun h2 => by rw [h] at h2; cases h2), (fun u' s' h2 h3 => by rw [h] at h2; cases h2; exact absurd h3 h9.1), fun u' s' h2 _ => by rw [h] at h2; cases h2; rw [h9.2] at hS; exact ⟨A, n, c, A2, n2, c2, rfl, hS, hW⟩⟩
end
theorem withSuper_c (A A2 : Option Addr) (n c n2 c2 B : Nat) (ss : List BA) (ws : List (Int × BA)) (g b p t : Int) (Ax Am : Option Addr) (cx cm : Nat) (xs : List Int) (ms : List Mrk) (w : World) (a0 a1 : Addr) (h : Strs w B A n ss) (h2 : Wrs w B A2 n2 ws) (hs : Ins w B Ax xs) (hmk : Mks w B Am ms) (hB : B <= w.heap.size) (hD : diskB ss ws = true) (hO : superB g b p t xs ms = true)
 (hE : Er w a0 a1) (hM : Mx w) (hEt : Et w) (hT : Tab w) :
 Calls Tryz.prog 54 #[.agg #[sC A n c, sC A2 n2 c2], .agg #[ii g, ii b, ii p, ii t, sC Ax xs.length cx, sC Am ms.length cm]] w (RetWS w ss ws b p t xs ms (newU (rdU (readP ss ws 0)) (rdU (readP ss ws 1)))) := by
 have HD := qh hD
 have HO := qh hO
 clear hD hO
 obtain rfl : n = 64 := by rw [<- h.1]; exact (diskB_len64 HD.out).1
 have HL64 := qh (diskB_len64 HD.out).1
 have hn80 : n2 <= 80 := by rw [<- h2.1]; exact (diskB_len64 HD.out).2.1
 have HWo := qh (diskB_len64 HD.out).2.2.2
 have e0 : Box (((w.alloc (.cells #[sC A 64 c, sC A2 n2 c2] 35)).alloc (.cells #[ii g, ii b, ii p, ii t, sC Ax xs.length cx, sC Am ms.length cm] 26)).alloc (.cells #[nsl, nsl] 35)) w.heap.size 35 #[sC A 64 c, sC A2 n2 c2] := ((Box.new w _ _).alloc _).alloc _
 have b0 : Box (((w.alloc (.cells #[sC A 64 c, sC A2 n2 c2] 35)).alloc (.cells #[ii g, ii b, ii p, ii t, sC Ax xs.length cx, sC Am ms.length cm] 26)).alloc (.cells #[nsl, nsl] 35)) (w.heap.size + 1) 26 #[ii g, ii b, ii p, ii t, sC Ax xs.length cx, sC Am ms.length cm] := by have := (Box.new (w.alloc (.cells #[sC A 64 c, sC A2 n2 c2] 35)) 26 #[ii g, ii b, ii p, ii t, sC Ax xs.length cx, sC Am ms.length cm]).alloc (.cells #[nsl, nsl] 35); rwa [World.size_alloc] at this
 have r0 : Box (((w.alloc (.cells #[sC A 64 c, sC A2 n2 c2] 35)).alloc (.cells #[ii g, ii b, ii p, ii t, sC Ax xs.length cx, sC Am ms.length cm] 26)).alloc (.cells #[nsl, nsl] 35)) (w.heap.size + 1 + 1) 35 #[nsl, nsl] := by have := Box.new ((w.alloc (.cells #[sC A 64 c, sC A2 n2 c2] 35)).alloc (.cells #[ii g, ii b, ii p, ii t, sC Ax xs.length cx, sC Am ms.length cm] 26)) 35 #[nsl, nsl]; rwa [World.size_alloc, World.size_alloc] at this
 have hx0 := (((Nx.refl w).alloc (.cells #[sC A 64 c, sC A2 n2 c2] 35)).alloc (.cells #[ii g, ii b, ii p, ii t, sC Ax xs.length cx, sC Am ms.length cm] 26)).alloc (.cells #[nsl, nsl] 35)
 go_enter func54, ntmps54
 go_wp2_with fail
 generalize (((w.alloc (.cells #[sC A 64 c, sC A2 n2 c2] 35)).alloc (.cells #[ii g, ii b, ii p, ii t, sC Ax xs.length cx, sC Am ms.length cm] 26)).alloc (.cells #[nsl, nsl] 35)) = W at *
 obtain ⟨gS, HgS⟩ := nM (w.heap.size + 1)
 obtain ⟨gD, HgD⟩ := nM (w.heap.size + 1 + 1)
 have hgS : w.heap.size <= gS := by have := HgS.out; omega
 have hgD : w.heap.size <= gD := by have := HgD.out; omega
 have hneE : w.heap.size ≠ gD := by have := HgD.out; omega
 have hneE2 : w.heap.size ≠ gS := by have := HgS.out; omega
 have hneS : gS ≠ gD := by have := HgS.out; have := HgD.out; omega
 rw [HgD.out, HgS.out]
 rw [HgS.out] at b0
 rw [HgD.out] at r0
 refine (newestSuper_c A A2 64 c n2 c2 B ss ws _ a0 a1 (h.below hx0 hB) (h2.below hx0 hB) (ntr hB hx0.size) oM oM oM (by have := readP_size HD.out 0; omega) (by have := readP_size HD.out 1; omega) (hE.nx hx0) (hM.nx hx0) (hEt.nx hx0)).mono ?_
 rintro e w2 ⟨hnx2, h1', h3⟩
 have e2 := e0.nx hnx2
 have b2 := b0.nx hnx2
 have r2 := r0.nx hnx2
 have hx2 := hx0.trans hnx2
 clear e0 b0 r0 hx0 hnx2
 cases hu : newU (rdU (readP ss ws 0)) (rdU (readP ss ws 1)) with
 | none =>
   have he := h1' hu
   unfold slE at he
   subst he
   have HU := qh hu
   clear h1' h3 hu
   have m0 := r2.c0
   have m1 := r2.c1
   have mf0 := r2.frozen 0
   have mf1 := r2.frozen 1
   have mlt := r2.lt
   go_wp2
   have rq := ((r2.set0 (nsl)).set1 (nsl))
   have hnf := ((hx2.setCell (p := ⟨gD, 0, none⟩) hgD (nsl)).setCell (p := ⟨gD, 1, none⟩) hgD (nsl))
   replace rq := rq.alloc (.cells #[ii 0, ii 0, ii 0, ii 0, nsl, nsl] 26)
   replace hnf := hnf.alloc (.cells #[ii 0, ii 0, ii 0, ii 0, nsl, nsl] 26)
   change bodyPost _ _ _ _ _ (World.alloc ((w2.setCell ⟨gD, 0, none⟩ (nsl)).setCell ⟨gD, 1, none⟩ (nsl)) (.cells #[ii 0, ii 0, ii 0, ii 0, nsl, nsl] 26))
   generalize (World.alloc ((w2.setCell ⟨gD, 0, none⟩ (nsl)).setCell ⟨gD, 1, none⟩ (nsl)) (.cells #[ii 0, ii 0, ii 0, ii 0, nsl, nsl] 26)) = Wf at *
   have q0 := rq.c0
   have q1 := rq.c1
   exact bodyPost_ret (v := .tuple #[.agg #[nsl, nsl], .iface 159 (.agg #[ii 1, ii 19])]) (by simp [results, results54, go_sem, q0, q1]) rfl (RetWS.no HU.out hnf)
 | some us =>
   obtain ⟨u, s⟩ := us
   have hsl := newU_slot hu
   have hgn := newU_gen rfl rfl hu
   obtain ⟨Bx, dx, Bm, dm, he, hfit⟩ := h3 u s hu
   have HU := qh hu
   clear h1' h3 hfit hu
   by_cases h9 : u.1 = 999999
   . have H9 := qh h9
     obtain ⟨ug, ub, up, uq, uxs, ums⟩ := u
     have h9' : (ug == 999999) = true := beq_iff_eq.2 h9
     replace he : e = .returned (.tuple #[.agg #[ii ug, ii ub, ii up, ii uq, sC Bx uxs.length dx, sC Bm ums.length dm], ii s, .nilIface]) := he
     subst he
     clear h9
     have m0 := r2.c0
     have m1 := r2.c1
     have mf0 := r2.frozen 0
     have mf1 := r2.frozen 1
     have mlt := r2.lt
     go_wp2
     have rq := ((r2.set0 (nsl)).set1 (nsl))
     have hnf := ((hx2.setCell (p := ⟨gD, 0, none⟩) hgD (nsl)).setCell (p := ⟨gD, 1, none⟩) hgD (nsl))
     replace rq := rq.alloc (.cells #[ii ug, ii ub, ii up, ii uq, sC Bx uxs.length dx, sC Bm ums.length dm] 26)
     replace hnf := hnf.alloc (.cells #[ii ug, ii ub, ii up, ii uq, sC Bx uxs.length dx, sC Bm ums.length dm] 26)
     change bodyPost _ _ _ _ _ (World.alloc ((w2.setCell ⟨gD, 0, none⟩ (nsl)).setCell ⟨gD, 1, none⟩ (nsl)) (.cells #[ii ug, ii ub, ii up, ii uq, sC Bx uxs.length dx, sC Bm ums.length dm] 26))
     generalize (World.alloc ((w2.setCell ⟨gD, 0, none⟩ (nsl)).setCell ⟨gD, 1, none⟩ (nsl)) (.cells #[ii ug, ii ub, ii up, ii uq, sC Bx uxs.length dx, sC Bm ums.length dm] 26)) = Wf at *
     have q0 := rq.c0
     have q1 := rq.c1
     exact bodyPost_ret (v := .tuple #[.agg #[nsl, nsl], .iface 159 (.agg #[ii s, ii 7])]) (by simp [results, results54, go_sem, q0, q1]) rfl (RetWS.full HU.out H9.out hnf)
   . have H9 : Hid (u.1 ≠ 999999 /\ settleTo kpAll ss ws n2 = settleTo kpAll ss ws ws.length) := qh ⟨h9, by rw [h2.1]⟩
     have HOK' := qh (nxt_super HO.out hgn h9)
     obtain ⟨ug, ub, up, uq, uxs, ums⟩ := u
     have HOK : Hid (superB (ug + 1) b p t xs ms = true) := HOK'
     replace hgn : 1 <= ug /\ ug <= 999999 := hgn
     have h9' : (ug == 999999) = false := beq_eq_false_iff_ne.2 h9
     replace he : e = .returned (.tuple #[.agg #[ii ug, ii ub, ii up, ii uq, sC Bx uxs.length dx, sC Bm ums.length dm], ii s, .nilIface]) := he
     subst he
     clear h9
     obtain ⟨y0, y1, y2, y3, y4, y5⟩ := b2.d6
     have yf := b2.frozen 0
     have ylt := b2.lt
     go_wp2_with fail
     have e3 := (e2.far (p := ⟨gS, 0, none⟩) hneE2 (ii (ug + 1))).alloc (.cells #[ii ug, ii ub, ii up, ii uq, sC Bx uxs.length dx, sC Bm ums.length dm] 26)
     have b3 := (b2.set 0 (ii (ug + 1))).alloc (.cells #[ii ug, ii ub, ii up, ii uq, sC Bx uxs.length dx, sC Bm ums.length dm] 26)
     have r3 := (r2.far (p := ⟨gS, 0, none⟩) hneS.symm (ii (ug + 1))).alloc (.cells #[ii ug, ii ub, ii up, ii uq, sC Bx uxs.length dx, sC Bm ums.length dm] 26)
     have hx3 := (hx2.setCell (p := ⟨gS, 0, none⟩) hgS (ii (ug + 1))).alloc (.cells #[ii ug, ii ub, ii up, ii uq, sC Bx uxs.length dx, sC Bm ums.length dm] 26)
     simp only [List.setIfInBounds_toArray, List.set_cons_zero] at b3
     clear y0 y1 y2 y3 y4 y5 yf ylt e2 b2 r2 hx2
     generalize (w2.setCell ⟨gS, 0, none⟩ (ii (ug + 1))).alloc (.cells #[ii ug, ii ub, ii up, ii uq, sC Bx uxs.length dx, sC Bm ums.length dm] 26) = w3 at *
     refine wp_planA (.t 0 (.t 2 (.t 4 (.c 1 (.c 3 (.c 5 (.c 6 (.c 7 (.t 8 .e))))))))) (fun w' => (CC w' w.heap.size 0 (sC A 64 c) /\ CC w' w.heap.size 1 (sC A2 n2 c2)) /\ (CC w' gS 0 (ii (ug + 1)) /\ CC w' gS 1 (ii b) /\ CC w' gS 2 (ii p) /\ CC w' gS 3 (ii t) /\ CC w' gS 4 (sC Ax xs.length cx) /\ CC w' gS 5 (sC Am ms.length cm))) (by exact ⟨⟨e3.c0, e3.c1⟩, b3.d6⟩) ?_
     simp only [psOf, List.getD_cons_zero, List.getD_cons_succ]
     refine hPr ?_
     refine hPc fun K hK => ?_
     go_simp
     refine (flushed_c A A2 c n2 c2 B ss ws _ (h.below hx3.drew hB) (h2.below hx3.drew hB) (ntr hB hx3.drew.size) oM HWo.out).mono ?_; rintro e w5 ⟨A5, n5, c5, A6, n6, c6, rfl, hSF, hWF, hny5⟩; obtain rfl : n5 = 64 := (by rw [<- hSF.1, settleTo_len]; exact HL64.out); obtain rfl : n6 = 0 := hWF.1.symm; have e5 := e3.nx (Nx.drew_r hny5); have b5 := b3.nx (Nx.drew_r hny5); have r5 := r3.nx (Nx.drew_r hny5); have hx5 := hx3.trans (Nx.drew_r hny5)
     go_wp2_with fail
     refine hK.out _ _ (by exact ⟨⟨e5.c0, e5.c1⟩, b5.d6⟩) ?_
     clear hK K
     refine nZ ?_
     refine hPc fun K hK => ?_
     go_simp
     refine (otherSlot_c s _ (by rcases hsl with rfl | rfl <;> omega) (by rcases hsl with rfl | rfl <;> omega)).mono ?_; rintro e w6 ⟨rfl, hq6⟩; have hny6 : Nx w5 w6 := hq6 ▸ Nx.refl _; have e6 := e5.nx hny6; have b6 := b5.nx hny6; have r6 := r5.nx hny6; have hx6 := hx5.trans hny6; have hSF := hSF.nx hny6; have hWF := hWF.nx hny6; clear hq6
     go_wp2_with fail
     refine hK.out _ _ (by exact ⟨⟨e6.c0, e6.c1⟩, b6.d6⟩) ?_
     clear hK K
     refine nZ ?_
     refine hPc fun K hK => ?_
     go_simp
     refine (superText_c (ug + 1) b p t Ax Am cx cm B xs ms _ (hs.below hx6 hB) (hmk.below hx6 hB) (ntr hB hx6.size) HOK.out (hT.nx hx6)).mono ?_; rintro e w7 ⟨rfl, hny7⟩; have e7 := e6.nx hny7; have b7 := b6.nx hny7; have r7 := r6.nx hny7; have hx7 := hx6.trans hny7; have hSF := hSF.nx hny7; have hWF := hWF.nx hny7
     go_wp2_with fail
     refine hK.out _ _ (by exact ⟨⟨e7.c0, e7.c1⟩, b7.d6⟩) ?_
     clear hK K
     refine nZ ?_
     refine hPc fun K hK => ?_
     go_simp
     refine (written_c A5 A6 64 c5 0 c6 _ _ [] (1 - s) _ _ hSF.strs hWF.wrs nle oM oM).mono ?_; rintro e w8 ⟨A8, n8, c8, A9, n9, c9, rfl, hS8, hW8, hny8⟩; have hlt9 : gD < w7.heap.size := r7.lt; have e8 := e7.nx hny8; have b8 := b7.nx hny8; have r8 := r7.nx hny8; have hx8 := hx7.trans hny8
     go_wp2_with fail
     refine hK.out _ _ (by exact ⟨⟨e8.c0, e8.c1⟩, b8.d6⟩) ?_
     clear hK K
     refine nZ ?_
     have m0 := r8.c0
     have m1 := r8.c1
     have mf0 := r8.frozen 0
     have mf1 := r8.frozen 1
     have mlt := r8.lt
     refine hPc fun K hK => ?_
     go_simp
     refine hK.out _ _ (by exact ⟨⟨((e8.far (p := ⟨gD, 0, none⟩) hneE _).far (p := ⟨gD, 1, none⟩) hneE _).c0, ((e8.far (p := ⟨gD, 0, none⟩) hneE _).far (p := ⟨gD, 1, none⟩) hneE _).c1⟩, ((b8.far (p := ⟨gD, 0, none⟩) hneS _).far (p := ⟨gD, 1, none⟩) hneS _).d6⟩) ?_
     clear hK K
     refine nZ ?_
     refine hPr ?_
     refine HP.done ?_
     clear m0 m1 mf0 mf1
     go_wp2
     have rq := ((r8.set0 (sC A8 n8 c8)).set1 (sC A9 n9 c9))
     have hnf := ((hx8.setCell (p := ⟨gD, 0, none⟩) hgD (sC A8 n8 c8)).setCell (p := ⟨gD, 1, none⟩) hgD (sC A9 n9 c9))
     have hSf := ((hS8.far (p := ⟨gD, 0, none⟩) hlt9 (sC A8 n8 c8)).far (p := ⟨gD, 1, none⟩) hlt9 (sC A9 n9 c9))
     have hWf := ((hW8.far (p := ⟨gD, 0, none⟩) hlt9 (sC A8 n8 c8)).far (p := ⟨gD, 1, none⟩) hlt9 (sC A9 n9 c9))
     change bodyPost _ _ _ _ _ ((w8.setCell ⟨gD, 0, none⟩ (sC A8 n8 c8)).setCell ⟨gD, 1, none⟩ (sC A9 n9 c9))
     generalize ((w8.setCell ⟨gD, 0, none⟩ (sC A8 n8 c8)).setCell ⟨gD, 1, none⟩ (sC A9 n9 c9)) = Wf at *
     have q0 := rq.c0
     have q1 := rq.c1
     exact bodyPost_ret (v := .tuple #[.agg #[sC A8 n8 c8, sC A9 n9 c9], .nilIface]) (by simp [results, results54, go_sem, q0, q1]) rfl (RetWS.yes HU.out H9.out (hSf.low oM) (hWf.low oM) hnf)
def wwP (ss : List BA) (p : Int) (n : Nat) (v t : Int) : (List BA × List (Int × BA)) × Int :=
 if apC (ldV ss []).1 (ldV ss []).2 p = 0 then (apD ss (ldV ss []).1 p n v t, 0) else (([], []), apC (ldV ss []).1 (ldV ss []).2 p)
theorem wwP_no {ss : List BA} {p v t : Int} {n : Nat} {V : Vl} {cd k : Int} (h : ldV ss [] = (V, cd)) (hc : apC V cd p = k) (h0 : k ≠ 0) : wwP ss p n v t = (([], []), k) := by
 unfold wwP; rw [h]; simp only; rw [hc, if_neg h0]
theorem wwP_yes {ss : List BA} {p v t : Int} {n : Nat} {V : Vl} {cd : Int} (h : ldV ss [] = (V, cd)) (hc : apC V cd p = 0) : wwP ss p n v t = (apD ss V p n v t, 0) := by
 unfold wwP; rw [h]; simp only; rw [if_pos hc]
theorem RetDiskCode.nil {w w' : World} {R : (List BA × List (Int × BA)) × Int} {k : Int} (h : R = (([], []), k)) (hx : Nx w w') : RetDiskCode w R.1.1 R.1.2 R.2 (.returned (.tuple #[.agg #[nsl, nsl], ii k])) w' := by
 rw [h]
 exact ⟨none, 0, 0, none, 0, 0, rfl, ⟨rfl, fun h => absurd h dC⟩, ⟨rfl, fun h => absurd h dC⟩, hx⟩
def WsR (w' : World) (lo : Nat) (g s : Int) (ss : List BA) (R2 : List (Int × BA)) (x9 : Int) (s9 : BA) (Da : Option Addr) (dn : Nat) (Db : Option Addr) (en : Nat) (E : Value) : Prop :=
 (g = 999999 /\ E = slE s 7) \/ (g ≠ 999999 /\ E = .nilIface /\ SlS w' lo Da dn (settleTo kpAll ss ([] ++ [(x9, s9)]) 1) /\ SlW w' lo Db en R2)
section
variable {w' w2 : World} {lo lo' dn en gz : Nat} {g s x9 : Int} {ss : List BA} {R2 : List (Int × BA)} {s9 : BA} {Da Db : Option Addr} {E a b : Value}
theorem WsR.nx (h : WsR w' lo g s ss R2 x9 s9 Da dn Db en E) (hk : Nx w' w2) : WsR w2 lo g s ss R2 x9 s9 Da dn Db en E := h.imp id fun ⟨h1, h2, h3, h4⟩ => ⟨h1, h2, h3.nx hk, h4.nx hk⟩
theorem WsR.low (h : WsR w' lo g s ss R2 x9 s9 Da dn Db en E) (hl : lo' <= lo) : WsR w' lo' g s ss R2 x9 s9 Da dn Db en E := h.imp id fun ⟨h1, h2, h3, h4⟩ => ⟨h1, h2, h3.low hl, h4.low hl⟩
theorem WsR.two (h : WsR w' lo g s ss R2 x9 s9 Da dn Db en E) (hb : Box w' gz 35 #[a, b]) (v0 v1 : Value) : WsR ((w'.setCell ⟨gz, 0, none⟩ v0).setCell ⟨gz, 1, none⟩ v1) lo g s ss R2 x9 s9 Da dn Db en E := h.imp id fun ⟨h1, h2, h3, h4⟩ => ⟨h1, h2, h3.twoW hb v0 v1, h4.twoW hb v0 v1⟩
end
theorem RetWS.one {w w' : World} {ss : List BA} {x9 : Int} {s9 : BA} {g b p t : Int} {xs X : List Int} {ms : List Mrk} {e : Ending} {b' p' t' : Int} {ms' : List Mrk} {s : Int} {o : Option (U6 × Int)} (hr : RetWS w ss ([] ++ [(x9, s9)]) b p t X ms o e w') (h : o = some ((g, b', p', t', xs, ms'), s)) :
 Nx w w' /\ ∃ Da dn dc Db en ec E, e = .returned (.tuple #[.agg #[sC Da dn dc, sC Db en ec], E]) /\ WsR w' w.heap.size g s ss [(1 - s, supT (g + 1) b p t X ms)] x9 s9 Da dn Db en E := by
 obtain ⟨hn, _, h7, h0⟩ := hr
 refine ⟨hn, ?_⟩
 by_cases hg : g = 999999
 . exact ⟨none, 0, 0, none, 0, 0, _, h7 _ _ h hg, .inl ⟨hg, rfl⟩⟩
 . obtain ⟨A, n, c, A2, n2, c2, he, hS, hW⟩ := h0 _ _ h hg
   exact ⟨A, n, c, A2, n2, c2, _, he, .inr ⟨hg, rfl, hS, hW⟩⟩
theorem mergeWW {G : Nat -> Option Addr -> Nat -> Nat -> Option Addr -> Nat -> Nat -> Value -> World -> Option Addr -> Nat -> Option Addr -> Nat -> Option Addr -> Nat -> Option Addr -> Nat -> Prop} {F : Nat -> Option Addr -> Nat -> Nat -> Option Addr -> Nat -> Nat -> Value -> World -> Prop} {R : Prop} (main : (∀ g A n c B m d E W Aq cq A8 c8 A9 c9 As cs, F g A n c B m d E W -> G g A n c B m d E W Aq cq A8 c8 A9 c9 As cs) -> R) (key : ∀ g A n c B m d E W Aq cq A8 c8 A9 c9 As cs, F g A n c B m d E W -> G g A n c B m d E W Aq cq A8 c8 A9 c9 As cs) : R := main key
theorem withWrite_c (A A2 : Option Addr) (n c n2 c2 B : Nat) (ss : List BA) (p v t : Int) (n0 : Nat) (w : World) (a0 a1 : Addr) (h : Strs w B A n ss) (h2 : Wrs w B A2 n2 []) (hB : B <= w.heap.size) (hD : diskB ss [] = true) (hf : frameB p (n0 : Int) v t = true)
 (hE : Er w a0 a1) (hM : Mx w) (hEt : Et w) (hT : Tab w) :
 Calls Tryz.prog 75 #[.agg #[sC A n c, sC A2 n2 c2], .agg #[ii p, ii (n0 : Int), ii v, ii t]] w (RetDiskCode w (wwP ss p n0 v t).1.1 (wwP ss p n0 v t).1.2 (wwP ss p n0 v t).2) := by
 have HD := qh hD
 have HF := qh hf
 obtain rfl : n = 64 := by rw [<- h.1]; exact (diskB_len64 hD).1
 obtain rfl : n2 = 0 := h2.1.symm
 obtain ⟨⟨V, cd⟩, HL⟩ := nM (ldV ss [])
 have HcdL := qh (ldV_code ss [])
 rw [HL.out] at HcdL
 have HV := fun w1 h1 h2 h3 h4 h5 h6 => diskVault_c A A2 64 c 0 c2 B ss [] w1 a0 a1 h1 h2 h3 oM oM hD h4 h5 h6
 rw [HL.out] at HV
 have HV := qh HV
 obtain ⟨R, HR⟩ := nM (wwP ss p n0 v t)
 have HN := qh (fun k (hc : apC V cd p = k) (h0 : k ≠ 0) => HR.out.symm.trans (wwP_no HL.out hc h0))
 rw [HR.out]
 clear hD hf
 have e0 : Box (((w.alloc (.cells #[sC A 64 c, sC A2 0 c2] 35)).alloc (.cells #[ii p, ii (n0 : Int), ii v, ii t] 55)).alloc (.cells #[nsl, nsl] 35)) w.heap.size 35 #[sC A 64 c, sC A2 0 c2] := ((Box.new w _ _).alloc _).alloc _
 have f0 : Box (((w.alloc (.cells #[sC A 64 c, sC A2 0 c2] 35)).alloc (.cells #[ii p, ii (n0 : Int), ii v, ii t] 55)).alloc (.cells #[nsl, nsl] 35)) (w.heap.size + 1) 55 #[ii p, ii (n0 : Int), ii v, ii t] := by have := (Box.new (w.alloc (.cells #[sC A 64 c, sC A2 0 c2] 35)) 55 #[ii p, ii (n0 : Int), ii v, ii t]).alloc (.cells #[nsl, nsl] 35); rwa [World.size_alloc] at this
 have r0 : Box (((w.alloc (.cells #[sC A 64 c, sC A2 0 c2] 35)).alloc (.cells #[ii p, ii (n0 : Int), ii v, ii t] 55)).alloc (.cells #[nsl, nsl] 35)) (w.heap.size + 1 + 1) 35 #[nsl, nsl] := by have := Box.new ((w.alloc (.cells #[sC A 64 c, sC A2 0 c2] 35)).alloc (.cells #[ii p, ii (n0 : Int), ii v, ii t] 55)) 35 #[nsl, nsl]; rwa [World.size_alloc, World.size_alloc] at this
 have hx0 := (((Nx.refl w).alloc (.cells #[sC A 64 c, sC A2 0 c2] 35)).alloc (.cells #[ii p, ii (n0 : Int), ii v, ii t] 55)).alloc (.cells #[nsl, nsl] 35)
 have y0 := e0.c0
 have y1 := e0.c1
 go_enter func75, ntmps75
 go_wp2_with fail
 generalize ((w.alloc (.cells #[sC A 64 c, sC A2 0 c2] 35)).alloc (.cells #[ii p, ii (n0 : Int), ii v, ii t] 55)).alloc (.cells #[nsl, nsl] 35) = W at *
 obtain ⟨gF, HgF⟩ := nM (w.heap.size + 1)
 obtain ⟨gR, HgR⟩ := nM (w.heap.size + 1 + 1)
 have hgR : w.heap.size <= gR := by have := HgR.out; omega
 rw [HgR.out] at r0 ⊢
 rw [HgF.out] at f0 ⊢
 clear y0 y1
 refine (HV.out W (h.below hx0 hB) (h2.below hx0 hB) (ntr hB hx0.size) (hE.nx hx0) (hM.nx hx0) (hEt.nx hx0)).mono ?_
 rintro e w1 ⟨V1, mid, rfl, hs, hp, hk⟩
 have hx1 := hx0.trans hk
 have e1 := e0.nx hk
 have f1 := f0.nx hk
 have r1 := r0.nx hk
 have hp1 := hp.low hx0.size
 clear e0 f0 r0 hk hp
 simp only [Vl.v, Vl.cells]
 have bv := Box.new w1 49 #[ii V1.g, ii V1.b, ii V1.p, ii V1.t, sC V1.A V1.xs.length V1.c, sC V1.A2 V1.ms.length V1.c2, sC V1.A3 V1.gs.length V1.c3, sC V1.A4 V1.im.length V1.c4]
 have hkv := (Nx.refl w1).alloc (.cells #[ii V1.g, ii V1.b, ii V1.p, ii V1.t, sC V1.A V1.xs.length V1.c, sC V1.A2 V1.ms.length V1.c2, sC V1.A3 V1.gs.length V1.c3, sC V1.A4 V1.im.length V1.c4] 49)
 have e2 := e1.nx hkv
 have f2 := f1.nx hkv
 have r2 := r1.nx hkv
 have hx2 := hx1.trans hkv
 have hp2 := hp1.nx hkv
 have zv : w1.heap.size < (w1.alloc (.cells #[ii V1.g, ii V1.b, ii V1.p, ii V1.t, sC V1.A V1.xs.length V1.c, sC V1.A2 V1.ms.length V1.c2, sC V1.A3 V1.gs.length V1.c3, sC V1.A4 V1.im.length V1.c4] 49)).heap.size := by simp
 clear e1 f1 r1 hp1 hkv
 have hsz1 := hx1.size
 clear hx1
 rcases Decidable.em (cd = 0) with h0 | h0
 rotate_left
 . have m0 := r2.c0
   have m1 := r2.c1
   have mf0 := r2.frozen 0
   have mf1 := r2.frozen 1
   have HR2 := qh (HN.out cd (apC_code h0) h0)
   go_wp2_with fail
   generalize (w1.alloc (.cells #[ii V1.g, ii V1.b, ii V1.p, ii V1.t, sC V1.A V1.xs.length V1.c, sC V1.A2 V1.ms.length V1.c2, sC V1.A3 V1.gs.length V1.c3, sC V1.A4 V1.im.length V1.c4] 49)) = w2 at *
   have rq := (r2.set0 (nsl)).set1 (nsl)
   have hnf := (hx2.setCell (p := ⟨gR, 0, none⟩) hgR (nsl)).setCell (p := ⟨gR, 1, none⟩) hgR (nsl)
   generalize (w2.setCell ⟨gR, 0, none⟩ (nsl)).setCell ⟨gR, 1, none⟩ (nsl) = Wf at *
   clear m0 m1 mf0 mf1
   have q0 := rq.c0
   have q1 := rq.c1
   go_wp2
   exact bodyPost_ret (v := .tuple #[.agg #[nsl, nsl], ii cd]) (by simp [results, results75, go_sem, q0, q1]) rfl (RetDiskCode.nil HR2.out hnf)
 obtain rfl : cd = 0 := h0
 obtain ⟨y0, y1, y2, y3, y4, y5, y6, y7⟩ := bv.e8
 go_wp2_with fail
 generalize (w1.alloc (.cells #[ii V1.g, ii V1.b, ii V1.p, ii V1.t, sC V1.A V1.xs.length V1.c, sC V1.A2 V1.ms.length V1.c2, sC V1.A3 V1.gs.length V1.c3, sC V1.A4 V1.im.length V1.c4] 49)) = w2 at *
 clear y0 y1 y2 y3 y4 y5 y6 y7
 obtain ⟨gV, HgV⟩ := nM (w1.heap.size)
 have hgV : w.heap.size <= gV := by have := HgV.out; omega
 rw [HgV.out] at bv ⊢
 have HLY := qh (ldV_ldY HL.out)
 have HsV : Hid (VlS V V1) := qh hs
 have HY := qh (HsV.out.y HLY.out.ok)
 clear hs
 have hv2 := qh hp2.own.vlt
 have H8 := qh HY.out.l8
 refine (view_c V1 w2.heap.size w2 hv2.out.img nle H8.out).mono ?_
 rintro e w3 ⟨rfl, hk⟩
 have hx3 := hx2.trans hk
 have e3 := e2.nx hk
 have f3 := f2.nx hk
 have r3 := r2.nx hk
 have hp3 := hp2.nx hk
 have bv3 := bv.nx hk
 simp only [Vl.w, Vl.wcells]
 have rz := Box.new w3 107 #[ii 0, ii 0, ii 0, ii 0, nsl, nsl, nsl, ii 0, ii 0, ii 0, ii 0, ii 0, ii 0, ii 0, ii 0]
 have bw := rz.row #[ii V1.g, ii V1.b, ii V1.p, ii V1.t, sC V1.A V1.xs.length V1.c, sC V1.A2 V1.ms.length V1.c2, sC V1.A3 V1.gs.length V1.c3, inAt V1.im 0, inAt V1.im 1, inAt V1.im 2, inAt V1.im 3, inAt V1.im 4, inAt V1.im 5, inAt V1.im 6, inAt V1.im 7]
 have hkv := ((Nx.refl w3).alloc (.cells #[ii 0, ii 0, ii 0, ii 0, nsl, nsl, nsl, ii 0, ii 0, ii 0, ii 0, ii 0, ii 0, ii 0, ii 0] 107)).setRow (g := w3.heap.size) nle #[ii V1.g, ii V1.b, ii V1.p, ii V1.t, sC V1.A V1.xs.length V1.c, sC V1.A2 V1.ms.length V1.c2, sC V1.A3 V1.gs.length V1.c3, inAt V1.im 0, inAt V1.im 1, inAt V1.im 2, inAt V1.im 3, inAt V1.im 4, inAt V1.im 5, inAt V1.im 6, inAt V1.im 7]
 have zw : w3.heap.size < ((w3.alloc (.cells #[ii 0, ii 0, ii 0, ii 0, nsl, nsl, nsl, ii 0, ii 0, ii 0, ii 0, ii 0, ii 0, ii 0, ii 0] 107)).setRow w3.heap.size #[ii V1.g, ii V1.b, ii V1.p, ii V1.t, sC V1.A V1.xs.length V1.c, sC V1.A2 V1.ms.length V1.c2, sC V1.A3 V1.gs.length V1.c3, inAt V1.im 0, inAt V1.im 1, inAt V1.im 2, inAt V1.im 3, inAt V1.im 4, inAt V1.im 5, inAt V1.im 6, inAt V1.im 7]).heap.size := by rw [size_setRow]; simp
 have e4 := e3.nx hkv
 have f4 := f3.nx hkv
 have r4 := r3.nx hkv
 have hx4 := hx3.trans hkv
 have hp4 := hp3.nx hkv
 have bv4 := bv3.nx hkv
 clear e2 f2 r2 hx2 hp2 e3 f3 r3 hp3 hkv hk bv bv3
 go_wp2_with (refine wpList_store_row rfl _ _ _ rfl w3.heap.size #[ii V1.g, ii V1.b, ii V1.p, ii V1.t, sC V1.A V1.xs.length V1.c, sC V1.A2 V1.ms.length V1.c2, sC V1.A3 V1.gs.length V1.c3, inAt V1.im 0, inAt V1.im 1, inAt V1.im 2, inAt V1.im 3, inAt V1.im 4, inAt V1.im 5, inAt V1.im 6, inAt V1.im 7] rfl rfl 107 #[ii 0, ii 0, ii 0, ii 0, nsl, nsl, nsl, ii 0, ii 0, ii 0, ii 0, ii 0, ii 0, ii 0, ii 0] rz (by kernel_rfl) rfl (by simp [Value.oneCell', inAt]) ?_)
 clear rz
 have hs3 := hx3.size
 clear hx3
 generalize ((w3.alloc (.cells #[ii 0, ii 0, ii 0, ii 0, nsl, nsl, nsl, ii 0, ii 0, ii 0, ii 0, ii 0, ii 0, ii 0, ii 0] 107)).setRow w3.heap.size #[ii V1.g, ii V1.b, ii V1.p, ii V1.t, sC V1.A V1.xs.length V1.c, sC V1.A2 V1.ms.length V1.c2, sC V1.A3 V1.gs.length V1.c3, inAt V1.im 0, inAt V1.im 1, inAt V1.im 2, inAt V1.im 3, inAt V1.im 4, inAt V1.im 5, inAt V1.im 6, inAt V1.im 7]) = w4 at *
 obtain ⟨gW, HgW⟩ := nM (w3.heap.size)
 have hgW : w.heap.size <= gW := by have := HgW.out; omega
 rw [HgW.out] at bw zw ⊢
 have hn4 : V1.gs.length <= 1048576 := by have := HY.out.n4; omega
 have HTp : Hid (V.tip = V1.tip) := qh HsV.out.tip.symm
 have HTc := qh (fun (w' : World) (hx : Nx w4 w') => tip_c V1 w4.heap.size w' (hp4.own.vlt.sgs.below hx nle) hx.size hn4)
 have HTi := HY.out.tipIn
 obtain ⟨T, HT⟩ := nM (tipV V1.b V1.gs)
 rw [HT.out] at HTc HTi
 have hw1 : IntKind.i64.wrap (T + 1) = T + 1 := IntWalk.i64_in _ oM
 go_wp2_with fail
 refine wp_planA (.t 0 (.t 1 (.t 2 (.c 3 (.t 4 (.t 5 .e)))))) (fun w' => (CC w' gW 0 (ii V1.g) /\ CC w' gW 1 (ii V1.b) /\ CC w' gW 2 (ii V1.p) /\ CC w' gW 3 (ii V1.t) /\ CC w' gW 4 (sC V1.A V1.xs.length V1.c) /\ CC w' gW 5 (sC V1.A2 V1.ms.length V1.c2) /\ CC w' gW 6 (sC V1.A3 V1.gs.length V1.c3) /\ CC w' gW 7 (inAt V1.im 0) /\ CC w' gW 8 (inAt V1.im 1) /\ CC w' gW 9 (inAt V1.im 2) /\ CC w' gW 10 (inAt V1.im 3) /\ CC w' gW 11 (inAt V1.im 4) /\ CC w' gW 12 (inAt V1.im 5) /\ CC w' gW 13 (inAt V1.im 6) /\ CC w' gW 14 (inAt V1.im 7)) /\ CC w' gF 0 (ii p)) (by exact ⟨bw.e15, f4.cell 0⟩) ?_
 simp only [psOf, List.getD_cons_zero, List.getD_cons_succ]
 refine hPr ?_
 refine hPc fun K hK => ?_
 go_simp
 refine (HTc.out w4.drew (Nx.refl _).drew).mono ?_; rintro e w5 ⟨rfl, hk⟩; have hx5 := (Nx.refl w4).drew.trans hk; have bw5 := bw.nx hx5; have f5 := f4.nx hx5
 go_wp2_with fail
 refine hK.out _ _ (by exact ⟨bw5.e15, f5.cell 0⟩) ?_
 clear hK K
 refine nZ ?_
 refine hPr ?_
 refine HP.done ?_
 have r5 := r4.nx hx5
 have hxw5 := hx4.trans hx5
 by_cases h1 : p <= T
 . have hd1 : decide (p <= T) = true := decide_eq_true h1
   have m0 := r5.c0
   have m1 := r5.c1
   have mf0 := r5.frozen 0
   have mf1 := r5.frozen 1
   have HR2 := qh (HN.out 9 (apC_there (by rw [(show V.tip = T from HTp.out.trans HT.out)]; exact h1)) dC)
   go_wp2_with fail
   have rq := (r5.set0 (nsl)).set1 (nsl)
   have hnf := (hxw5.setCell (p := ⟨gR, 0, none⟩) hgR (nsl)).setCell (p := ⟨gR, 1, none⟩) hgR (nsl)
   generalize (w5.setCell ⟨gR, 0, none⟩ (nsl)).setCell ⟨gR, 1, none⟩ (nsl) = Wf at *
   clear m0 m1 mf0 mf1
   have q0 := rq.c0
   have q1 := rq.c1
   go_wp2
   exact bodyPost_ret (v := .tuple #[.agg #[nsl, nsl], ii 9]) (by simp [results, results75, go_sem, q0, q1]) rfl (RetDiskCode.nil HR2.out hnf)
 have hd1 : decide (p <= T) = false := decide_eq_false h1
 go_wp2_with fail
 refine wp_planA (.t 0 (.t 1 (.t 2 (.c 3 (.t 4 (.t 5 (.t 6 .e))))))) (fun w' => (CC w' gW 0 (ii V1.g) /\ CC w' gW 1 (ii V1.b) /\ CC w' gW 2 (ii V1.p) /\ CC w' gW 3 (ii V1.t) /\ CC w' gW 4 (sC V1.A V1.xs.length V1.c) /\ CC w' gW 5 (sC V1.A2 V1.ms.length V1.c2) /\ CC w' gW 6 (sC V1.A3 V1.gs.length V1.c3) /\ CC w' gW 7 (inAt V1.im 0) /\ CC w' gW 8 (inAt V1.im 1) /\ CC w' gW 9 (inAt V1.im 2) /\ CC w' gW 10 (inAt V1.im 3) /\ CC w' gW 11 (inAt V1.im 4) /\ CC w' gW 12 (inAt V1.im 5) /\ CC w' gW 13 (inAt V1.im 6) /\ CC w' gW 14 (inAt V1.im 7)) /\ CC w' gF 0 (ii p)) (by exact ⟨bw5.e15, f5.cell 0⟩) ?_
 simp only [psOf, List.getD_cons_zero, List.getD_cons_succ]
 refine hPr ?_
 refine hPc fun K hK => ?_
 go_simp
 refine (HTc.out w5.drew (hx5.trans (Nx.refl _).drew)).mono ?_; rintro e w6 ⟨rfl, hk⟩; have hx6 := (Nx.refl w5).drew.trans hk; have bw6 := bw5.nx hx6; have f6 := f5.nx hx6
 go_wp2_with fail
 refine hK.out _ _ (by exact ⟨bw6.e15, f6.cell 0⟩) ?_
 clear hK K
 refine nZ ?_
 refine hPr ?_
 refine HP.done ?_
 have r6 := r5.nx hx6
 have hxw6 := hxw5.trans hx6
 by_cases h7 : T + 1 < p
 . have hd7 : decide (T + 1 < p) = true := decide_eq_true h7
   have m0 := r6.c0
   have m1 := r6.c1
   have mf0 := r6.frozen 0
   have mf1 := r6.frozen 1
   have HR2 := qh (HN.out 17 (apC_gap (by rw [(show V.tip = T from HTp.out.trans HT.out)]; exact h7)) dC)
   go_wp2_with fail
   have rq := (r6.set0 (nsl)).set1 (nsl)
   have hnf := (hxw6.setCell (p := ⟨gR, 0, none⟩) hgR (nsl)).setCell (p := ⟨gR, 1, none⟩) hgR (nsl)
   generalize (w6.setCell ⟨gR, 0, none⟩ (nsl)).setCell ⟨gR, 1, none⟩ (nsl) = Wf at *
   clear m0 m1 mf0 mf1
   have q0 := rq.c0
   have q1 := rq.c1
   go_wp2
   exact bodyPost_ret (v := .tuple #[.agg #[nsl, nsl], ii 17]) (by simp [results, results75, go_sem, q0, q1]) rfl (RetDiskCode.nil HR2.out hnf)
 have hd7 : decide (T + 1 < p) = false := decide_eq_false h7
 have y6 := bw6.cell 6
 by_cases h20 : V1.gs.length = 20
 . have Hp := qh (show p = V.tip + 1 by rw [(show V.tip = T from HTp.out.trans HT.out)]; omega)
   have Hl := qh (show V.gs.length = 20 from HsV.out.len.symm.trans h20)
   have m0 := r6.c0
   have m1 := r6.c1
   have mf0 := r6.frozen 0
   have mf1 := r6.frozen 1
   have HR2 := qh (HN.out 7 (apC_full Hp.out (.inl Hl.out)) dC)
   go_wp2_with fail
   have rq := (r6.set0 (nsl)).set1 (nsl)
   have hnf := (hxw6.setCell (p := ⟨gR, 0, none⟩) hgR (nsl)).setCell (p := ⟨gR, 1, none⟩) hgR (nsl)
   generalize (w6.setCell ⟨gR, 0, none⟩ (nsl)).setCell ⟨gR, 1, none⟩ (nsl) = Wf at *
   clear m0 m1 mf0 mf1
   have q0 := rq.c0
   have q1 := rq.c1
   go_wp2
   exact bodyPost_ret (v := .tuple #[.agg #[nsl, nsl], ii 7]) (by simp [results, results75, go_sem, q0, q1]) rfl (RetDiskCode.nil HR2.out hnf)
 have hd20 : decide ((V1.gs.length : Int) = 20) = false := decide_eq_false oM
 have h20' := h20
 have y0 := bw6.cell 0
 have y1 := bw6.cell 1
 have y2 := bw6.cell 2
 have y3 := bw6.cell 3
 have y4 := bw6.cell 4
 have y5 := bw6.cell 5
 go_wp2_with fail
 clear y0 y1 y2 y3 y4 y5 y6
 have hi6 := (hp4.nx (hx5.trans hx6)).own.vlt.tab
 refine (superFree_c V1.g V1.b V1.p V1.t V1.A V1.A2 V1.c V1.c2 w6.heap.size V1.xs V1.ms w6 hi6 nle (by have := HY.out.len; omega)).mono ?_
 rintro e w7 ⟨A7, c7, rfl, hc7, hS7, hx7⟩
 have HfL := qh (freeTo_some (xs := V1.xs) (by have := (tbB_yes (superB_yes HY.out.super).2.2.2.2.1).1; omega))
 obtain ⟨b7, o7, rfl, hb7, q7⟩ := Ins.at_ (k := 0) hS7.row HfL.out
 obtain ⟨L7, HL7⟩ := nM ((freeTo V1.xs 54).length)
 have hL7 : 0 < L7 := HL7.out ▸ HfL.out
 rw [HL7.out]
 have hL8 : (0 : Int) < (L7 : Int) := oM
 change w7.cell? ⟨b7, o7, none⟩ = some (ii (freeS V1.xs)) at q7
 have kx : Nx w4 w7 := hx5.trans (hx6.trans hx7)
 have zE : Box w7 w.heap.size 35 #[sC A 64 c, sC A2 0 c2] := e4.nx kx
 have zF := f6.nx hx7
 have zV := bw6.nx hx7
 have zR := r6.nx hx7
 have zP := hp4.nx kx
 have zX : Nx w w7 := hxw6.trans hx7
 clear e4 f6 bw6 r6 hp4 hxw6 kx hx5 hx6 hx7 f5 bw5 r5 hxw5
 have Hp1 := qh (show p = V1.tip + 1 from (show p = T + 1 by omega).trans (congrArg (· + 1) (show T = V1.tip from HT.out.symm)))
 have h20 : Hid (V.gs.length ≠ 20) := qh (by rw [<- HsV.out.len]; exact h20')
 have HP0 := qh (show p = V.tip + 1 from Hp1.out.trans (congrArg (· + 1) HsV.out.tip))
 have HS1 : Hid (superB V1.g V1.b V1.p V1.t (V1.xs ++ [freeS V1.xs]) V1.ms = true) := qh (by rw [HsV.out.g, HsV.out.b, HsV.out.p, HsV.out.t, HsV.out.xs, HsV.out.ms]; exact HLY.out.table h20.out)
 have HXL : Hid (V1.xs.length <= 1048575) := qh (by rw [HsV.out.xs]; have := HLY.out.room h20.out; omega)
 have HFr := qh (frameB_yes HF.out)
 obtain ⟨m9, Hm9⟩ := nM (lastM V1.gs t)
 obtain ⟨o9, Ho9⟩ := nM (V1.top.getD n0 0)
 have HGR : Hid (segB (p - 1) p m9 [((n0 : Int), v, o9)] = true) := qh (by rw [<- Hm9.out, <- Ho9.out]; exact (newG_nxt HY.out HF.out Hp1.out).seg)
 have HGT : Hid (sealS (numsS (segN (p - 1) p m9 [((n0 : Int), v, o9)])) = segT (newG V p n0 v t)) := qh (by rw [<- Hm9.out, <- Ho9.out, <- HsV.out.newG]; rfl)
 obtain ⟨x9, Hx9⟩ := nM (freeS V1.xs)
 obtain ⟨s9, Hs9⟩ := nM (segT (newG V p n0 v t))
 have HXe : Hid (freeS V.xs = x9) := qh (by rw [<- HsV.out.xs]; exact Hx9.out)
 rw [Hs9.out] at HGT
 obtain ⟨X9, HX9⟩ := nM (V1.xs ++ [x9])
 rw [Hx9.out, HX9.out] at HS1
 rw [Hx9.out] at q7
 have HDp : Hid (diskB ss ([] ++ [(x9, s9)]) = true) := qh (by rw [<- HXe.out, <- Hs9.out]; exact HLY.out.put HD.out h20.out)
 obtain ⟨z9, Hz9⟩ := nM (sltV ss [])
 have HNU : Hid (newU (rdU (readP ss ([] ++ [(x9, s9)]) 0)) (rdU (readP ss ([] ++ [(x9, s9)]) 1)) = some ((V1.g, V1.b, V1.p, V1.t, V1.xs, V1.ms), z9)) := qh (by rw [<- HXe.out, <- Hz9.out, HLY.out.newest h20.out, HsV.out.g, HsV.out.b, HsV.out.p, HsV.out.t, HsV.out.xs, HsV.out.ms])
 go_wp2_with fail
 clear q7
 clear HTc HTi HTp hw1 hd1 hd7 hd20 h1 h7 hS7 HfL HL7 hi6 hsz1 hs3 hn4 HT
 refine mergeWW (F := fun gz Da dn dc Db en ec E Wq => Box Wq gz 35 #[sC Da dn dc, sC Db en ec] /\ Box Wq gR 35 #[nsl, nsl] /\ Nx w Wq /\ WsR Wq w.heap.size V1.g z9 ss [(1 - z9, supT (V1.g + 1) V1.b V1.p V1.t X9 V1.ms)] x9 s9 Da dn Db en E) (G := ?_) (fun key => ?_) ?_
 rotate_left
 . have kd : Nx w7 w7.drew := (Nx.refl w7).drew
   replace zE := zE.nx kd; replace zF := zF.nx kd; replace zV := zV.nx kd; replace zR := zR.nx kd; replace zP := zP.nx kd; replace zX := zX.trans kd
   clear kd
   refine wp_planA (.t 0 (.t 1 (.t 2 (.t 3 (.t 7 (.t 8 (.t 9 (.b 4 (.b 5 (.b 6 (.b 10 (.b 11 (.t 12 (.t 13 (.t 14 (.c 15 (.c 16 (.t 17 .e)))))) 15 (.c 11 (.t 12 (.t 13 (.t 14 (.c 16 (.t 17 .e))))))) 15 (.c 10 (.c 11 (.t 12 (.t 13 (.t 14 (.c 16 (.t 17 .e)))))))) 15 (.c 6 (.c 10 (.c 11 (.t 12 (.t 13 (.t 14 (.c 16 (.t 17 .e))))))))) 15 (.c 5 (.c 6 (.c 10 (.c 11 (.t 12 (.t 13 (.t 14 (.c 16 (.t 17 .e)))))))))) 15 (.c 4 (.c 5 (.c 6 (.c 10 (.c 11 (.t 12 (.t 13 (.t 14 (.c 16 (.t 17 .e)))))))))))))))))) (fun w' => (CC w' w.heap.size 0 (sC A 64 c) /\ CC w' w.heap.size 1 (sC A2 0 c2)) /\ (CC w' gW 0 (ii V1.g) /\ CC w' gW 1 (ii V1.b) /\ CC w' gW 2 (ii V1.p) /\ CC w' gW 3 (ii V1.t) /\ CC w' gW 4 (sC V1.A V1.xs.length V1.c) /\ CC w' gW 5 (sC V1.A2 V1.ms.length V1.c2) /\ CC w' gW 6 (sC V1.A3 V1.gs.length V1.c3) /\ CC w' gW 7 (inAt V1.im 0) /\ CC w' gW 8 (inAt V1.im 1) /\ CC w' gW 9 (inAt V1.im 2) /\ CC w' gW 10 (inAt V1.im 3) /\ CC w' gW 11 (inAt V1.im 4) /\ CC w' gW 12 (inAt V1.im 5) /\ CC w' gW 13 (inAt V1.im 6) /\ CC w' gW 14 (inAt V1.im 7)) /\ (CC w' gF 0 (ii p) /\ CC w' gF 1 (ii (n0 : Int)) /\ CC w' gF 2 (ii v) /\ CC w' gF 3 (ii t))) (by exact ⟨⟨zE.c0, zE.c1⟩, zV.e15, zF.d4⟩) ?_
   simp only [psOf, List.getD_cons_zero, List.getD_cons_succ]
   generalize w7.drew = wv at *
   repeat' (first
    | (have hDn := hDone; have rc0 := bz.cell 0; have rf0 := bz.frozen 0; have rc1 := bz.cell 1; have rf1 := bz.frozen 1; have rlt := bz.lt; (with_reducible refine HP.call ?_); refine cSt fun K hK => ?_; go_simp; refine hK.out _ _ (by exact ⟨⟨((zE.far (p := ⟨gz, 0, none⟩) hnE (sC Da dn dc)).far (p := ⟨gz, 1, none⟩) hnE (sC Db en ec)).c0, ((zE.far (p := ⟨gz, 0, none⟩) hnE (sC Da dn dc)).far (p := ⟨gz, 1, none⟩) hnE (sC Db en ec)).c1⟩, ((zV.far (p := ⟨gz, 0, none⟩) hnV (sC Da dn dc)).far (p := ⟨gz, 1, none⟩) hnV (sC Db en ec)).e15, ((zF.far (p := ⟨gz, 0, none⟩) hnF (sC Da dn dc)).far (p := ⟨gz, 1, none⟩) hnF (sC Db en ec)).d4⟩) ?_; clear hK K; (try simp only [Act.put, qqA, qqB, qqC]); clear rc0 rf0 rc1 rf1; repeat (first | (refine HP.tk ?_; (try simp only [Act.put, qqA, qqB, qqC])) | (refine HP.sk ?_; (try simp only [Act.put, qqA, qqB, qqC]))); refine HP.done ?_; have rq := (bz.set0 (sC Da dn dc)).set1 (sC Db en ec); have rR := ((zR.far (p := ⟨gz, 0, none⟩) hnR (sC Da dn dc)).far (p := ⟨gz, 1, none⟩) hnR (sC Db en ec)); have rX := (zX.setCell (p := ⟨gz, 0, none⟩) hgz (sC Da dn dc)).setCell (p := ⟨gz, 1, none⟩) hgz (sC Db en ec); have rW := hWs.two bz (sC Da dn dc) (sC Db en ec); generalize (wv.setCell ⟨gz, 0, none⟩ (sC Da dn dc)).setCell ⟨gz, 1, none⟩ (sC Db en ec) = Wf at *; exact key gz Da dn dc Db en ec E Wf Aq cq A8 c8 A9 c9 As cs ⟨rq, rR, rX, rW⟩)
    | (with_reducible refine HP.both ?_ ?_)
    | (with_reducible refine HP.three ?_ ?_ ?_)
    | (with_reducible refine HP.call ?_)
    | (refine HP.tk ?_; (try simp only [Act.put, qqA, qqB, qqC]))
    | (refine HP.sk ?_; (try simp only [Act.put, qqA, qqB, qqC]))
    | (refine cSt fun K hK => ?_; go_simp; first
      | ((with_reducible refine callAt 155 ?_); have HC := viewSegOf_c V1 p v t n0 wv.heap.size wv zP.own.vlt.sgs nle HY.out (by have := HFr.out.2.1; omega) (by have := HFr.out.1; omega) (by have := HFr.out.1; omega); rw [Hm9.out, Ho9.out] at HC; refine HC.mono ?_; clear HC; rintro e wv ⟨Aq, cq, rfl, hSq, hk⟩; (try replace bz := bz.nx hk); replace zE := zE.nx hk; replace zF := zF.nx hk; replace zV := zV.nx hk; replace zR := zR.nx hk; replace zP := zP.nx hk; replace zX := zX.trans hk; (try replace hS8 := hS8.nx hk); (try replace hW8 := hW8.nx hk); (try replace hSs := hSs.nx hk); (try replace hWs := hWs.nx hk); clear hk; go_wp2_with fail; refine hK.out _ _ (by exact ⟨⟨zE.c0, zE.c1⟩, zV.e15, zF.d4⟩) ?_; clear hK K; (try simp only [Act.put, qqA, qqB, qqC]))
      | ((with_reducible refine callAt 156 ?_); refine (segTextM_c (p - 1) p m9 Aq cq wv.heap.size [((n0 : Int), v, o9)] wv hSq.row nle HGR.out).mono ?_; rintro e wv ⟨he, hk⟩; rw [HGT.out] at he; subst he; (try replace bz := bz.nx hk); replace zE := zE.nx hk; replace zF := zF.nx hk; replace zV := zV.nx hk; replace zR := zR.nx hk; replace zP := zP.nx hk; replace zX := zX.trans hk; (try replace hSq := hSq.nx hk); (try replace hS8 := hS8.nx hk); (try replace hW8 := hW8.nx hk); (try replace hSs := hSs.nx hk); (try replace hWs := hWs.nx hk); clear hk; go_wp2_with fail; refine hK.out _ _ (by exact ⟨⟨zE.c0, zE.c1⟩, zV.e15, zF.d4⟩) ?_; clear hK K; (try simp only [Act.put, qqA, qqB, qqC]))
      | ((with_reducible refine callAt 125 ?_); refine (written_c A A2 64 c 0 c2 B ss [] x9 s9 wv (h.below zX hB) (h2.below zX hB) (ntr hB zX.size) oM oM).mono ?_; rintro e wv ⟨A8, n8, c8, A9, n9, c9, rfl, hS8, hW8, hk⟩; obtain rfl : n8 = 64 := hS8.1.symm.trans h.1; obtain rfl : n9 = 1 := hW8.1.symm; (try replace bz := bz.nx hk); replace zE := zE.nx hk; replace zF := zF.nx hk; replace zV := zV.nx hk; replace zR := zR.nx hk; replace zP := zP.nx hk; replace zX := zX.trans hk; (try replace hSq := hSq.nx hk); (try replace hSs := hSs.nx hk); (try replace hWs := hWs.nx hk); clear hk; go_wp2_with fail; refine hK.out _ _ (by exact ⟨⟨zE.c0, zE.c1⟩, zV.e15, zF.d4⟩) ?_; clear hK K; (try simp only [Act.put, qqA, qqB, qqC]))
      | ((with_reducible refine callAt 157 ?_); have HC := withSector_c V1.g V1.b V1.p V1.t V1.A V1.A2 V1.c V1.c2 wv.heap.size V1.xs V1.ms x9 wv zP.own.vlt.tab nle HXL.out; unfold RetSec at HC; rw [HX9.out] at HC; refine HC.mono ?_; clear HC; rintro e wv ⟨As, cs, rfl, _, hSs, hk⟩; (try replace bz := bz.nx hk); replace zE := zE.nx hk; replace zF := zF.nx hk; replace zV := zV.nx hk; replace zR := zR.nx hk; replace zP := zP.nx hk; replace zX := zX.trans hk; (try replace hSq := hSq.nx hk); (try replace hS8 := hS8.nx hk); (try replace hW8 := hW8.nx hk); (try replace hWs := hWs.nx hk); clear hk; go_wp2_with fail; refine hK.out _ _ (by exact ⟨⟨zE.c0, zE.c1⟩, zV.e15, zF.d4⟩) ?_; clear hK K; (try simp only [Act.put, qqA, qqB, qqC]))
      | ((with_reducible refine callAt 54 ?_); refine (withSuper_c A8 A9 64 c8 1 c9 wv.heap.size ss ([] ++ [(x9, s9)]) V1.g V1.b V1.p V1.t As V1.A2 cs V1.c2 X9 V1.ms wv a0 a1 hS8.strs hW8.wrs hSs.row zP.own.vlt.mks nle HDp.out HS1.out (hE.nx zX) (hM.nx zX) (hEt.nx zX) (hT.nx zX)).mono ?_; intro e wv hrw; obtain ⟨hk, Da, dn, dc, Db, en, ec, E, rfl, hWs⟩ := hrw.one HNU.out; clear hrw; replace hWs := hWs.low zX.size; have hDone := True.intro; (try replace bz := bz.nx hk); replace zE := zE.nx hk; replace zF := zF.nx hk; replace zV := zV.nx hk; replace zR := zR.nx hk; replace zP := zP.nx hk; replace zX := zX.trans hk; (try replace hSq := hSq.nx hk); (try replace hS8 := hS8.nx hk); (try replace hW8 := hW8.nx hk); (try replace hSs := hSs.nx hk); clear hk; go_wp2_with fail; refine hK.out _ _ (by exact ⟨⟨zE.c0, zE.c1⟩, zV.e15, zF.d4⟩) ?_; clear hK K; (try simp only [Act.put, qqA, qqB, qqC]))
      | (have bz := Box.new wv 35 #[nsl, nsl]; have hz := (Nx.refl wv).alloc (.cells #[nsl, nsl] 35); have hnE := Nat.ne_of_lt zE.lt; have hnV := Nat.ne_of_lt zV.lt; have hnF := Nat.ne_of_lt zF.lt; have hnR := Nat.ne_of_lt zR.lt; have hgz := zX.size; (try replace bz := bz.nx hz); replace zE := zE.nx hz; replace zF := zF.nx hz; replace zV := zV.nx hz; replace zR := zR.nx hz; replace zP := zP.nx hz; replace zX := zX.trans hz; (try replace hSq := hSq.nx hz); (try replace hS8 := hS8.nx hz); (try replace hW8 := hW8.nx hz); (try replace hSs := hSs.nx hz); (try replace hWs := hWs.nx hz); refine hK.out _ _ (by exact ⟨⟨zE.c0, zE.c1⟩, zV.e15, zF.d4⟩) ?_; clear hK K; (try simp only [Act.put, qqA, qqB, qqC]); clear hz; change HP _ _ _ _ _ _ (wv.alloc (.cells #[nsl, nsl] 35)); generalize wv.heap.size = gz at *; generalize wv.alloc (.cells #[nsl, nsl] 35) = wv at *)))
 intro gz Da dn dc Db en ec E Wq Aq cq A8 c8 A9 c9 As cs ⟨zB, zR, zX, hWR⟩
 rcases hWR with ⟨hg, rfl⟩ | ⟨hg, rfl, hSd, hWd⟩
 . have HR2 := qh (HN.out 7 (apC_full HP0.out (.inr (HsV.out.g.symm.trans hg))) dC)
   have m0 := zR.c0
   have m1 := zR.c1
   have mf0 := zR.frozen 0
   have mf1 := zR.frozen 1
   unfold slE
   go_wp2_with fail
   refine (slotCode_c z9 7 _ (hEt.nx zX)).mono ?_
   rintro e w9 ⟨rfl, hk⟩
   replace zR := zR.nx hk
   replace zX := zX.trans hk
   replace m0 := zR.c0
   replace m1 := zR.c1
   replace mf0 := zR.frozen 0
   replace mf1 := zR.frozen 1
   clear hk
   go_wp2_with fail
   have rq := (zR.set0 (nsl)).set1 (nsl)
   have hnf := (zX.setCell (p := ⟨gR, 0, none⟩) hgR (nsl)).setCell (p := ⟨gR, 1, none⟩) hgR (nsl)
   generalize (w9.setCell ⟨gR, 0, none⟩ (nsl)).setCell ⟨gR, 1, none⟩ (nsl) = Wf at *
   clear m0 m1 mf0 mf1
   have q0 := rq.c0
   have q1 := rq.c1
   go_wp2
   exact bodyPost_ret (v := .tuple #[.agg #[nsl, nsl], ii 7]) (by simp [results, results75, go_sem, q0, q1]) rfl (RetDiskCode.nil HR2.out hnf)
 have HR2 : Hid (R = ((settleTo kpAll ss ([] ++ [(x9, s9)]) 1, [(1 - z9, supT (V1.g + 1) V1.b V1.p V1.t X9 V1.ms)]), 0)) := qh (by
  rw [<- HR.out, wwP_yes HL.out (apC_yes HP0.out h20.out (by rw [<- HsV.out.g]; exact hg))]
  unfold apD
  rw [HXe.out, Hs9.out, Hz9.out, <- HX9.out, settle_put, HsV.out.g, HsV.out.b, HsV.out.p, HsV.out.t, HsV.out.xs, HsV.out.ms])
 have m0 := zR.c0
 have m1 := zR.c1
 have mf0 := zR.frozen 0
 have mf1 := zR.frozen 1
 have n0' := zB.c0
 have n1' := zB.c1
 go_wp2_with fail
 have rq := (zR.set0 (sC Da dn dc)).set1 (sC Db en ec)
 have hnf := (zX.setCell (p := ⟨gR, 0, none⟩) hgR (sC Da dn dc)).setCell (p := ⟨gR, 1, none⟩) hgR (sC Db en ec)
 have hSf := hSd.twoW zR (sC Da dn dc) (sC Db en ec)
 have hWf := hWd.twoW zR (sC Da dn dc) (sC Db en ec)
 generalize (Wq.setCell ⟨gR, 0, none⟩ (sC Da dn dc)).setCell ⟨gR, 1, none⟩ (sC Db en ec) = Wf at *
 clear m0 m1 mf0 mf1 n0' n1'
 have q0 := rq.c0
 have q1 := rq.c1
 exact bodyPost_ret (v := .tuple #[.agg #[sC Da dn dc, sC Db en ec], ii 0]) (by simp [results, results75, go_sem, q0, q1]) rfl (RetDiskCode.mk HR2.out hSf hWf hnf)
theorem askD_disk {ss : List BA} {ws : List (Int × BA)} {p b v t : Int} (h : diskB ss ws = false) : askD ss ws p b v t = false := by unfold askD; rw [h]; rfl
theorem askD_wait {ss : List BA} {ws : List (Int × BA)} {p b v t : Int} (h : ws.length ≠ 0) : askD ss ws p b v t = false := by unfold askD; rw [decide_eq_false h]; simp
theorem askD_of {ss : List BA} {ws : List (Int × BA)} {p b v t : Int} (h : diskB ss ws = true) (h2 : ws.length = 0) : askD ss ws p b v t = frameB p b v t := by unfold askD; rw [h, decide_eq_true h2]; rfl
def idleB (ss : List BA) (ws : List (Int × BA)) : Bool := diskB ss ws && decide (ws.length = 0)
theorem l05Ask_c (A A2 : Option Addr) (n c n2 c2 B : Nat) (ss : List BA) (ws : List (Int × BA)) (p b v t : Int) (w : World) (h : Strs w B A n ss) (h2 : Wrs w B A2 n2 ws) (hB : B <= w.heap.size) (hn : n <= 1048576) (hn2 : n2 <= 1048576) :
 Calls Tryz.prog 76 #[.agg #[sC A n c, sC A2 n2 c2], .agg #[ii p, ii b, ii v, ii t]] w fun e w' => e = .returned (.bool (askD ss ws p b v t)) /\ Nx w w' := by
 have e0 : Box ((w.alloc (.cells #[sC A n c, sC A2 n2 c2] 35)).alloc (.cells #[ii p, ii b, ii v, ii t] 55)) w.heap.size 35 #[sC A n c, sC A2 n2 c2] := (Box.new w _ _).alloc _
 have f0 : Box ((w.alloc (.cells #[sC A n c, sC A2 n2 c2] 35)).alloc (.cells #[ii p, ii b, ii v, ii t] 55)) (w.heap.size + 1) 55 #[ii p, ii b, ii v, ii t] := by have := Box.new (w.alloc (.cells #[sC A n c, sC A2 n2 c2] 35)) 55 #[ii p, ii b, ii v, ii t]; rwa [World.size_alloc] at this
 have hx0 := ((Nx.refl w).alloc (.cells #[sC A n c, sC A2 n2 c2] 35)).alloc (.cells #[ii p, ii b, ii v, ii t] 55)
 have hl := h2.1
 go_enter func76, ntmps76
 go_wp2_with fail
 generalize (w.alloc (.cells #[sC A n c, sC A2 n2 c2] 35)).alloc (.cells #[ii p, ii b, ii v, ii t] 55) = W at *
 refine (specDiskOK_c A A2 n c n2 c2 B ss ws W (h.below hx0 hB) (h2.below hx0 hB) (ntr hB hx0.size) hn hn2).mono ?_
 rintro e w1 ⟨rfl, hk⟩
 have e1 := e0.nx hk
 have f1 := f0.nx hk
 have hx1 := hx0.trans hk
 cases hD : diskB ss ws with
 | false =>
   have HA := qh (askD_disk (p := p) (b := b) (v := v) (t := t) hD)
   clear hD
   go_wp2
   go_ret
   exact ⟨ret_bool HA.out.symm, hx1⟩
 | true =>
   have z1 := e1.c1
   by_cases h0 : n2 = 0
   case neg =>
    have HA := qh (askD_wait (ss := ss) (p := p) (b := b) (v := v) (t := t) (show ws.length ≠ 0 by omega))
    have hd : ((n2 : Int) == 0) = false := by rw [beq_eq_false_iff_ne]; omega
    clear hD
    go_wp2
    go_ret
    exact ⟨ret_bool HA.out.symm, hx1⟩
   have HA := qh (askD_of (p := p) (b := b) (v := v) (t := t) hD (show ws.length = 0 by omega))
   have hd : ((n2 : Int) == 0) = true := by rw [beq_iff_eq]; omega
   obtain ⟨y0, y1, y2, y3⟩ := f1.d4
   clear hD
   go_wp2_with fail
   refine (specFrameOK_c p b v t w1).mono ?_
   rintro e w2 ⟨rfl, hk2⟩
   go_wp2
   go_ret
   exact ⟨ret_bool HA.out.symm, hx1.trans hk2⟩
theorem isIdle_c (A A2 : Option Addr) (n c n2 c2 B : Nat) (ss : List BA) (ws : List (Int × BA)) (w : World) (h : Strs w B A n ss) (h2 : Wrs w B A2 n2 ws) (hB : B <= w.heap.size) (hn : n <= 1048576) (hn2 : n2 <= 1048576) :
 Calls Tryz.prog 73 #[.agg #[sC A n c, sC A2 n2 c2]] w fun e w' => e = .returned (.bool (idleB ss ws)) /\ Nx w w' := by
 have e0 := Box.new w 35 #[sC A n c, sC A2 n2 c2]
 have hx0 := (Nx.refl w).alloc (.cells #[sC A n c, sC A2 n2 c2] 35)
 have hl := h2.1
 go_enter func73, ntmps73
 go_wp2_with fail
 generalize w.alloc (.cells #[sC A n c, sC A2 n2 c2] 35) = W at *
 refine (isRight_c A A2 n c n2 c2 B ss ws W (h.below hx0 hB) (h2.below hx0 hB) (ntr hB hx0.size) hn hn2).mono ?_
 rintro e w1 ⟨rfl, hk⟩
 have e1 := e0.nx hk
 have hx1 := hx0.trans hk
 cases hD : diskB ss ws with
 | false =>
   have HA : Hid (idleB ss ws = false) := qh (by unfold idleB; rw [hD]; rfl)
   clear hD
   go_wp2
   go_ret
   exact ⟨ret_bool HA.out.symm, hx1⟩
 | true =>
   have z1 := e1.c1
   have HA : Hid (idleB ss ws = decide (ws.length = 0)) := qh (by unfold idleB; rw [hD]; rfl)
   clear hD
   by_cases h0 : n2 = 0
   . have hd : ((n2 : Int) == 0) = true := by rw [beq_iff_eq]; omega
     have HB : Hid (decide (ws.length = 0) = true) := qh (decide_eq_true oM)
     go_wp2
     go_ret
     exact ⟨ret_bool (by rw [HA.out, HB.out]), hx1⟩
   . have hd : ((n2 : Int) == 0) = false := by rw [beq_eq_false_iff_ne]; omega
     have HB : Hid (decide (ws.length = 0) = false) := qh (decide_eq_false oM)
     go_wp2
     go_ret
     exact ⟨ret_bool (by rw [HA.out, HB.out]), hx1⟩
theorem askD_yes {ss : List BA} {ws : List (Int × BA)} {p b v t : Int} (h : askD ss ws p b v t = true) : diskB ss [] = true /\ ws = [] /\ frameB p b v t = true /\ ∃ n : Nat, b = (n : Int) := by
 unfold askD at h
 simp only [Bool.and_eq_true, decide_eq_true_eq] at h
 have hw : ws = [] := List.length_eq_zero_iff.1 h.1.2
 subst hw
 exact ⟨h.1.1, rfl, h.2, b.toNat, (Int.toNat_of_nonneg (frameB_yes h.2).2.1.1).symm⟩
theorem apC_zero {V : Vl} {cd p : Int} (h : apC V cd p = 0) : cd = 0 /\ p = V.tip + 1 /\ V.gs.length ≠ 20 /\ V.g ≠ 999999 := by
 unfold apC at h
 by_cases h0 : cd ≠ 0
 . rw [if_pos h0] at h; exact absurd h h0
 rw [if_neg h0] at h
 by_cases h1 : p <= V.tip
 . rw [if_pos h1] at h; exact absurd h dC
 rw [if_neg h1] at h
 by_cases h2 : V.tip + 1 < p
 . rw [if_pos h2] at h; exact absurd h dC
 rw [if_neg h2] at h
 by_cases h3 : V.gs.length = 20 \/ V.g = 999999
 . rw [if_pos h3] at h; exact absurd h dC
 exact ⟨oM, oM, fun e => h3 (.inl e), fun e => h3 (.inr e)⟩
theorem apP_disk {ss : List BA} {p v t : Int} {n : Nat} (hD : diskB ss [] = true) (hF : frameB p (n : Int) v t = true) : diskB (apP ss p n v t).1.1 (apP ss p n v t).1.2 = true := by
 obtain ⟨⟨V, cd⟩, hL⟩ : ∃ q, ldV ss [] = q := ⟨_, rfl⟩
 by_cases hc : apC V cd p = 0
 . rw [apP_yes hL hc]
   obtain ⟨h0, h1, h2, h3⟩ := apC_zero hc
   subst h0
   have hA : Asked ss V p n v t := ⟨hD, ldV_ldY hL, hF, h1, h2, h3⟩
   exact hA.disk1
 . rw [apP_no hL rfl hc]; exact hD
theorem ww_ap_no {ss : List BA} {p v t k : Int} {n : Nat} (h : (wwP ss p n v t).2 = k) (h0 : k ≠ 0) : apP ss p n v t = ((ss, []), k) := by
 by_cases hc : apC (ldV ss []).1 (ldV ss []).2 p = 0
 . unfold wwP at h; rw [if_pos hc] at h; exact absurd h.symm h0
 . unfold wwP at h; rw [if_neg hc] at h
   unfold apP; rw [if_neg hc, <- h]
theorem ww_ap_yes {ss : List BA} {p v t cd : Int} {n : Nat} {P1 : List BA} {P2 : List (Int × BA)} (h : (wwP ss p n v t).2 = 0) (h2 : apP ss p n v t = ((P1, P2), cd)) : wwP ss p n v t = ((P1, P2), 0) /\ cd = 0 := by
 by_cases hc : apC (ldV ss []).1 (ldV ss []).2 p = 0
 . unfold apP at h2; rw [if_pos hc] at h2
   unfold wwP; rw [if_pos hc]
   injection h2 with h3 h4
   exact ⟨by rw [h3], h4.symm⟩
 . unfold wwP at h; rw [if_neg hc] at h; exact absurd h hc
theorem specAppendWrite_c (A A2 : Option Addr) (n c n2 c2 B : Nat) (ss : List BA) (ws : List (Int × BA)) (p b v t : Int) (w : World) (h : Strs w B A n ss) (h2 : Wrs w B A2 n2 ws) (hB : B <= w.heap.size) (hn : n <= 1048576) (hn2 : n2 <= 1048576) :
 Calls Tryz.prog 26 #[.agg #[sC A n c, sC A2 n2 c2], .agg #[ii p, ii b, ii v, ii t]] w (RetDiskCode w (awP ss ws p b v t).1.1 (awP ss ws p b v t).1.2 (awP ss ws p b v t).2) := by
 obtain ⟨R, HR⟩ := nM (awP ss ws p b v t)
 rw [HR.out]
 have HR : Hid ((if askD ss ws p b v t then ((settleTo kpAll (apP ss p b.toNat v t).1.1 (apP ss p b.toNat v t).1.2 (apP ss p b.toNat v t).1.2.length, []), (apP ss p b.toNat v t).2) else (([], []), 1)) = R) := qh HR.out
 have zE : Box (((w.alloc (.cells #[sC A n c, sC A2 n2 c2] 35)).alloc (.cells #[ii p, ii b, ii v, ii t] 55)).alloc (.cells #[nsl, nsl] 35)) w.heap.size 35 #[sC A n c, sC A2 n2 c2] := ((Box.new w _ _).alloc _).alloc _
 have zF : Box (((w.alloc (.cells #[sC A n c, sC A2 n2 c2] 35)).alloc (.cells #[ii p, ii b, ii v, ii t] 55)).alloc (.cells #[nsl, nsl] 35)) (w.heap.size + 1) 55 #[ii p, ii b, ii v, ii t] := by have := (Box.new (w.alloc (.cells #[sC A n c, sC A2 n2 c2] 35)) 55 #[ii p, ii b, ii v, ii t]).alloc (.cells #[nsl, nsl] 35); rwa [World.size_alloc] at this
 have zR : Box (((w.alloc (.cells #[sC A n c, sC A2 n2 c2] 35)).alloc (.cells #[ii p, ii b, ii v, ii t] 55)).alloc (.cells #[nsl, nsl] 35)) (w.heap.size + 1 + 1) 35 #[nsl, nsl] := by have := Box.new ((w.alloc (.cells #[sC A n c, sC A2 n2 c2] 35)).alloc (.cells #[ii p, ii b, ii v, ii t] 55)) 35 #[nsl, nsl]; rwa [World.size_alloc, World.size_alloc] at this
 have zX := (((Nx.refl w).alloc (.cells #[sC A n c, sC A2 n2 c2] 35)).alloc (.cells #[ii p, ii b, ii v, ii t] 55)).alloc (.cells #[nsl, nsl] 35)
 have hgR : w.heap.size <= w.heap.size + 1 + 1 := oM
 obtain ⟨gR, HgR⟩ := nM (w.heap.size + 1 + 1)
 go_enter func26, ntmps26
 have y0 := zE.c0
 have y1 := zE.c1
 obtain ⟨x0, x1, x2, x3⟩ := zF.d4
 go_wp2_with fail
 generalize (((w.alloc (.cells #[sC A n c, sC A2 n2 c2] 35)).alloc (.cells #[ii p, ii b, ii v, ii t] 55)).alloc (.cells #[nsl, nsl] 35)) = W at *
 rw [HgR.out] at zR hgR ⊢
 clear y0 y1 x0 x1 x2 x3
 refine (l05Ask_c A A2 n c n2 c2 B ss ws p b v t W (h.below zX hB) (h2.below zX hB) (ntr hB zX.size) hn hn2).mono ?_
 rintro e w1 ⟨rfl, hk⟩
 replace zE := zE.nx hk; replace zF := zF.nx hk; replace zR := zR.nx hk; replace zX := zX.trans hk; clear hk
 cases hA : askD ss ws p b v t with
 | false =>
   have HR2 : Hid (R = (([], []), 1)) := qh (by rw [<- HR.out, hA]; rfl)
   clear hA
   have m0 := zR.c0
   have m1 := zR.c1
   have mf0 := zR.frozen 0
   have mf1 := zR.frozen 1
   go_wp2_with fail
   have rq := (zR.set0 (nsl)).set1 (nsl)
   have hnf := (zX.setCell (p := ⟨gR, 0, none⟩) hgR (nsl)).setCell (p := ⟨gR, 1, none⟩) hgR (nsl)
   generalize (w1.setCell ⟨gR, 0, none⟩ (nsl)).setCell ⟨gR, 1, none⟩ (nsl) = Wf at *
   clear m0 m1 mf0 mf1
   have q0 := rq.c0
   have q1 := rq.c1
   go_wp2
   exact bodyPost_ret (v := .tuple #[.agg #[nsl, nsl], ii 1]) (by simp [results, results26, go_sem, q0, q1]) rfl (RetDiskCode.nil HR2.out hnf)
 | true =>
 obtain ⟨hD, hw0, hF, n0, hb0⟩ := askD_yes hA
 subst hw0 hb0
 have HR2 : Hid (R = ((settleTo kpAll (apP ss p n0 v t).1.1 (apP ss p n0 v t).1.2 (apP ss p n0 v t).1.2.length, []), (apP ss p n0 v t).2)) := qh (by rw [<- HR.out, hA]; rfl)
 have HAD := qh (apP_disk (p := p) (v := v) (t := t) (n := n0) hD hF)
 have HD := qh hD
 have HFr := qh hF
 clear hA HR hD hF
 obtain rfl : n = 64 := by rw [<- h.1]; exact (diskB_len64 HD.out).1
 obtain rfl : n2 = 0 := h2.1.symm
 have y0 := zE.c0
 have y1 := zE.c1
 obtain ⟨x0, x1, x2, x3⟩ := zF.d4
 go_wp2_with fail
 clear y0 y1 x0 x1 x2 x3
 refine (l05Append_c A A2 64 c 0 c2 B ss p v t n0 w1 (h.below zX hB) (h2.below zX hB) (ntr hB zX.size) HD.out HFr.out).mono ?_
 rintro e w2 ⟨Aa, an, ac, Ba, bn, bc, rfl, hSa, hWa, hk⟩
 replace zE := zE.nx hk; replace zF := zF.nx hk; replace zR := zR.nx hk; replace zX := zX.trans hk; clear hk
 obtain ⟨⟨⟨P1, P2⟩, cd⟩, HP⟩ := nM (apP ss p n0 v t)
 rw [HP.out] at hSa hWa HR2 HAD ⊢
 simp only at hSa hWa ⊢
 obtain rfl : an = 64 := by rw [<- hSa.1]; exact (diskB_len64 HAD.out).1
 have hb80 : bn <= 80 := by rw [<- hWa.1]; exact (diskB_len64 HAD.out).2.1
 have HWo := qh (diskB_len64 HAD.out).2.2.2
 have HR3 : Hid (R = ((settleTo kpAll P1 P2 bn, []), cd)) := qh (by rw [HR2.out, <- hWa.1])
 go_wp2_with fail
 have hk := (Nx.refl w2).alloc (.cells #[sC Aa 64 ac, sC Ba bn bc] 35)
 replace hSa := hSa.below hk nle
 replace hWa := hWa.below hk nle
 have hs2 := hk.size
 replace zE := zE.nx hk; replace zF := zF.nx hk; replace zR := zR.nx hk; replace zX := zX.trans hk; clear hk
 change Calls _ _ _ (w2.alloc (.cells #[sC Aa 64 ac, sC Ba bn bc] 35)) _
 generalize w2.alloc (.cells #[sC Aa 64 ac, sC Ba bn bc] 35) = w3 at *
 refine (l01Flush_c Aa Ba ac bn bc w2.heap.size P1 P2 w3 hSa hWa hs2 hb80 HWo.out).mono ?_
 rintro e w4 ⟨A8, n8, c8, A9, n9, c9, rfl, hS8, hW8, hk⟩
 have hz3 := zX.size
 replace zE := zE.nx hk; replace zF := zF.nx hk; replace zR := zR.nx hk; replace zX := zX.trans hk; clear hk
 replace hS8 := hS8.low (lo' := w.heap.size) hz3
 replace hW8 := hW8.low (lo' := w.heap.size) hz3
 have m0 := zR.c0
 have m1 := zR.c1
 have mf0 := zR.frozen 0
 have mf1 := zR.frozen 1
 go_wp2_with fail
 have rq := (zR.set0 (sC A8 n8 c8)).set1 (sC A9 n9 c9)
 have hnf := (zX.setCell (p := ⟨gR, 0, none⟩) hgR (sC A8 n8 c8)).setCell (p := ⟨gR, 1, none⟩) hgR (sC A9 n9 c9)
 have hSf := hS8.twoW zR (sC A8 n8 c8) (sC A9 n9 c9)
 have hWf := hW8.twoW zR (sC A8 n8 c8) (sC A9 n9 c9)
 generalize (w4.setCell ⟨gR, 0, none⟩ (sC A8 n8 c8)).setCell ⟨gR, 1, none⟩ (sC A9 n9 c9) = Wf at *
 clear m0 m1 mf0 mf1
 have q0 := rq.c0
 have q1 := rq.c1
 go_wp2
 exact bodyPost_ret (v := .tuple #[.agg #[sC A8 n8 c8, sC A9 n9 c9], ii cd]) (by simp [results, results26, go_sem, q0, q1]) rfl (RetDiskCode.mk HR3.out hSf hWf hnf)
theorem specAppendWrite_r (A A2 : Option Addr) (n c n2 c2 B : Nat) (ss : List BA) (ws : List (Int × BA)) (p b v t : Int) (w : World) (R1 : List BA) (R2 : List (Int × BA)) (cd : Int) (HP : awP ss ws p b v t = ((R1, R2), cd)) (h : Strs w B A n ss) (h2 : Wrs w B A2 n2 ws) (hB : B <= w.heap.size) (hn : n <= 1048576) (hn2 : n2 <= 1048576) :
 Calls Tryz.prog 26 #[.agg #[sC A n c, sC A2 n2 c2], .agg #[ii p, ii b, ii v, ii t]] w (RetDiskCode w R1 R2 cd) := by
 have := specAppendWrite_c A A2 n c n2 c2 B ss ws p b v t w h h2 hB hn hn2
 rw [HP] at this
 exact this
theorem implAppendWrite_c (A A2 : Option Addr) (n c n2 c2 B : Nat) (ss : List BA) (ws : List (Int × BA)) (p b v t : Int) (w : World) (a0 a1 : Addr) (h : Strs w B A n ss) (h2 : Wrs w B A2 n2 ws) (hB : B <= w.heap.size) (hn : n <= 1048576) (hn2 : n2 <= 1048576) (hE : Er w a0 a1) (hM : Mx w) (hEt : Et w) (hT : Tab w) :
 Calls Tryz.prog 25 #[.agg #[sC A n c, sC A2 n2 c2], .agg #[ii p, ii b, ii v, ii t]] w (RetDiskCode w (awP ss ws p b v t).1.1 (awP ss ws p b v t).1.2 (awP ss ws p b v t).2) := by
 obtain ⟨R, HR⟩ := nM (awP ss ws p b v t)
 rw [HR.out]
 have HR : Hid ((if askD ss ws p b v t then ((settleTo kpAll (apP ss p b.toNat v t).1.1 (apP ss p b.toNat v t).1.2 (apP ss p b.toNat v t).1.2.length, []), (apP ss p b.toNat v t).2) else (([], []), 1)) = R) := qh HR.out
 have zE : Box (((w.alloc (.cells #[sC A n c, sC A2 n2 c2] 35)).alloc (.cells #[ii p, ii b, ii v, ii t] 55)).alloc (.cells #[nsl, nsl] 35)) w.heap.size 35 #[sC A n c, sC A2 n2 c2] := ((Box.new w _ _).alloc _).alloc _
 have zF : Box (((w.alloc (.cells #[sC A n c, sC A2 n2 c2] 35)).alloc (.cells #[ii p, ii b, ii v, ii t] 55)).alloc (.cells #[nsl, nsl] 35)) (w.heap.size + 1) 55 #[ii p, ii b, ii v, ii t] := by have := (Box.new (w.alloc (.cells #[sC A n c, sC A2 n2 c2] 35)) 55 #[ii p, ii b, ii v, ii t]).alloc (.cells #[nsl, nsl] 35); rwa [World.size_alloc] at this
 have zR : Box (((w.alloc (.cells #[sC A n c, sC A2 n2 c2] 35)).alloc (.cells #[ii p, ii b, ii v, ii t] 55)).alloc (.cells #[nsl, nsl] 35)) (w.heap.size + 1 + 1) 35 #[nsl, nsl] := by have := Box.new ((w.alloc (.cells #[sC A n c, sC A2 n2 c2] 35)).alloc (.cells #[ii p, ii b, ii v, ii t] 55)) 35 #[nsl, nsl]; rwa [World.size_alloc, World.size_alloc] at this
 have zX := (((Nx.refl w).alloc (.cells #[sC A n c, sC A2 n2 c2] 35)).alloc (.cells #[ii p, ii b, ii v, ii t] 55)).alloc (.cells #[nsl, nsl] 35)
 have hgR : w.heap.size <= w.heap.size + 1 + 1 := oM
 obtain ⟨gR, HgR⟩ := nM (w.heap.size + 1 + 1)
 go_enter func25, ntmps25
 have y0 := zE.c0
 have y1 := zE.c1
 obtain ⟨x0, x1, x2, x3⟩ := zF.d4
 go_wp2_with fail
 generalize (((w.alloc (.cells #[sC A n c, sC A2 n2 c2] 35)).alloc (.cells #[ii p, ii b, ii v, ii t] 55)).alloc (.cells #[nsl, nsl] 35)) = W at *
 rw [HgR.out] at zR hgR ⊢
 clear y0 y1 x0 x1 x2 x3
 refine (isIdle_c A A2 n c n2 c2 B ss ws W (h.below zX hB) (h2.below zX hB) (ntr hB zX.size) hn hn2).mono ?_
 rintro e w1 ⟨rfl, hk⟩
 replace zE := zE.nx hk; replace zF := zF.nx hk; replace zR := zR.nx hk; replace zX := zX.trans hk; clear hk
 cases hI : idleB ss ws with
 | false =>
   have HR2 : Hid (R = (([], []), 1)) := qh (by rw [<- HR.out, show askD ss ws p b v t = false from by unfold askD; unfold idleB at hI; rw [hI]; rfl]; rfl)
   clear hI
   have m0 := zR.c0
   have m1 := zR.c1
   have mf0 := zR.frozen 0
   have mf1 := zR.frozen 1
   go_wp2_with fail
   have rq := (zR.set0 (nsl)).set1 (nsl)
   have hnf := (zX.setCell (p := ⟨gR, 0, none⟩) hgR (nsl)).setCell (p := ⟨gR, 1, none⟩) hgR (nsl)
   generalize (w1.setCell ⟨gR, 0, none⟩ (nsl)).setCell ⟨gR, 1, none⟩ (nsl) = Wf at *
   clear m0 m1 mf0 mf1
   have q0 := rq.c0
   have q1 := rq.c1
   go_wp2
   exact bodyPost_ret (v := .tuple #[.agg #[nsl, nsl], ii 1]) (by simp [results, results25, go_sem, q0, q1]) rfl (RetDiskCode.nil HR2.out hnf)
 | true =>
 have HI := qh hI
 clear hI
 obtain ⟨x0, x1, x2, x3⟩ := zF.d4
 go_wp2_with fail
 clear x0 x1 x2 x3
 refine (frameRight_c p b v t w1).mono ?_
 rintro e w1b ⟨rfl, hk⟩
 replace zE := zE.nx hk; replace zF := zF.nx hk; replace zR := zR.nx hk; replace zX := zX.trans hk; clear hk
 cases hFr : frameB p b v t with
 | false =>
   have HR2 : Hid (R = (([], []), 1)) := qh (by rw [<- HR.out, show askD ss ws p b v t = false from by unfold askD; rw [hFr, Bool.and_false]]; rfl)
   clear hFr
   have m0 := zR.c0
   have m1 := zR.c1
   have mf0 := zR.frozen 0
   have mf1 := zR.frozen 1
   go_wp2_with fail
   have rq := (zR.set0 (nsl)).set1 (nsl)
   have hnf := (zX.setCell (p := ⟨gR, 0, none⟩) hgR (nsl)).setCell (p := ⟨gR, 1, none⟩) hgR (nsl)
   generalize (w1b.setCell ⟨gR, 0, none⟩ (nsl)).setCell ⟨gR, 1, none⟩ (nsl) = Wf at *
   clear m0 m1 mf0 mf1
   have q0 := rq.c0
   have q1 := rq.c1
   go_wp2
   exact bodyPost_ret (v := .tuple #[.agg #[nsl, nsl], ii 1]) (by simp [results, results25, go_sem, q0, q1]) rfl (RetDiskCode.nil HR2.out hnf)
 | true =>
 have hA : askD ss ws p b v t = true := by have := HI.out; unfold askD; unfold idleB at this; rw [this, hFr]; rfl
 obtain ⟨hD, hw0, hF, n0, hb0⟩ := askD_yes hA
 subst hw0 hb0
 have HR2 : Hid (R = ((settleTo kpAll (apP ss p n0 v t).1.1 (apP ss p n0 v t).1.2 (apP ss p n0 v t).1.2.length, []), (apP ss p n0 v t).2)) := qh (by rw [<- HR.out, hA]; rfl)
 have HAD := qh (apP_disk (p := p) (v := v) (t := t) (n := n0) hD hF)
 have HD := qh hD
 have HFr := qh hF
 clear hA HR hD hF hFr
 obtain rfl : n = 64 := by rw [<- h.1]; exact (diskB_len64 HD.out).1
 obtain rfl : n2 = 0 := h2.1.symm
 have y0 := zE.c0
 have y1 := zE.c1
 obtain ⟨x0, x1, x2, x3⟩ := zF.d4
 go_wp2_with fail
 clear y0 y1 x0 x1 x2 x3
 refine (withWrite_c A A2 64 c 0 c2 B ss p v t n0 w1b a0 a1 (h.below zX hB) (h2.below zX hB) (ntr hB zX.size) HD.out HFr.out (hE.nx zX) (hM.nx zX) (hEt.nx zX) (hT.nx zX)).mono ?_
 rintro e w2 ⟨Aa, an, ac, Ba, bn, bc, rfl, hSa, hWa, hk⟩
 have hz1 := zX.size
 replace zE := zE.nx hk; replace zF := zF.nx hk; replace zR := zR.nx hk; replace zX := zX.trans hk; clear hk
 obtain ⟨k, Hk⟩ := nM ((wwP ss p n0 v t).2)
 rw [Hk.out]
 rcases Decidable.em (k = 0) with h0 | h0
 rotate_left
 . have HR3 : Hid (R = ((ss, []), k)) := qh (by rw [HR2.out, (ww_ap_no (Hk.out) h0)]; rfl)
   have hk := (Nx.refl w2).alloc (.cells #[sC Aa an ac, sC Ba bn bc] 35)
   replace zE := zE.nx hk; replace zF := zF.nx hk; replace zR := zR.nx hk; replace zX := zX.trans hk; clear hk
   have y0 := zE.c0
   have y1 := zE.c1
   go_wp2_with fail
   clear y0 y1
   generalize w2.alloc (.cells #[sC Aa an ac, sC Ba bn bc] 35) = w3 at *
   refine (copied_c A A2 64 c 0 c2 B ss [] w3 (h.below zX hB) (h2.below zX hB) (ntr hB zX.size) oM oM).mono ?_
   rintro e w4 ⟨A8, n8, c8, A9, n9, c9, rfl, hS8, hW8, hk⟩
   have hz3 := zX.size
   replace zE := zE.nx hk; replace zF := zF.nx hk; replace zR := zR.nx hk; replace zX := zX.trans hk; clear hk
   replace hS8 := hS8.low (lo' := w.heap.size) hz3
   replace hW8 := hW8.low (lo' := w.heap.size) hz3
   have m0 := zR.c0
   have m1 := zR.c1
   have mf0 := zR.frozen 0
   have mf1 := zR.frozen 1
   go_wp2_with fail
   have rq := (zR.set0 (sC A8 n8 c8)).set1 (sC A9 n9 c9)
   have hnf := (zX.setCell (p := ⟨gR, 0, none⟩) hgR (sC A8 n8 c8)).setCell (p := ⟨gR, 1, none⟩) hgR (sC A9 n9 c9)
   have hSf := hS8.twoW zR (sC A8 n8 c8) (sC A9 n9 c9)
   have hWf := hW8.twoW zR (sC A8 n8 c8) (sC A9 n9 c9)
   generalize (w4.setCell ⟨gR, 0, none⟩ (sC A8 n8 c8)).setCell ⟨gR, 1, none⟩ (sC A9 n9 c9) = Wf at *
   clear m0 m1 mf0 mf1
   have q0 := rq.c0
   have q1 := rq.c1
   go_wp2
   exact bodyPost_ret (v := .tuple #[.agg #[sC A8 n8 c8, sC A9 n9 c9], ii k]) (by simp [results, results25, go_sem, q0, q1]) rfl (RetDiskCode.mk HR3.out hSf hWf hnf)
 obtain rfl : k = 0 := h0
 obtain ⟨⟨⟨P1, P2⟩, cd⟩, HP⟩ := nM (apP ss p n0 v t)
 have Hww : Hid (wwP ss p n0 v t = ((P1, P2), 0) /\ cd = 0) := qh (ww_ap_yes Hk.out HP.out)
 obtain rfl : cd = 0 := Hww.out.2
 rw [Hww.out.1] at hSa hWa
 rw [HP.out] at HR2 HAD
 simp only at hSa hWa
 obtain rfl : an = 64 := by rw [<- hSa.1]; exact (diskB_len64 HAD.out).1
 have hb80 : bn <= 80 := by rw [<- hWa.1]; exact (diskB_len64 HAD.out).2.1
 have HWo := qh (diskB_len64 HAD.out).2.2.2
 have HR3 : Hid (R = ((settleTo kpAll P1 P2 bn, []), 0)) := qh (by rw [HR2.out, <- hWa.1])
 have hk := (Nx.refl w2).alloc (.cells #[sC Aa 64 ac, sC Ba bn bc] 35)
 replace hSa := hSa.nx hk
 replace hWa := hWa.nx hk
 replace zE := zE.nx hk; replace zF := zF.nx hk; replace zR := zR.nx hk; replace zX := zX.trans hk; clear hk
 have u0 := (Box.new w2 35 #[sC Aa 64 ac, sC Ba bn bc]).c0
 have u1 := (Box.new w2 35 #[sC Aa 64 ac, sC Ba bn bc]).c1
 go_wp2_with fail
 clear u0 u1
 generalize w2.alloc (.cells #[sC Aa 64 ac, sC Ba bn bc] 35) = w3 at *
 refine (flushed_c Aa Ba ac bn bc w3.heap.size P1 P2 w3 hSa.strs hWa.wrs nle hb80 HWo.out).mono ?_
 rintro e w4 ⟨A8, n8, c8, A9, n9, c9, rfl, hS8, hW8, hk⟩
 have hz3 := zX.size
 replace zE := zE.nx hk; replace zF := zF.nx hk; replace zR := zR.nx hk; replace zX := zX.trans hk; clear hk
 replace hS8 := hS8.low (lo' := w.heap.size) hz3
 replace hW8 := hW8.low (lo' := w.heap.size) hz3
 have m0 := zR.c0
 have m1 := zR.c1
 have mf0 := zR.frozen 0
 have mf1 := zR.frozen 1
 go_wp2_with fail
 have rq := (zR.set0 (sC A8 n8 c8)).set1 (sC A9 n9 c9)
 have hnf := (zX.setCell (p := ⟨gR, 0, none⟩) hgR (sC A8 n8 c8)).setCell (p := ⟨gR, 1, none⟩) hgR (sC A9 n9 c9)
 have hSf := hS8.twoW zR (sC A8 n8 c8) (sC A9 n9 c9)
 have hWf := hW8.twoW zR (sC A8 n8 c8) (sC A9 n9 c9)
 generalize (w4.setCell ⟨gR, 0, none⟩ (sC A8 n8 c8)).setCell ⟨gR, 1, none⟩ (sC A9 n9 c9) = Wf at *
 clear m0 m1 mf0 mf1
 have q0 := rq.c0
 have q1 := rq.c1
 go_wp2
 exact bodyPost_ret (v := .tuple #[.agg #[sC A8 n8 c8, sC A9 n9 c9], ii 0]) (by simp [results, results25, go_sem, q0, q1]) rfl (RetDiskCode.mk HR3.out hSf hWf hnf)
theorem implAppendWrite_r (A A2 : Option Addr) (n c n2 c2 B : Nat) (ss : List BA) (ws : List (Int × BA)) (p b v t : Int) (w : World) (a0 a1 : Addr) (R1 : List BA) (R2 : List (Int × BA)) (cd : Int) (HP : awP ss ws p b v t = ((R1, R2), cd)) (h : Strs w B A n ss) (h2 : Wrs w B A2 n2 ws) (hB : B <= w.heap.size) (hn : n <= 1048576) (hn2 : n2 <= 1048576) (hE : Er w a0 a1) (hM : Mx w) (hEt : Et w) (hT : Tab w) :
 Calls Tryz.prog 25 #[.agg #[sC A n c, sC A2 n2 c2], .agg #[ii p, ii b, ii v, ii t]] w (RetDiskCode w R1 R2 cd) := by
 have := implAppendWrite_c A A2 n c n2 c2 B ss ws p b v t w a0 a1 h h2 hB hn hn2 hE hM hEt hT
 rw [HP] at this
 exact this
theorem ext_ret (V : Vl) (p : Int) (n : Nat) (v t : Int) : retL V.b (V.gs ++ [newG V p n v t]) = retL V.b V.gs ++ [p] := retL_app _ _ _
theorem ext_cnt {V : Vl} {x : Int} (hy : VltY V.g V.b V.p V.t V.xs V.ms V.gs V.im) (g : SgR) (hx : isRet V.b V.gs x = true) : cntV V.b V.p V.t (V.gs ++ [g]) V.im x = cntV V.b V.p V.t V.gs V.im x := by
 have hl := chainB_lead hy.chain
 have ha := (stp_le V.im hl hy.places).1
 have hk := (ahd_at hx).1
 unfold cntV
 rw [stp_app V.im g hl hy.places, (isRet_app g hx).2]
 by_cases h : (stp V.b V.p V.t V.gs V.im).2 <= ahd V.b V.gs x
 . rw [if_pos h, if_pos h, fwK_app _ _ _ _ _ oM]
 . rw [if_neg h, if_neg h, bkK_app _ _ _ _ ha _ oM]
theorem ext_top {ss : List BA} {V : Vl} {p v t : Int} {n : Nat} (h : Asked ss V p n v t) : cntV V.b V.p V.t (V.gs ++ [newG V p n v t]) V.im p = V.top.set n v := by
 have hy := h.ld.ok
 have hl := chainB_lead hy.chain
 have ha := (stp_le V.im hl hy.places).1
 have h1 := (top_ct h.y).1
 have ht : tipV V.b (V.gs ++ [newG V p n v t]) = p := ext_tip V p n v t
 rw [ht, stp_app V.im _ hl hy.places, List.length_append] at h1
 rw [h1]
 show fwK _ _ _ (V.gs.length + 1 - (stp V.b V.p V.t V.gs V.im).2) = _
 rw [show V.gs.length + 1 - (stp V.b V.p V.t V.gs V.im).2 = (V.gs.length - (stp V.b V.p V.t V.gs V.im).2) + 1 by omega]
 show app pN (fwK _ _ _ (V.gs.length - (stp V.b V.p V.t V.gs V.im).2)) ((V.gs ++ [newG V p n v t]).getD ((stp V.b V.p V.t V.gs V.im).2 + (V.gs.length - (stp V.b V.p V.t V.gs V.im).2)) sgZ).cs = _
 rw [fwK_app _ _ _ _ _ oM, show (stp V.b V.p V.t V.gs V.im).2 + (V.gs.length - (stp V.b V.p V.t V.gs V.im).2) = V.gs.length by omega, getD_app, <- (top_ct hy).1]
 rfl
theorem conT_s {V V' : Vl} (h : VlS V V') : ∀ k, conT V' k = conT V k
 | 0 => rfl
 | k + 1 => by
   show conT V' k ++ cntV V'.b V'.p V'.t V'.gs V'.im ((retL V'.b V'.gs).getD k 0) = conT V k ++ cntV V.b V.p V.t V.gs V.im ((retL V.b V.gs).getD k 0)
   rw [conT_s h k, h.b, h.p, h.t, h.im, retL_v h.gs, cntV_v h.gs]
theorem getD_leftI {xs ys : List Int} {k : Nat} (h : k < xs.length) : (xs ++ ys).getD k 0 = xs.getD k 0 := by
 rw [gdE, gdE, List.getElem?_append_left h]
theorem ext_con {V : Vl} {p v t : Int} {n : Nat} (hy : VltY V.g V.b V.p V.t V.xs V.ms V.gs V.im) : ∀ k, k <= V.gs.length + 1 -> conT (extV V p n v t) k = conT V k
 | 0, _ => rfl
 | k + 1, hk => by
   show conT (extV V p n v t) k ++ cntV V.b V.p V.t (V.gs ++ [newG V p n v t]) V.im ((retL V.b (V.gs ++ [newG V p n v t])).getD k 0) = conT V k ++ cntV V.b V.p V.t V.gs V.im ((retL V.b V.gs).getD k 0)
   rw [ext_con hy k oM, ext_ret, getD_leftI (by rw [retL_len]; omega), ext_cnt hy _ (isRet_at oM)]
theorem ext_all {ss : List BA} {V : Vl} {p v t : Int} {n : Nat} (h : Asked ss V p n v t) : conT (extV V p n v t) (V.gs.length + 2) = conT V (V.gs.length + 1) ++ V.top.set n v := by
 show conT (extV V p n v t) (V.gs.length + 1) ++ cntV V.b V.p V.t (V.gs ++ [newG V p n v t]) V.im ((retL V.b (V.gs ++ [newG V p n v t])).getD (V.gs.length + 1) 0) = _
 rw [ext_con h.ld.ok _ nle, ext_ret]
 have e : (retL V.b V.gs ++ [p]).getD (V.gs.length + 1) 0 = p := by
  rw [gdE, List.getElem?_append_right (by rw [retL_len]; exact Nat.le_refl _), retL_len, Nat.sub_self]; rfl
 rw [e, ext_top h]
theorem top_len {V : Vl} (hy : VltY V.g V.b V.p V.t V.xs V.ms V.gs V.im) : V.top.length = 8 := by
 unfold Vl.top
 rw [cntV_len]; exact hy.l8
theorem tip_ret {V : Vl} (hy : VltY V.g V.b V.p V.t V.xs V.ms V.gs V.im) : isRet V.b V.gs V.tip = true := (ahd_of (chainB_lead hy.chain) nle).1
theorem awP_ask {ss : List BA} {p v t : Int} {n : Nat} (hd : diskB ss [] = true) (hf : frameB p (n : Int) v t = true) : awP ss [] p (n : Int) v t = ((settleTo kpAll (apP ss p n v t).1.1 (apP ss p n v t).1.2 (apP ss p n v t).1.2.length, []), (apP ss p n v t).2) := by
 have h : askD ss [] p (n : Int) v t = true := by unfold askD; rw [hd, hf]; rfl
 unfold awP
 rw [h]; rfl
theorem awP_no {ss : List BA} {V : Vl} {p v t c : Int} {n : Nat} (hd : diskB ss [] = true) (hl : LdY ss [] V) (hf : frameB p (n : Int) v t = true) (hc : apC V 0 p = c) (h0 : c ≠ 0) : awP ss [] p (n : Int) v t = ((ss, []), c) := by
 rw [awP_ask hd hf, apP_no hl.v hc h0]; rfl
theorem awP_yes {ss : List BA} {V : Vl} {p v t : Int} {n : Nat} (h : Asked ss V p n v t) : awP ss [] p (n : Int) v t = (((apS ss V p n v t).set (1 - sltV ss []).toNat (apU V), []), 0) := by
 rw [awP_ask h.disk h.frame, apP_yes h.ld.v (apC_yes h.next h.room h.gen)]; rfl
theorem ldA_of {ss : List BA} {V : Vl} (hd : diskB ss [] = true) (hl : LdY ss [] V) : ldA ss [] = (V, 0) := (ldA_yes hd).trans hl.v
structure ApOut (ss ss' : List BA) (V V' : Vl) (T : Int) (n : Nat) (v t : Int) : Prop where
 one : awP ss [] (T + 1) (n : Int) v t = ((ss', []), 0)
 two : awP ss' [] (T + 1) (n : Int) v t = ((ss', []), 9)
 three : awP ss' [] (T + 3) (n : Int) v t = ((ss', []), 17)
 len : ss'.length = 64
 ld : ldA ss' [] = (V', 0)
 ok : V'.ok = true
 tip : V'.tip = T + 1
 ret : retL V'.b V'.gs = retL V.b V.gs ++ [T + 1]
 now : ctR V' (T + 1) = (V.top.set n v, 0)
 con : conT V' (V.gs.length + 2) = conT V (V.gs.length + 1) ++ V.top.set n v
 gs : V'.gs.length = V.gs.length + 1
theorem ap_out {ss : List BA} {V : Vl} {n : Nat} {v t : Int} (h : Dv ss V 41) (hf : ∀ p, 1 <= p -> p <= 1000 -> frameB p (n : Int) v t = true) :
 (V.gs.length = 20 /\ awP ss [] (V.tip + 1) (n : Int) v t = ((ss, []), 7)) \/ ∃ ss' V', ApOut ss ss' V V' V.tip n v t := by
 have hti := h.ld.ok.tipIn
 have ht0 : 0 <= V.tip := hti.1
 have ht := h.tip
 have hg := h.gen
 by_cases h20 : V.gs.length = 20
 . exact .inl ⟨h20, awP_no h.disk h.ld (hf _ oM oM) (apC_full rfl (.inl h20)) dC⟩
 . right
   have hA : Asked ss V (V.tip + 1) n v t := ⟨h.disk, h.ld, hf _ oM oM, rfl, h20, oM⟩
   have hok : (extV V (V.tip + 1) n v t).ok = true := hA.y.b
   have hr : isRet V.b (V.gs ++ [newG V (V.tip + 1) n v t]) (V.tip + 1) = true := by
    have := tip_ret hA.ldF.ok
    rwa [ext_tip] at this
   refine ⟨_, extV V (V.tip + 1) n v t, awP_yes hA, awP_no hA.diskF hA.ldF hA.frame (apC_there (by rw [ext_tip]; exact Int.le_refl _)) dC, awP_no hA.diskF hA.ldF (hf _ oM oM) (apC_gap (by rw [ext_tip]; omega)) dC, (diskB_len64 hA.diskF).1, ldA_of hA.diskF hA.ldF, hok, ext_tip _ _ _ _ _, ext_ret V (V.tip + 1) n v t, ?_, ext_all hA, by show (V.gs ++ _).length = _; rw [List.length_append]; rfl⟩
   rw [ctR_yes hok hr]
   exact congrArg (·, 0) (ext_top hA)
def sgA (t : BA) : G4 := if t.size <= 65536 then (rdG t).getD zG else zG
def sgC (t : BA) : Int := if t.size <= 65536 then (if (rdG t).isSome then 0 else 3) else 2
def RetRG (w : World) (t : BA) (e : Ending) (w' : World) : Prop :=
 Nx w w' /\ ∃ A c, e = .returned (.tuple #[.agg #[ii (sgA t).1, ii (sgA t).2.1, ii (sgA t).2.2.1, sC A (sgA t).2.2.2.length c], ii (sgC t)]) /\ Sl w' w.heap.size A 192 ((sgA t).2.2.2.length * 3) (chAt (sgA t).2.2.2)
theorem RetRG.un {w w' : World} {t : BA} {e : Ending} {q0 q1 q2 : Nat} {cs : List Chg} {cd : Int} (h : RetRG w t e w') (hq : sgA t = (q0, q1, q2, cs)) (hc : sgC t = cd) :
 Nx w w' /\ ∃ A c, e = .returned (.tuple #[.agg #[ii q0, ii q1, ii q2, sC A cs.length c], ii cd]) /\ Sl w' w.heap.size A 192 (cs.length * 3) (chAt cs) := by
 unfold RetRG at h; rw [hq, hc] at h; exact h
theorem RetRG.mk {w w' : World} {t : BA} {q0 q1 q2 c : Nat} {cs : List Chg} {cd : Int} {A : Option Addr} (hq : sgA t = (q0, q1, q2, cs) /\ sgC t = cd) (hs : Sl w' w.heap.size A 192 (cs.length * 3) (chAt cs)) (hn : Nx w w') :
 RetRG w t (.returned (.tuple #[.agg #[ii q0, ii q1, ii q2, sC A cs.length c], ii cd])) w' := by
 unfold RetRG; rw [hq.1, hq.2]; exact ⟨hn, A, c, rfl, hs⟩
theorem Sl.nil {w : World} {lo : Nat} : Sl w lo none 192 (([] : List Chg).length * 3) (chAt []) := fun h => absurd h (by simp)
theorem RetRG.zero {w w' : World} {t : BA} {cd : Int} (hq : sgA t = zG /\ sgC t = cd) (hn : Nx w w') :
 RetRG w t (.returned (.tuple #[.agg #[ii 0, ii 0, ii 0, nsl], ii cd])) w' := RetRG.mk (q0 := 0) (q1 := 0) (q2 := 0) (cs := []) hq Sl.nil hn
theorem frame_c (g : Nat) (A : Option Addr) (n c B : Nat) (ys : List Nat) (w : World) (hb : SrcR w g A n c 0) (h : U8s w B A n ys) (hB : B <= g) (hn : n <= 1048576) :
 Calls Tryz.prog 69 #[.pointer (some ⟨g, 0, none⟩)] w fun e w' => ∃ q : F4, e = .returned (vF q) /\ frameB q.1 q.2.1 q.2.2.1 q.2.2.2 = true /\ Rg g (g + 1) w w' := by
 have hz0 := hb.lt
 have b0 := Box.new w 55 #[ii 0, ii 0, ii 0, ii 0]
 have hx0 := (Nx.refl w).alloc (.cells #[ii 0, ii 0, ii 0, ii 0] 55)
 have s0 := hb.nx hx0
 have u0 := h.below hx0 oM
 have r0 : Rg g (g + 1) w (w.alloc (.cells #[ii 0, ii 0, ii 0, ii 0] 55)) := Rg.of_nx hx0
 clear hb h hx0
 go_enter func69, ntmps69
 go_wp2_with fail
 generalize w.alloc (.cells #[ii 0, ii 0, ii 0, ii 0] 55) = W at *
 refine (nextR_c 20 g A n c 0 B ys _ oM oM s0 u0 hB hn oM).mono ?_
 rintro e w1 ⟨v0, rfl, hv0, s1, r1⟩
 have b1 := b0.rg r1 (.inr oM)
 have u1 := u0.rg r1 hB (Nat.le_of_lt s0.lt)
 have t1 := r0.trans r1
 clear b0 u0 r0 r1 s0
 go_wp2_with fail
 refine (nextR_c 8 g A n c (0 + 3) B ys _ oM oM s1 u1 hB hn oM).mono ?_
 rintro e w2 ⟨v1, rfl, hv1, s2, r2⟩
 have b2 := b1.rg r2 (.inr oM)
 have u2 := u1.rg r2 hB (Nat.le_of_lt s1.lt)
 have t2 := t1.trans r2
 clear b1 u1 t1 r2 s1
 go_wp2_with fail
 refine (nextR_c 900 g A n c (0 + 3 + 3) B ys _ oM oM s2 u2 hB hn oM).mono ?_
 rintro e w3 ⟨v2, rfl, hv2, s3, r3⟩
 have b3 := b2.rg r3 (.inr oM)
 have u3 := u2.rg r3 hB (Nat.le_of_lt s2.lt)
 have t3 := t2.trans r3
 clear b2 u2 t2 r3 s2
 go_wp2_with fail
 refine (nextR_c 200 g A n c (0 + 3 + 3 + 3) B ys _ oM oM s3 u3 hB hn oM).mono ?_
 rintro e w4 ⟨v3, rfl, hv3, s4, r4⟩
 have b4 := b3.rg r4 (.inr oM)
 have t4 := t3.trans r4
 clear b3 u3 t3 r4 s3
 obtain ⟨c0, c1, c2, c3⟩ := b4.d4
 have f0 := b4.frozen 0
 have f1 := b4.frozen 1
 have f2 := b4.frozen 2
 have f3 := b4.frozen 3
 go_wp2
 have q := put4_box b4 (ii (1 + (v0 : Int))) (ii v1) (ii v2) (ii v3)
 have hnf := (((t4.setNew8 (p := ⟨w.heap.size, 0, none⟩) nle (ii (1 + (v0 : Int)))).setNew8 (p := ⟨w.heap.size, 1, none⟩) nle (ii v1)).setNew8 (p := ⟨w.heap.size, 2, none⟩) nle (ii v2)).setNew8 (p := ⟨w.heap.size, 3, none⟩) nle (ii v3)
 change Rg _ _ _ (put4 w4 w.heap.size (ii (1 + (v0 : Int))) (ii v1) (ii v2) (ii v3)) at hnf
 change bodyPost _ _ _ _ _ (put4 w4 w.heap.size (ii (1 + (v0 : Int))) (ii v1) (ii v2) (ii v3))
 generalize put4 w4 w.heap.size (ii (1 + (v0 : Int))) (ii v1) (ii v2) (ii v3) = Wf at *
 obtain ⟨g0, g1, g2, g3⟩ := q.d4
 refine bodyPost_ret (v := .agg #[ii (1 + (v0 : Int)), ii v1, ii v2, ii v3]) (by simp [results, results69, go_sem, g0, g1, g2, g3]) rfl ⟨(1 + v0, v1, v2, v3), ?_, ?_, hnf⟩
 . rw [show (1 : Int) + (v0 : Int) = ((1 + v0 : Nat) : Int) by omega]; rfl
 . show frameB ((1 + v0 : Nat) : Int) v1 v2 v3 = true
   unfold frameB inB; simp; omega
theorem frameDrawn_c (A : Option Addr) (n c : Nat) (ys : List Nat) (w : World) (h : U8s w w.heap.size A n ys) (hn : n <= 1048576) :
 Calls Tryz.prog 23 #[sC A n c] w fun e w' => ∃ q : F4, e = .returned (vF q) /\ frameB q.1 q.2.1 q.2.2.1 q.2.2.2 = true /\ Nx w w' := by
 go_enter func23, ntmps23
 go_wp2_with fail
 have b0 := Box.new w 55 #[ii 0, ii 0, ii 0, ii 0]
 have hx0 := (Nx.refl w).alloc (.cells #[ii 0, ii 0, ii 0, ii 0] 55)
 have u0 := h.below hx0 nle
 generalize w.alloc (.cells #[ii 0, ii 0, ii 0, ii 0] 55) = W at *
 have hz := b0.lt
 refine (l00Source_c A n c _ hn).mono ?_
 rintro e w1 ⟨rfl, s1, hnx1⟩
 have u1 := u0.below hnx1 oM
 go_wp2_with fail
 refine (frame_c W.heap.size A n c w.heap.size ys _ ⟨0, n % 1000, oM, oM, s1⟩ u1 oM hn).mono ?_
 rintro e w2 ⟨⟨q0, q1, q2, q3⟩, rfl, hf, r2⟩
 have HF := qh hf
 clear hf
 have b2 := (b0.nx hnx1).rg r2 (.inl hz)
 have hx2 := Rg.nx_of (hx0.trans hnx1) r2 oM
 clear u0 u1 b0 hx0 hnx1 r2 s1
 rw [show vF (q0, q1, q2, q3) = .agg #[ii q0, ii q1, ii q2, ii q3] from rfl]
 obtain ⟨c0, c1, c2, c3⟩ := b2.d4
 have f0 := b2.frozen 0
 have f1 := b2.frozen 1
 have f2 := b2.frozen 2
 have f3 := b2.frozen 3
 go_wp2
 have q := put4_box b2 (ii q0) (ii q1) (ii q2) (ii q3)
 have hnf := put4_nx hx2 (Nat.le_refl w.heap.size) (ii q0) (ii q1) (ii q2) (ii q3)
 change bodyPost _ _ _ _ _ (put4 w2 w.heap.size (ii q0) (ii q1) (ii q2) (ii q3))
 generalize put4 w2 w.heap.size (ii q0) (ii q1) (ii q2) (ii q3) = Wf at *
 obtain ⟨g0, g1, g2, g3⟩ := q.d4
 exact bodyPost_ret (v := .agg #[ii q0, ii q1, ii q2, ii q3]) (by simp [results, results23, go_sem, g0, g1, g2, g3]) rfl ⟨(q0, q1, q2, q3), rfl, HF.out, hnf⟩
def SameTo {α : Type} (p : α -> α -> Bool) (d : α) (l m : List α) (k : Nat) : Prop := ∀ i, i < k -> p (l.getD i d) (m.getD i d) = true
section
variable {α : Type} {p : α -> α -> Bool} {d : α} {l m : List α} {k : Nat}
theorem SameTo.zero : SameTo p d l m 0 := fun i hi => absurd hi oM
theorem SameTo.succ {x y : α} (h : SameTo p d l m k) (hx : l.getD k d = x) (hy : m.getD k d = y) (he : p x y = true) : SameTo p d l m (k + 1) := fun i hi => by
 rcases Nat.lt_or_ge i k with hlt | hge
 . exact h i hlt
 . obtain rfl : i = k := oM
   rw [hx, hy]; exact he
end
theorem sameTexts_c (A A2 : Option Addr) (n c c2 B : Nat) (ss : List BA) (w : World) (h : Strs w B A n ss) (h2 : Strs w B A2 n ss) (hB : B <= w.heap.size) (hn : n <= 1048576) :
 Calls Tryz.prog 63 #[sC A n c, sC A2 n c2] w fun e w' => e = .returned (.bool true) /\ Nx w w' := by
 go_enter func63, ntmps63
 go_wp2
 go_loopw [5] (fun i wr => ∃ k : Nat, k <= n /\ i = ii k /\ Nx w wr) (fun i _ => n - (intOf i).toNat)
 case atStart => exact ⟨0, Nat.zero_le _, rfl, Nx.refl _⟩
 case round =>
  obtain ⟨k, hk, rfl, hnx⟩ := hrel
  by_cases hlt : k < n
  . obtain ⟨b, off, rfl, hb, hc⟩ := (h.below hnx hB).at_ hlt
    obtain ⟨b2, off2, rfl, hb2, hc2⟩ := (h2.below hnx hB).at_ hlt
    generalize ss.getD k ByteArray.empty = s at hc hc2
    go_wp2
    go_quiet (fail)
    go_wp2
    go_roundw
    case rel => exact ⟨k + 1, oM, by go_num, hnx.drewN _⟩
    case measure => simp [intOf]; omega
  . go_wp2
    go_ret
    exact ⟨rfl, hnx⟩
theorem sameDisk_c (A A2 A3 A4 : Option Addr) (n c c3 c2 c4 B : Nat) (ss : List BA) (w : World) (h : Strs w B A n ss) (h3 : Strs w B A3 n ss)
 (hB : B <= w.heap.size) (hn : n <= 1048576) :
 Calls Tryz.prog 18 #[.agg #[sC A n c, sC A2 0 c2], .agg #[sC A3 n c3, sC A4 0 c4]] w fun e w' => e = .returned (.bool true) /\ Nx w w' := by
 go_enter func18, ntmps18
 go_wp2_with fail
 have b0 := (Box.new w 35 #[sC A n c, sC A2 0 c2]).alloc (.cells #[sC A3 n c3, sC A4 0 c4] 35)
 have b1 := Box.new (w.alloc (.cells #[sC A n c, sC A2 0 c2] 35)) 35 #[sC A3 n c3, sC A4 0 c4]
 have hnx0 := ((Nx.refl w).alloc (.cells #[sC A n c, sC A2 0 c2] 35)).alloc (.cells #[sC A3 n c3, sC A4 0 c4] 35)
 simp only [World.size_alloc] at b1
 generalize ((w.alloc (.cells #[sC A n c, sC A2 0 c2] 35)).alloc (.cells #[sC A3 n c3, sC A4 0 c4] 35)) = W at *
 refine (sameTexts_c A A3 n c c3 B ss _ (h.below hnx0 hB) (h3.below hnx0 hB) (ntr hB hnx0.size) hn).mono ?_
 rintro e w1 ⟨rfl, hnx1⟩
 have b0' := b0.nx hnx1
 have b1' := b1.nx hnx1
 have c00 := b0'.c0
 have c01 := b0'.c1
 have c10 := b1'.c0
 have c11 := b1'.c1
 have hnx2 := hnx0.trans hnx1
 go_wp2
 go_loopw [5] (fun i wr => i = ii 0 /\ wr = w1) (fun i _ => 0)
 case atStart => exact ⟨rfl, rfl⟩
 case round =>
  obtain ⟨rfl, rfl⟩ := hrel
  go_wp2
  go_ret
  exact ⟨rfl, hnx2⟩
theorem sameIntsU_c (A A2 : Option Addr) (c c2 B : Nat) (xs : List Int) (w : World) (h : Ins w B A xs) (h2 : Ins w B A2 xs) (hB : B <= w.heap.size) (hn : xs.length <= 1048576) :
 Calls Tryz.prog 19 #[sC A xs.length c, sC A2 xs.length c2] w fun e w' => e = .returned (.bool true) /\ Nx w w' := by
 go_enter func19, ntmps19
 go_wp2
 go_loopw [5] (fun i wr => ∃ k : Nat, k <= xs.length /\ i = ii k /\ Nx w wr) (fun i _ => xs.length - (intOf i).toNat)
 case atStart => exact ⟨0, Nat.zero_le _, rfl, Nx.refl _⟩
 case round =>
  obtain ⟨k, hk, rfl, hnx⟩ := hrel
  by_cases hlt : k < xs.length
  . obtain ⟨b, off, rfl, hb, hc⟩ := (h.below hnx hB).at_ hlt
    obtain ⟨b2, off2, rfl, hb2, hc2⟩ := (h2.below hnx hB).at_ hlt
    generalize xs.getD k 0 = s at hc hc2
    go_wp2
    go_quiet (fail)
    go_wp2
    go_roundw
    case rel => exact ⟨k + 1, oM, by go_num, hnx.drewN _⟩
    case measure => simp [intOf]; omega
  . go_wp2
    go_ret
    exact ⟨rfl, hnx⟩
theorem Ins.pre {w : World} {B : Nat} {A : Option Addr} {xs ys : List Int} (h : Ins w B A (xs ++ ys)) : Ins w B A xs := fun hm => by
 obtain ⟨b, off, e, hb, hc⟩ := h (by rw [List.length_append]; omega)
 refine ⟨b, off, e, hb, fun i hi => ?_⟩
 rw [hc i (by rw [List.length_append]; omega)]
 unfold inAt
 rw [getD_leftI hi]
theorem SlI.rgS {w w' : World} {lo a b : Nat} {A : Option Addr} {xs : List Int} (h : SlI w lo A xs) (hb : Rg a b w w') (hd : b <= lo) : SlI w' lo A xs := (h.sr.rg hb (.inr hd)).sl
theorem vaultDiskOf_c (A : Option Addr) (n c : Nat) (ys : List Nat) (w : World) (B : Nat) (h : U8s w B A n ys) (hB : B <= w.heap.size) (hn : n <= 1048576) :
 Calls Tryz.prog 20 #[sC A n c] w fun e w' => ∃ (A1 : Option Addr) (c1 : Nat) (A2 : Option Addr) (c2 : Nat) (ss : List BA) (V : Vl), e = .returned (.agg #[sC A1 64 c1, sC A2 0 c2]) /\ Dv ss V 41 /\ SlS w' w.heap.size A1 64 ss /\ Nx w w' := by
 go_enter func20, ntmps20
 go_wp2_with fail
 have b0 := Box.new w 35 #[nsl, nsl]
 have hx0 := (Nx.refl w).alloc (.cells #[nsl, nsl] 35)
 have u0 := h.below hx0 hB
 generalize w.alloc (.cells #[nsl, nsl] 35) = W at *
 have hz := b0.lt
 refine (l00Source_c A n c _ hn).mono ?_
 rintro e w1 ⟨rfl, s1, hnx1⟩
 have u1 := u0.below hnx1 oM
 have hz1 := hnx1.size
 go_wp2_with fail
 refine (vaultDisk_c W.heap.size A n c B 0 ys _ ⟨0, n % 1000, oM, oM, s1⟩ u1 oM hn oM).mono ?_
 rintro e w2 ⟨A1, c1, A2, c2, ss, V, rfl, hd, hS, _, r2⟩
 have HD := qh hd
 clear hd
 have b2 := (b0.nx hnx1).rg r2 (.inl hz)
 have hx2 := Rg.nx_of (hx0.trans hnx1) r2 oM
 have hgl : w.heap.size < w1.heap.size := oM
 clear u0 u1 b0 hx0 hnx1 r2 s1
 have y0 := b2.c0
 have y1 := b2.c1
 have f0 := b2.frozen 0
 have f1 := b2.frozen 1
 go_wp2
 obtain ⟨q0, q1, rS, rW, rx⟩ := fin_box c1 c2 b2 hS (⟨rfl, fun h => absurd h oM⟩ : SlW w2 w1.heap.size A2 0 []) hgl hgl hx2 nle
 generalize (w2.setCell ⟨w.heap.size, 0, none⟩ (sC A1 64 c1)).setCell ⟨w.heap.size, 1, none⟩ (sC A2 0 c2) = Wf at *
 exact bodyPost_ret (v := .agg #[sC A1 64 c1, sC A2 0 c2]) (by simp [results, results20, go_sem, q0, q1]) rfl ⟨A1, c1, A2, c2, ss, V, rfl, HD.out, rS, rx⟩
theorem lawAppend (A : Option Addr) (n c : Nat) (ys : List Nat) (A2 : Option Addr) (n2 c2 : Nat) (zs : List Nat) (w : World) (a0 a1 : Addr) (hE : Er w a0 a1) (hM : Mx w) (hEt : Et w) (hT : Tab w) (h : U8s w w.heap.size A n ys) (hn9 : n <= 2 ^ 63 - 1) (h2 : U8s w w.heap.size A2 n2 zs) (hn29 : n2 <= 2 ^ 63 - 1) :
 Calls Tryz.prog 4 #[sC A n c, sC A2 n2 c2] w fun e w' => e = .returned (.bool true) /\ Nx w w' := by
 by_cases hl : n <= 1048576
 case neg =>
  have hd0 : decide (1048576 < (n : Int)) = true := by simp; omega
  go_enter func4, ntmps4
  go_wp2
  go_ret
  exact ⟨rfl, Nx.refl _⟩
 have hd0 : decide (1048576 < (n : Int)) = false := by simp; omega
 by_cases hl2 : n2 <= 1048576
 case neg =>
  have hd1 : decide (1048576 < (n2 : Int)) = true := by simp; omega
  go_enter func4, ntmps4
  go_wp2
  go_ret
  exact ⟨rfl, Nx.refl _⟩
 have hd1 : decide (1048576 < (n2 : Int)) = false := by simp; omega
 go_enter func4, ntmps4
 go_wp2_with fail
 clear hd0 hd1
 refine (vaultDiskOf_c A n c ys _ w.heap.size h nle hl).mono ?_
 rintro e w1 ⟨D1, d1, D2, d2, ss, V, rfl, hDv, hS, hX⟩
 have HD := qh hDv
 have HLd := qh (ldA_of hDv.disk hDv.ld)
 have HVB := qh (show VlB V by have := ldA_b ss []; rwa [HLd.out] at this)
 clear hDv h
 go_wp2_with fail
 have D := Dk.new (c := d1) (c2 := d2) hS (⟨rfl, fun h => absurd h oM⟩ : SlW _ _ D2 0 [])
 have k0 := (Nx.refl w1).alloc (.cells #[sC D1 64 d1, sC D2 0 d2] 35)
 clear hS
 generalize w1.alloc (.cells #[sC D1 64 d1, sC D2 0 d2] 35) = w2 at *
 generalize w1.heap.size = gD at *
 replace hX := hX.trans k0
 have hld := implLoadVault_c D1 D2 64 d1 0 d2 _ ss [] w2 a0 a1 D.strs D.wrs nle oM oM (hE.nx hX) (hM.nx hX) (hEt.nx hX)
 rw [HLd.out] at hld
 have Hld := qh hld
 clear hld
 refine Hld.out.mono ?_
 clear Hld
 rintro e w3 ⟨v1, vm, rfl, vS, vP, k1⟩
 have vB := qh (HVB.out.s vS)
 simp only [Vl.v, Vl.cells]
 have vlo : w2.heap.size <= w3.heap.size := k1.size
 have vb := Box.new w3 49 #[ii v1.g, ii v1.b, ii v1.p, ii v1.t, sC v1.A v1.xs.length v1.c, sC v1.A2 v1.ms.length v1.c2, sC v1.A3 v1.gs.length v1.c3, sC v1.A4 v1.im.length v1.c4]
 have k2 := (Nx.refl w3).alloc (.cells #[ii v1.g, ii v1.b, ii v1.p, ii v1.t, sC v1.A v1.xs.length v1.c, sC v1.A2 v1.ms.length v1.c2, sC v1.A3 v1.gs.length v1.c3, sC v1.A4 v1.im.length v1.c4] 49)
 replace D := D.nx k1
 have Dy0 := D.c0
 have Dy1 := D.c1
 have Dyl := D.2.2.lt
 go_wp2_with fail
 clear Dy0 Dy1 Dyl
 generalize w3.alloc (.cells #[ii v1.g, ii v1.b, ii v1.p, ii v1.t, sC v1.A v1.xs.length v1.c, sC v1.A2 v1.ms.length v1.c2, sC v1.A3 v1.gs.length v1.c3, sC v1.A4 v1.im.length v1.c4] 49) = w4 at *
 generalize w3.heap.size = gv at *
 have hvok : V.ok = true := HD.out.ld.ok.b
 have hv1ok : v1.ok = true := vS.ok.symm ▸ hvok
 have HV1 := qh hv1ok
 have Htip : v1.tip = V.tip := vS.tip
 have HTR := qh (tipR_yes hv1ok)
 obtain ⟨T, HT⟩ := nM (V.tip)
 have hT0 : 0 <= T := by rw [<- HT.out]; exact HD.out.ld.ok.tipIn.1
 have hT4 : T <= 41 := by rw [<- HT.out]; exact HD.out.tip
 have HTR2 := qh (show tipR v1 = (T, 0) by rw [HTR.out]; have : tipV v1.b v1.gs = T := Htip.trans HT.out; rw [this])
 clear hvok hv1ok Htip HTR
 replace vP := vP.nx k2
 refine (implTipOf_c v1 _ w4 vP.own.vlt nle vB.out.n vP.cap vP.cap3 vB.out.mka).mono ?_
 rintro e w5 ⟨rfl, k3⟩
 rw [HTR2.out]
 replace vb := vb.nx k3
 obtain ⟨vby0, vby1, vby2, vby3, vby4, vby5, vby6, vby7⟩ := vb.e8
 have vbyl := vb.lt
 go_wp2_with fail
 clear vby0 vby1 vby2 vby3 vby4 vby5 vby6 vby7 vbyl
 replace hX := hX.trans (k1.trans (k2.trans k3))
 refine (frameDrawn_c A2 n2 c2 zs w5 ((h2.below hX nle).more hX.size) hl2).mono ?_
 rintro e w6 ⟨⟨f0, f1, f2, f3⟩, rfl, hfr, k4⟩
 simp only [vF]
 replace hfr : frameB (f0 : Int) (f1 : Int) (f2 : Int) (f3 : Int) = true := hfr
 have hf1 : f1 <= 7 := by unfold frameB inB at hfr; simp at hfr; omega
 have HF := qh (show ∀ p : Int, 1 <= p -> p <= 1000 -> frameB p (f1 : Int) (f2 : Int) (f3 : Int) = true from fun p h1 h2 => by unfold frameB inB at hfr ⊢; simp at hfr ⊢; omega)
 clear hfr
 obtain ⟨T1, HT1⟩ := nM (T + 1)
 have hw1 : IntKind.i64.wrap (T + 1) = T1 := by rw [IntWalk.i64_in _ oM]; exact HT1.out
 obtain ⟨T3, HT3⟩ := nM (T + 3)
 have hw3 : IntKind.i64.wrap (T + 3) = T3 := by rw [IntWalk.i64_in _ oM]; exact HT3.out
 replace vb := vb.nx k4
 obtain ⟨vby0, vby1, vby2, vby3, vby4, vby5, vby6, vby7⟩ := vb.e8
 have vbyl := vb.lt
 go_wp2_with fail
 clear vby0 vby1 vby2 vby3 vby4 vby5 vby6 vby7 vbyl
 have fb := Box.new w6 55 #[ii T1, ii (f1 : Int), ii (f2 : Int), ii (f3 : Int)]
 have k5 := (Nx.refl w6).alloc (.cells #[ii T1, ii (f1 : Int), ii (f2 : Int), ii (f3 : Int)] 55)
 replace D := D.nx (k2.trans (k3.trans k4))
 have hDf : gD < w6.heap.size := D.2.2.lt
 replace hX := hX.trans k4
 have hwgf : w.heap.size <= w6.heap.size := hX.size
 generalize w6.alloc (.cells #[ii T1, ii (f1 : Int), ii (f2 : Int), ii (f3 : Int)] 55) = w7 at *
 generalize w6.heap.size = gf at *
 have HC := qh (show ctR v1 T = (V.top, 0) by rw [ctR_s vS, <- HT.out, ctR_yes HD.out.ld.ok.b (tip_ret HD.out.ld.ok)]; rfl)
 have H8 := qh (top_len HD.out.ld.ok)
 have H8s := qh (show (V.top.set f1 (f2 : Int)).length = 8 by rw [List.length_set]; exact H8.out)
 have hgf7 : gf < w7.heap.size := fb.lt
 replace vP := vP.nx (k3.trans (k4.trans k5))
 have hca := implContentAt_c v1 T _ w7 vP.own.vlt nle vB.out.n vP.cap vP.cap3 vB.out.mka
 rw [HC.out] at hca
 have Hca := qh hca
 clear hca
 refine Hca.out.mono ?_
 clear Hca
 rintro e w8 ⟨O, oc, rfl, oS, k6⟩
 rw [H8.out]
 obtain ⟨go, rfl, hgo0, oO⟩ := oS (by rw [H8.out]; omega)
 clear oS
 have hgo : go < w8.heap.size := oO.lt
 have h78 : w7.heap.size <= w8.heap.size := oM
 have hX8 : Nx w8 w8 := Nx.refl _
 obtain ⟨R, cd, hAP, hRl, hOut⟩ : ∃ R cd, awP ss [] T1 (f1 : Int) (f2 : Int) (f3 : Int) = ((R, []), cd) /\ R.length = 64 /\ ((cd = 7 /\ V.gs.length = 20) \/ (cd = 0 /\ ∃ V', ApOut ss R V V' T f1 (f2 : Int) (f3 : Int))) := by
  rw [<- HT1.out, <- HT.out]
  rcases ap_out HD.out HF.out with ⟨h20, e⟩ | ⟨ss', V', hO⟩
  . exact ⟨ss, 7, e, (diskB_len64 HD.out.disk).1, .inl ⟨rfl, h20⟩⟩
  . exact ⟨ss', 0, hO.one, hO.len, .inr ⟨rfl, V', hO⟩⟩
 have HAP := qh hAP
 have HOut := qh hOut
 have HRl := qh hRl
 clear hAP hOut hRl
 replace D := D.nx (k5.trans k6)
 have Dy0 := D.c0
 have Dy1 := D.c1
 have Dyl := D.2.2.lt
 replace fb := fb.nx k6
 obtain ⟨fby0, fby1, fby2, fby3⟩ := fb.d4
 have fbyl := fb.lt
 go_wp2_with fail
 clear Dy0 Dy1 Dyl
 clear fby0 fby1 fby2 fby3 fbyl
 replace hX := hX.trans (k5.trans k6)
 refine (implAppendWrite_r D1 D2 64 d1 0 d2 _ ss [] T1 (f1 : Int) (f2 : Int) (f3 : Int) w8 a0 a1 R [] cd HAP.out D.strs D.wrs nle oM oM (hE.nx hX) (hM.nx hX) (hEt.nx hX) (hT.nx hX)).mono ?_
 rintro e w9 ⟨X1, nn, x1, X2, mm, x2, rfl, xS, sW, k7⟩
 obtain rfl : 64 = nn := HRl.out.symm.trans xS.1
 obtain rfl : 0 = mm := sW.1
 clear sW
 replace hX8 := hX8.trans k7
 have hxl2 : w8.heap.size <= w9.heap.size := hX8.size
 replace fb := fb.nx k7
 have hgfX : gf < w9.heap.size := fb.lt
 have hgo7 : gf < w7.heap.size := hgf7
 have xlo : gf + 1 <= w8.heap.size := oM
 replace D := D.nx k7
 have Dy0 := D.c0
 have Dy1 := D.c1
 have Dyl := D.2.2.lt
 obtain ⟨fby0, fby1, fby2, fby3⟩ := fb.d4
 have fbyl := fb.lt
 go_wp2_with fail
 clear Dy0 Dy1 Dyl
 clear fby0 fby1 fby2 fby3 fbyl
 have X := Dk.new (c := x1) (c2 := x2) xS (⟨rfl, fun h => absurd h oM⟩ : SlW _ _ X2 0 [])
 have k8 := (Nx.refl w9).alloc (.cells #[sC X1 64 x1, sC X2 0 x2] 35)
 clear xS
 generalize w9.alloc (.cells #[sC X1 64 x1, sC X2 0 x2] 35) = wa at *
 generalize w9.heap.size = gX at *
 replace D := D.nx k8
 refine (specAppendWrite_r D1 D2 64 d1 0 d2 _ ss [] T1 (f1 : Int) (f2 : Int) (f3 : Int) wa R [] cd HAP.out D.strs D.wrs nle oM oM).mono ?_
 rintro e wb ⟨Y1, nn, y1, Y2, mm, y2, rfl, yS, sW, k9⟩
 obtain rfl : 64 = nn := HRl.out.symm.trans yS.1
 obtain rfl : 0 = mm := sW.1
 clear sW
 replace X := X.nx k9
 have Xy0 := X.c0
 have Xy1 := X.c1
 have Xyl := X.2.2.lt
 go_wp2_with fail
 clear Xy0 Xy1 Xyl
 have Y := Dk.new (c := y1) (c2 := y2) yS (⟨rfl, fun h => absurd h oM⟩ : SlW _ _ Y2 0 [])
 have k10 := (Nx.refl wb).alloc (.cells #[sC Y1 64 y1, sC Y2 0 y2] 35)
 clear yS
 generalize wb.alloc (.cells #[sC Y1 64 y1, sC Y2 0 y2] 35) = wc at *
 generalize wb.heap.size = gY at *
 replace X := X.nx k10
 have Xy0 := X.c0
 have Xy1 := X.c1
 have Xyl := X.2.2.lt
 have Yy0 := Y.c0
 have Yy1 := Y.c1
 have Yyl := Y.2.2.lt
 go_wp2_with fail
 clear Xy0 Xy1 Xyl
 clear Yy0 Yy1 Yyl
 refine (sameDisk_c X1 X2 Y1 Y2 64 x1 y1 x2 y2 _ R wc X.strs Y.strs nle oM).mono ?_
 rintro e wd ⟨rfl, k11⟩
 replace hX := hX.trans (k7.trans (k8.trans (k9.trans (k10.trans k11))))
 replace D := D.nx (k9.trans (k10.trans k11))
 replace vP := vP.nx (k6.trans (k7.trans (k8.trans (k9.trans (k10.trans k11)))))
 replace vb := vb.nx (k5.trans (k6.trans (k7.trans (k8.trans (k9.trans (k10.trans k11))))))
 replace fb := fb.nx (k8.trans (k9.trans (k10.trans k11)))
 replace oO := oO.nx (k7.trans (k8.trans (k9.trans (k10.trans k11))))
 replace hX8 := hX8.trans (k8.trans (k9.trans (k10.trans k11)))
 replace X := X.nx k11
 replace Y := Y.nx k11
 rcases HOut.out with ⟨rfl, h20⟩ | ⟨rfl, V', hO⟩
 . have hg20 : v1.gs.length = 20 := vS.len.trans h20
   obtain ⟨vby0, vby1, vby2, vby3, vby4, vby5, vby6, vby7⟩ := vb.e8
   have vbyl := vb.lt
   rw [hg20] at vby6
   go_wp2
   go_ret
   exact ⟨rfl, hX⟩
 have HO := qh hO
 clear hO HOut
 have HLd2 := qh HO.out.ld
 have HVB2 := qh (show VlB V' by have := ldA_b R []; rwa [HLd2.out] at this)
 clear D
 clear Y
 have udlo : w8.heap.size <= wd.heap.size := hX8.size
 have Xy0 := X.c0
 have Xy1 := X.c1
 have Xyl := X.2.2.lt
 go_wp2_with fail
 clear Xy0 Xy1 Xyl
 have hld := implLoadVault_c X1 X2 64 x1 0 x2 _ R [] wd a0 a1 X.strs X.wrs nle oM oM (hE.nx hX) (hM.nx hX) (hEt.nx hX)
 rw [HLd2.out] at hld
 have Hld := qh hld
 clear hld
 refine Hld.out.mono ?_
 clear Hld
 rintro e we ⟨u1, um, rfl, uS, uP, k12⟩
 have uB := qh (HVB2.out.s uS)
 simp only [Vl.v, Vl.cells]
 have ulo : wd.heap.size <= we.heap.size := k12.size
 have ub := Box.new we 49 #[ii u1.g, ii u1.b, ii u1.p, ii u1.t, sC u1.A u1.xs.length u1.c, sC u1.A2 u1.ms.length u1.c2, sC u1.A3 u1.gs.length u1.c3, sC u1.A4 u1.im.length u1.c4]
 have k13 := (Nx.refl we).alloc (.cells #[ii u1.g, ii u1.b, ii u1.p, ii u1.t, sC u1.A u1.xs.length u1.c, sC u1.A2 u1.ms.length u1.c2, sC u1.A3 u1.gs.length u1.c3, sC u1.A4 u1.im.length u1.c4] 49)
 go_wp2_with fail
 generalize we.alloc (.cells #[ii u1.g, ii u1.b, ii u1.p, ii u1.t, sC u1.A u1.xs.length u1.c, sC u1.A2 u1.ms.length u1.c2, sC u1.A3 u1.gs.length u1.c3, sC u1.A4 u1.im.length u1.c4] 49) = wf at *
 generalize we.heap.size = gu at *
 have HU1 := qh (show u1.ok = true from uS.ok.symm ▸ HO.out.ok)
 have HTU := qh (show tipR u1 = (T1, 0) by rw [tipR_yes HU1.out]; have : tipV u1.b u1.gs = T1 := uS.tip.trans (HO.out.tip.trans HT1.out); rw [this])
 replace uP := uP.nx k13
 refine (implTipOf_c u1 _ wf uP.own.vlt nle uB.out.n uP.cap uP.cap3 uB.out.mka).mono ?_
 rintro e wg ⟨rfl, k14⟩
 rw [HTU.out]
 replace ub := ub.nx k14
 obtain ⟨uby0, uby1, uby2, uby3, uby4, uby5, uby6, uby7⟩ := ub.e8
 have ubyl := ub.lt
 go_wp2_with fail
 clear uby0 uby1 uby2 uby3 uby4 uby5 uby6 uby7 ubyl
 have HC2 := qh (show ctR u1 T1 = (V.top.set f1 (f2 : Int), 0) by rw [ctR_s uS, <- HT1.out]; exact HO.out.now)
 replace hX8 := hX8.trans (k12.trans (k13.trans k14))
 have nlo : w8.heap.size <= wg.heap.size := hX8.size
 replace uP := uP.nx k14
 have hca := implContentAt_c u1 T1 _ wg uP.own.vlt nle uB.out.n uP.cap uP.cap3 uB.out.mka
 rw [HC2.out] at hca
 have Hca := qh hca
 clear hca
 refine Hca.out.mono ?_
 clear Hca
 rintro e wh ⟨Nw, nc, rfl, nS, k15⟩
 rw [H8s.out]
 replace vb := vb.nx (k12.trans (k13.trans (k14.trans k15)))
 obtain ⟨vby0, vby1, vby2, vby3, vby4, vby5, vby6, vby7⟩ := vb.e8
 have vbyl := vb.lt
 go_wp2_with fail
 clear vby0 vby1 vby2 vby3 vby4 vby5 vby6 vby7 vbyl
 obtain ⟨m, Hm⟩ := nM (v1.gs.length + 1)
 obtain ⟨m1, Hm1⟩ := nM (m + 1)
 obtain ⟨l, Hl⟩ := nM (8 * m)
 obtain ⟨l1, Hl1⟩ := nM (8 * m1)
 have hvg : v1.gs.length = V.gs.length := vS.len
 have hm21 : m <= 21 := by have := Hm.out; have := vB.out.gs; omega
 have hug : u1.gs.length + 1 = m1 := by have := uS.len; have := HO.out.gs; have := Hm.out; have := Hm1.out; omega
 have HRL := qh (show retL v1.b v1.gs = retL V.b V.gs by rw [retL_v vS.gs, vS.b])
 have HCL := qh (show conT v1 m = conT V m from conT_s vS m)
 have HRL2 := qh (show retL u1.b u1.gs = retL V.b V.gs ++ [T1] by rw [retL_v uS.gs, uS.b, HO.out.ret, HT1.out])
 have HCL2 := qh (show conT u1 m1 = conT V m ++ V.top.set f1 (f2 : Int) by rw [conT_s uS m1]; have := HO.out.con; rw [show V.gs.length + 2 = m1 by have := Hm.out; have := Hm1.out; omega, show V.gs.length + 1 = m by have := Hm.out; omega] at this; exact this)
 have HRLl := qh (show (retL V.b V.gs).length = m by rw [retL_len]; have := Hm.out; omega)
 have HCLl := qh (show (conT V m).length = l by rw [conT_len HD.out.ld.ok.l8]; exact Hl.out)
 replace hX8 := hX8.trans k15
 have plo : w8.heap.size <= wh.heap.size := hX8.size
 replace vP := vP.nx (k12.trans (k13.trans (k14.trans k15)))
 have hcon := contents_c v1 _ wh HV1.out vP.own.vlt nle vB.out vP.cap vP.cap3
 rw [Hm.out, HRL.out, HCL.out, Hl.out] at hcon
 have Hcon := qh hcon
 clear hcon
 refine Hcon.out.mono ?_
 clear Hcon
 rintro e wi ⟨Pr, pk, Qr, qk, rfl, Prk, Qrk, pS, qS, k16⟩
 clear vb
 clear vP
 replace ub := ub.nx (k15.trans k16)
 obtain ⟨uby0, uby1, uby2, uby3, uby4, uby5, uby6, uby7⟩ := ub.e8
 have ubyl := ub.lt
 go_wp2_with fail
 clear uby0 uby1 uby2 uby3 uby4 uby5 uby6 uby7 ubyl
 replace hX8 := hX8.trans k16
 have rlo : w8.heap.size <= wi.heap.size := hX8.size
 replace uP := uP.nx (k15.trans k16)
 have hcon := contents_c u1 _ wi HU1.out uP.own.vlt nle uB.out uP.cap uP.cap3
 rw [hug, HRL2.out, HCL2.out, Hl1.out] at hcon
 have Hcon := qh hcon
 clear hcon
 refine Hcon.out.mono ?_
 clear Hcon
 rintro e wj ⟨Rr, rk, Sr, sk, rfl, Rrk, Srk, rS, sS, k17⟩
 replace X := X.nx (k12.trans (k13.trans (k14.trans (k15.trans (k16.trans k17)))))
 have Xy0 := X.c0
 have Xy1 := X.c1
 have Xyl := X.2.2.lt
 replace fb := fb.nx (k12.trans (k13.trans (k14.trans (k15.trans (k16.trans k17)))))
 obtain ⟨fby0, fby1, fby2, fby3⟩ := fb.d4
 have fbyl := fb.lt
 go_wp2_with fail
 clear Xy0 Xy1 Xyl
 clear fby0 fby1 fby2 fby3 fbyl
 replace hX8 := hX8.trans k17
 have zlo : w8.heap.size <= wj.heap.size := hX8.size
 have HP2 := qh (show awP R [] T1 (f1 : Int) (f2 : Int) (f3 : Int) = ((R, []), 9) by rw [<- HT1.out]; exact HO.out.two)
 have HP3 := qh (show awP R [] T3 (f1 : Int) (f2 : Int) (f3 : Int) = ((R, []), 17) by rw [<- HT3.out]; exact HO.out.three)
 replace hX := hX.trans (k12.trans (k13.trans (k14.trans (k15.trans (k16.trans k17)))))
 refine (implAppendWrite_r X1 X2 64 x1 0 x2 _ R [] T1 (f1 : Int) (f2 : Int) (f3 : Int) wj a0 a1 R [] 9 HP2.out X.strs X.wrs nle oM oM (hE.nx hX) (hM.nx hX) (hEt.nx hX) (hT.nx hX)).mono ?_
 rintro e wk ⟨Z1, nn, z1, Z2, mm, z2, rfl, zS, sW, k18⟩
 obtain rfl : 64 = nn := HRl.out.symm.trans zS.1
 obtain rfl : 0 = mm := sW.1
 clear sW
 have hkz := k18.size
 replace fb := fb.nx k18
 have fyf := fb.frozen 0
 have hne1 : gX ≠ gf := oM
 have hne2 : gf ≠ gX := oM
 have hgfz : gf < wk.heap.size := fb.lt
 have hzj : wj.heap.size <= wk.heap.size := hkz
 have hwl : (wk.setCell ⟨gf, 0, none⟩ (ii T3)).heap.size = wk.heap.size := by simp [World.setCell]
 replace X := X.nx k18
 have Xy0 := X.c0
 have Xy1 := X.c1
 have Xyl := X.2.2.lt
 obtain ⟨fby0, fby1, fby2, fby3⟩ := fb.d4
 have fbyl := fb.lt
 go_wp2_with fail
 clear Xy0 Xy1 Xyl
 clear fby0 fby1 fby2 fby3 fbyl
 clear fyf
 have zS2 := zS.far (p := ⟨gf, 0, none⟩) (by have := zlo; simp; omega) (ii T3)
 clear zS
 have fb2 := fb.set 0 (ii T3)
 simp only [List.setIfInBounds_toArray, List.set_cons_zero] at fb2
 clear fb
 have rr : Rg gf (gf + 1) wk (wk.setCell ⟨gf, 0, none⟩ (ii T3)) := setRg wk ⟨gf, 0, none⟩ (ii T3)
 replace hX := hX.trans k18
 replace hX := hX.setCell (p := ⟨gf, 0, none⟩) (by exact hwgf) (ii T3)
 replace oO := oO.nx (k12.trans (k13.trans (k14.trans (k15.trans (k16.trans (k17.trans k18))))))
 replace oO := oO.rg rr (.inr oM)
 clear hX8
 replace X := X.rg rr (.inr oM) oM
 replace uP := uP.nx (k17.trans k18)
 replace uP := uP.rg rr (.inr oM)
 replace ub := ub.nx (k17.trans k18)
 replace ub := ub.rg rr (.inr oM)
 replace nS := nS.nx (k16.trans (k17.trans k18))
 replace nS := SlI.rgS nS rr oM
 replace pS := pS.nx (k17.trans k18)
 replace pS := SlI.rgS pS rr oM
 replace qS := qS.nx (k17.trans k18)
 replace qS := SlI.rgS qS rr oM
 replace rS := rS.nx k18
 replace rS := SlI.rgS rS rr oM
 replace sS := sS.nx k18
 replace sS := SlI.rgS sS rr oM
 clear rr
 generalize wk.setCell ⟨gf, 0, none⟩ (ii T3) = wl at *
 have Z := Dk.new (c := z1) (c2 := z2) zS2 (⟨rfl, fun h => absurd h oM⟩ : SlW _ _ Z2 0 [])
 have k19 := (Nx.refl wl).alloc (.cells #[sC Z1 64 z1, sC Z2 0 z2] 35)
 have hzg : wj.heap.size <= wl.heap.size := by have := hzj; have := hwl; omega
 clear zS2
 generalize wl.alloc (.cells #[sC Z1 64 z1, sC Z2 0 z2] 35) = wm at *
 try rw [hwl] at *
 generalize hgZ : wk.heap.size = gZ at *
 replace hX := hX.trans k19
 replace X := X.nx k19
 refine (implAppendWrite_r X1 X2 64 x1 0 x2 _ R [] T3 (f1 : Int) (f2 : Int) (f3 : Int) wm a0 a1 R [] 17 HP3.out X.strs X.wrs nle oM oM (hE.nx hX) (hM.nx hX) (hEt.nx hX) (hT.nx hX)).mono ?_
 rintro e wn ⟨Q1, nn, q1, Q2, mm, q2, rfl, cS, sW, k20⟩
 obtain rfl : 64 = nn := HRl.out.symm.trans cS.1
 obtain rfl : 0 = mm := sW.1
 clear sW
 clear cS
 replace oO := oO.nx (k19.trans k20)
 have hoc : wn.cell? ⟨go, f1, none⟩ = some (ii (V.top.getD f1 0)) := oO.cell (i := f1) (by rw [H8.out]; omega)
 have hof := oO.frozen f1
 have hol := oO.lt
 have hf8 : (f1 : Int) < 8 := oM
 have hf0 : (0 : Int) <= (f1 : Int) := oM
 replace fb2 := fb2.nx (k19.trans k20)
 obtain ⟨fb2y0, fb2y1, fb2y2, fb2y3⟩ := fb2.d4
 have fb2yl := fb2.lt
 go_wp2_with fail
 clear fb2y0 fb2y1 fb2y2 fb2y3 fb2yl
 clear hoc hof hol
 have oO2 : Own (wn.setCell ⟨go, f1, none⟩ (ii (f2 : Int))) go 3 V.top.length (inAt (V.top.set f1 (f2 : Int))) := (oO.set (k := f1) (by rw [H8.out]; omega) (ii (f2 : Int))).congr fun i hi => by
  unfold inAt
  rw [gdE, gdE, List.getElem?_set]
  by_cases e : i = f1
  . subst e; rw [if_pos rfl, if_pos rfl, if_pos hi]; rfl
  . rw [if_neg e, if_neg (fun h => e h.symm)]
 clear oO
 have rr : Rg go (go + 1) wn (wn.setCell ⟨go, f1, none⟩ (ii (f2 : Int))) := setRg wn ⟨go, f1, none⟩ (ii (f2 : Int))
 replace hX := hX.trans k20
 replace hX := hX.setCell (p := ⟨go, f1, none⟩) sM (ii (f2 : Int))
 replace X := X.nx k20
 replace X := X.rg rr (.inr oM) oM
 replace uP := uP.nx (k19.trans k20)
 replace uP := uP.rg rr (.inr oM)
 replace ub := ub.nx (k19.trans k20)
 replace ub := ub.rg rr (.inr oM)
 replace nS := nS.nx (k19.trans k20)
 replace nS := SlI.rgS nS rr oM
 replace pS := pS.nx (k19.trans k20)
 replace pS := SlI.rgS pS rr oM
 replace qS := qS.nx (k19.trans k20)
 replace qS := SlI.rgS qS rr oM
 replace rS := rS.nx (k19.trans k20)
 replace rS := SlI.rgS rS rr oM
 replace sS := sS.nx (k19.trans k20)
 replace sS := SlI.rgS sS rr oM
 clear fb2
 replace Z := Z.nx k20
 replace Z := Z.rg rr (.inr oM) oM
 clear rr
 generalize wn.setCell ⟨go, f1, none⟩ (ii (f2 : Int)) = wo at *
 have k21 := (Nx.refl wo).alloc (.cells #[sC Q1 64 q1, sC Q2 0 q2] 35)
 generalize wo.alloc (.cells #[sC Q1 64 q1, sC Q2 0 q2] 35) = wp at *
 replace rS := rS.nx k21
 obtain ⟨gr, egr⟩ : ∃ gr, Rr = some ⟨gr, 0, none⟩ := by obtain ⟨g, e, _⟩ := rS (by rw [List.length_append, HRLl.out]; simp); exact ⟨g, e⟩
 replace sS := sS.nx k21
 obtain ⟨gs, egs⟩ : ∃ gs, Sr = some ⟨gs, 0, none⟩ := by obtain ⟨g, e, _⟩ := sS (by rw [List.length_append, H8s.out]; omega); exact ⟨g, e⟩
 subst egr egs
 have hmk1 : m <= rk := by have := Hm1.out; omega
 have hmk2 : (m : Int) <= (rk : Int) := oM
 have hlk1 : l <= sk := by have := Hm1.out; have := Hl.out; have := Hl1.out; omega
 have hlk2 : (l : Int) <= (sk : Int) := oM
 have hwm : IntKind.i64.wrap ((m : Int) + 1) = (m1 : Int) := by rw [IntWalk.i64_in _ oM]; have := Hm1.out; omega
 have hl168 : l <= 168 := by have := Hl.out; omega
 replace oO2 := oO2.nx k21
 have hOin : Ins wp wp.heap.size (some ⟨go, 0, none⟩) (V.top.set f1 (f2 : Int)) := by
  have := oO2.row (B := wp.heap.size) oO2.lt
  unfold Ins
  rw [List.length_set]; exact this
 replace nS := nS.nx k21
 have hsi := sameIntsU_c Nw (some ⟨go, 0, none⟩) nc oc _ (V.top.set f1 (f2 : Int)) _ nS.row hOin nle (by rw [H8s.out]; omega)
 rw [H8s.out] at hsi
 have Hsi := qh hsi
 clear hsi
 refine Hsi.out.mono ?_
 clear Hsi
 rintro e wq ⟨rfl, k22⟩
 clear hOin nS oO2
 go_wp2_with fail
 replace pS := pS.nx (k21.trans k22)
 replace rS := rS.nx k22
 have hsi := sameIntsU_c (some ⟨gr, 0, none⟩) Pr rk pk _ (retL V.b V.gs) _ (Ins.pre rS.row) pS.row nle (by rw [HRLl.out]; omega)
 rw [HRLl.out] at hsi
 have Hsi := qh hsi
 clear hsi
 refine Hsi.out.mono ?_
 clear Hsi
 rintro e wr2 ⟨rfl, k23⟩
 clear rS pS
 go_wp2_with fail
 replace qS := qS.nx (k21.trans (k22.trans k23))
 replace sS := sS.nx (k22.trans k23)
 have hsi := sameIntsU_c (some ⟨gs, 0, none⟩) Qr sk qk _ (conT V m) _ (Ins.pre sS.row) qS.row nle (by rw [HCLl.out]; omega)
 rw [HCLl.out] at hsi
 have Hsi := qh hsi
 clear hsi
 refine Hsi.out.mono ?_
 clear Hsi
 rintro e ws2 ⟨rfl, k24⟩
 clear sS qS
 replace X := X.nx (k21.trans (k22.trans (k23.trans k24)))
 have Xy0 := X.c0
 have Xy1 := X.c1
 have Xyl := X.2.2.lt
 replace Z := Z.nx (k21.trans (k22.trans (k23.trans k24)))
 have Zy0 := Z.c0
 have Zy1 := Z.c1
 have Zyl := Z.2.2.lt
 go_wp2_with fail
 clear Xy0 Xy1 Xyl
 clear Zy0 Zy1 Zyl
 refine (sameDisk_c Z1 Z2 X1 X2 64 z1 x1 z2 x2 _ R _ Z.strs X.strs nle oM).mono ?_
 rintro e wt2 ⟨rfl, k25⟩
 replace ub := ub.nx (k21.trans (k22.trans (k23.trans (k24.trans k25))))
 obtain ⟨uby0, uby1, uby2, uby3, uby4, uby5, uby6, uby7⟩ := ub.e8
 have ubyl := ub.lt
 go_wp2_with fail
 clear uby0 uby1 uby2 uby3 uby4 uby5 uby6 uby7 ubyl
 replace uP := uP.nx (k21.trans (k22.trans (k23.trans (k24.trans k25))))
 refine (implVaultOK_c u1 _ _ uP.own.vlt nle uB.out.n uP.cap uP.cap3 uB.out.mka).mono ?_
 rintro e wu2 ⟨rfl, hk⟩
 rw [HU1.out]
 go_wp2
 go_ret
 replace hX := hX.trans (k21.trans (k22.trans (k23.trans (k24.trans k25))))
 exact ⟨rfl, hX.trans hk⟩
end
section
open Go.ChangeShapes Go.WideShapes Go.ChangeAt Go.WideMaps Go.WideElems Go.RowKit
theorem ownP : ownKnob Tryz.prog.godebug = none := by kernel_rfl
theorem laidOutP : laidOutB Tryz.prog = true := by kernel_rfl
theorem gLongP : Tryz.prog.globalNamed "loop.example/g00608/impl.errTextLong" = some 1 := by kernel_rfl
theorem gFormP : Tryz.prog.globalNamed "loop.example/g00608/impl.errTextForm" = some 0 := by kernel_rfl
theorem tLongP : (Tryz.prog.globals[1]?).map (·.type) = some 86 := by kernel_rfl
theorem tFormP : (Tryz.prog.globals[0]?).map (·.type) = some 86 := by kernel_rfl
theorem starP : "*" ++ "errors.errorString" = "*errors.errorString" := by decide
theorem rowEP (u : TypeId) (h : Tryz.prog.typeName? 3 u = some "*errors.errorString") : u = 290 :=
 typeName_ptr_named (nm := "errors.errorString") (by rw [starP]; kernel_rfl) (by kernel_rfl) dC u (by rw [starP]; exact h)
theorem cellsEP : Tryz.prog.cellsOf 308 = 1 := by kernel_rfl
theorem cellsSP : Tryz.prog.cellsOf 9 = 1 := by kernel_rfl
theorem etP : Tryz.prog.globalNamed "errors.errorType" = some 2 := by kernel_rfl
theorem rtP : (Tryz.prog.cutTypes.find? (·.1 == "internal/reflectlite.rtype")).map (·.2) = some 242 := by kernel_rfl
theorem oneRowP : ((List.range (420 - 100)).filter fun t => Tryz.prog.rowNamed t [101, 114, 114, 111, 114]) = [86] := by kernel_rfl
theorem sizeP : Tryz.prog.types.size = 420 - 100 := by kernel_rfl
noncomputable def typeWorld (os : Os) : World :=
 let w0 := World.holding Tryz.prog os ⟨#[], #[], []⟩
 { w0 with heap := w0.heap.modify 2 fun
  | .cells _ t frozen => .cells #[.iface 242 (.agg #[.pointer (some ⟨9, 86, none⟩)])] t frozen
  | o => o }
theorem et_of_handle {W : World} {l : List (String × DataW Unit)} (h : handlesMet Tryz.prog l W) (hl : ("errors.errorType", Rows.laid_errors_errorType) ∈ l) : Et W := by
 obtain ⟨name, u, ty, e1, e2, e3, e4, e5⟩ := h _ hl
 have en : name = [101, 114, 114, 111, 114] := (Option.some.inj e1).symm
 subst en
 obtain rfl := Option.some.inj (rtP.symm.trans e2)
 have hm : ty ∈ (List.range (420 - 100)).filter fun t => Tryz.prog.rowNamed t [101, 114, 114, 111, 114] := List.mem_filter.2 ⟨List.mem_range.2 (by rw [<- sizeP]; exact e3), e4⟩
 rw [oneRowP] at hm
 obtain rfl := List.mem_singleton.1 hm
 have hh : typeHandle Tryz.prog 86 = .pointer (some ⟨9, 86, none⟩) := by kernel_rfl
 rw [hh] at e5
 unfold Et
 simpa using World.var?_cell etP e5 0
theorem laid_over {w0 : World} {laid : List (String × DataW Unit)} (args : Array Value) (hf : w0.layFits Tryz.prog laid [] = true) (hi : w0.layIfaces Tryz.prog laid (w0.layVars Tryz.prog laid) = true) :
 laidMet Tryz.prog laid ((w0.layVars Tryz.prog laid).forCall (fun _ _ => 0) ⟨#[], args, []⟩).memory := by
 have e1 : (laid.filter fun x => (laid.map (·.1)).contains x.1) = laid := List.filter_eq_self.2 fun x hx => List.contains_iff_mem.2 (List.mem_map.2 ⟨x, hx, rfl⟩)
 have e2 : (laid.filter fun x => !(laid.map (·.1)).contains x.1) = [] := List.filter_eq_nil_iff.2 fun x hx => by rw [List.contains_iff_mem.2 (List.mem_map.2 ⟨x, hx, rfl⟩)]; simp
 have h : laidMet Tryz.prog laid (w0.layVars Tryz.prog laid) := laidMet_layVars (w0 := w0) (laid.map (·.1)) [] (by rw [e1]) (by rw [e1]; exact hf) (by rw [e1]; exact hi) (by rw [e2]; exact LaidIn.none)
 exact h.of_heap (by simp [World.memory, World.forCall, Input.heap])
def plainQ : List (String × DataW Unit) := [("math/bits.deBruijn32tab", Rows.laid_math_bits_deBruijn32tab), ("math/bits.deBruijn64tab", Rows.laid_math_bits_deBruijn64tab), ("internal/strconv.uint64pow10", Rows.laid_internal_strconv_uint64pow10), ("unicode/utf8.acceptRanges", Rows.laid_unicode_utf8_acceptRanges), ("loop.example/g00608/impl.errTextLong", Rows.laid_loop_example_g00608_impl_errTextLong), ("loop.example/g00608/impl.errTextForm", Rows.laid_loop_example_g00608_impl_errTextForm), ("unicode/utf8.first", Rows.laid_unicode_utf8_first)]
def laidP : List (String × DataW Unit) := [("math/bits.deBruijn32tab", Rows.laid_math_bits_deBruijn32tab), ("math/bits.deBruijn64tab", Rows.laid_math_bits_deBruijn64tab), ("internal/strconv.uint64pow10", Rows.laid_internal_strconv_uint64pow10), ("unicode/utf8.acceptRanges", Rows.laid_unicode_utf8_acceptRanges), ("errors.errorType", Rows.laid_errors_errorType), ("loop.example/g00608/impl.errTextLong", Rows.laid_loop_example_g00608_impl_errTextLong), ("loop.example/g00608/impl.errTextForm", Rows.laid_loop_example_g00608_impl_errTextForm), ("unicode/utf8.first", Rows.laid_unicode_utf8_first)]
noncomputable def worldP (os : Os) : World := (typeWorld os).layVars Tryz.prog plainQ
theorem worldP_os (os : Os) : (worldP os).os = os := World.layVars_os _ _ _
theorem door_metP (os : Os) (args : Array Value) : laidMetH Tryz.prog laidP ((worldP os).forCall (fun _ _ => 0) ⟨#[], args, []⟩).memory :=
 laidMetH_of_parts (laid_over (laid := plainQ) args (by kernel_rfl) (by kernel_rfl)) (by kernel_rfl)
theorem of_laidP {W : World} (h : laidMetH Tryz.prog laidP W) : (∃ a0 a1, Er W a0 a1) /\ Et W := by
 have h' : laidMet Tryz.prog plainQ W /\ handlesMet Tryz.prog [("errors.errorType", Rows.laid_errors_errorType)] W := h
 obtain ⟨a1, a0, s1, s0, c1, c0, t1, t0, hv1, hv0, _, _, _, _, _, _, hne, hb1, hb0⟩ := laid_sentinels2 (laidMet.tail (laidMet.tail (laidMet.tail (laidMet.tail h'.1)))) gLongP tLongP gFormP tFormP underlying86 rowEP underlying290 underlying308 rfl rfl underlying9 cellsEP cellsSP
 exact ⟨⟨a0, a1, World.var?_cell gFormP hv0 0, World.var?_cell gLongP hv1 0, hne.symm, ⟨c0, t0, hb0⟩, c1, t1, hb1⟩, et_of_handle h'.2 (List.mem_singleton.2 rfl)⟩
theorem pow_datum : (Rows.laid_internal_strconv_uint64pow10 : DataW Unit) = Lib.tabData .u64 Lib.pow10Tab := by kernel_rfl
theorem gPow : ∃ g, Tryz.prog.globalNamed "internal/strconv.uint64pow10" = some g /\ (Tryz.prog.globals[g]?).map (·.type) = some 280 := ⟨(Tryz.prog.globalNamed "internal/strconv.uint64pow10").getD 0, by kernel_rfl, by kernel_rfl⟩
theorem tab_of_laidP {W : World} (h : laidMetH Tryz.prog laidP W) : Tab W := by
 have h' : laidMet Tryz.prog plainQ W /\ handlesMet Tryz.prog [("errors.errorType", Rows.laid_errors_errorType)] W := h
 have h1 := laidMet.tail (laidMet.tail h'.1)
 rw [pow_datum] at h1
 obtain ⟨g, hg, hty⟩ := gPow
 exact Lib.tabIs_of_head hg hty underlying280 underlying268 (by kernel_rfl) (by kernel_rfl) h1
theorem mx_of_shaped {W : World} (h : W.ShapedOpen Tryz.prog) : Mx W := cell_of_shapedOpen_int (zero := #[ii 0]) h (of_decide_eq_true (by kernel_rfl)) (by kernel_rfl) rfl (by kernel_rfl) (by kernel_rfl) underlying3
variable {H : Type} {enc : TypeId × Value -> H}
theorem handed_shaped {a : Assume} {C : Checked} {os : Os} {f : FuncId} {fn : Func} {s : ChangeSpec} {conds : List PathCond} {apart fresh handsOn again : Bool} {X : World -> Array Value -> Prop}
 (hX : ∀ (w w' : World) (args : Array Value), w.heap = w'.heap -> X w args -> X w' args)
 (own : ownKnob C.prog.godebug = none) (started : os.Started) (noInit : C.prog.inits.idxOf? f = none) (hfn : C.prog.funcs[f]? = some fn)
 (witness : ∃ (w : World) (tape : Tape) (i : Input), w.os = os /\ (w.forCall tape i).Shaped C.prog /\ i.vars = [] /\ Input.okWide C.prog (w.forCall tape i) .any w.heap.size f i /\
  ((s.pre enc C.prog fn conds apart (w.forCall tape i).memory i.args /\ X (w.forCall tape i).memory i.args) /\ sizedMet enc C.prog fn (OpenSpec.ofChange s) apart (w.forCall tape i).memory i.args) /\ a.holds C.prog (lone (Frame.enter C.prog f i.args .normal) [] (w.forCall tape i)))
 (contract : ∀ (W : World) (base : Nat) (args : Array Value) (ds gs : List (DataW H)) (before : List MemPlace),
  (∀ (j : Nat) t v, fn.params[j]? = some t -> args[j]? = some v -> Value.okWide C.prog W .any base t v) ->
  DataW.Whole enc C.prog fn.params.toList s.vars apart W args.toList ds gs before ->
  W.ShapedOpen C.prog -> X W args ->
  Calls C.prog f args W fun e W' => ∃ v, e = .returned v /\ s.post enc C.prog fn apart fresh handsOn again W args v W') :
 ReturnsInHanded a C os f .any (fun w args => (s.pre enc C.prog fn conds apart w args /\ X w args) /\ sizedMet enc C.prog fn (OpenSpec.ofChange s) apart w args) (s.post enc C.prog fn apart fresh handsOn again) := by
 refine returnsInHanded_of_calls own started noInit witness ?_
 intro w tape i _ hsh _ hok hpre hholds
 obtain ⟨_, _, _, fn', hfn', _, _, _, _, hval⟩ := hok
 have e : fn' = fn := Option.some.inj (hfn'.symm.trans hfn)
 subst e
 obtain ⟨⟨⟨ds, gs, before, hw, hc⟩, hx⟩, hz⟩ := hpre
 have hw' := DataW.Whole.of_heap (w' := w.forCall tape i) (by rfl) hw
 refine (contract (w.forCall tape i) w.heap.size i.args ds gs before hval hw' hsh (hX _ _ _ (by rfl) hx)).mono fun e W' ⟨v, he, hp⟩ => ?_
 subst he
 exact ChangeSpec.post_blind hp
end
end Go.Proofs.YtieoiailjjnnoaaGreatDoor
