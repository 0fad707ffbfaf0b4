/-
  Texts of the proof, in their order.
  Conditions: those of each.
-/
import Derived.Test.YtieoiailjjnnoaaGreatDoorMn12
namespace Go.Proofs.YtieoiailjjnnoaaGreatDoor
set_option linter.unusedVariables false
open _root_.Go.Proofs.Tryz
set_option maxRecDepth 100000
set_option maxHeartbeats 16000000
section
open Go.RowKit
def RetCt (w : World) (ys : List Int) (e : Ending) (w' : World) : Prop := ∃ (A : Option Addr) (c : Nat), e = .returned (sC A 8 c) /\ Ins w' w'.heap.size A ys /\ Nx w w'
theorem l05Content_c (V : Vl) (x : Int) (B : Nat) (w : World) (h : Vlt w B V) (hB : B <= w.heap.size) (hn : VlN V 1048576) (hy : VltY V.g V.b V.p V.t V.xs V.ms V.gs V.im) (hr : isRet V.b V.gs x = true) :
 Calls Tryz.prog 161 #[V.v, ii x] w (RetCt w (cntV V.b V.p V.t V.gs V.im x)) := by
 have hAN := l05Anchor_c V B
 obtain ⟨g, b, p, t, A, c, xs, A2, c2, ms, A3, c3, gs, A4, c4, im⟩ := V
 obtain ⟨h, h2, h3, h4⟩ := h
 obtain ⟨hn, hn2, hn3, hn4, hn5⟩ := hn
 simp only [Vl.v, Vl.cells] at *
 have HLd := qh (chainB_lead hy.chain)
 have hah := hy.ahd
 have HAn := qh (fun (w' : World) (hx : Nx w w') => hAN w' ⟨h.below hx hB, h2.below hx hB, h3.below hx hB, h4.below hx hB⟩ (ntr hB hx.size) ⟨hn, hn2, hn3, hn4, hn5⟩ HLd.out hy.l8 hah.1 hah.2)
 have HSL := qh (stp_le (t := t) im HLd.out hy.places)
 have HSg := qh (fun (k : Nat) (hk : k < gs.length) (w' : World) (hx : Nx w w') => (h3.below hx hB).row.at4 hk)
 have HCh := qh (fun (k : Nat) (hk : k < gs.length) (w' : World) (hx : Nx w w') => (h3.chs k hk).below hx hB)
 have HAx := qh (ahd_at hr)
 have Hct : Hid (cntV b p t gs im x = bkK (fwK (stp b p t gs im).1 gs (stp b p t gs im).2 (ahd b gs x - (stp b p t gs im).2)) gs (stp b p t gs im).2 ((stp b p t gs im).2 - ahd b gs x)) := qh (by
  unfold cntV
  by_cases hle : (stp b p t gs im).2 <= ahd b gs x
  . rw [if_pos hle, show (stp b p t gs im).2 - ahd b gs x = 0 by omega]; rfl
  . rw [if_neg hle, show ahd b gs x - (stp b p t gs im).2 = 0 by omega]; rfl)
 have H8 := qh hy.l8
 have hn9 := hy.n4
 obtain ⟨n, Hn⟩ := nM (gs.length)
 rw [Hn.out] at HSg HCh HAx hn9
 rw [Hn.out, H8.out] at HAn
 rw [Hct.out]
 obtain ⟨c0, Hc0⟩ := nM ((stp b p t gs im).1)
 obtain ⟨a, Hat⟩ := nM ((stp b p t gs im).2)
 obtain ⟨e9, He⟩ := nM (ahd b gs x)
 have HL0 : Hid (c0.length = 8) := qh (by rw [<- Hc0.out, stp_len]; exact H8.out)
 rw [Hc0.out, Hat.out] at HAn
 rw [He.out] at HAx
 rw [Hc0.out, Hat.out, He.out, Hn.out, H8.out]
 have hat : a <= n := by have := HSL.out.1; rw [Hat.out, Hn.out] at this; exact this
 have hen : e9 <= n := HAx.out.1
 obtain ⟨N, HNv⟩ := nM (atK b gs a)
 rw [HNv.out] at HAn
 have HPos := qh (fun (j k : Nat) (hj : j < k) (hk : k <= n) => HLd.out.lt (j := j) k hj (by rw [Hn.out]; exact hk))
 have HPle := qh (fun (j k : Nat) (hj : j <= k) (hk : k <= n) => HLd.out.le (j := j) (k := k) hj (by rw [Hn.out]; exact hk))
 have HFr := qh (fun k (hk : k < n) => HLd.out.from_ k (by rw [Hn.out]; exact hk))
 have HOKs := qh (fun k (hk : k < n) => HLd.out.ok k (by rw [Hn.out]; exact hk))
 have HXv := qh HAx.out.2
 have b0 := Box.new w 49 #[ii g, ii b, ii p, ii t, sC A xs.length c, sC A2 ms.length c2, sC A3 n c3, sC A4 8 c4]
 have hx0 := (Nx.refl w).alloc (.cells #[ii g, ii b, ii p, ii t, sC A xs.length c, sC A2 ms.length c2, sC A3 n c3, sC A4 8 c4] 49)
 clear hAN h h2 h3 h4 hn hn2 hn3 hn4 hn5 hy hr hah
 go_enter func161, ntmps161
 go_wp2_with fail
 generalize w.alloc (.cells #[ii g, ii b, ii p, ii t, sC A xs.length c, sC A2 ms.length c2, sC A3 n c3, sC A4 8 c4] 49) = W at *
 refine (HAn.out _ hx0).mono ?_
 rintro e w1 ⟨Ac, cc, rfl, hI, hk⟩
 have b1 := b0.nx hk
 have hx := hx0.trans hk
 clear b0 hk hx0
 go_wp2_with fail
 go_loopw [5, 7] (fun v i wr => ∃ k : Nat, k <= n /\ i = ii k /\ (∃ Ac cc, v = sC Ac 8 cc /\ Ins wr wr.heap.size Ac (fwK c0 gs a (min k e9 - a))) /\ Nx w wr /\ Box wr w.heap.size 49 #[ii g, ii b, ii p, ii t, sC A xs.length c, sC A2 ms.length c2, sC A3 n c3, sC A4 8 c4]) (fun _ i _ => n - (intOf i).toNat)
 case atStart => exact ⟨0, Nat.zero_le _, rfl, ⟨_, _, rfl, by rw [show min 0 e9 - a = 0 by omega]; exact hI⟩, hx, b1⟩
 case round =>
 obtain ⟨k, hk, rfl, ⟨Ac, cc, rfl, hI⟩, hnx, hb⟩ := hrel
 clear hx b1
 obtain ⟨y0, y1, y2, y3, y4, y5, y6, y7⟩ := hb.e8
 by_cases hlt : k < n
 . obtain ⟨bb, off, rfl, hbb, p0, p1, p2, p3⟩ := HSg.out k hlt _ hnx
   have hbw : bb < wr.heap.size := Nat.lt_of_lt_of_le hbb (ntr hB hnx.size)
   have hch := HCh.out k hlt wr hnx
   have hF := HFr.out k hlt
   have hT : (gs.getD k sgZ).t = atK b gs (k + 1) := rfl
   have HOKc := qh (HOKs.out k hlt)
   have hkc : (k : Int) < (n : Int) := oM
   have hk0 : (0 : Int) <= (k : Int) := oM
   by_cases hka : a <= k
   case neg =>
    obtain ⟨s, Hs⟩ := nM (gs.getD k sgZ)
    rw [Hs.out] at p0 p1 p2 p3 hF
    obtain ⟨f, t9, m, Am, cm, cs⟩ := s
    simp only at p0 p1 p2 p3 hF
    have hdn : decide (N <= f) = false := decide_eq_false (by have := HPos.out k a oM hat; rw [HNv.out] at this; omega)
    have HKA := qh hka
    have HI := qh (show Ins wr wr.heap.size Ac (fwK c0 gs a (min (k + 1) e9 - a)) by rw [show min (k + 1) e9 - a = min k e9 - a by omega]; exact hI)
    clear hka hF hT hI
    go_wp2
    go_roundw
    case rel => exact ⟨k + 1, oM, by go_num, ⟨_, _, rfl, HI.out⟩, hnx, hb⟩
    case measure => (simp [intOf] <;> omega)
   by_cases hke : k + 1 <= e9
   case neg =>
    have hTx := HPos.out e9 (k + 1) oM oM
    rw [HXv.out, <- hT] at hTx
    obtain ⟨s, Hs⟩ := nM (gs.getD k sgZ)
    rw [Hs.out] at p0 p1 p2 p3 hF hTx
    obtain ⟨f, t9, m, Am, cm, cs⟩ := s
    simp only at p0 p1 p2 p3 hF hTx
    have hdn : decide (N <= f) = true := decide_eq_true (by have := HPle.out a k hka oM; rw [HNv.out] at this; omega)
    have hdt : decide (t9 <= x) = false := decide_eq_false oM
    have HI := qh (show Ins wr wr.heap.size Ac (fwK c0 gs a (min (k + 1) e9 - a)) by rw [show min (k + 1) e9 - a = min k e9 - a by omega]; exact hI)
    clear hka hF hT hI hTx hke
    go_wp2
    go_roundw
    case rel => exact ⟨k + 1, oM, by go_num, ⟨_, _, rfl, HI.out⟩, hnx, hb⟩
    case measure => (simp [intOf] <;> omega)
   have hTx := HPle.out (k + 1) e9 hke hen
   rw [HXv.out, <- hT] at hTx
   have Hmk : Hid (min k e9 - a = k - a) := qh oM
   have Hmk1 : Hid (min (k + 1) e9 - a = (k - a) + 1) := qh oM
   obtain ⟨j, Hj⟩ := nM (k - a)
   have Hkj : Hid (a + j = k) := qh (by have := Hj.out; omega)
   rw [Hj.out] at Hmk Hmk1
   rw [Hmk.out] at hI
   have HLj : Hid ((fwK c0 gs a j).length = 8) := qh (by rw [fwK_len]; exact HL0.out)
   have Hsuc : Hid (fwK c0 gs a (j + 1) = app pN (fwK c0 gs a j) (gs.getD k sgZ).cs) := qh (by rw [<- Hkj.out]; rfl)
   obtain ⟨cj, Hcj⟩ := nM (fwK c0 gs a j)
   rw [Hcj.out] at hI Hsuc HLj
   obtain ⟨s, Hs⟩ := nM (gs.getD k sgZ)
   rw [Hs.out] at p0 p1 p2 p3 hF hTx Hsuc hch HOKc
   obtain ⟨f, t9, m, Am, cm, cs⟩ := s
   simp only at p0 p1 p2 p3 hF hTx hch HOKc Hsuc
   have hdn : decide (N <= f) = true := decide_eq_true (by have := HPle.out a k hka oM; rw [HNv.out] at this; omega)
   have hdt : decide (t9 <= x) = true := decide_eq_true hTx
   have hchw := hch.more (ntr hB hnx.size)
   clear hF hT hTx hka hke hch
   go_wp2_with fail
   have hcl := l03Forward_c Ac cc wr.heap.size cj f t9 m Am cm cs wr hI hchw nle HOKc.out HLj.out
   rw [HLj.out] at hcl
   refine hcl.mono ?_
   rintro e w10 ⟨A9, c9, rfl, hS, hk10⟩
   have hb10 := hb.nx hk10
   have hnx10 := hnx.trans hk10
   have hIn := hS.row
   have HLn : Hid ((app pN cj cs).length = 8) := qh (by rw [app_len]; exact HLj.out)
   rw [HLn.out]
   have HIn := qh (show Ins w10 w10.heap.size A9 (fwK c0 gs a (min (k + 1) e9 - a)) by rw [Hmk1.out, Hsuc.out]; exact hIn)
   clear y0 y1 y2 y3 y4 y5 y6 y7 hcl hS hIn p0 p1 p2 p3 hI hb
   go_wp2
   go_roundw
   case rel => exact ⟨k + 1, oM, by go_num, ⟨_, _, rfl, HIn.out⟩, hnx10, hb10⟩
   case measure => (simp [intOf] <;> omega)
 obtain rfl : n = k := oM
 rw [show min n e9 - a = e9 - a by omega] at hI
 obtain ⟨d0, Hd0⟩ := nM (fwK c0 gs a (e9 - a))
 have HLd0 : Hid (d0.length = 8) := qh (by rw [<- Hd0.out, fwK_len]; exact HL0.out)
 rw [Hd0.out] at hI
 have hx := hnx
 have b7 := hb
 have hwn : IntKind.i64.wrap ((n : Int) - 1) = (n : Int) - 1 := IntWalk.i64_in _ oM
 clear hnx hb hlt hk
 go_wp2_with fail
 clear y0 y1 y2 y3 y4 y5 y6 y7
 go_loopw [5, 8] (fun v i wr => ∃ k : Nat, k <= n /\ i = ii ((k : Int) - 1) /\ (∃ Ac cc, v = sC Ac 8 cc /\ Ins wr wr.heap.size Ac (bkK d0 gs a (a - max k e9))) /\ Nx w wr /\ Box wr w.heap.size 49 #[ii g, ii b, ii p, ii t, sC A xs.length c, sC A2 ms.length c2, sC A3 n c3, sC A4 8 c4]) (fun _ i _ => (intOf i + 1).toNat)
 case atStart => exact ⟨n, Nat.le_refl _, rfl, ⟨_, _, rfl, by rw [show a - max n e9 = 0 by omega]; exact hI⟩, hx, b7⟩
 case round =>
 obtain ⟨k, hk, rfl, ⟨Ac, cc, rfl, hI⟩, hnx, hb⟩ := hrel
 clear hx b7 hwn
 obtain ⟨y0, y1, y2, y3, y4, y5, y6, y7⟩ := hb.e8
 by_cases hlt : k = 0
 case pos =>
  have HI := qh (show Ins wr wr.heap.size Ac (bkK (fwK c0 gs a (e9 - a)) gs a (a - e9)) by rw [Hd0.out, show a - e9 = a - max k e9 by omega]; exact hI)
  rw [show ((k : Int) - 1) = -1 by omega]
  clear hlt hI
  go_wp2
  go_ret
  exact ⟨Ac, cc, rfl, HI.out, hnx⟩
 obtain ⟨i, rfl⟩ : ∃ i, k = i + 1 := ⟨k - 1, oM⟩
 rw [show ((i + 1 : Nat) : Int) - 1 = (i : Int) by omega]
 have hin : i < n := oM
 obtain ⟨bb, off, rfl, hbb, p0, p1, p2, p3⟩ := HSg.out i hin _ hnx
 have hbw : bb < wr.heap.size := Nat.lt_of_lt_of_le hbb (ntr hB hnx.size)
 have hch := HCh.out i hin wr hnx
 have hF := HFr.out i hin
 have hT : (gs.getD i sgZ).t = atK b gs (i + 1) := rfl
 have HOKc := qh (HOKs.out i hin)
 have hkc : (i : Int) < (n : Int) := oM
 have hk0 : (0 : Int) <= (i : Int) := oM
 have hwi : IntKind.i64.wrap ((i : Int) - 1) = (i : Int) - 1 := IntWalk.i64_in _ oM
 by_cases hka : a <= i
 case pos =>
  have hTx := HPos.out a (i + 1) oM hin
  rw [HNv.out, <- hT] at hTx
  obtain ⟨s, Hs⟩ := nM (gs.getD i sgZ)
  rw [Hs.out] at p0 p1 p2 p3 hTx
  obtain ⟨f, t9, m, Am, cm, cs⟩ := s
  simp only at p0 p1 p2 p3 hTx
  have hdn : decide (t9 <= N) = false := decide_eq_false oM
  have HI := qh (show Ins wr wr.heap.size Ac (bkK d0 gs a (a - max i e9)) by rw [show a - max i e9 = a - max (i + 1) e9 by omega]; exact hI)
  clear hka hF hT hI hlt hTx
  go_wp2
  go_roundw
  case rel => exact ⟨i, oM, rfl, ⟨_, _, rfl, HI.out⟩, hnx, hb⟩
  case measure => (simp [intOf] <;> omega)
 by_cases hke : e9 <= i
 case neg =>
  have hTx := HPle.out (i + 1) a oM hat
  rw [HNv.out, <- hT] at hTx
  have hFx := HPos.out i e9 oM hen
  rw [HXv.out, <- hF] at hFx
  obtain ⟨s, Hs⟩ := nM (gs.getD i sgZ)
  rw [Hs.out] at p0 p1 p2 p3 hTx hFx
  obtain ⟨f, t9, m, Am, cm, cs⟩ := s
  simp only at p0 p1 p2 p3 hTx hFx
  have hdn : decide (t9 <= N) = true := decide_eq_true hTx
  have hdf : decide (x <= f) = false := decide_eq_false oM
  have HI := qh (show Ins wr wr.heap.size Ac (bkK d0 gs a (a - max i e9)) by rw [show a - max i e9 = a - max (i + 1) e9 by omega]; exact hI)
  clear hka hF hT hI hlt hTx hFx hke
  go_wp2
  go_roundw
  case rel => exact ⟨i, oM, rfl, ⟨_, _, rfl, HI.out⟩, hnx, hb⟩
  case measure => (simp [intOf] <;> omega)
 have hTx := HPle.out (i + 1) a oM hat
 rw [HNv.out, <- hT] at hTx
 have hFx := HPle.out e9 i hke oM
 rw [HXv.out, <- hF] at hFx
 obtain ⟨j, Hj⟩ := nM (a - (i + 1))
 have Hkj : Hid (i = a - 1 - j) := qh (by have := Hj.out; omega)
 have Hm1 : Hid (a - max i e9 = j + 1) := qh (by have := Hj.out; omega)
 rw [show a - max (i + 1) e9 = j by have := Hj.out; omega] at hI
 have HLj : Hid ((bkK d0 gs a j).length = 8) := qh (by rw [bkK_len]; exact HLd0.out)
 have Hsuc : Hid (bkK d0 gs a (j + 1) = app pO (bkK d0 gs a j) (gs.getD i sgZ).cs) := qh (by rw [Hkj.out]; rfl)
 obtain ⟨cj, Hcj⟩ := nM (bkK d0 gs a j)
 rw [Hcj.out] at hI Hsuc HLj
 obtain ⟨s, Hs⟩ := nM (gs.getD i sgZ)
 rw [Hs.out] at p0 p1 p2 p3 hTx hFx Hsuc hch HOKc
 obtain ⟨f, t9, m, Am, cm, cs⟩ := s
 simp only at p0 p1 p2 p3 hTx hFx hch HOKc Hsuc
 have hdn : decide (t9 <= N) = true := decide_eq_true hTx
 have hdf : decide (x <= f) = true := decide_eq_true hFx
 have hchw := hch.more (ntr hB hnx.size)
 have HKA := qh hka
 clear hF hT hTx hFx hka hke hch hlt
 go_wp2_with fail
 have hcl := l03Backward_c Ac cc wr.heap.size cj f t9 m Am cm cs wr hI hchw nle HOKc.out HLj.out
 rw [HLj.out] at hcl
 refine hcl.mono ?_
 rintro e w10 ⟨A9, c9, rfl, hS, hk10⟩
 have hb10 := hb.nx hk10
 have hnx10 := hnx.trans hk10
 have hIn := hS.row
 have HLn : Hid ((app pO cj cs).length = 8) := qh (by rw [app_len]; exact HLj.out)
 rw [HLn.out]
 have HIn := qh (show Ins w10 w10.heap.size A9 (bkK d0 gs a (a - max i e9)) by rw [Hm1.out, Hsuc.out]; exact hIn)
 clear y0 y1 y2 y3 y4 y5 y6 y7 hcl hS hIn p0 p1 p2 p3 hI hb
 go_wp2
 go_roundw
 case rel => exact ⟨i, oM, rfl, ⟨_, _, rfl, HIn.out⟩, hnx10, hb10⟩
 case measure => (simp [intOf] <;> omega)
theorem run_copy_ints (w : World) (ty : TypeId) (g n : Nat) (A : Option Addr) (c B : Nat) (xs : List Int) (cur : Array Value) (hl : xs.length = n) (hp : 0 < n) (hg : w.heap[g]? = some (.cells cur 3 (0, 0))) (hsz : cur.size = n) (hrow : Row w B A n (inAt xs)) :
 ∃ w' cs, (Builtin.copy_ #[23, 23] ty #[sC (some ⟨g, 0, none⟩) n n, sC A n c]).run Tryz.prog w = .ok (goInt n) w' /\ Box w' g 3 cs /\ cs.size = n /\ (∀ i, i < n -> cs[i]? = some (inAt xs i)) /\
   (∀ a, Nx a w -> a.heap.size <= g -> Nx a w') /\ w'.heap.size = w.heap.size /\ (∀ k, k ≠ g -> w'.heap[k]? = w.heap[k]?) := by
 obtain ⟨i, hi, hz0, hz1, hz2⟩ := info_parts info_int
 have hu := underlying23
 have hmin : Nat.min n n = n := Nat.min_self n
 obtain ⟨b, off, rfl, hb, hc⟩ := hrow hp
 have hll := run_loadCells_list (P := Tryz.prog) w ⟨b, off, none⟩ ((List.range n).map (inAt xs)) (fun j u h => by
  obtain ⟨hj, rfl⟩ := cells_list _ _ _ _ h
  rw [addr_add']; exact hc j hj)
 have hst := run_storeCells_at Tryz.prog g 0 3 ((List.range n).map (inAt xs)) 0 cur w hg sM (fun v hv => by
  simp only [List.mem_map, List.mem_range] at hv
  obtain ⟨k, _, rfl⟩ := hv
  rfl)
 simp only [List.length_map, List.length_range] at hll hst
 refine ⟨_, _, by
  simp only [Builtin.copy_]
  simp [run_underlying hu, Builtin.lenOf, Builtin.firstCells, sizeOf, typeInfo, hi, hmin, hz1, hll]
  rw [hst]; rfl, setRow_heap w g cur _ 3 _ hg, ?_, fun k hk => ?_, ?_, ?_, ?_⟩
 . simp; omega
 . simp [hk, List.getElem?_append]
 . intro a hna hag
   exact ⟨hna.os, hna.tape, hna.output, by have := hna.size; simpa [World.setRow] using this, fun k hk => (setRow_other w g k _ oM).trans (hna.block k hk)⟩
 . simp [World.setRow]
 . exact fun k hk => setRow_other w g k _ hk
theorem RowI.of_box {w : World} {B g n : Nat} {xs : List Int} {cs : Array Value} (hB : B <= g) (hb : Box w g 3 cs) (hs : cs.size = n) (hl : xs.length = n) (hn : n <= 1048576) (h : ∀ i, i < n -> cs[i]? = some (inAt xs i)) : RowI w B (sC (some ⟨g, 0, none⟩) n n) xs := by
 subst hl
 refine ⟨by simp [iV], .inr ⟨g, xs.length, cs, rfl, hB, hb, Nat.le_refl _, by unfold maxLen; omega, oM, ?_⟩⟩
 refine List.ext_getElem? fun i => ?_
 by_cases hi : i < xs.length
 . rw [List.getElem?_take_of_lt oM]
   have := h i hi
   rw [Array.getElem?_toList, this]
   unfold iV inAt
   rw [List.getElem?_map, List.getElem?_eq_getElem hi, gdE, List.getElem?_eq_getElem hi]; rfl
 . rw [List.getElem?_eq_none sM, List.getElem?_eq_none (by unfold iV; simp; omega)]
def RetRow (w : World) (xs : List Int) (e : Ending) (w' : World) : Prop := ∃ (A : Option Addr) (c : Nat), e = .returned (sC A xs.length c) /\ RowI w' w.heap.size (sC A xs.length c) xs /\ Nx w w'
theorem copyListR_c (A : Option Addr) (c B : Nat) (xs : List Int) (w : World) (h : Ins w B A xs) (hB : B <= w.heap.size) (hn : xs.length <= 1048576) :
 Calls Tryz.prog 116 #[sC A xs.length c] w (RetRow w xs) := by
 rcases Nat.eq_zero_or_pos xs.length with hz | hp
 . have h0 : ((xs.length : Int) == 0) = true := beq_iff_eq.2 oM
   have hnil : xs = [] := List.eq_nil_of_length_eq_zero hz
   subst hnil
   go_enter func116, ntmps116
   go_wp2
   go_ret
   exact ⟨none, 0, rfl, RowI.nil _ _, Nx.refl _⟩
 have h0 : ((xs.length : Int) == 0) = false := beq_eq_false_iff_ne.2 oM
 obtain ⟨i0, hi0, hz0, hz1, hz2⟩ := info_parts info_int
 have hmk := fun W => run_make_rowN (P := Tryz.prog) 23 3 i0 _ underlying23 hi0 hz0 .i64 .i64 xs.length xs.length nle (by rw [hz2]; omega) oM W
 rw [hz1] at hmk
 have hnx := (Nx.refl w).alloc (.cells (madeCells #[Value.int .i64 0] xs.length) 3)
 obtain ⟨w1, cs, hrun, hb1, hs1, hc1, hnx1, _, _⟩ := run_copy_ints (w.alloc (.cells (madeCells #[Value.int .i64 0] xs.length) 3)) 3 w.heap.size xs.length A c B xs _ rfl hp (heap_alloc_new w _) (size_madeCells _ _) (h.below hnx hB)
 have hx1 := hnx1 w hnx nle
 have HO := qh (RowI.of_box nle hb1 hs1 rfl hn hc1)
 clear hb1 hs1 hc1 hnx1
 go_enter func116, ntmps116
 go_wp2
 go_ret
 exact ⟨_, _, rfl, HO.out, hx1⟩
def RetSec (w : World) (g b p t : Int) (xs : List Int) (ms : List Mrk) (A2 : Option Addr) (c2 : Nat) (x : Int) (e : Ending) (w' : World) : Prop :=
 ∃ (A : Option Addr) (c : Nat), e = .returned (.agg #[ii g, ii b, ii p, ii t, sC A (xs ++ [x]).length c, sC A2 ms.length c2]) /\ (xs ++ [x]).length <= c /\ SlI w' w.heap.size A (xs ++ [x]) /\ Nx w w'
theorem withSector_c (g b p t : Int) (A A2 : Option Addr) (c c2 B : Nat) (xs : List Int) (ms : List Mrk) (x : Int) (w : World) (h : Ins w B A xs) (hB : B <= w.heap.size) (hn : xs.length <= 1048575) :
 Calls Tryz.prog 157 #[.agg #[ii g, ii b, ii p, ii t, sC A xs.length c, sC A2 ms.length c2], ii x] w (RetSec w g b p t xs ms A2 c2 x) := by
 have s0 : Box ((w.alloc (.cells #[ii g, ii b, ii p, ii t, sC A xs.length c, sC A2 ms.length c2] 26)).alloc (.cells #[ii 0, ii 0, ii 0, ii 0, nsl, nsl] 26)) w.heap.size 26 #[ii g, ii b, ii p, ii t, sC A xs.length c, sC A2 ms.length c2] := (Box.new w _ _).alloc _
 have r0 : Box ((w.alloc (.cells #[ii g, ii b, ii p, ii t, sC A xs.length c, sC A2 ms.length c2] 26)).alloc (.cells #[ii 0, ii 0, ii 0, ii 0, nsl, nsl] 26)) (w.heap.size + 1) 26 #[ii 0, ii 0, ii 0, ii 0, nsl, nsl] := by have := Box.new (w.alloc (.cells #[ii g, ii b, ii p, ii t, sC A xs.length c, sC A2 ms.length c2] 26)) 26 #[ii 0, ii 0, ii 0, ii 0, nsl, nsl]; rwa [World.size_alloc] at this
 have hx0 := ((Nx.refl w).alloc (.cells #[ii g, ii b, ii p, ii t, sC A xs.length c, sC A2 ms.length c2] 26)).alloc (.cells #[ii 0, ii 0, ii 0, ii 0, nsl, nsl] 26)
 go_enter func157, ntmps157
 go_wp2_with fail
 generalize (w.alloc (.cells #[ii g, ii b, ii p, ii t, sC A xs.length c, sC A2 ms.length c2] 26)).alloc (.cells #[ii 0, ii 0, ii 0, ii 0, nsl, nsl] 26) = W at *
 obtain ⟨gR, Hg⟩ := nM (w.heap.size + 1)
 have hgR : w.heap.size <= gR := by have := Hg.out; omega
 have hne : gR ≠ w.heap.size := by have := Hg.out; omega
 rw [Hg.out] at r0 ⊢
 have hltR := r0.lt
 have hltS := s0.lt
 refine (copyListR_c A c B xs W (h.below hx0 hB) (ntr hB hx0.size) oM).mono ?_
 rintro e w1 ⟨A1, c1, rfl, hR, hk⟩
 have hz := (Nx.refl w1).alloc (.cells #[ii x] 3)
 have s1 := s0.nx (hk.trans hz)
 have r1 := r0.nx (hk.trans hz)
 have hx1 := hx0.trans (hk.trans hz)
 have HR := qh (hR.nx hz)
 have HB := qh (Box.new w1 3 #[ii x])
 have hsz := (hk.trans hz).size
 clear hR hk hz s0 r0
 go_wp2_with (at_builtin; refine wpList_addI rfl _ _ rfl W.heap.size w1.heap.size _ xs x rfl rfl HR.out HB.out oM hsz ?_)
 intro A9 k9 w9 hrow9 hgr
 have s9 := hgr.box _ _ _ dC s1
 have r9 := hgr.box _ _ _ dC r1
 have hx9 := hgr.nx w hx1 hx0.size
 obtain ⟨A8, c8, he, hcap, hS⟩ := hrow9.slc
 rw [List.length_append] at he hcap
 injection he with he1 he2 he3
 subst he1 he3
 obtain ⟨y0, y1, y2, y3, y4, y5⟩ := s9.d6
 have ylt := s9.lt
 have yf := s9.frozen 4
 have s10 := s9.set 4 (sC A9 (xs.length + 1) k9)
 have r10 := r9.far (p := ⟨w.heap.size, 4, none⟩) hne (sC A9 (xs.length + 1) k9)
 have hx10 := hx9.setCell (p := ⟨w.heap.size, 4, none⟩) nle (sC A9 (xs.length + 1) k9)
 have hS10 := hS.far (p := ⟨w.heap.size, 4, none⟩) hltS (sC A9 (xs.length + 1) k9)
 replace s10 : Box (w9.setCell ⟨w.heap.size, 4, none⟩ (sC A9 (xs.length + 1) k9)) w.heap.size 26 #[ii g, ii b, ii p, ii t, sC A9 (xs.length + 1) k9, sC A2 ms.length c2] := s10
 have Hcap := qh hcap
 clear s9 r9 s1 r1 hgr hx9 hS HR HB hrow9 hsz hcap
 have rq := r10.row #[ii g, ii b, ii p, ii t, sC A9 (xs.length + 1) k9, sC A2 ms.length c2]
 have hnf := hx10.setRow hgR #[ii g, ii b, ii p, ii t, sC A9 (xs.length + 1) k9, sC A2 ms.length c2]
 have hsf := hS10.rowfar hltR #[ii g, ii b, ii p, ii t, sC A9 (xs.length + 1) k9, sC A2 ms.length c2]
 clear s10 hS10 hx10 hx1
 go_wp2_with (refine wpList_store_row rfl _ _ _ rfl gR #[ii g, ii b, ii p, ii t, sC A9 (xs.length + 1) k9, sC A2 ms.length c2] rfl rfl 26 #[ii 0, ii 0, ii 0, ii 0, nsl, nsl] r10 (by kernel_rfl) rfl (by simp [Value.oneCell']) ?_)
 generalize (w9.setCell ⟨w.heap.size, 4, none⟩ (sC A9 (xs.length + 1) k9)).setRow gR #[ii g, ii b, ii p, ii t, sC A9 (xs.length + 1) k9, sC A2 ms.length c2] = Wf at *
 obtain ⟨z0, z1, z2, z3, z4, z5⟩ := rq.d6
 refine bodyPost_ret (v := .agg #[ii g, ii b, ii p, ii t, sC A9 (xs.length + 1) k9, sC A2 ms.length c2]) (by simp [results, results157, go_sem, z0, z1, z2, z3, z4, z5]) rfl ⟨A9, k9, by rw [List.length_append]; rfl, by rw [List.length_append]; exact Hcap.out, hsf.low hx0.size, hnf⟩
theorem SlS.twoW {u : World} {lo n gz : Nat} {A : Option Addr} {ss : List BA} {a b : Value} (h : SlS u lo A n ss) (hb : Box u gz 35 #[a, b]) (v0 v1 : Value) : SlS ((u.setCell ⟨gz, 0, none⟩ v0).setCell ⟨gz, 1, none⟩ v1) lo A n ss :=
 ⟨h.1, fun hn => by
  have k : Sl u lo A 9 ss.length (strAt ss) := fun _ => h.2 hn
  exact ((k.far_ty (p := ⟨gz, 0, none⟩) hb dC v0).far_ty (p := ⟨gz, 1, none⟩) (hb.set0 v0) dC v1) (by rw [h.1]; exact hn)⟩
theorem SlW.twoW {u : World} {lo n gz : Nat} {A : Option Addr} {ws : List (Int × BA)} {a b : Value} (h : SlW u lo A n ws) (hb : Box u gz 35 #[a, b]) (v0 v1 : Value) : SlW ((u.setCell ⟨gz, 0, none⟩ v0).setCell ⟨gz, 1, none⟩ v1) lo A n ws :=
 ⟨h.1, fun hn => by
  have k : Sl u lo A 102 (ws.length * 2) (wrAt ws) := fun _ => h.2 hn
  exact ((k.far_ty (p := ⟨gz, 0, none⟩) hb dC v0).far_ty (p := ⟨gz, 1, none⟩) (hb.set0 v0) dC v1) (by rw [h.1]; omega)⟩
theorem contentAt_c (V : Vl) (x : Int) (B : Nat) (w : World) (h : Sgs w B V.A3 V.gs) (hB : B <= w.heap.size) (hy : VltY V.g V.b V.p V.t V.xs V.ms V.gs V.im) (hr : isRet V.b V.gs x = true) :
 Calls Tryz.prog 71 #[V.w, ii x] w fun e w' => e = .returned (vA (cntV V.b V.p V.t V.gs V.im x)) /\ Nx w w' := by
 have hSD := stepDone_c V B
 have hSA := segsAhead_c V x B
 obtain ⟨g, b, p, t, A, c, xs, A2, c2, ms, A3, c3, gs, A4, c4, im⟩ := V
 simp only [Vl.w, Vl.wcells] at *
 have HLd := qh (chainB_lead hy.chain)
 have HSD := qh (fun (w' : World) (hx : Nx w w') => hSD w' (h.below hx hB) (ntr hB hx.size) HLd.out hy.l8 hy.ahd.1 hy.ahd.2)
 have HSA := qh (fun (w' : World) (hx : Nx w w') => hSA w' (h.below hx hB) (ntr hB hx.size) hy.n4 hr)
 have HSL := qh (stp_le (t := t) im HLd.out hy.places)
 have HSg := qh (fun (k : Nat) (hk : k < gs.length) (w' : World) (hx : Nx w w') => (h.below hx hB).row.at4 hk)
 have HCh := qh (fun (k : Nat) (hk : k < gs.length) (w' : World) (hx : Nx w w') => (h.chs k hk).below hx hB)
 have HAx := qh (ahd_at hr)
 have Hct : Hid (cntV b p t gs im x = bkK (fwK (stp b p t gs im).1 gs (stp b p t gs im).2 (ahd b gs x - (stp b p t gs im).2)) gs (stp b p t gs im).2 ((stp b p t gs im).2 - ahd b gs x)) := qh (by
  unfold cntV
  by_cases hle : (stp b p t gs im).2 <= ahd b gs x
  . rw [if_pos hle, show (stp b p t gs im).2 - ahd b gs x = 0 by omega]; rfl
  . rw [if_neg hle, show ahd b gs x - (stp b p t gs im).2 = 0 by omega]; rfl)
 have H8 := qh hy.l8
 have hn9 := hy.n4
 obtain ⟨n, Hn⟩ := nM (gs.length)
 rw [Hn.out] at HSg HCh HAx hn9 HSD HSA
 rw [Hct.out]
 obtain ⟨c0, Hc0⟩ := nM ((stp b p t gs im).1)
 obtain ⟨a, Hat⟩ := nM ((stp b p t gs im).2)
 obtain ⟨e9, He⟩ := nM (ahd b gs x)
 have HL0 : Hid (c0.length = 8) := qh (by rw [<- Hc0.out, stp_len]; exact H8.out)
 rw [Hc0.out, Hat.out] at HSD
 rw [He.out] at HAx HSA
 rw [Hc0.out, Hat.out, He.out, Hn.out]
 have hat : a <= n := by have := HSL.out.1; rw [Hat.out, Hn.out] at this; exact this
 have hen : e9 <= n := HAx.out.1
 have HOKs := qh (fun k (hk : k < n) => HLd.out.ok k (by rw [Hn.out]; exact hk))
 have b0 : Box ((w.alloc (.cells #[ii g, ii b, ii p, ii t, sC A xs.length c, sC A2 ms.length c2, sC A3 n c3, inAt im 0, inAt im 1, inAt im 2, inAt im 3, inAt im 4, inAt im 5, inAt im 6, inAt im 7] 107)).alloc (.cells #[ii 0, ii 0, ii 0, ii 0, ii 0, ii 0, ii 0, ii 0] 105)) w.heap.size 107 #[ii g, ii b, ii p, ii t, sC A xs.length c, sC A2 ms.length c2, sC A3 n c3, inAt im 0, inAt im 1, inAt im 2, inAt im 3, inAt im 4, inAt im 5, inAt im 6, inAt im 7] := (Box.new w _ _).alloc _
 have r0 : Box ((w.alloc (.cells #[ii g, ii b, ii p, ii t, sC A xs.length c, sC A2 ms.length c2, sC A3 n c3, inAt im 0, inAt im 1, inAt im 2, inAt im 3, inAt im 4, inAt im 5, inAt im 6, inAt im 7] 107)).alloc (.cells #[ii 0, ii 0, ii 0, ii 0, ii 0, ii 0, ii 0, ii 0] 105)) (w.heap.size + 1) 105 #[ii 0, ii 0, ii 0, ii 0, ii 0, ii 0, ii 0, ii 0] := by have := Box.new (w.alloc (.cells #[ii g, ii b, ii p, ii t, sC A xs.length c, sC A2 ms.length c2, sC A3 n c3, inAt im 0, inAt im 1, inAt im 2, inAt im 3, inAt im 4, inAt im 5, inAt im 6, inAt im 7] 107)) 105 #[ii 0, ii 0, ii 0, ii 0, ii 0, ii 0, ii 0, ii 0]; rwa [World.size_alloc] at this
 have hx0 := ((Nx.refl w).alloc (.cells #[ii g, ii b, ii p, ii t, sC A xs.length c, sC A2 ms.length c2, sC A3 n c3, inAt im 0, inAt im 1, inAt im 2, inAt im 3, inAt im 4, inAt im 5, inAt im 6, inAt im 7] 107)).alloc (.cells #[ii 0, ii 0, ii 0, ii 0, ii 0, ii 0, ii 0, ii 0] 105)
 clear hSD hSA h hy hr
 go_enter func71, ntmps71
 go_wp2_with fail
 generalize ((w.alloc (.cells #[ii g, ii b, ii p, ii t, sC A xs.length c, sC A2 ms.length c2, sC A3 n c3, inAt im 0, inAt im 1, inAt im 2, inAt im 3, inAt im 4, inAt im 5, inAt im 6, inAt im 7] 107)).alloc (.cells #[ii 0, ii 0, ii 0, ii 0, ii 0, ii 0, ii 0, ii 0] 105)) = W at *
 obtain ⟨gR, HgR⟩ := nM (w.heap.size + 1)
 have hgR : w.heap.size <= gR := by have := HgR.out; omega
 rw [HgR.out]
 rw [HgR.out] at r0
 refine (HSD.out _ hx0).mono ?_
 rintro e w1 ⟨rfl, hk⟩
 unfold vA
 have b1 := b0.nx hk
 have r1 := r0.nx hk
 replace hx0 := hx0.trans hk
 have rz := Box.new w1 105 #[ii 0, ii 0, ii 0, ii 0, ii 0, ii 0, ii 0, ii 0]
 have b2 := (b1.alloc (.cells #[ii 0, ii 0, ii 0, ii 0, ii 0, ii 0, ii 0, ii 0] 105)).rowfar (show w.heap.size ≠ w1.heap.size by have := b1.lt; omega) #[inAt c0 0, inAt c0 1, inAt c0 2, inAt c0 3, inAt c0 4, inAt c0 5, inAt c0 6, inAt c0 7]
 have r2 := (r1.alloc (.cells #[ii 0, ii 0, ii 0, ii 0, ii 0, ii 0, ii 0, ii 0] 105)).rowfar (show gR ≠ w1.heap.size by have := r1.lt; omega) #[inAt c0 0, inAt c0 1, inAt c0 2, inAt c0 3, inAt c0 4, inAt c0 5, inAt c0 6, inAt c0 7]
 have ba := rz.row #[inAt c0 0, inAt c0 1, inAt c0 2, inAt c0 3, inAt c0 4, inAt c0 5, inAt c0 6, inAt c0 7]
 have hx2 := (hx0.alloc (.cells #[ii 0, ii 0, ii 0, ii 0, ii 0, ii 0, ii 0, ii 0] 105)).setRow (g := w1.heap.size) hx0.size #[inAt c0 0, inAt c0 1, inAt c0 2, inAt c0 3, inAt c0 4, inAt c0 5, inAt c0 6, inAt c0 7]
 have hneA : w.heap.size ≠ w1.heap.size := by have := b1.lt; omega
 have hneAR : gR ≠ w1.heap.size := by have := r1.lt; omega
 have hgA : w.heap.size <= w1.heap.size := hx0.size
 obtain ⟨y0, y1, y2, y3, y4, y5, y6, y7, y8, y9, y10, y11, y12, y13, y14⟩ := b2.e15
 clear b0 r0 hk b1 r1
 go_wp2_with (refine wpList_store_row rfl _ _ _ rfl w1.heap.size #[inAt c0 0, inAt c0 1, inAt c0 2, inAt c0 3, inAt c0 4, inAt c0 5, inAt c0 6, inAt c0 7] rfl rfl 105 #[ii 0, ii 0, ii 0, ii 0, ii 0, ii 0, ii 0, ii 0] rz (by kernel_rfl) rfl (by simp [Value.oneCell', inAt]) ?_)
 clear y0 y1 y2 y3 y4 y5 y6 y7 y8 y9 y10 y11 y12 y13 y14 rz hx0
 generalize (w1.alloc (.cells #[ii 0, ii 0, ii 0, ii 0, ii 0, ii 0, ii 0, ii 0] 105)).setRow w1.heap.size #[inAt c0 0, inAt c0 1, inAt c0 2, inAt c0 3, inAt c0 4, inAt c0 5, inAt c0 6, inAt c0 7] = Wl at *
 generalize w1.heap.size = gA at *
 refine (HSA.out _ hx2).mono ?_
 rintro e w3 ⟨rfl, hk⟩
 have ba3 := ba.nx hk
 have b3 := b2.nx hk
 have r3 := r2.nx hk
 have hx3 := hx2.trans hk
 clear ba b2 r2 hx2 hk
 go_wp2_with fail
 go_loopw [6] (fun i wr => ∃ k : Nat, a <= k /\ k <= max a e9 /\ i = ii k /\ Box wr gA 105 #[inAt (fwK c0 gs a (k - a)) 0, inAt (fwK c0 gs a (k - a)) 1, inAt (fwK c0 gs a (k - a)) 2, inAt (fwK c0 gs a (k - a)) 3, inAt (fwK c0 gs a (k - a)) 4, inAt (fwK c0 gs a (k - a)) 5, inAt (fwK c0 gs a (k - a)) 6, inAt (fwK c0 gs a (k - a)) 7] /\ Nx w wr /\ Box wr w.heap.size 107 #[ii g, ii b, ii p, ii t, sC A xs.length c, sC A2 ms.length c2, sC A3 n c3, inAt im 0, inAt im 1, inAt im 2, inAt im 3, inAt im 4, inAt im 5, inAt im 6, inAt im 7] /\ Box wr gR 105 #[ii 0, ii 0, ii 0, ii 0, ii 0, ii 0, ii 0, ii 0]) (fun i _ => max a e9 - (intOf i).toNat)
 case atStart => exact ⟨a, Nat.le_refl _, oM, rfl, by rw [Nat.sub_self]; exact ba3, hx3, b3, r3⟩
 case round =>
 obtain ⟨k, hka, hkm, rfl, hbx, hnx, hb, hr⟩ := hrel
 clear ba3 hx3 b3 r3
 by_cases hke : k < e9
 . have hd : decide ((k : Int) < (e9 : Int)) = true := decide_eq_true oM
   have hdN : decide (k < e9) = true := decide_eq_true hke
   have hkn : k < n := oM
   obtain ⟨j, Hj⟩ := nM (k - a)
   have Hkj : Hid (a + j = k) := qh (by have := Hj.out; omega)
   rw [Hj.out] at hbx
   obtain ⟨bb, off, rfl, hbb, p0, p1, p2, p3⟩ := HSg.out k hkn wr hnx
   have hbw : bb < wr.heap.size := Nat.lt_of_lt_of_le hbb (ntr hB hnx.size)
   have HCk := qh (HCh.out k hkn)
   have HOKc := qh (HOKs.out k hkn)
   have HLj : Hid ((fwK c0 gs a j).length = 8) := qh (by rw [fwK_len]; exact HL0.out)
   have Hsuc : Hid (fwK c0 gs a (j + 1) = app pN (fwK c0 gs a j) (gs.getD k sgZ).cs) := qh (by rw [<- Hkj.out]; rfl)
   obtain ⟨cj, Hcj⟩ := nM (fwK c0 gs a j)
   rw [Hcj.out] at HLj Hsuc hbx
   obtain ⟨⟨f, t9, m9, Ac, cc, cs⟩, Hs⟩ := nM (gs.getD k sgZ)
   rw [Hs.out] at p0 p1 p2 p3 HCk HOKc Hsuc
   simp only at p0 p1 p2 p3 HCk HOKc Hsuc
   have hkc : (k : Int) < (n : Int) := oM
   have hk0 : (0 : Int) <= (k : Int) := oM
   have Hin := qh hkn
   clear hkn
   have Hke := qh hke
   clear hke
   go_wp2_with fail
   have bae := hbx.nx (Nx.refl _).drew
   have vbe : Box wr.drew w.heap.size 107 #[ii g, ii b, ii p, ii t, sC A xs.length c, sC A2 ms.length c2, sC (some ⟨bb, off, none⟩) n c3, inAt im 0, inAt im 1, inAt im 2, inAt im 3, inAt im 4, inAt im 5, inAt im 6, inAt im 7] := hb
   have rre := hr.nx (Nx.refl _).drew
   have hnxe := hnx.drew
   replace hbw : bb < wr.drew.heap.size := hbw
   have p0 : wr.drew.cell? ⟨bb, off + k * 4, none⟩ = _ := p0; have p1 : wr.drew.cell? ⟨bb, off + k * 4 + 1, none⟩ = _ := p1; have p2 : wr.drew.cell? ⟨bb, off + k * 4 + 2, none⟩ = _ := p2; have p3 : wr.drew.cell? ⟨bb, off + k * 4 + 3, none⟩ = _ := p3
   have hneb : bb ≠ gA := oM
   clear hbx hb hr
   refine wp_planA (.t 1 (.t 2 (.t 3 (.t 4 (.t 5 (.c 0 (.c 6 (.c 7 .e)))))))) (fun w' => CC w' w.heap.size 6 (sC (some ⟨bb, off, none⟩) n c3) /\ CC w' bb (off + k * 4) (ii f) /\ CC w' bb (off + k * 4 + 1) (ii t9) /\ CC w' bb (off + k * 4 + 2) (ii m9) /\ CC w' bb (off + k * 4 + 3) (sC Ac cs.length cc)) (by exact ⟨vbe.cell 6, p0, p1, p2, p3⟩) ?_
   simp only [psOf, List.getD_cons_zero, List.getD_cons_succ]
   refine hPr ?_
   refine hPc fun K hK => ?_
   refine wp_load_row _ _ rfl gA rfl 105 #[inAt cj 0, inAt cj 1, inAt cj 2, inAt cj 3, inAt cj 4, inAt cj 5, inAt cj 6, inAt cj 7] (0, 0) _ bae und_values rfl (by kernel_rfl) ?_
   refine hK.out _ _ (by exact ⟨vbe.cell 6, p0, p1, p2, p3⟩) ?_
   clear hK K
   try simp only [Act.put]
   refine hPc fun K hK => ?_
   go_simp
   have hcl := valuesForward_c f t9 m9 Ac cc B cs cj _ (HCk.out _ hnxe) (ntr hB hnxe.size) HOKc.out HLj.out; unfold vA at hcl; refine hcl.mono ?_; rintro e w9 ⟨rfl, hk9⟩; clear hcl; have ba9 := bae.nx hk9; have vb9 := vbe.nx hk9; have hnx9 := hnxe.trans hk9; have hbw9 := hbw; replace hbw := Nat.lt_of_lt_of_le hbw hk9.size; have hbq9 : bb < w.heap.size := Nat.lt_of_lt_of_le hbb hB; replace p0 := (hk9.cell (p := ⟨bb, off + k * 4, none⟩) hbw9).trans p0; replace p1 := (hk9.cell (p := ⟨bb, off + k * 4 + 1, none⟩) hbw9).trans p1; replace p2 := (hk9.cell (p := ⟨bb, off + k * 4 + 2, none⟩) hbw9).trans p2; replace p3 := (hk9.cell (p := ⟨bb, off + k * 4 + 3, none⟩) hbw9).trans p3; have rr9 := rre.nx hk9
   go_wp2_with fail
   refine hK.out _ _ (by exact ⟨vb9.cell 6, p0, p1, p2, p3⟩) ?_
   clear hK K
   refine nZ ?_
   refine hPc fun K hK => ?_
   refine wp_store_row _ _ _ rfl gA #[inAt (app pN cj cs) 0, inAt (app pN cj cs) 1, inAt (app pN cj cs) 2, inAt (app pN cj cs) 3, inAt (app pN cj cs) 4, inAt (app pN cj cs) 5, inAt (app pN cj cs) 6, inAt (app pN cj cs) 7] rfl rfl 105 #[inAt cj 0, inAt cj 1, inAt cj 2, inAt cj 3, inAt cj 4, inAt cj 5, inAt cj 6, inAt cj 7] ba9 (by kernel_rfl) rfl (by simp [Value.oneCell', inAt]) ?_
   refine hK.out _ _ (by exact ⟨(vb9.rowfar hneA #[inAt (app pN cj cs) 0, inAt (app pN cj cs) 1, inAt (app pN cj cs) 2, inAt (app pN cj cs) 3, inAt (app pN cj cs) 4, inAt (app pN cj cs) 5, inAt (app pN cj cs) 6, inAt (app pN cj cs) 7]).cell 6, ((cell_row_far w9 gA #[inAt (app pN cj cs) 0, inAt (app pN cj cs) 1, inAt (app pN cj cs) 2, inAt (app pN cj cs) 3, inAt (app pN cj cs) 4, inAt (app pN cj cs) 5, inAt (app pN cj cs) 6, inAt (app pN cj cs) 7] (p := ⟨bb, off + k * 4, none⟩) sM).trans p0), ((cell_row_far w9 gA #[inAt (app pN cj cs) 0, inAt (app pN cj cs) 1, inAt (app pN cj cs) 2, inAt (app pN cj cs) 3, inAt (app pN cj cs) 4, inAt (app pN cj cs) 5, inAt (app pN cj cs) 6, inAt (app pN cj cs) 7] (p := ⟨bb, off + k * 4 + 1, none⟩) sM).trans p1), ((cell_row_far w9 gA #[inAt (app pN cj cs) 0, inAt (app pN cj cs) 1, inAt (app pN cj cs) 2, inAt (app pN cj cs) 3, inAt (app pN cj cs) 4, inAt (app pN cj cs) 5, inAt (app pN cj cs) 6, inAt (app pN cj cs) 7] (p := ⟨bb, off + k * 4 + 2, none⟩) sM).trans p2), ((cell_row_far w9 gA #[inAt (app pN cj cs) 0, inAt (app pN cj cs) 1, inAt (app pN cj cs) 2, inAt (app pN cj cs) 3, inAt (app pN cj cs) 4, inAt (app pN cj cs) 5, inAt (app pN cj cs) 6, inAt (app pN cj cs) 7] (p := ⟨bb, off + k * 4 + 3, none⟩) sM).trans p3)⟩) ?_
   clear hK K
   try simp only [Act.put]
   refine HP.done ?_
   have bz := ba9.row #[inAt (app pN cj cs) 0, inAt (app pN cj cs) 1, inAt (app pN cj cs) 2, inAt (app pN cj cs) 3, inAt (app pN cj cs) 4, inAt (app pN cj cs) 5, inAt (app pN cj cs) 6, inAt (app pN cj cs) 7]
   have vz := vb9.rowfar hneA #[inAt (app pN cj cs) 0, inAt (app pN cj cs) 1, inAt (app pN cj cs) 2, inAt (app pN cj cs) 3, inAt (app pN cj cs) 4, inAt (app pN cj cs) 5, inAt (app pN cj cs) 6, inAt (app pN cj cs) 7]
   have rz := rr9.rowfar hneAR #[inAt (app pN cj cs) 0, inAt (app pN cj cs) 1, inAt (app pN cj cs) 2, inAt (app pN cj cs) 3, inAt (app pN cj cs) 4, inAt (app pN cj cs) 5, inAt (app pN cj cs) 6, inAt (app pN cj cs) 7]
   have hnxz := hnx9.setRow hgA #[inAt (app pN cj cs) 0, inAt (app pN cj cs) 1, inAt (app pN cj cs) 2, inAt (app pN cj cs) 3, inAt (app pN cj cs) 4, inAt (app pN cj cs) 5, inAt (app pN cj cs) 6, inAt (app pN cj cs) 7]
   generalize w9.setRow gA #[inAt (app pN cj cs) 0, inAt (app pN cj cs) 1, inAt (app pN cj cs) 2, inAt (app pN cj cs) 3, inAt (app pN cj cs) 4, inAt (app pN cj cs) 5, inAt (app pN cj cs) 6, inAt (app pN cj cs) 7] = Wz at *
   go_wp2
   go_roundw
   case rel => exact ⟨k + 1, oM, by have := Hke.out; omega, by go_num, by rw [show k + 1 - a = j + 1 by have := Hkj.out; omega, Hsuc.out]; exact bz, hnxz, vz, rz⟩
   case measure => (have := Hke.out; simp [intOf] <;> omega)
 have hd : decide ((k : Int) < (e9 : Int)) = false := decide_eq_false oM
 have hdN : decide (k < e9) = false := decide_eq_false hke
 have Hkm : Hid (k = max a e9) := qh oM
 obtain ⟨d0, Hd0⟩ := nM (fwK c0 gs a (e9 - a))
 have HLd0 : Hid (d0.length = 8) := qh (by rw [<- Hd0.out, fwK_len]; exact HL0.out)
 rw [show k - a = e9 - a by have := Hkm.out; omega, Hd0.out] at hbx
 have Hke := qh hke
 clear hke
 go_wp2_with fail
 clear hd hdN
 go_loopw [6] (fun i wr => ∃ k : Nat, e9 <= k /\ k <= max a e9 /\ i = ii k /\ Box wr gA 105 #[inAt (bkK d0 gs a (a - k)) 0, inAt (bkK d0 gs a (a - k)) 1, inAt (bkK d0 gs a (a - k)) 2, inAt (bkK d0 gs a (a - k)) 3, inAt (bkK d0 gs a (a - k)) 4, inAt (bkK d0 gs a (a - k)) 5, inAt (bkK d0 gs a (a - k)) 6, inAt (bkK d0 gs a (a - k)) 7] /\ Nx w wr /\ Box wr w.heap.size 107 #[ii g, ii b, ii p, ii t, sC A xs.length c, sC A2 ms.length c2, sC A3 n c3, inAt im 0, inAt im 1, inAt im 2, inAt im 3, inAt im 4, inAt im 5, inAt im 6, inAt im 7] /\ Box wr gR 105 #[ii 0, ii 0, ii 0, ii 0, ii 0, ii 0, ii 0, ii 0]) (fun i _ => (intOf i).toNat)
 case atStart => exact ⟨k, by have := Hke.out; omega, hkm, rfl, by rw [show a - k = 0 by omega]; exact hbx, hnx, hb, hr⟩
 case round =>
 clear hbx hnx hb hr hka hkm Hke Hkm
 obtain ⟨u, hka, hkm, rfl, hbx, hnx, hb, hr⟩ := hrel
 by_cases hke : e9 < u
 case neg =>
  obtain rfl : e9 = u := oM
  have hd : decide ((e9 : Int) < (e9 : Int)) = false := by simp
  obtain ⟨y0, y1, y2, y3, y4, y5, y6, y7⟩ := hbx.e8
  have Hfin : Hid (bkK (fwK c0 gs a (e9 - a)) gs a (a - e9) = bkK d0 gs a (a - e9)) := qh (by rw [Hd0.out])
  obtain ⟨z, Hz⟩ := nM (bkK d0 gs a (a - e9))
  rw [Hz.out] at hbx y0 y1 y2 y3 y4 y5 y6 y7
  have q := hr.row #[inAt z 0, inAt z 1, inAt z 2, inAt z 3, inAt z 4, inAt z 5, inAt z 6, inAt z 7]
  have hnf := hnx.setRow hgR #[inAt z 0, inAt z 1, inAt z 2, inAt z 3, inAt z 4, inAt z 5, inAt z 6, inAt z 7]
  go_wp2_with (refine wpList_store_row rfl _ _ _ rfl gR #[inAt z 0, inAt z 1, inAt z 2, inAt z 3, inAt z 4, inAt z 5, inAt z 6, inAt z 7] rfl rfl 105 #[ii 0, ii 0, ii 0, ii 0, ii 0, ii 0, ii 0, ii 0] hr (by kernel_rfl) rfl (by simp [Value.oneCell', inAt]) ?_)
  generalize wr.setRow gR #[inAt z 0, inAt z 1, inAt z 2, inAt z 3, inAt z 4, inAt z 5, inAt z 6, inAt z 7] = Wf at *
  obtain ⟨g0, g1, g2, g3, g4, g5, g6, g7⟩ := q.e8
  exact bodyPost_ret (v := .agg #[inAt z 0, inAt z 1, inAt z 2, inAt z 3, inAt z 4, inAt z 5, inAt z 6, inAt z 7]) (by simp [results, results71, go_sem, g0, g1, g2, g3, g4, g5, g6, g7]) rfl ⟨by rw [Hfin.out, Hz.out]; rfl, hnf⟩
 obtain ⟨i, rfl⟩ : ∃ i, u = i + 1 := ⟨u - 1, oM⟩
 have hd : decide ((e9 : Int) < ((i + 1 : Nat) : Int)) = true := decide_eq_true oM
 have hd2 : decide ((e9 : Int) < (i : Int) + 1) = true := decide_eq_true oM
 have hdN : decide (e9 < i + 1) = true := decide_eq_true hke
 have hkn : i < n := oM
 have hwi : IntKind.i64.wrap (i : Int) = (i : Int) := IntWalk.i64_in _ oM
 obtain ⟨j, Hj⟩ := nM (a - (i + 1))
 have Hkj : Hid (i = a - 1 - j) := qh (by have := Hj.out; omega)
 have Hm1 : Hid (a - i = j + 1) := qh (by have := Hj.out; omega)
 rw [Hj.out] at hbx
 obtain ⟨bb, off, rfl, hbb, p0, p1, p2, p3⟩ := HSg.out i hkn wr hnx
 have hbw : bb < wr.heap.size := Nat.lt_of_lt_of_le hbb (ntr hB hnx.size)
 have HCk := qh (HCh.out i hkn)
 have HOKc := qh (HOKs.out i hkn)
 have HLj : Hid ((bkK d0 gs a j).length = 8) := qh (by rw [bkK_len]; exact HLd0.out)
 have Hsuc : Hid (bkK d0 gs a (j + 1) = app pO (bkK d0 gs a j) (gs.getD i sgZ).cs) := qh (by rw [Hkj.out]; rfl)
 obtain ⟨cj, Hcj⟩ := nM (bkK d0 gs a j)
 rw [Hcj.out] at HLj Hsuc hbx
 obtain ⟨⟨f, t9, m9, Ac, cc, cs⟩, Hs⟩ := nM (gs.getD i sgZ)
 rw [Hs.out] at p0 p1 p2 p3 HCk HOKc Hsuc
 simp only at p0 p1 p2 p3 HCk HOKc Hsuc
 have hkc : (i : Int) < (n : Int) := oM
 have hk0 : (0 : Int) <= (i : Int) := oM
 have Hin := qh hkn
 clear hkn
 have Hke := qh hke
 clear hke
 go_wp2_with fail
 have bae := hbx.nx (Nx.refl _).drew
 have vbe : Box wr.drew w.heap.size 107 #[ii g, ii b, ii p, ii t, sC A xs.length c, sC A2 ms.length c2, sC (some ⟨bb, off, none⟩) n c3, inAt im 0, inAt im 1, inAt im 2, inAt im 3, inAt im 4, inAt im 5, inAt im 6, inAt im 7] := hb
 have rre := hr.nx (Nx.refl _).drew
 have hnxe := hnx.drew
 replace hbw : bb < wr.drew.heap.size := hbw
 have p0 : wr.drew.cell? ⟨bb, off + i * 4, none⟩ = _ := p0; have p1 : wr.drew.cell? ⟨bb, off + i * 4 + 1, none⟩ = _ := p1; have p2 : wr.drew.cell? ⟨bb, off + i * 4 + 2, none⟩ = _ := p2; have p3 : wr.drew.cell? ⟨bb, off + i * 4 + 3, none⟩ = _ := p3
 have hneb : bb ≠ gA := oM
 clear hbx hb hr
 refine wp_planA (.t 1 (.t 2 (.t 3 (.t 4 (.t 5 (.t 6 (.c 0 (.c 7 (.c 8 .e))))))))) (fun w' => CC w' w.heap.size 6 (sC (some ⟨bb, off, none⟩) n c3) /\ CC w' bb (off + i * 4) (ii f) /\ CC w' bb (off + i * 4 + 1) (ii t9) /\ CC w' bb (off + i * 4 + 2) (ii m9) /\ CC w' bb (off + i * 4 + 3) (sC Ac cs.length cc)) (by exact ⟨vbe.cell 6, p0, p1, p2, p3⟩) ?_
 simp only [psOf, List.getD_cons_zero, List.getD_cons_succ]
 refine hPr ?_
 refine hPc fun K hK => ?_
 refine wp_load_row _ _ rfl gA rfl 105 #[inAt cj 0, inAt cj 1, inAt cj 2, inAt cj 3, inAt cj 4, inAt cj 5, inAt cj 6, inAt cj 7] (0, 0) _ bae und_values rfl (by kernel_rfl) ?_
 refine hK.out _ _ (by exact ⟨vbe.cell 6, p0, p1, p2, p3⟩) ?_
 clear hK K
 try simp only [Act.put]
 refine hPc fun K hK => ?_
 go_simp
 have hcl := valuesBackward_c f t9 m9 Ac cc B cs cj _ (HCk.out _ hnxe) (ntr hB hnxe.size) HOKc.out HLj.out; unfold vA at hcl; refine hcl.mono ?_; rintro e w9 ⟨rfl, hk9⟩; clear hcl; have ba9 := bae.nx hk9; have vb9 := vbe.nx hk9; have hnx9 := hnxe.trans hk9; have hbw9 := hbw; replace hbw := Nat.lt_of_lt_of_le hbw hk9.size; have hbq9 : bb < w.heap.size := Nat.lt_of_lt_of_le hbb hB; replace p0 := (hk9.cell (p := ⟨bb, off + i * 4, none⟩) hbw9).trans p0; replace p1 := (hk9.cell (p := ⟨bb, off + i * 4 + 1, none⟩) hbw9).trans p1; replace p2 := (hk9.cell (p := ⟨bb, off + i * 4 + 2, none⟩) hbw9).trans p2; replace p3 := (hk9.cell (p := ⟨bb, off + i * 4 + 3, none⟩) hbw9).trans p3; have rr9 := rre.nx hk9
 go_wp2_with fail
 refine hK.out _ _ (by exact ⟨vb9.cell 6, p0, p1, p2, p3⟩) ?_
 clear hK K
 refine nZ ?_
 refine hPc fun K hK => ?_
 refine wp_store_row _ _ _ rfl gA #[inAt (app pO cj cs) 0, inAt (app pO cj cs) 1, inAt (app pO cj cs) 2, inAt (app pO cj cs) 3, inAt (app pO cj cs) 4, inAt (app pO cj cs) 5, inAt (app pO cj cs) 6, inAt (app pO cj cs) 7] rfl rfl 105 #[inAt cj 0, inAt cj 1, inAt cj 2, inAt cj 3, inAt cj 4, inAt cj 5, inAt cj 6, inAt cj 7] ba9 (by kernel_rfl) rfl (by simp [Value.oneCell', inAt]) ?_
 refine hK.out _ _ (by exact ⟨(vb9.rowfar hneA #[inAt (app pO cj cs) 0, inAt (app pO cj cs) 1, inAt (app pO cj cs) 2, inAt (app pO cj cs) 3, inAt (app pO cj cs) 4, inAt (app pO cj cs) 5, inAt (app pO cj cs) 6, inAt (app pO cj cs) 7]).cell 6, ((cell_row_far w9 gA #[inAt (app pO cj cs) 0, inAt (app pO cj cs) 1, inAt (app pO cj cs) 2, inAt (app pO cj cs) 3, inAt (app pO cj cs) 4, inAt (app pO cj cs) 5, inAt (app pO cj cs) 6, inAt (app pO cj cs) 7] (p := ⟨bb, off + i * 4, none⟩) sM).trans p0), ((cell_row_far w9 gA #[inAt (app pO cj cs) 0, inAt (app pO cj cs) 1, inAt (app pO cj cs) 2, inAt (app pO cj cs) 3, inAt (app pO cj cs) 4, inAt (app pO cj cs) 5, inAt (app pO cj cs) 6, inAt (app pO cj cs) 7] (p := ⟨bb, off + i * 4 + 1, none⟩) sM).trans p1), ((cell_row_far w9 gA #[inAt (app pO cj cs) 0, inAt (app pO cj cs) 1, inAt (app pO cj cs) 2, inAt (app pO cj cs) 3, inAt (app pO cj cs) 4, inAt (app pO cj cs) 5, inAt (app pO cj cs) 6, inAt (app pO cj cs) 7] (p := ⟨bb, off + i * 4 + 2, none⟩) sM).trans p2), ((cell_row_far w9 gA #[inAt (app pO cj cs) 0, inAt (app pO cj cs) 1, inAt (app pO cj cs) 2, inAt (app pO cj cs) 3, inAt (app pO cj cs) 4, inAt (app pO cj cs) 5, inAt (app pO cj cs) 6, inAt (app pO cj cs) 7] (p := ⟨bb, off + i * 4 + 3, none⟩) sM).trans p3)⟩) ?_
 clear hK K
 try simp only [Act.put]
 refine HP.done ?_
 have bz := ba9.row #[inAt (app pO cj cs) 0, inAt (app pO cj cs) 1, inAt (app pO cj cs) 2, inAt (app pO cj cs) 3, inAt (app pO cj cs) 4, inAt (app pO cj cs) 5, inAt (app pO cj cs) 6, inAt (app pO cj cs) 7]
 have vz := vb9.rowfar hneA #[inAt (app pO cj cs) 0, inAt (app pO cj cs) 1, inAt (app pO cj cs) 2, inAt (app pO cj cs) 3, inAt (app pO cj cs) 4, inAt (app pO cj cs) 5, inAt (app pO cj cs) 6, inAt (app pO cj cs) 7]
 have rz := rr9.rowfar hneAR #[inAt (app pO cj cs) 0, inAt (app pO cj cs) 1, inAt (app pO cj cs) 2, inAt (app pO cj cs) 3, inAt (app pO cj cs) 4, inAt (app pO cj cs) 5, inAt (app pO cj cs) 6, inAt (app pO cj cs) 7]
 have hnxz := hnx9.setRow hgA #[inAt (app pO cj cs) 0, inAt (app pO cj cs) 1, inAt (app pO cj cs) 2, inAt (app pO cj cs) 3, inAt (app pO cj cs) 4, inAt (app pO cj cs) 5, inAt (app pO cj cs) 6, inAt (app pO cj cs) 7]
 generalize w9.setRow gA #[inAt (app pO cj cs) 0, inAt (app pO cj cs) 1, inAt (app pO cj cs) 2, inAt (app pO cj cs) 3, inAt (app pO cj cs) 4, inAt (app pO cj cs) 5, inAt (app pO cj cs) 6, inAt (app pO cj cs) 7] = Wz at *
 go_wp2
 go_roundw
 case rel => exact ⟨i, by have := Hke.out; omega, oM, rfl, by rw [Hm1.out, Hsuc.out]; exact bz, hnxz, vz, rz⟩
 case measure => (simp [intOf] <;> omega)
theorem lastM_nil {gs : List SgR} (t : Int) (h : gs.length = 0) : lastM gs t = t := by unfold lastM; rw [if_neg oM]
theorem lastM_some {gs : List SgR} (t : Int) {k : Nat} (h : gs.length = k + 1) : lastM gs t = max t (gs.getD k sgZ).m := by unfold lastM; rw [if_pos oM, h]; rfl
theorem viewSegOf_c (V : Vl) (P u t9 : Int) (n0 : Nat) (B : Nat) (w : World) (h : Sgs w B V.A3 V.gs) (hB : B <= w.heap.size) (hy : VltY V.g V.b V.p V.t V.xs V.ms V.gs V.im) (hn0 : n0 < 8) (hP1 : 1 <= P) (hP2 : P <= 9000000) :
 Calls Tryz.prog 155 #[V.w, .agg #[ii P, ii (n0 : Int), ii u, ii t9]] w (RetG w (P - 1) P (lastM V.gs t9) [((n0 : Int), u, V.top.getD n0 0)]) := by
 have hl := chainB_lead hy.chain
 have htipR := (ahd_of hl (Nat.le_refl V.gs.length)).1
 have htip := tip_c V B
 have hcon := contentAt_c V V.tip B
 have htop : V.top.length = 8 := (contB_yes (top_cont hy)).1
 have hl20 : V.gs.length <= 20 := by have := hy.len; have := (tbB_yes (superB_yes hy.super).2.2.2.2.1).1; omega
 have hTop : Hid (cntV V.b V.p V.t V.gs V.im V.tip = V.top) := qh rfl
 have hcon2 := fun w' h1 h2 => hcon w' h1 h2 hy htipR
 have htip2 := fun w' h1 h2 => htip w' h1 h2 oM
 rw [hTop.out] at hcon2
 have HtV : Hid (tipV V.b V.gs = V.tip) := qh rfl
 rw [HtV.out] at htip2
 obtain ⟨top, HTop⟩ := nM (V.top)
 obtain ⟨tp, Htp⟩ := nM (V.tip)
 obtain ⟨T9, HTm⟩ := nM (lastM V.gs t9)
 rw [HTop.out] at htop hcon2 ⊢
 rw [Htp.out] at htip2 hcon2
 have Htop := qh htop
 have HT9 := qh (fun (h0 : V.gs.length = 0) => HTm.out.symm.trans (lastM_nil t9 h0))
 have HT8 := qh (fun (k : Nat) (h0 : V.gs.length = k + 1) => HTm.out.symm.trans (lastM_some t9 h0))
 rw [HTm.out]
 clear HTm hcon htip hTop HtV htop hl htipR
 have HTm : Hid (T9 = T9) := qh rfl
 obtain ⟨g, b, p, t, A, c, xs, A2, c2, ms, A3, c3, gs, A4, c4, im⟩ := V
 obtain ⟨N, HN⟩ := nM (gs.length)
 simp only [Vl.w, Vl.wcells] at *
 have h3 := h
 have htip := htip2
 have hcon := hcon2
 rw [HN.out] at hl20 HT9 HT8 ⊢
 clear hy h htip2 hcon2
 have v0 : Box (((w.alloc (.cells #[ii g, ii b, ii p, ii t, sC A xs.length c, sC A2 ms.length c2, sC A3 N c3, inAt im 0, inAt im 1, inAt im 2, inAt im 3, inAt im 4, inAt im 5, inAt im 6, inAt im 7] 107)).alloc (.cells #[ii P, ii (n0 : Int), ii u, ii t9] 55)).alloc (.cells #[ii 0, ii 0, ii 0, nsl] 122)) w.heap.size 107 #[ii g, ii b, ii p, ii t, sC A xs.length c, sC A2 ms.length c2, sC A3 N c3, inAt im 0, inAt im 1, inAt im 2, inAt im 3, inAt im 4, inAt im 5, inAt im 6, inAt im 7] := ((Box.new w _ _).alloc _).alloc _
 have f0 : Box (((w.alloc (.cells #[ii g, ii b, ii p, ii t, sC A xs.length c, sC A2 ms.length c2, sC A3 N c3, inAt im 0, inAt im 1, inAt im 2, inAt im 3, inAt im 4, inAt im 5, inAt im 6, inAt im 7] 107)).alloc (.cells #[ii P, ii (n0 : Int), ii u, ii t9] 55)).alloc (.cells #[ii 0, ii 0, ii 0, nsl] 122)) (w.heap.size + 1) 55 #[ii P, ii (n0 : Int), ii u, ii t9] := by have := (Box.new (w.alloc (.cells #[ii g, ii b, ii p, ii t, sC A xs.length c, sC A2 ms.length c2, sC A3 N c3, inAt im 0, inAt im 1, inAt im 2, inAt im 3, inAt im 4, inAt im 5, inAt im 6, inAt im 7] 107)) 55 #[ii P, ii (n0 : Int), ii u, ii t9]).alloc (.cells #[ii 0, ii 0, ii 0, nsl] 122); rwa [World.size_alloc] at this
 have r0 : Box (((w.alloc (.cells #[ii g, ii b, ii p, ii t, sC A xs.length c, sC A2 ms.length c2, sC A3 N c3, inAt im 0, inAt im 1, inAt im 2, inAt im 3, inAt im 4, inAt im 5, inAt im 6, inAt im 7] 107)).alloc (.cells #[ii P, ii (n0 : Int), ii u, ii t9] 55)).alloc (.cells #[ii 0, ii 0, ii 0, nsl] 122)) (w.heap.size + 1 + 1) 122 #[ii 0, ii 0, ii 0, nsl] := by have := Box.new ((w.alloc (.cells #[ii g, ii b, ii p, ii t, sC A xs.length c, sC A2 ms.length c2, sC A3 N c3, inAt im 0, inAt im 1, inAt im 2, inAt im 3, inAt im 4, inAt im 5, inAt im 6, inAt im 7] 107)).alloc (.cells #[ii P, ii (n0 : Int), ii u, ii t9] 55)) 122 #[ii 0, ii 0, ii 0, nsl]; rwa [World.size_alloc, World.size_alloc] at this
 have hx0 := (((Nx.refl w).alloc (.cells #[ii g, ii b, ii p, ii t, sC A xs.length c, sC A2 ms.length c2, sC A3 N c3, inAt im 0, inAt im 1, inAt im 2, inAt im 3, inAt im 4, inAt im 5, inAt im 6, inAt im 7] 107)).alloc (.cells #[ii P, ii (n0 : Int), ii u, ii t9] 55)).alloc (.cells #[ii 0, ii 0, ii 0, nsl] 122)
 have y6 := v0.cell 6
 go_enter func155, ntmps155
 by_cases h0 : N = 0
 . obtain rfl : t9 = T9 := (HT9.out h0).symm
   obtain rfl : N = 0 := h0
   go_wp2_with fail
   generalize ((w.alloc (.cells #[ii g, ii b, ii p, ii t, sC A xs.length c, sC A2 ms.length c2, sC A3 0 c3, inAt im 0, inAt im 1, inAt im 2, inAt im 3, inAt im 4, inAt im 5, inAt im 6, inAt im 7] 107)).alloc (.cells #[ii P, ii (n0 : Int), ii u, ii t9] 55)).alloc (.cells #[ii 0, ii 0, ii 0, nsl] 122) = W at *
   obtain ⟨gF, HgF⟩ := nM (w.heap.size + 1)
   obtain ⟨gR, HgR⟩ := nM (w.heap.size + 1 + 1)
   have hgR : w.heap.size <= gR := by have := HgR.out; omega
   have hgF : w.heap.size <= gF := by have := HgF.out; omega
   have hneV : w.heap.size ≠ gR := by have := HgR.out; omega
   have hneF : gF ≠ gR := by have := HgR.out; have := HgF.out; omega
   have hneVF : w.heap.size ≠ gF := by have := HgF.out; omega
   rw [HgR.out] at r0 ⊢
   rw [HgF.out] at f0 ⊢
   have hgRW := r0.lt
   have hgFW := f0.lt
   have hszW : W.heap.size <= W.heap.size := Nat.le_refl _
   refine wp_planA (.t 0 (.t 1 (.t 4 (.c 2 (.c 3 (.c 5 (.c 6 .e))))))) (fun w' => (CC w' w.heap.size 0 (ii g) /\ CC w' w.heap.size 1 (ii b) /\ CC w' w.heap.size 2 (ii p) /\ CC w' w.heap.size 3 (ii t) /\ CC w' w.heap.size 4 (sC A xs.length c) /\ CC w' w.heap.size 5 (sC A2 ms.length c2) /\ CC w' w.heap.size 6 (sC A3 0 c3) /\ CC w' w.heap.size 7 (inAt im 0) /\ CC w' w.heap.size 8 (inAt im 1) /\ CC w' w.heap.size 9 (inAt im 2) /\ CC w' w.heap.size 10 (inAt im 3) /\ CC w' w.heap.size 11 (inAt im 4) /\ CC w' w.heap.size 12 (inAt im 5) /\ CC w' w.heap.size 13 (inAt im 6) /\ CC w' w.heap.size 14 (inAt im 7)) /\ CC w' gF 0 (ii P) /\ CC w' gF 1 (ii (n0 : Int)) /\ CC w' gF 2 (ii u) /\ CC w' gF 3 (ii t9)) (by exact ⟨v0.e15, f0.d4⟩) ?_
   simp only [psOf, List.getD_cons_zero, List.getD_cons_succ]
   refine hPr ?_
   refine hPc fun K hK => ?_
   go_simp
   have HT := qh (htip W.drew (h3.below hx0.drew hB) (ntr hB hx0.drew.size)); simp only [HN.out] at HT; refine HT.out.mono ?_; rintro e v1 ⟨rfl, hk1⟩; have kA := (Nx.refl W).drew.trans hk1; have vA1 := v0.nx kA; have fA1 := f0.nx kA
   go_wp2_with fail
   refine hK.out _ _ (by exact ⟨vA1.e15, fA1.d4⟩) ?_
   clear hK K
   refine nZ ?_
   refine hPc fun K hK => ?_
   go_simp
   have HC := qh (hcon v1 (h3.below (hx0.trans kA) hB) (ntr hB (hx0.trans kA).size)); simp only [HN.out] at HC; refine HC.out.mono ?_; rintro e v2 ⟨rfl, hk2⟩; have kB := kA.trans hk2; have vB1 := vA1.nx hk2; have fB1 := fA1.nx hk2
   go_wp2_with fail
   refine hK.out _ _ (by exact ⟨vB1.e15, fB1.d4⟩) ?_
   clear hK K
   refine nZ ?_
   refine hPc fun K hK => ?_
   go_simp
   refine (valuesSegOf_c top P u t9 n0 _ Htop.out hn0 hP1 hP2).mono ?_; rintro e v3 ⟨Aq, cq, rfl, hSq, hk3⟩; have kC := kB.trans hk3; have vC1 := vB1.nx hk3; have fC1 := fB1.nx hk3; have rC1 := r0.nx kC; have hSq2 := hSq.low (lo' := W.heap.size) (by have := kB.size; omega); have hrz := rC1.d4; have hrf0 := rC1.frozen 0; have hrf1 := rC1.frozen 1; have hrf2 := rC1.frozen 2; have hrf3 := rC1.frozen 3; obtain ⟨z0, z1, z2, z3⟩ := hrz
   go_wp2_with fail
   refine hK.out _ _ (by exact ⟨vC1.e15, fC1.d4⟩) ?_
   clear hK K
   refine nZ ?_
   refine hPc fun K hK => ?_
   go_simp
   refine hK.out _ _ (by exact ⟨((((vC1.far (p := ⟨gR, 0, none⟩) hneV (ii (P - 1))).far (p := ⟨gR, 1, none⟩) hneV (ii P)).far (p := ⟨gR, 2, none⟩) hneV (ii t9)).far (p := ⟨gR, 3, none⟩) hneV (sC Aq 1 cq)).e15, ((((fC1.far (p := ⟨gR, 0, none⟩) hneF (ii (P - 1))).far (p := ⟨gR, 1, none⟩) hneF (ii P)).far (p := ⟨gR, 2, none⟩) hneF (ii t9)).far (p := ⟨gR, 3, none⟩) hneF (sC Aq 1 cq)).d4⟩) ?_
   clear hK K
   refine nZ ?_
   refine HP.done ?_
   have rq := put4_box rC1 (ii (P - 1)) (ii P) (ii t9) (sC Aq 1 cq)
   have hnf := put4_nx (g := gR) (hx0.trans kC) hgR (ii (P - 1)) (ii P) (ii t9) (sC Aq 1 cq)
   have hsf := hSq2.put4 (g := gR) hgRW (ii (P - 1)) (ii P) (ii t9) (sC Aq 1 cq)
   unfold put4 at rq hnf hsf
   generalize (((v3.setCell ⟨gR, 0, none⟩ (ii (P - 1))).setCell ⟨gR, 1, none⟩ (ii P)).setCell ⟨gR, 2, none⟩ (ii t9)).setCell ⟨gR, 3, none⟩ (sC Aq 1 cq) = Wf at *
   obtain ⟨y0, y1, y2, y3⟩ := rq.d4
   clear z0 z1 z2 z3
   go_wp2
   exact bodyPost_ret (v := .agg #[ii (P - 1), ii P, ii t9, sC Aq 1 cq]) (by simp [results, results155, go_sem, y0, y1, y2, y3]) rfl ⟨Aq, cq, rfl, hsf.low hx0.size, hnf⟩
 obtain ⟨k, rfl⟩ : ∃ k, N = k + 1 := ⟨N - 1, oM⟩
 have hd : decide (0 < ((k + 1 : Nat) : Int)) = true := decide_eq_true oM
 have hk9 : k <= 20 := oM
 obtain ⟨bb, off, rfl, hbb, q0, q1, q2, q3⟩ := h3.row.at4 (k := k) (by have := HN.out; omega)
 have hT := HT8.out k rfl
 obtain ⟨m9, Hm9⟩ := nM ((gs.getD k sgZ).m)
 rw [Hm9.out] at q2 hT
 clear q0 q1 q3
 go_wp2_with fail
 generalize ((w.alloc (.cells #[ii g, ii b, ii p, ii t, sC A xs.length c, sC A2 ms.length c2, sC (some ⟨bb, off, none⟩) (k + 1) c3, inAt im 0, inAt im 1, inAt im 2, inAt im 3, inAt im 4, inAt im 5, inAt im 6, inAt im 7] 107)).alloc (.cells #[ii P, ii (n0 : Int), ii u, ii t9] 55)).alloc (.cells #[ii 0, ii 0, ii 0, nsl] 122) = W at *
 obtain ⟨gF, HgF⟩ := nM (w.heap.size + 1)
 obtain ⟨gR, HgR⟩ := nM (w.heap.size + 1 + 1)
 have hgR : w.heap.size <= gR := by have := HgR.out; omega
 have hgF : w.heap.size <= gF := by have := HgF.out; omega
 have hneV : w.heap.size ≠ gR := by have := HgR.out; omega
 have hneF : gF ≠ gR := by have := HgR.out; have := HgF.out; omega
 have hneVF : w.heap.size ≠ gF := by have := HgF.out; omega
 rw [HgR.out] at r0 ⊢
 rw [HgF.out] at f0 ⊢
 have hgRW := r0.lt
 have hgFW := f0.lt
 have hsub : ((k + 1 : Nat) : Int) - 1 = (k : Int) := oM
 have hbW : bb < W.heap.size := Nat.lt_of_lt_of_le hbb (ntr hB hx0.size)
 have hbF : bb ≠ gF := by have := HgF.out; omega
 have hlk : (k : Int) < ((k + 1 : Nat) : Int) := oM
 have hlk2 : (k : Int) < (k : Int) + 1 := oM
 have hwk : IntKind.i64.wrap (k : Int) = (k : Int) := IntWalk.i64_in _ oM
 have p2 : W.cell? ⟨bb, off + k * 4 + 2, none⟩ = some (ii m9) := (hx0.cell (p := ⟨bb, off + k * 4 + 2, none⟩) (by show bb < _; omega)).trans q2
 have vd := v0.nx (Nx.refl W).drew
 have fd := f0.nx (Nx.refl W).drew
 have rd := r0.nx (Nx.refl W).drew
 have hxd := hx0.drew
 have pd : W.drew.cell? ⟨bb, off + k * 4 + 2, none⟩ = some (ii m9) := p2
 have yw : W.cell? ⟨gF, 3, none⟩ = some (ii t9) := f0.cell 3
 have yd : W.drew.cell? ⟨gF, 3, none⟩ = some (ii t9) := f0.cell 3
 have yz := fd.frozen 3
 have yl := fd.lt
 refine wp_planA (.t 0 (.t 2 (.t 3 (.t 4 (.t 5 (.t 6 (.t 7 (.t 8 (.c 1 (.t 9 (.t 10 (.c 11 .e)))))))))))) (fun w' => CC w' w.heap.size 6 (sC (some ⟨bb, off, none⟩) (k + 1) c3) /\ CC w' bb (off + k * 4 + 2) (ii m9)) (by exact ⟨vd.cell 6, pd⟩) ?_
 simp only [psOf, List.getD_cons_zero, List.getD_cons_succ]
 refine hPr ?_
 refine hPc fun K hK => ?_
 go_simp
 refine hK.out _ _ (by exact ⟨vd.cell 6, pd⟩) ?_
 clear hK K
 refine nZ ?_
 refine hPr ?_
 refine hPc fun K hK => ?_
 go_simp
 refine hK.out _ _ (by exact ⟨(v0.far (p := ⟨gF, 3, none⟩) hneVF (ii (max t9 m9))).cell 6, ((hx0.setCell (p := ⟨gF, 3, none⟩) hgF (ii (max t9 m9))).cell (p := ⟨bb, off + k * 4 + 2, none⟩) (by show bb < _; omega)).trans q2⟩) ?_
 clear hK K
 refine nZ ?_
 refine HP.done ?_
 have hW' := hT.symm
 have vz := (v0.far (p := ⟨gF, 3, none⟩) hneVF (ii (max t9 m9))).nx (Nx.refl _).drew
 have fz := (f0.set 3 (ii (max t9 m9))).nx (Nx.refl _).drew
 have rz := (r0.far (p := ⟨gF, 3, none⟩) (Ne.symm hneF) (ii (max t9 m9))).nx (Nx.refl _).drew
 have hxz := (hx0.setCell (p := ⟨gF, 3, none⟩) hgF (ii (max t9 m9))).drew
 have hszW : W.heap.size <= (W.setCell ⟨gF, 3, none⟩ (ii (max t9 m9))).drew.heap.size := by show _ <= (W.setCell ⟨gF, 3, none⟩ (ii (max t9 m9))).heap.size; simp [World.setCell]
 clear v0 f0 r0 vd fd rd hxd p2 pd yw yd yz yl
 generalize (W.setCell ⟨gF, 3, none⟩ (ii (max t9 m9))).drew = wz at *
 replace fz : Box wz gF 55 #[ii P, ii (n0 : Int), ii u, ii T9] := by rw [<- hW']; exact fz
 clear hT hW'
 go_wp2_with fail
 refine wp_planA (.t 0 (.t 1 (.t 4 (.c 2 (.c 3 (.c 5 (.c 6 .e))))))) (fun w' => (CC w' w.heap.size 0 (ii g) /\ CC w' w.heap.size 1 (ii b) /\ CC w' w.heap.size 2 (ii p) /\ CC w' w.heap.size 3 (ii t) /\ CC w' w.heap.size 4 (sC A xs.length c) /\ CC w' w.heap.size 5 (sC A2 ms.length c2) /\ CC w' w.heap.size 6 (sC (some ⟨bb, off, none⟩) (k + 1) c3) /\ CC w' w.heap.size 7 (inAt im 0) /\ CC w' w.heap.size 8 (inAt im 1) /\ CC w' w.heap.size 9 (inAt im 2) /\ CC w' w.heap.size 10 (inAt im 3) /\ CC w' w.heap.size 11 (inAt im 4) /\ CC w' w.heap.size 12 (inAt im 5) /\ CC w' w.heap.size 13 (inAt im 6) /\ CC w' w.heap.size 14 (inAt im 7)) /\ CC w' gF 0 (ii P) /\ CC w' gF 1 (ii (n0 : Int)) /\ CC w' gF 2 (ii u) /\ CC w' gF 3 (ii T9)) (by exact ⟨vz.e15, fz.d4⟩) ?_
 simp only [psOf, List.getD_cons_zero, List.getD_cons_succ]
 refine hPr ?_
 refine hPc fun K hK => ?_
 go_simp
 have HT := qh (htip wz.drew (h3.below hxz.drew hB) (ntr hB hxz.drew.size)); simp only [HN.out] at HT; refine HT.out.mono ?_; rintro e v1 ⟨rfl, hk1⟩; have kA := (Nx.refl wz).drew.trans hk1; have vA1 := vz.nx kA; have fA1 := fz.nx kA
 go_wp2_with fail
 refine hK.out _ _ (by exact ⟨vA1.e15, fA1.d4⟩) ?_
 clear hK K
 refine nZ ?_
 refine hPc fun K hK => ?_
 go_simp
 have HC := qh (hcon v1 (h3.below (hxz.trans kA) hB) (ntr hB (hxz.trans kA).size)); simp only [HN.out] at HC; refine HC.out.mono ?_; rintro e v2 ⟨rfl, hk2⟩; have kB := kA.trans hk2; have vB1 := vA1.nx hk2; have fB1 := fA1.nx hk2
 go_wp2_with fail
 refine hK.out _ _ (by exact ⟨vB1.e15, fB1.d4⟩) ?_
 clear hK K
 refine nZ ?_
 refine hPc fun K hK => ?_
 go_simp
 refine (valuesSegOf_c top P u T9 n0 _ Htop.out hn0 hP1 hP2).mono ?_; rintro e v3 ⟨Aq, cq, rfl, hSq, hk3⟩; have kC := kB.trans hk3; have vC1 := vB1.nx hk3; have fC1 := fB1.nx hk3; have rC1 := rz.nx kC; have hSq2 := hSq.low (lo' := W.heap.size) (by have := kB.size; omega); have hrz := rC1.d4; have hrf0 := rC1.frozen 0; have hrf1 := rC1.frozen 1; have hrf2 := rC1.frozen 2; have hrf3 := rC1.frozen 3; obtain ⟨z0, z1, z2, z3⟩ := hrz
 go_wp2_with fail
 refine hK.out _ _ (by exact ⟨vC1.e15, fC1.d4⟩) ?_
 clear hK K
 refine nZ ?_
 refine hPc fun K hK => ?_
 go_simp
 refine hK.out _ _ (by exact ⟨((((vC1.far (p := ⟨gR, 0, none⟩) hneV (ii (P - 1))).far (p := ⟨gR, 1, none⟩) hneV (ii P)).far (p := ⟨gR, 2, none⟩) hneV (ii T9)).far (p := ⟨gR, 3, none⟩) hneV (sC Aq 1 cq)).e15, ((((fC1.far (p := ⟨gR, 0, none⟩) hneF (ii (P - 1))).far (p := ⟨gR, 1, none⟩) hneF (ii P)).far (p := ⟨gR, 2, none⟩) hneF (ii T9)).far (p := ⟨gR, 3, none⟩) hneF (sC Aq 1 cq)).d4⟩) ?_
 clear hK K
 refine nZ ?_
 refine HP.done ?_
 have rq := put4_box rC1 (ii (P - 1)) (ii P) (ii T9) (sC Aq 1 cq)
 have hnf := put4_nx (g := gR) (hxz.trans kC) hgR (ii (P - 1)) (ii P) (ii T9) (sC Aq 1 cq)
 have hsf := hSq2.put4 (g := gR) hgRW (ii (P - 1)) (ii P) (ii T9) (sC Aq 1 cq)
 unfold put4 at rq hnf hsf
 generalize (((v3.setCell ⟨gR, 0, none⟩ (ii (P - 1))).setCell ⟨gR, 1, none⟩ (ii P)).setCell ⟨gR, 2, none⟩ (ii T9)).setCell ⟨gR, 3, none⟩ (sC Aq 1 cq) = Wf at *
 obtain ⟨y0, y1, y2, y3⟩ := rq.d4
 clear z0 z1 z2 z3
 go_wp2
 exact bodyPost_ret (v := .agg #[ii (P - 1), ii P, ii T9, sC Aq 1 cq]) (by simp [results, results155, go_sem, y0, y1, y2, y3]) rfl ⟨Aq, cq, rfl, hsf.low hx0.size, hnf⟩
end
end Go.Proofs.YtieoiailjjnnoaaGreatDoor
