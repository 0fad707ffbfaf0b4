/-
  The walk of the law FnChain.
  Conditions: the bytes that come in can be read.
-/
import Derived.Test.YtckekkhfjcaclaaLun
import Derived.Test.YtckekkhfjcaclaaRgb
namespace Go.Proofs.Ytckekkhfjcaclaa
set_option linter.unusedVariables false
open Go.RowKit
theorem RowS.sgs {w : World} {B B2 m k : Nat} {A : Option Addr} {gs : List SgR} (h : RowS w B (.slice A m k) gs) (hc : ChO w B2 gs) : Sgs w w.heap.size A gs := by
  obtain ⟨A', c', e, hs⟩ := h.sl
  injection e with e1 _ _
  subst e1
  exact ⟨hs.row, fun k hk => (hc k hk).row⟩
theorem chainI_r (base : Int) (A : Option Addr) (m k B : Nat) (gs : List SgR) (r : Bool) (w : World) (hl : gs.length = m) (h : Sgs w B A gs) (hB : B ≤ w.heap.size) (hn : m ≤ 1048576) (hm : ∀ k, k < gs.length → (gs.getD k sgZ).cs.length ≤ 1048576) (hr : chainB base gs = r) :
    Calls Try.prog 19 #[.int .i64 base, .slice A m k] w fun e w' => e = .returned (.bool r) ∧ Nx w w' := by
  subst hl hr
  exact implChainOK_c base A k B gs w h hB hn hm
theorem chainS_r (base : Int) (A : Option Addr) (m k B : Nat) (gs : List SgR) (r : Bool) (w : World) (hl : gs.length = m) (h : Sgs w B A gs) (hB : B ≤ w.heap.size) (hn : m ≤ 1048576) (hm : ∀ k, k < gs.length → (gs.getD k sgZ).cs.length ≤ 1048576) (hr : chainB base gs = r) :
    Calls Try.prog 26 #[.int .i64 base, .slice A m k] w fun e w' => e = .returned (.bool r) ∧ Nx w w' := by
  subst hl hr
  exact specChainOK_c base A k B gs w h hB hn hm
theorem cs_snoc {gs : List SgR} {g : SgR} (h : ∀ k, k < gs.length → (gs.getD k sgZ).cs.length ≤ 1048576) (hg : g.cs.length ≤ 1048576) : ∀ k, k < (gs ++ [g]).length → ((gs ++ [g]).getD k sgZ).cs.length ≤ 1048576 := fun k hk => by
  rw [List.length_append] at hk
  simp only [List.length_cons, List.length_nil] at hk
  by_cases e : k < gs.length
  · rw [getD_pre gs [g] e]; exact h k e
  · obtain rfl : k = gs.length := by omega
    rw [getD_app]; exact hg
theorem bad_chain {base : Int} {gs : List SgR} {g : SgR} (h : g.f ≠ atK base gs gs.length) : chainB base (gs ++ [g]) = false := by
  refine chainB_no (k := gs.length) (by simp) ?_
  unfold lnk
  rw [getD_app, atK_pre base gs [g] _ (Nat.le_refl _), decide_eq_false h]; simp
theorem Sl.getI {w : World} {lo gy : Nat} {ys : List Int} (h : SlI w lo (some ⟨gy, 0, none⟩) ys) {k : Nat} (hk : k < ys.length) : w.cell? ⟨gy, k, none⟩ = some (.int .i64 (ys.getD k 0)) := by
  obtain ⟨g, e, _, ho⟩ := h (by omega)
  cases e
  exact ho.cell hk
theorem Sl.getC {w : World} {lo gy : Nat} {b v o : Int} (h : Sl w lo (some ⟨gy, 0, none⟩) 45 3 (chAt [(b, v, o)])) : w.cell? ⟨gy, 2, none⟩ = some (.int .i64 o) := by
  obtain ⟨g, e, _, ho⟩ := h (by omega)
  cases e
  exact ho.cell (i := 2) (by omega)
set_option maxRecDepth 100000 in
set_option maxHeartbeats 8000000 in
theorem lawChain (A1 : Option Addr) (n1 c1 : Nat) (ys1 : List Nat) (A2 : Option Addr) (n2 c2 : Nat) (ys2 : List Nat) (w : World) (h1 : U8s w w.heap.size A1 n1 ys1) (hn1 : n1 ≤ 2 ^ 63 - 1) (h2 : U8s w w.heap.size A2 n2 ys2) (hn2 : n2 ≤ 2 ^ 63 - 1) :
    Calls Try.prog 5 #[.slice A1 n1 c1, .slice A2 n2 c2] w fun e w' => e = .returned (.bool true) ∧ Nx w w' := by
  by_cases hb1 : n1 ≤ 1048576
  case neg =>
    have d1 : decide (1048576 < (n1 : Int)) = true := by simp; omega
    go_enter Try.func5, Try.ntmps5
    go_wp2
    go_ret
    exact ⟨rfl, Nx.refl _⟩
  have d1 : decide (1048576 < (n1 : Int)) = false := by simp; omega
  by_cases hb2 : n2 ≤ 1048576
  case neg =>
    have d2 : decide (1048576 < (n2 : Int)) = true := by simp; omega
    go_enter Try.func5, Try.ntmps5
    go_wp2
    go_ret
    exact ⟨rfl, Nx.refl _⟩
  have d2 : decide (1048576 < (n2 : Int)) = false := by simp; omega
  go_enter Try.func5, Try.ntmps5
  go_wp2_with fail
  refine (contentDrawn_c A1 n1 c1 ys1 _ h1 hb1).mono ?_
  rintro e w1 ⟨Ac, cc, c0, rfl, hl8, hsm, hC, hx1⟩
  have hcont := hsm.cont hl8
  have HL8 := Lib.hid hl8
  clear hl8 hsm d1 d2
  have hX := hx1
  clear hx1
  go_wp2_with fail
  refine (atP_c A2 n2 c2 0 9 _ ys2 _ (h2.below hX (Nat.le_refl _)) hX.size hb2 (by omega) (by omega) (by omega)).mono ?_
  rintro e w2 ⟨rfl, hx2⟩
  obtain ⟨base, Hba⟩ : ∃ b, Hid (atP ys2 n2 0 9 = b) := ⟨_, rfl⟩
  have hba : base < 9 := by rw [← Hba.out]; exact atP_lt _ _ _ (by omega)
  rw [Hba.out]
  replace hC := hC.nx hx2
  replace hX := hX.trans hx2
  clear hx2
  go_wp2_with fail
  refine (chainDrawn_c A2 n2 c2 ys2 base Ac cc c0 _ ((h2.below hX (Nat.le_refl _)).more hX.size) hb2 hC.row hcont (by omega)).mono ?_
  rintro e w3 ⟨A', c', gs, rfl, h9, hS, hI, hat, htm, hx3⟩
  replace hC := hC.nx hx3
  replace hS := hS.low hX.size
  replace hX := hX.trans hx3
  clear hx3
  obtain ⟨n, Hn⟩ : ∃ n, Hid (gs.length = n) := ⟨_, rfl⟩
  rw [Hn.out] at h9 hat htm ⊢
  have HAt := Lib.hid hat
  have HTm := Lib.hid htm
  clear hat htm
  go_wp2_with fail
  go_loopw [8, 9, 10] (fun ev xv iv wr => ∃ (k : Nat) (Ax : Option Addr) (cx : Nat), k ≤ n ∧ iv = .int .i64 k ∧ ev = .int .i64 (atK (base : Int) gs k) ∧ xv = .slice Ax 8 cx ∧ SlI wr w.heap.size Ax (ctK c0 gs k) ∧ Nx w3 wr) (fun _ _ iv _ => n - (intOf iv).toNat)
  case atStart => exact ⟨0, Ac, cc, Nat.zero_le _, rfl, rfl, rfl, hC, Nx.refl _⟩
  case round =>
    obtain ⟨k, Ax, cx, hk, rfl, rfl, rfl, hx, hnx⟩ := hrel
    have hzw : w.heap.size ≤ wr.heap.size := Nat.le_trans hX.size hnx.size
    by_cases hlt : k < n
    · have hlk : k < gs.length := by rw [Hn.out]; exact hlt
      obtain ⟨b, off, hA', hb, p0, p1, p2, p3⟩ := ((hS.nx hnx).sgs).row.at4 hlk
      subst hA'
      have hch := (hS.nx hnx).chs k hlk
      have hsg := (hI k hlk).seg
      have hck := hI.cont hcont k (by omega)
      have hcs : ctK c0 gs (k + 1) = app pN (ctK c0 gs k) (gs.getD k sgZ).cs := rfl
      have hats : atK (base : Int) gs (k + 1) = (gs.getD k sgZ).t := rfl
      obtain ⟨⟨f, t, m, A3, c3, cs⟩, Hs⟩ : ∃ s, Hid (gs.getD k sgZ = s) := ⟨_, rfl⟩
      rw [Hs.out] at p0 p1 p2 p3 hch hsg hcs hats
      simp only at p0 p1 p2 p3 hch hsg hcs hats
      have Hcs := Lib.hid hcs
      have Hats := Lib.hid hats
      clear hcs hats
      have hbw : b < wr.heap.size := hb
      go_wp2_with fail
      refine (forward_yes Ax cx _ (ctK c0 gs k) f t m A3 c3 cs.length cs _ rfl hx.row hch.row (Nat.le_refl _) hck hsg).mono ?_
      rintro e w4 ⟨A4, c4, rfl, hS4, hx4⟩
      rw [← Hcs.out] at hS4
      replace p1 := (hx4.cell (p := ⟨b, off + k * 4 + 1, none⟩) hbw).trans p1
      clear p0 p2 p3
      go_wp2
      go_roundw
      case rel => exact ⟨k + 1, A4, c4, by omega, by go_num, by rw [Hats.out], rfl, hS4.low hzw, hnx.trans hx4⟩
      case measure => simp [intOf]; omega
    obtain rfl : n = k := by omega
    have hcx := hI.cont hcont n (by rw [Hn.out]; exact Nat.le_refl _)
    obtain ⟨x, Hx⟩ : ∃ x, Hid (ctK c0 gs n = x) := ⟨_, rfl⟩
    rw [Hx.out] at hx hcx
    have hat0 : 0 ≤ atK (base : Int) gs n := by
      have h5 := LnTo.end_ (base := (base : Int)) (gs := gs) (k := n) (fun k hk => by
        have L := hI k (by rw [Hn.out]; exact hk)
        unfold lnk sgB
        rw [L.seg, decide_eq_true L.at_, decide_eq_true L.tm, on_of (hI.agree hcont k (by rw [Hn.out]; omega)) (segB_chs L.seg) L.fit]; rfl)
      rw [show inB 0 999999 (base : Int) = true from inB_mk (by omega) (by omega)] at h5
      exact (inB_yes h5).1
    obtain ⟨q, Hq⟩ : ∃ q : Nat, Hid (atK (base : Int) gs n = (q : Int)) := ⟨(atK (base : Int) gs n).toNat, Lib.hid (by omega)⟩
    have hq : q ≤ 40 := by have := Hq.out; have := HAt.out; omega
    rw [Hq.out]
    replace hX := hX.trans hnx
    replace hC := hC.nx hnx
    replace hS := hS.nx hnx
    clear hnx hat0
    obtain ⟨bb, Hbb⟩ : ∃ b, Hid (atP ys2 n2 1 8 = b) := ⟨_, rfl⟩
    have hbb : bb < 8 := by rw [← Hbb.out]; exact atP_lt _ _ _ (by omega)
    obtain ⟨vv, Hvv⟩ : ∃ b, Hid (atP ys2 n2 2 900 = b) := ⟨_, rfl⟩
    have hvv : vv < 900 := by rw [← Hvv.out]; exact atP_lt _ _ _ (by omega)
    obtain ⟨o, Ho⟩ : ∃ o, Hid (x.getD bb 0 = o) := ⟨_, rfl⟩
    have hov := (contB_yes hcx).2 bb hbb
    rw [Ho.out] at hov
    have hf1 : frameB ((q : Int) + 1) (bb : Int) (vv : Int) 900 = true := frameB_mk (by omega) (by omega) (by omega) (by omega) (by omega) (by omega) (by omega) (by omega)
    have hf2 : frameB ((q : Int) + 2) (bb : Int) (vv : Int) 900 = true := frameB_mk (by omega) (by omega) (by omega) (by omega) (by omega) (by omega) (by omega) (by omega)
    go_wp2_with fail
    refine (atP_c A2 n2 c2 1 8 _ ys2 _ (h2.below hX (Nat.le_refl _)) hX.size hb2 (by omega) (by omega) (by omega)).mono ?_
    rintro e v1 ⟨rfl, hv⟩
    rw [Hbb.out]
    replace hx := hx.nx hv
    replace hX := hX.trans hv
    replace hC := hC.nx hv
    replace hS := hS.nx hv
    (try replace hS5 := hS5.nx hv)
    (try replace bG := bG.nx hv)
    (try replace hS6 := hS6.nx hv)
    (try replace bH := bH.nx hv)
    clear hv
    go_wp2_with fail
    refine (atP_c A2 n2 c2 2 900 _ ys2 _ (h2.below hX (Nat.le_refl _)) hX.size hb2 (by omega) (by omega) (by omega)).mono ?_
    rintro e v2 ⟨rfl, hv⟩
    rw [Hvv.out]
    replace hx := hx.nx hv
    replace hX := hX.trans hv
    replace hC := hC.nx hv
    replace hS := hS.nx hv
    (try replace hS5 := hS5.nx hv)
    (try replace bG := bG.nx hv)
    (try replace hS6 := hS6.nx hv)
    (try replace bH := bH.nx hv)
    clear hv
    go_wp2_with fail
    refine (segOf_yes Ax cx _ x ((q : Int) + 1) (bb : Int) (vv : Int) 900 _ hx.row (Nat.le_refl _) hcx hf1).mono ?_
    rintro e v3 ⟨A5, c5, rfl, hS5, hv⟩
    rw [Int.toNat_natCast, Ho.out] at hS5
    rw [show (q : Int) + 1 - 1 = (q : Int) by omega]
    replace hS5 := hS5.low hX.size
    replace hx := hx.nx hv
    replace hX := hX.trans hv
    replace hC := hC.nx hv
    replace hS := hS.nx hv
    (try replace hS5 := hS5.nx hv)
    (try replace bG := bG.nx hv)
    (try replace hS6 := hS6.nx hv)
    (try replace bH := bH.nx hv)
    clear hv
    go_wp2_with fail
    have bG := Box.new v3 31 #[.int .i64 (q : Int), .int .i64 ((q : Int) + 1), .int .i64 900, .slice A5 1 c5]
    have hv := (Nx.refl v3).alloc (.cells #[.int .i64 (q : Int), .int .i64 ((q : Int) + 1), .int .i64 900, .slice A5 1 c5] 31)
    generalize hW : v3.alloc (.cells #[.int .i64 (q : Int), .int .i64 ((q : Int) + 1), .int .i64 900, .slice A5 1 c5] 31) = V3 at *
    clear hW
    replace hx := hx.nx hv
    replace hX := hX.trans hv
    replace hC := hC.nx hv
    replace hS := hS.nx hv
    replace hS5 := hS5.nx hv
    clear hv
    refine (atP_c A2 n2 c2 1 8 _ ys2 _ (h2.below hX (Nat.le_refl _)) hX.size hb2 (by omega) (by omega) (by omega)).mono ?_
    rintro e v4 ⟨rfl, hv⟩
    rw [Hbb.out]
    replace hx := hx.nx hv
    replace hX := hX.trans hv
    replace hC := hC.nx hv
    replace hS := hS.nx hv
    (try replace hS5 := hS5.nx hv)
    (try replace bG := bG.nx hv)
    (try replace hS6 := hS6.nx hv)
    (try replace bH := bH.nx hv)
    clear hv
    go_wp2_with fail
    refine (atP_c A2 n2 c2 2 900 _ ys2 _ (h2.below hX (Nat.le_refl _)) hX.size hb2 (by omega) (by omega) (by omega)).mono ?_
    rintro e v5 ⟨rfl, hv⟩
    rw [Hvv.out]
    replace hx := hx.nx hv
    replace hX := hX.trans hv
    replace hC := hC.nx hv
    replace hS := hS.nx hv
    (try replace hS5 := hS5.nx hv)
    (try replace bG := bG.nx hv)
    (try replace hS6 := hS6.nx hv)
    (try replace bH := bH.nx hv)
    clear hv
    go_wp2_with fail
    refine (segOf_yes Ax cx _ x ((q : Int) + 2) (bb : Int) (vv : Int) 900 _ hx.row (Nat.le_refl _) hcx hf2).mono ?_
    rintro e v6 ⟨A6, c6, rfl, hS6, hv⟩
    rw [Int.toNat_natCast, Ho.out] at hS6
    rw [show (q : Int) + 2 - 1 = (q : Int) + 1 by omega]
    replace hS6 := hS6.low hX.size
    replace hx := hx.nx hv
    replace hX := hX.trans hv
    replace hC := hC.nx hv
    replace hS := hS.nx hv
    (try replace hS5 := hS5.nx hv)
    (try replace bG := bG.nx hv)
    (try replace bH := bH.nx hv)
    clear hv
    go_wp2_with fail
    have bH := Box.new v6 31 #[.int .i64 ((q : Int) + 1), .int .i64 ((q : Int) + 2), .int .i64 900, .slice A6 1 c6]
    have hv := (Nx.refl v6).alloc (.cells #[.int .i64 ((q : Int) + 1), .int .i64 ((q : Int) + 2), .int .i64 900, .slice A6 1 c6] 31)
    generalize hW : v6.alloc (.cells #[.int .i64 ((q : Int) + 1), .int .i64 ((q : Int) + 2), .int .i64 900, .slice A6 1 c6] 31) = V6 at *
    clear hW
    replace hx := hx.nx hv
    replace hX := hX.trans hv
    replace hC := hC.nx hv
    replace hS := hS.nx hv
    replace hS5 := hS5.nx hv
    replace hS6 := hS6.nx hv
    replace bG := bG.nx hv
    clear hv
    have hL := hS.row.row
    rw [Hn.out] at hL
    refine mergeA (F := (fun Aq kq Wq => RowS Wq V6.heap.size (.slice Aq (n + 1) kq) (gs ++ [⟨(q : Int), (q : Int) + 1, 900, A5, c5, [((bb : Int), (vv : Int), o)]⟩]) ∧ Nx V6 Wq)) (G := ?_) (fun key => ?_) ?_
    rotate_left
    · have hN : Nx V6 V6.drew := (Nx.refl V6).drew
      have hL0 : Row V6.drew V6.heap.size A' (n * 4) (sgAt gs) := hL
      have b0 : Box V6.drew v3.heap.size 31 #[.int .i64 (q : Int), .int .i64 ((q : Int) + 1), .int .i64 900, .slice A5 1 c5] := bG
      refine wp_region_plan (.t 1 (.t 3 (.b 0 (.b 2 (.c 4 (.c 5 (.t 6 .e))) 4 (.c 2 (.c 5 (.t 6 .e)))) 4 (.c 0 (.c 2 (.c 5 (.t 6 .e))))))) (fun w' => w'.cell? ⟨v3.heap.size, 0, none⟩ = some (.int .i64 (q : Int)) ∧ w'.cell? ⟨v3.heap.size, 1, none⟩ = some (.int .i64 ((q : Int) + 1)) ∧ w'.cell? ⟨v3.heap.size, 2, none⟩ = some (.int .i64 900) ∧ w'.cell? ⟨v3.heap.size, 3, none⟩ = some (.slice A5 1 c5)) (by kernel_rfl) (by kernel_rfl) rfl (by kernel_rfl) (fun _ _ d _ _ h => by cases d <;> exact h) (by exact b0.d4) ?_
      simp only [psOf, List.getD_cons_zero, List.getD_cons_succ]
      generalize V6.drew = D0 at *
      repeat (first | (refine HP.take (v := ?_) (by rfl) ?_ ?_; rotate_left; (· (intro w hSw; (try dsimp only at hSw); go_simp; try with_reducible rfl)); (try simp only [Act.put, List.setIfInBounds_toArray, List.set_cons_zero, List.set_cons_succ])) | (refine HP.skip (by rfl) ?_; (try simp only [Act.put, List.setIfInBounds_toArray, List.set_cons_zero, List.set_cons_succ])))
      refine HP.both ?_ ?_
      · have hE := RowS.new D0 (B := D0.heap.size) (Nat.le_refl _)
        have hxE := (Nx.refl D0).alloc (.cells #[] 31)
        have hlE : D0.heap.size < (D0.alloc (.cells #[] 31)).heap.size := by simp
        have hBE : V6.heap.size ≤ D0.heap.size := hN.size
        replace hN := hN.trans hxE
        (try replace bD := bD.nx hxE)
        refine CallStep.mk (by rfl) (fun K hK => ?_)
        go_simp
        refine hK.out _ _ (by exact (bG.nx hN).d4) ?_
        clear hK K
        try simp only [Act.put, List.setIfInBounds_toArray, List.set_cons_zero, List.set_cons_succ]
        change HP _ _ _ _ _ _ (D0.alloc (.cells #[] 31))
        generalize D0.alloc (.cells #[] 31) = We at *
        clear hxE
        refine HP.both ?_ ?_
        · refine CallStep.mk (by rfl) (fun K hK => ?_)
          refine wp_addAll _ _ rfl V6.heap.size D0.heap.size n A' c' gs Hn.out rfl rfl (hE.low hBE) (by rw [Hn.out]; exact hL.below hN (Nat.le_refl _)) (by omega) hN.size ?_
          intro A8 k8 Wr hR hgr hoth
          replace hN := hgr.nx _ hN (Nat.le_refl _)
          refine hK.out _ _ (by exact (bG.nx hN).d4) ?_
          clear hK K
          try simp only [Act.put, List.setIfInBounds_toArray, List.set_cons_zero, List.set_cons_succ]
          clear hE hgr hoth
          refine HP.call ?_
          have bD := Box.new Wr 31 #[.int .i64 (q : Int), .int .i64 ((q : Int) + 1), .int .i64 900, .slice A5 1 c5]
          have hxD := (Nx.refl Wr).alloc (.cells #[.int .i64 (q : Int), .int .i64 ((q : Int) + 1), .int .i64 900, .slice A5 1 c5] 31)
          have hlD : Wr.heap.size < (Wr.alloc (.cells #[.int .i64 (q : Int), .int .i64 ((q : Int) + 1), .int .i64 900, .slice A5 1 c5] 31)).heap.size := by simp
          replace hN := hN.trans hxD
          (try replace hE := hE.nx hxD)
          (try replace hR := hR.nx hxD)
          refine CallStep.mk (by rfl) (fun K hK => ?_)
          go_simp
          refine hK.out _ _ (by exact (bG.nx hN).d4) ?_
          clear hK K
          try simp only [Act.put, List.setIfInBounds_toArray, List.set_cons_zero, List.set_cons_succ]
          change HP _ _ _ _ _ _ (Wr.alloc (.cells #[.int .i64 (q : Int), .int .i64 ((q : Int) + 1), .int .i64 900, .slice A5 1 c5] 31))
          generalize Wr.alloc (.cells #[.int .i64 (q : Int), .int .i64 ((q : Int) + 1), .int .i64 900, .slice A5 1 c5] 31) = Wd at *
          clear hxD
          refine HP.call ?_
          refine CallStep.mk (by rfl) (fun K hK => ?_)
          refine wp_addS _ _ rfl V6.heap.size Wr.heap.size _ gs ⟨(q : Int), (q : Int) + 1, 900, A5, c5, [((bb : Int), (vv : Int), o)]⟩ rfl rfl (by rw [Hn.out] at *; exact hR) bD (by rw [Hn.out]; omega) hN.size ?_
          intro A9 k9 Wf hR9 hgr9
          rw [Hn.out] at hR9 ⊢
          replace hN := hgr9.nx _ hN (Nat.le_refl _)
          refine hK.out _ _ (by exact (bG.nx hN).d4) ?_
          clear hK K
          try simp only [Act.put, List.setIfInBounds_toArray, List.set_cons_zero, List.set_cons_succ]
          repeat (first | (refine HP.take (v := ?_) (by rfl) ?_ ?_; rotate_left; (· (intro w hSw; (try dsimp only at hSw); go_simp; try with_reducible rfl)); (try simp only [Act.put, List.setIfInBounds_toArray, List.set_cons_zero, List.set_cons_succ])) | (refine HP.skip (by rfl) ?_; (try simp only [Act.put, List.setIfInBounds_toArray, List.set_cons_zero, List.set_cons_succ])))
          refine HP.done ?_
          generalize D0.heap.size = gE
          generalize Wr.heap.size = gD
          exact key gE A8 k8 gD A9 k9 Wf ⟨hR9, hN⟩
        · have bD := Box.new We 31 #[.int .i64 (q : Int), .int .i64 ((q : Int) + 1), .int .i64 900, .slice A5 1 c5]
          have hxD := (Nx.refl We).alloc (.cells #[.int .i64 (q : Int), .int .i64 ((q : Int) + 1), .int .i64 900, .slice A5 1 c5] 31)
          have hlD : We.heap.size < (We.alloc (.cells #[.int .i64 (q : Int), .int .i64 ((q : Int) + 1), .int .i64 900, .slice A5 1 c5] 31)).heap.size := by simp
          replace hN := hN.trans hxD
          (try replace hE := hE.nx hxD)
          (try replace hR := hR.nx hxD)
          refine CallStep.mk (by rfl) (fun K hK => ?_)
          go_simp
          refine hK.out _ _ (by exact (bG.nx hN).d4) ?_
          clear hK K
          try simp only [Act.put, List.setIfInBounds_toArray, List.set_cons_zero, List.set_cons_succ]
          change HP _ _ _ _ _ _ (We.alloc (.cells #[.int .i64 (q : Int), .int .i64 ((q : Int) + 1), .int .i64 900, .slice A5 1 c5] 31))
          generalize We.alloc (.cells #[.int .i64 (q : Int), .int .i64 ((q : Int) + 1), .int .i64 900, .slice A5 1 c5] 31) = Wd at *
          clear hxD
          refine HP.call ?_
          refine CallStep.mk (by rfl) (fun K hK => ?_)
          refine wp_addAll _ _ rfl V6.heap.size D0.heap.size n A' c' gs Hn.out rfl rfl (hE.low hBE) (by rw [Hn.out]; exact hL.below hN (Nat.le_refl _)) (by omega) hN.size ?_
          intro A8 k8 Wr hR hgr hoth
          replace hN := hgr.nx _ hN (Nat.le_refl _)
          replace bD : Box Wr We.heap.size 31 #[.int .i64 (q : Int), .int .i64 ((q : Int) + 1), .int .i64 900, .slice A5 1 c5] := (hoth We.heap.size bD.lt (by omega)).trans bD
          refine hK.out _ _ (by exact (bG.nx hN).d4) ?_
          clear hK K
          try simp only [Act.put, List.setIfInBounds_toArray, List.set_cons_zero, List.set_cons_succ]
          clear hE hgr hoth
          refine HP.call ?_
          refine CallStep.mk (by rfl) (fun K hK => ?_)
          refine wp_addS _ _ rfl V6.heap.size We.heap.size _ gs ⟨(q : Int), (q : Int) + 1, 900, A5, c5, [((bb : Int), (vv : Int), o)]⟩ rfl rfl (by rw [Hn.out] at *; exact hR) bD (by rw [Hn.out]; omega) hN.size ?_
          intro A9 k9 Wf hR9 hgr9
          rw [Hn.out] at hR9 ⊢
          replace hN := hgr9.nx _ hN (Nat.le_refl _)
          refine hK.out _ _ (by exact (bG.nx hN).d4) ?_
          clear hK K
          try simp only [Act.put, List.setIfInBounds_toArray, List.set_cons_zero, List.set_cons_succ]
          repeat (first | (refine HP.take (v := ?_) (by rfl) ?_ ?_; rotate_left; (· (intro w hSw; (try dsimp only at hSw); go_simp; try with_reducible rfl)); (try simp only [Act.put, List.setIfInBounds_toArray, List.set_cons_zero, List.set_cons_succ])) | (refine HP.skip (by rfl) ?_; (try simp only [Act.put, List.setIfInBounds_toArray, List.set_cons_zero, List.set_cons_succ])))
          refine HP.done ?_
          generalize D0.heap.size = gE
          generalize We.heap.size = gD
          exact key gE A8 k8 gD A9 k9 Wf ⟨hR9, hN⟩
      · have bD := Box.new D0 31 #[.int .i64 (q : Int), .int .i64 ((q : Int) + 1), .int .i64 900, .slice A5 1 c5]
        have hxD := (Nx.refl D0).alloc (.cells #[.int .i64 (q : Int), .int .i64 ((q : Int) + 1), .int .i64 900, .slice A5 1 c5] 31)
        have hlD : D0.heap.size < (D0.alloc (.cells #[.int .i64 (q : Int), .int .i64 ((q : Int) + 1), .int .i64 900, .slice A5 1 c5] 31)).heap.size := by simp
        replace hN := hN.trans hxD
        (try replace hE := hE.nx hxD)
        (try replace hR := hR.nx hxD)
        refine CallStep.mk (by rfl) (fun K hK => ?_)
        go_simp
        refine hK.out _ _ (by exact (bG.nx hN).d4) ?_
        clear hK K
        try simp only [Act.put, List.setIfInBounds_toArray, List.set_cons_zero, List.set_cons_succ]
        change HP _ _ _ _ _ _ (D0.alloc (.cells #[.int .i64 (q : Int), .int .i64 ((q : Int) + 1), .int .i64 900, .slice A5 1 c5] 31))
        generalize D0.alloc (.cells #[.int .i64 (q : Int), .int .i64 ((q : Int) + 1), .int .i64 900, .slice A5 1 c5] 31) = Wd at *
        clear hxD
        refine HP.call ?_
        have hE := RowS.new Wd (B := Wd.heap.size) (Nat.le_refl _)
        have hxE := (Nx.refl Wd).alloc (.cells #[] 31)
        have hlE : Wd.heap.size < (Wd.alloc (.cells #[] 31)).heap.size := by simp
        have hBE : V6.heap.size ≤ Wd.heap.size := hN.size
        replace hN := hN.trans hxE
        (try replace bD := bD.nx hxE)
        refine CallStep.mk (by rfl) (fun K hK => ?_)
        go_simp
        refine hK.out _ _ (by exact (bG.nx hN).d4) ?_
        clear hK K
        try simp only [Act.put, List.setIfInBounds_toArray, List.set_cons_zero, List.set_cons_succ]
        change HP _ _ _ _ _ _ (Wd.alloc (.cells #[] 31))
        generalize Wd.alloc (.cells #[] 31) = We at *
        clear hxE
        refine HP.call ?_
        refine CallStep.mk (by rfl) (fun K hK => ?_)
        refine wp_addAll _ _ rfl V6.heap.size Wd.heap.size n A' c' gs Hn.out rfl rfl (hE.low hBE) (by rw [Hn.out]; exact hL.below hN (Nat.le_refl _)) (by omega) hN.size ?_
        intro A8 k8 Wr hR hgr hoth
        replace hN := hgr.nx _ hN (Nat.le_refl _)
        replace bD : Box Wr D0.heap.size 31 #[.int .i64 (q : Int), .int .i64 ((q : Int) + 1), .int .i64 900, .slice A5 1 c5] := (hoth D0.heap.size bD.lt (by omega)).trans bD
        refine hK.out _ _ (by exact (bG.nx hN).d4) ?_
        clear hK K
        try simp only [Act.put, List.setIfInBounds_toArray, List.set_cons_zero, List.set_cons_succ]
        clear hE hgr hoth
        refine HP.call ?_
        refine CallStep.mk (by rfl) (fun K hK => ?_)
        refine wp_addS _ _ rfl V6.heap.size D0.heap.size _ gs ⟨(q : Int), (q : Int) + 1, 900, A5, c5, [((bb : Int), (vv : Int), o)]⟩ rfl rfl (by rw [Hn.out] at *; exact hR) bD (by rw [Hn.out]; omega) hN.size ?_
        intro A9 k9 Wf hR9 hgr9
        rw [Hn.out] at hR9 ⊢
        replace hN := hgr9.nx _ hN (Nat.le_refl _)
        refine hK.out _ _ (by exact (bG.nx hN).d4) ?_
        clear hK K
        try simp only [Act.put, List.setIfInBounds_toArray, List.set_cons_zero, List.set_cons_succ]
        repeat (first | (refine HP.take (v := ?_) (by rfl) ?_ ?_; rotate_left; (· (intro w hSw; (try dsimp only at hSw); go_simp; try with_reducible rfl)); (try simp only [Act.put, List.setIfInBounds_toArray, List.set_cons_zero, List.set_cons_succ])) | (refine HP.skip (by rfl) ?_; (try simp only [Act.put, List.setIfInBounds_toArray, List.set_cons_zero, List.set_cons_succ])))
        refine HP.done ?_
        generalize Wd.heap.size = gE
        generalize D0.heap.size = gD
        exact key gE A8 k8 gD A9 k9 Wf ⟨hR9, hN⟩
    intro ge_g A8_g k8_g gd_g Ag kg Wg ⟨hRg, hv⟩
    replace hL := hL.below hv (Nat.le_refl _)
    replace hL := hL.more hv.size
    replace bG := bG.nx hv
    replace bH := bH.nx hv
    replace hS6 := hS6.nx hv
    replace hx := hx.nx hv
    replace hX := hX.trans hv
    replace hS := hS.nx hv
    replace hS5 := hS5.nx hv
    clear hv hC
    go_wp2_with fail
    refine mergeA (F := (fun Aq kq Wq => RowS Wq Wg.heap.size (.slice Aq (n + 1) kq) (gs ++ [⟨(q : Int) + 1, (q : Int) + 2, 900, A6, c6, [((bb : Int), (vv : Int), o)]⟩]) ∧ Nx Wg Wq)) (G := ?_) (fun key => ?_) ?_
    rotate_left
    · have hN : Nx Wg Wg.drew := (Nx.refl Wg).drew
      have hL0 : Row Wg.drew Wg.heap.size A' (n * 4) (sgAt gs) := hL
      have b0 : Box Wg.drew v6.heap.size 31 #[.int .i64 ((q : Int) + 1), .int .i64 ((q : Int) + 2), .int .i64 900, .slice A6 1 c6] := bH
      refine wp_region_plan (.t 1 (.t 3 (.b 0 (.b 2 (.c 4 (.c 5 (.t 6 .e))) 4 (.c 2 (.c 5 (.t 6 .e)))) 4 (.c 0 (.c 2 (.c 5 (.t 6 .e))))))) (fun w' => w'.cell? ⟨v6.heap.size, 0, none⟩ = some (.int .i64 ((q : Int) + 1)) ∧ w'.cell? ⟨v6.heap.size, 1, none⟩ = some (.int .i64 ((q : Int) + 2)) ∧ w'.cell? ⟨v6.heap.size, 2, none⟩ = some (.int .i64 900) ∧ w'.cell? ⟨v6.heap.size, 3, none⟩ = some (.slice A6 1 c6)) (by kernel_rfl) (by kernel_rfl) rfl (by kernel_rfl) (fun _ _ d _ _ h => by cases d <;> exact h) (by exact b0.d4) ?_
      simp only [psOf, List.getD_cons_zero, List.getD_cons_succ]
      generalize Wg.drew = D0 at *
      repeat (first | (refine HP.take (v := ?_) (by rfl) ?_ ?_; rotate_left; (· (intro w hSw; (try dsimp only at hSw); go_simp; try with_reducible rfl)); (try simp only [Act.put, List.setIfInBounds_toArray, List.set_cons_zero, List.set_cons_succ])) | (refine HP.skip (by rfl) ?_; (try simp only [Act.put, List.setIfInBounds_toArray, List.set_cons_zero, List.set_cons_succ])))
      refine HP.both ?_ ?_
      · have hE := RowS.new D0 (B := D0.heap.size) (Nat.le_refl _)
        have hxE := (Nx.refl D0).alloc (.cells #[] 31)
        have hlE : D0.heap.size < (D0.alloc (.cells #[] 31)).heap.size := by simp
        have hBE : Wg.heap.size ≤ D0.heap.size := hN.size
        replace hN := hN.trans hxE
        (try replace bD := bD.nx hxE)
        refine CallStep.mk (by rfl) (fun K hK => ?_)
        go_simp
        refine hK.out _ _ (by exact (bH.nx hN).d4) ?_
        clear hK K
        try simp only [Act.put, List.setIfInBounds_toArray, List.set_cons_zero, List.set_cons_succ]
        change HP _ _ _ _ _ _ (D0.alloc (.cells #[] 31))
        generalize D0.alloc (.cells #[] 31) = We at *
        clear hxE
        refine HP.both ?_ ?_
        · refine CallStep.mk (by rfl) (fun K hK => ?_)
          refine wp_addAll _ _ rfl Wg.heap.size D0.heap.size n A' c' gs Hn.out rfl rfl (hE.low hBE) (by rw [Hn.out]; exact hL.below hN (Nat.le_refl _)) (by omega) hN.size ?_
          intro A8 k8 Wr hR hgr hoth
          replace hN := hgr.nx _ hN (Nat.le_refl _)
          refine hK.out _ _ (by exact (bH.nx hN).d4) ?_
          clear hK K
          try simp only [Act.put, List.setIfInBounds_toArray, List.set_cons_zero, List.set_cons_succ]
          clear hE hgr hoth
          refine HP.call ?_
          have bD := Box.new Wr 31 #[.int .i64 ((q : Int) + 1), .int .i64 ((q : Int) + 2), .int .i64 900, .slice A6 1 c6]
          have hxD := (Nx.refl Wr).alloc (.cells #[.int .i64 ((q : Int) + 1), .int .i64 ((q : Int) + 2), .int .i64 900, .slice A6 1 c6] 31)
          have hlD : Wr.heap.size < (Wr.alloc (.cells #[.int .i64 ((q : Int) + 1), .int .i64 ((q : Int) + 2), .int .i64 900, .slice A6 1 c6] 31)).heap.size := by simp
          replace hN := hN.trans hxD
          (try replace hE := hE.nx hxD)
          (try replace hR := hR.nx hxD)
          refine CallStep.mk (by rfl) (fun K hK => ?_)
          go_simp
          refine hK.out _ _ (by exact (bH.nx hN).d4) ?_
          clear hK K
          try simp only [Act.put, List.setIfInBounds_toArray, List.set_cons_zero, List.set_cons_succ]
          change HP _ _ _ _ _ _ (Wr.alloc (.cells #[.int .i64 ((q : Int) + 1), .int .i64 ((q : Int) + 2), .int .i64 900, .slice A6 1 c6] 31))
          generalize Wr.alloc (.cells #[.int .i64 ((q : Int) + 1), .int .i64 ((q : Int) + 2), .int .i64 900, .slice A6 1 c6] 31) = Wd at *
          clear hxD
          refine HP.call ?_
          refine CallStep.mk (by rfl) (fun K hK => ?_)
          refine wp_addS _ _ rfl Wg.heap.size Wr.heap.size _ gs ⟨(q : Int) + 1, (q : Int) + 2, 900, A6, c6, [((bb : Int), (vv : Int), o)]⟩ rfl rfl (by rw [Hn.out] at *; exact hR) bD (by rw [Hn.out]; omega) hN.size ?_
          intro A9 k9 Wf hR9 hgr9
          rw [Hn.out] at hR9 ⊢
          replace hN := hgr9.nx _ hN (Nat.le_refl _)
          refine hK.out _ _ (by exact (bH.nx hN).d4) ?_
          clear hK K
          try simp only [Act.put, List.setIfInBounds_toArray, List.set_cons_zero, List.set_cons_succ]
          repeat (first | (refine HP.take (v := ?_) (by rfl) ?_ ?_; rotate_left; (· (intro w hSw; (try dsimp only at hSw); go_simp; try with_reducible rfl)); (try simp only [Act.put, List.setIfInBounds_toArray, List.set_cons_zero, List.set_cons_succ])) | (refine HP.skip (by rfl) ?_; (try simp only [Act.put, List.setIfInBounds_toArray, List.set_cons_zero, List.set_cons_succ])))
          refine HP.done ?_
          generalize D0.heap.size = gE
          generalize Wr.heap.size = gD
          exact key gE A8 k8 gD A9 k9 Wf ⟨hR9, hN⟩
        · have bD := Box.new We 31 #[.int .i64 ((q : Int) + 1), .int .i64 ((q : Int) + 2), .int .i64 900, .slice A6 1 c6]
          have hxD := (Nx.refl We).alloc (.cells #[.int .i64 ((q : Int) + 1), .int .i64 ((q : Int) + 2), .int .i64 900, .slice A6 1 c6] 31)
          have hlD : We.heap.size < (We.alloc (.cells #[.int .i64 ((q : Int) + 1), .int .i64 ((q : Int) + 2), .int .i64 900, .slice A6 1 c6] 31)).heap.size := by simp
          replace hN := hN.trans hxD
          (try replace hE := hE.nx hxD)
          (try replace hR := hR.nx hxD)
          refine CallStep.mk (by rfl) (fun K hK => ?_)
          go_simp
          refine hK.out _ _ (by exact (bH.nx hN).d4) ?_
          clear hK K
          try simp only [Act.put, List.setIfInBounds_toArray, List.set_cons_zero, List.set_cons_succ]
          change HP _ _ _ _ _ _ (We.alloc (.cells #[.int .i64 ((q : Int) + 1), .int .i64 ((q : Int) + 2), .int .i64 900, .slice A6 1 c6] 31))
          generalize We.alloc (.cells #[.int .i64 ((q : Int) + 1), .int .i64 ((q : Int) + 2), .int .i64 900, .slice A6 1 c6] 31) = Wd at *
          clear hxD
          refine HP.call ?_
          refine CallStep.mk (by rfl) (fun K hK => ?_)
          refine wp_addAll _ _ rfl Wg.heap.size D0.heap.size n A' c' gs Hn.out rfl rfl (hE.low hBE) (by rw [Hn.out]; exact hL.below hN (Nat.le_refl _)) (by omega) hN.size ?_
          intro A8 k8 Wr hR hgr hoth
          replace hN := hgr.nx _ hN (Nat.le_refl _)
          replace bD : Box Wr We.heap.size 31 #[.int .i64 ((q : Int) + 1), .int .i64 ((q : Int) + 2), .int .i64 900, .slice A6 1 c6] := (hoth We.heap.size bD.lt (by omega)).trans bD
          refine hK.out _ _ (by exact (bH.nx hN).d4) ?_
          clear hK K
          try simp only [Act.put, List.setIfInBounds_toArray, List.set_cons_zero, List.set_cons_succ]
          clear hE hgr hoth
          refine HP.call ?_
          refine CallStep.mk (by rfl) (fun K hK => ?_)
          refine wp_addS _ _ rfl Wg.heap.size We.heap.size _ gs ⟨(q : Int) + 1, (q : Int) + 2, 900, A6, c6, [((bb : Int), (vv : Int), o)]⟩ rfl rfl (by rw [Hn.out] at *; exact hR) bD (by rw [Hn.out]; omega) hN.size ?_
          intro A9 k9 Wf hR9 hgr9
          rw [Hn.out] at hR9 ⊢
          replace hN := hgr9.nx _ hN (Nat.le_refl _)
          refine hK.out _ _ (by exact (bH.nx hN).d4) ?_
          clear hK K
          try simp only [Act.put, List.setIfInBounds_toArray, List.set_cons_zero, List.set_cons_succ]
          repeat (first | (refine HP.take (v := ?_) (by rfl) ?_ ?_; rotate_left; (· (intro w hSw; (try dsimp only at hSw); go_simp; try with_reducible rfl)); (try simp only [Act.put, List.setIfInBounds_toArray, List.set_cons_zero, List.set_cons_succ])) | (refine HP.skip (by rfl) ?_; (try simp only [Act.put, List.setIfInBounds_toArray, List.set_cons_zero, List.set_cons_succ])))
          refine HP.done ?_
          generalize D0.heap.size = gE
          generalize We.heap.size = gD
          exact key gE A8 k8 gD A9 k9 Wf ⟨hR9, hN⟩
      · have bD := Box.new D0 31 #[.int .i64 ((q : Int) + 1), .int .i64 ((q : Int) + 2), .int .i64 900, .slice A6 1 c6]
        have hxD := (Nx.refl D0).alloc (.cells #[.int .i64 ((q : Int) + 1), .int .i64 ((q : Int) + 2), .int .i64 900, .slice A6 1 c6] 31)
        have hlD : D0.heap.size < (D0.alloc (.cells #[.int .i64 ((q : Int) + 1), .int .i64 ((q : Int) + 2), .int .i64 900, .slice A6 1 c6] 31)).heap.size := by simp
        replace hN := hN.trans hxD
        (try replace hE := hE.nx hxD)
        (try replace hR := hR.nx hxD)
        refine CallStep.mk (by rfl) (fun K hK => ?_)
        go_simp
        refine hK.out _ _ (by exact (bH.nx hN).d4) ?_
        clear hK K
        try simp only [Act.put, List.setIfInBounds_toArray, List.set_cons_zero, List.set_cons_succ]
        change HP _ _ _ _ _ _ (D0.alloc (.cells #[.int .i64 ((q : Int) + 1), .int .i64 ((q : Int) + 2), .int .i64 900, .slice A6 1 c6] 31))
        generalize D0.alloc (.cells #[.int .i64 ((q : Int) + 1), .int .i64 ((q : Int) + 2), .int .i64 900, .slice A6 1 c6] 31) = Wd at *
        clear hxD
        refine HP.call ?_
        have hE := RowS.new Wd (B := Wd.heap.size) (Nat.le_refl _)
        have hxE := (Nx.refl Wd).alloc (.cells #[] 31)
        have hlE : Wd.heap.size < (Wd.alloc (.cells #[] 31)).heap.size := by simp
        have hBE : Wg.heap.size ≤ Wd.heap.size := hN.size
        replace hN := hN.trans hxE
        (try replace bD := bD.nx hxE)
        refine CallStep.mk (by rfl) (fun K hK => ?_)
        go_simp
        refine hK.out _ _ (by exact (bH.nx hN).d4) ?_
        clear hK K
        try simp only [Act.put, List.setIfInBounds_toArray, List.set_cons_zero, List.set_cons_succ]
        change HP _ _ _ _ _ _ (Wd.alloc (.cells #[] 31))
        generalize Wd.alloc (.cells #[] 31) = We at *
        clear hxE
        refine HP.call ?_
        refine CallStep.mk (by rfl) (fun K hK => ?_)
        refine wp_addAll _ _ rfl Wg.heap.size Wd.heap.size n A' c' gs Hn.out rfl rfl (hE.low hBE) (by rw [Hn.out]; exact hL.below hN (Nat.le_refl _)) (by omega) hN.size ?_
        intro A8 k8 Wr hR hgr hoth
        replace hN := hgr.nx _ hN (Nat.le_refl _)
        replace bD : Box Wr D0.heap.size 31 #[.int .i64 ((q : Int) + 1), .int .i64 ((q : Int) + 2), .int .i64 900, .slice A6 1 c6] := (hoth D0.heap.size bD.lt (by omega)).trans bD
        refine hK.out _ _ (by exact (bH.nx hN).d4) ?_
        clear hK K
        try simp only [Act.put, List.setIfInBounds_toArray, List.set_cons_zero, List.set_cons_succ]
        clear hE hgr hoth
        refine HP.call ?_
        refine CallStep.mk (by rfl) (fun K hK => ?_)
        refine wp_addS _ _ rfl Wg.heap.size D0.heap.size _ gs ⟨(q : Int) + 1, (q : Int) + 2, 900, A6, c6, [((bb : Int), (vv : Int), o)]⟩ rfl rfl (by rw [Hn.out] at *; exact hR) bD (by rw [Hn.out]; omega) hN.size ?_
        intro A9 k9 Wf hR9 hgr9
        rw [Hn.out] at hR9 ⊢
        replace hN := hgr9.nx _ hN (Nat.le_refl _)
        refine hK.out _ _ (by exact (bH.nx hN).d4) ?_
        clear hK K
        try simp only [Act.put, List.setIfInBounds_toArray, List.set_cons_zero, List.set_cons_succ]
        repeat (first | (refine HP.take (v := ?_) (by rfl) ?_ ?_; rotate_left; (· (intro w hSw; (try dsimp only at hSw); go_simp; try with_reducible rfl)); (try simp only [Act.put, List.setIfInBounds_toArray, List.set_cons_zero, List.set_cons_succ])) | (refine HP.skip (by rfl) ?_; (try simp only [Act.put, List.setIfInBounds_toArray, List.set_cons_zero, List.set_cons_succ])))
        refine HP.done ?_
        generalize Wd.heap.size = gE
        generalize D0.heap.size = gD
        exact key gE A8 k8 gD A9 k9 Wf ⟨hR9, hN⟩
    intro ge_h A8_h k8_h gd_h Ah kh Wh ⟨hRh, hv⟩
    replace hRg := hRg.nx hv
    replace bG := bG.nx hv
    replace hS6 := hS6.nx hv
    replace hx := hx.nx hv
    replace hX := hX.trans hv
    replace hS := hS.nx hv
    replace hS5 := hS5.nx hv
    clear hv bH hL
    obtain ⟨gx, hgx⟩ : ∃ gx, Ax = some ⟨gx, 0, none⟩ := by obtain ⟨g, e, _⟩ := hx (by rw [(contB_yes hcx).1]; omega); exact ⟨g, e⟩
    subst hgx
    obtain ⟨ga, hga⟩ : ∃ ga, A5 = some ⟨ga, 0, none⟩ := by obtain ⟨g, e, _⟩ := hS5 (by omega); exact ⟨g, e⟩
    subst hga
    have hb8 : bb < x.length := by rw [(contB_yes hcx).1]; exact hbb
    have hb9 : (bb : Int) < 8 := by omega
    have hok : chsB [((bb : Int), (vv : Int), o)] = true := ch_one (chB_mk (by omega) (by omega) (by omega) (by omega) hov.1 hov.2)
    have L : Lk (base : Int) c0 gs gs.length ⟨(q : Int), (q : Int) + 1, 900, (some ⟨ga, 0, none⟩), c5, [((bb : Int), (vv : Int), o)]⟩ := ⟨segB_mk (by show (0 : Int) ≤ (q : Int); omega) (by show (q : Int) < (q : Int) + 1; omega) (by show (q : Int) + 1 ≤ 999999; omega) (inB_mk (by show (0 : Int) ≤ 900; decide) (by show (900 : Int) ≤ 999999; decide)) hok, by show (q : Int) = _; rw [Hn.out]; exact Hq.out.symm, by show _ ≤ (900 : Int); rw [Hn.out]; have := HTm.out; omega, by rw [Hn.out, Hx.out, ← Ho.out]; exact fits_one x bb vv⟩
    have hbin : inB 0 999999 (base : Int) = true := inB_mk (by omega) (by omega)
    have R1 := Lib.hid (hI.chain hcont hbin (by rw [Hn.out]; omega))
    have R2 := Lib.hid ((hI.snoc L).chain hcont hbin (by rw [List.length_append, Hn.out]; simp; omega))
    have R3 := Lib.hid (bad_chain (base := (base : Int)) (gs := gs) (g := ⟨(q : Int) + 1, (q : Int) + 2, 900, A6, c6, [((bb : Int), (vv : Int), o)]⟩) (by show (q : Int) + 1 ≠ _; rw [Hn.out, Hq.out]; omega))
    have m1 : ∀ k, k < gs.length → (gs.getD k sgZ).cs.length ≤ 1048576 := fun k hk => by have := chsB_len (segB_chs (hI k hk).seg); omega
    have M1 := Lib.hid m1
    have M2 := Lib.hid (cs_snoc (g := ⟨(q : Int), (q : Int) + 1, 900, (some ⟨ga, 0, none⟩), c5, [((bb : Int), (vv : Int), o)]⟩) m1 (by simp))
    have M3 := Lib.hid (cs_snoc (g := ⟨(q : Int) + 1, (q : Int) + 2, 900, A6, c6, [((bb : Int), (vv : Int), o)]⟩) m1 (by simp))
    have E2 : Hid ((gs ++ [(⟨(q : Int), (q : Int) + 1, 900, (some ⟨ga, 0, none⟩), c5, [((bb : Int), (vv : Int), o)]⟩ : SgR)]).length = n + 1) := Lib.hid (by rw [List.length_append, Hn.out]; rfl)
    have E3 : Hid ((gs ++ [(⟨(q : Int) + 1, (q : Int) + 2, 900, A6, c6, [((bb : Int), (vv : Int), o)]⟩ : SgR)]).length = n + 1) := Lib.hid (by rw [List.length_append, Hn.out]; rfl)
    clear m1 L hok
    have hCg : ChO Wh w.heap.size (gs ++ [(⟨(q : Int), (q : Int) + 1, 900, (some ⟨ga, 0, none⟩), c5, [((bb : Int), (vv : Int), o)]⟩ : SgR)]) := ChO.snoc hS.chs hS5
    have hCh : ChO Wh w.heap.size (gs ++ [(⟨(q : Int) + 1, (q : Int) + 2, 900, A6, c6, [((bb : Int), (vv : Int), o)]⟩ : SgR)]) := ChO.snoc hS.chs hS6
    have hxd : Nx Wh Wh.drew := (Nx.refl Wh).drew
    replace bG := bG.nx hxd; replace hS5 := hS5.nx hxd; replace hx := hx.nx hxd; replace hS := hS.nx hxd; replace hRg := hRg.nx hxd; replace hRh := hRh.nx hxd; replace hCg := hCg.nx hxd; replace hCh := hCh.nx hxd; replace hX := hX.trans hxd
    go_wp2_with fail
    refine wp_region_lex [false, false, false, false, false, false, false, false, false, false, false, false, false, false, false, true, false, false, false, false, true, false, false, false, false, true, false, false, false, false, false, true, false, false, false, false, false, false, false, false, false, true, false, false, false, false, false] (fun w' => (w'.cell? ⟨v3.heap.size, 0, none⟩ = some (.int .i64 (q : Int)) ∧ w'.cell? ⟨v3.heap.size, 1, none⟩ = some (.int .i64 ((q : Int) + 1)) ∧ w'.cell? ⟨v3.heap.size, 2, none⟩ = some (.int .i64 900) ∧ w'.cell? ⟨v3.heap.size, 3, none⟩ = some (.slice (some ⟨ga, 0, none⟩) 1 c5)) ∧ w'.cell? ⟨ga, 2, none⟩ = some (.int .i64 o) ∧ w'.cell? ⟨gx, bb, none⟩ = some (.int .i64 o)) (by kernel_rfl) (by kernel_rfl) rfl (by kernel_rfl) (fun _ _ d _ _ h => by cases d <;> exact h) (by exact ⟨bG.d4, hS5.getC, (hx.getI hb8).trans (by rw [Ho.out])⟩) ?_
    repeat (first | (refine HL.take (v := ?_) (by rfl) ?_ ?_; rotate_left; (· (intro w hSw; (try dsimp only at hSw); go_simp; try with_reducible rfl)); (try simp only [Act.put, List.setIfInBounds_toArray, List.set_cons_zero, List.set_cons_succ])) | (refine HL.skip (by rfl) ?_; (try simp only [Act.put, List.setIfInBounds_toArray, List.set_cons_zero, List.set_cons_succ])))
    refine HL.call (by rfl) (fun K hK => ?_)
    go_simp
    refine (chainI_r (base : Int) A' n c' _ gs true _ Hn.out hS.sgs (Nat.le_refl _) (by omega) M1.out R1.out).mono ?_; rintro e y1 ⟨rfl, hy1⟩; replace bG := bG.nx hy1; replace hS5 := hS5.nx hy1; replace hx := hx.nx hy1; replace hS := hS.nx hy1; replace hRg := hRg.nx hy1; replace hRh := hRh.nx hy1; replace hCg := hCg.nx hy1; replace hCh := hCh.nx hy1; replace hX := hX.trans hy1
    go_wp2_with fail
    refine hK.out _ _ (by exact ⟨bG.d4, hS5.getC, (hx.getI hb8).trans (by rw [Ho.out])⟩) ?_
    clear hK K
    try simp only [Act.put, List.setIfInBounds_toArray, List.set_cons_zero, List.set_cons_succ]
    repeat (first | (refine HL.take (v := ?_) (by rfl) ?_ ?_; rotate_left; (· (intro w hSw; (try dsimp only at hSw); go_simp; try with_reducible rfl)); (try simp only [Act.put, List.setIfInBounds_toArray, List.set_cons_zero, List.set_cons_succ])) | (refine HL.skip (by rfl) ?_; (try simp only [Act.put, List.setIfInBounds_toArray, List.set_cons_zero, List.set_cons_succ])))
    refine HL.call (by rfl) (fun K hK => ?_)
    go_simp
    refine (chainI_r (base : Int) Ag (n + 1) kg _ (gs ++ [(⟨(q : Int), (q : Int) + 1, 900, (some ⟨ga, 0, none⟩), c5, [((bb : Int), (vv : Int), o)]⟩ : SgR)]) true _ E2.out (hRg.sgs hCg) (Nat.le_refl _) (by omega) M2.out R2.out).mono ?_; rintro e y2 ⟨rfl, hy2⟩; replace bG := bG.nx hy2; replace hS5 := hS5.nx hy2; replace hx := hx.nx hy2; replace hS := hS.nx hy2; replace hRg := hRg.nx hy2; replace hRh := hRh.nx hy2; replace hCg := hCg.nx hy2; replace hCh := hCh.nx hy2; replace hX := hX.trans hy2
    go_wp2_with fail
    refine hK.out _ _ (by exact ⟨bG.d4, hS5.getC, (hx.getI hb8).trans (by rw [Ho.out])⟩) ?_
    clear hK K
    try simp only [Act.put, List.setIfInBounds_toArray, List.set_cons_zero, List.set_cons_succ]
    repeat (first | (refine HL.take (v := ?_) (by rfl) ?_ ?_; rotate_left; (· (intro w hSw; (try dsimp only at hSw); go_simp; try with_reducible rfl)); (try simp only [Act.put, List.setIfInBounds_toArray, List.set_cons_zero, List.set_cons_succ])) | (refine HL.skip (by rfl) ?_; (try simp only [Act.put, List.setIfInBounds_toArray, List.set_cons_zero, List.set_cons_succ])))
    refine HL.call (by rfl) (fun K hK => ?_)
    go_simp
    refine (chainI_r (base : Int) Ah (n + 1) kh _ (gs ++ [(⟨(q : Int) + 1, (q : Int) + 2, 900, A6, c6, [((bb : Int), (vv : Int), o)]⟩ : SgR)]) false _ E3.out (hRh.sgs hCh) (Nat.le_refl _) (by omega) M3.out R3.out).mono ?_; rintro e y3 ⟨rfl, hy3⟩; replace bG := bG.nx hy3; replace hS5 := hS5.nx hy3; replace hx := hx.nx hy3; replace hS := hS.nx hy3; replace hRg := hRg.nx hy3; replace hRh := hRh.nx hy3; replace hCg := hCg.nx hy3; replace hCh := hCh.nx hy3; replace hX := hX.trans hy3
    go_wp2_with fail
    refine hK.out _ _ (by exact ⟨bG.d4, hS5.getC, (hx.getI hb8).trans (by rw [Ho.out])⟩) ?_
    clear hK K
    try simp only [Act.put, List.setIfInBounds_toArray, List.set_cons_zero, List.set_cons_succ]
    repeat (first | (refine HL.take (v := ?_) (by rfl) ?_ ?_; rotate_left; (· (intro w hSw; (try dsimp only at hSw); go_simp; try with_reducible rfl)); (try simp only [Act.put, List.setIfInBounds_toArray, List.set_cons_zero, List.set_cons_succ])) | (refine HL.skip (by rfl) ?_; (try simp only [Act.put, List.setIfInBounds_toArray, List.set_cons_zero, List.set_cons_succ])))
    refine HL.call (by rfl) (fun K hK => ?_)
    go_simp
    refine (chainS_r (base : Int) Ag (n + 1) kg _ (gs ++ [(⟨(q : Int), (q : Int) + 1, 900, (some ⟨ga, 0, none⟩), c5, [((bb : Int), (vv : Int), o)]⟩ : SgR)]) true _ E2.out (hRg.sgs hCg) (Nat.le_refl _) (by omega) M2.out R2.out).mono ?_; rintro e y4 ⟨rfl, hy4⟩; replace bG := bG.nx hy4; replace hS5 := hS5.nx hy4; replace hx := hx.nx hy4; replace hS := hS.nx hy4; replace hRg := hRg.nx hy4; replace hRh := hRh.nx hy4; replace hCg := hCg.nx hy4; replace hCh := hCh.nx hy4; replace hX := hX.trans hy4
    go_wp2_with fail
    refine hK.out _ _ (by exact ⟨bG.d4, hS5.getC, (hx.getI hb8).trans (by rw [Ho.out])⟩) ?_
    clear hK K
    try simp only [Act.put, List.setIfInBounds_toArray, List.set_cons_zero, List.set_cons_succ]
    repeat (first | (refine HL.take (v := ?_) (by rfl) ?_ ?_; rotate_left; (· (intro w hSw; (try dsimp only at hSw); go_simp; try with_reducible rfl)); (try simp only [Act.put, List.setIfInBounds_toArray, List.set_cons_zero, List.set_cons_succ])) | (refine HL.skip (by rfl) ?_; (try simp only [Act.put, List.setIfInBounds_toArray, List.set_cons_zero, List.set_cons_succ])))
    refine HL.call (by rfl) (fun K hK => ?_)
    go_simp
    refine (atP_c A2 n2 c2 1 8 _ ys2 _ (h2.below hX (Nat.le_refl _)) hX.size hb2 (by omega) (by omega) (by omega)).mono ?_; rintro e y5 ⟨rfl, hy5⟩; rw [Hbb.out]; replace bG := bG.nx hy5; replace hS5 := hS5.nx hy5; replace hx := hx.nx hy5; replace hS := hS.nx hy5; replace hRg := hRg.nx hy5; replace hRh := hRh.nx hy5; replace hCg := hCg.nx hy5; replace hCh := hCh.nx hy5; replace hX := hX.trans hy5
    go_wp2_with fail
    refine hK.out _ _ (by exact ⟨bG.d4, hS5.getC, (hx.getI hb8).trans (by rw [Ho.out])⟩) ?_
    clear hK K
    try simp only [Act.put, List.setIfInBounds_toArray, List.set_cons_zero, List.set_cons_succ]
    repeat (first | (refine HL.take (v := ?_) (by rfl) ?_ ?_; rotate_left; (· (intro w hSw; (try dsimp only at hSw); go_simp; try with_reducible rfl)); (try simp only [Act.put, List.setIfInBounds_toArray, List.set_cons_zero, List.set_cons_succ])) | (refine HL.skip (by rfl) ?_; (try simp only [Act.put, List.setIfInBounds_toArray, List.set_cons_zero, List.set_cons_succ])))
    refine HL.done ?_
    go_wp2
    go_ret
    exact ⟨rfl, hX⟩
end Go.Proofs.Ytckekkhfjcaclaa
