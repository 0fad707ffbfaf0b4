/-
  The walk of the law FnUndo.
  Conditions: the bytes that come in can be read.
-/
import Derived.Test.YtckekkhfjcaclaaChd
import Derived.Test.YtckekkhfjcaclaaLch
namespace Go.Proofs.Ytckekkhfjcaclaa
set_option linter.unusedVariables false
open Go.RowKit
set_option maxHeartbeats 1000000 in
theorem chainDrawn_c (A : Option Addr) (n c : Nat) (ys : List Nat) (base : Nat) (Ac : Option Addr) (cc : Nat) (c0 : List Int) (w : World) (h : U8s w w.heap.size A n ys) (hn : n ≤ 1048576) (hc : Ins w w.heap.size Ac c0) (hcont : contB c0 = true) (hb : base ≤ 20) :
    Calls Try.prog 13 #[.slice A n c, .int .i64 (base : Int), .slice Ac 8 cc] w fun e w' => ∃ A' c' gs, e = .returned (.slice A' gs.length c') ∧ gs.length ≤ 9 ∧ SgO w' w.heap.size A' gs ∧ ChI (base : Int) c0 gs ∧ atK (base : Int) gs gs.length ≤ 40 ∧ tmK gs gs.length ≤ 200 ∧ Nx w w' := by
  go_enter Try.func13, Try.ntmps13
  go_wp2_with fail
  refine (l00Source_c A n c _ hn).mono ?_
  rintro e w1 ⟨rfl, s1, hnx1⟩
  have u1 := h.below hnx1 (Nat.le_refl _)
  have hc1 := hc.below hnx1 (Nat.le_refl _)
  go_wp2_with fail
  refine (chain_c w.heap.size A n c w.heap.size 0 base ys Ac cc c0 _ ⟨0, n % 1000, by omega, by omega, s1⟩ u1 (Nat.le_refl _) hn (by omega) hc1 hcont hb).mono ?_
  rintro e w2 ⟨A', c', gs, rfl, h9, hS, hI, hat, htm, hr⟩
  have H9 := Lib.hid h9
  clear h9
  go_wp2
  go_ret
  exact ⟨A', c', gs, rfl, H9.out, hS.low hnx1.size, hI, hat, htm, Rg.nx_of hnx1 hr (Nat.le_refl _)⟩
theorem specForward_yes (A : Option Addr) (c B : Nat) (xs : List Int) (f t m : Int) (A2 : Option Addr) (c2 n : Nat) (cs : List Chg) (w : World) (hl : cs.length = n) (h : Ins w B A xs) (hg : Chs w B A2 cs) (hB : B ≤ w.heap.size) (hc : contB xs = true) (hs : segB f t m cs = true) :
    Calls Try.prog 15 #[.slice A 8 c, .agg #[.int .i64 f, .int .i64 t, .int .i64 m, .slice A2 n c2]] w fun e w' =>
      ∃ A9 c9, e = .returned (.tuple #[.slice A9 8 c9, .int .i64 0]) ∧ SlI w' w.heap.size A9 (app pN xs cs) ∧ Nx w w' := by
  subst hl
  have h8 := (contB_yes hc).1
  have := specForward_c A c B xs f t m A2 c2 cs w h hg hB (len8 hc) (by have := chsB_len (segB_chs hs); omega)
  rw [h8] at this
  refine this.mono fun e w' hR => ?_
  rw [askC_yes hc hs, fwV_yes (by rw [hc, hs]; rfl)] at hR
  obtain ⟨A9, c9, h1, h2, h3⟩ := hR
  exact ⟨A9, c9, by rw [h1, app_len, h8], h2, h3⟩
theorem same8_c (A A2 : Option Addr) (c c2 B : Nat) (xs : List Int) (w : World) (hl : xs.length = 8) (h : Ins w B A xs) (h2 : Ins w B A2 xs) (hB : B ≤ w.heap.size) :
    Calls Try.prog 17 #[.slice A 8 c, .slice A2 8 c2] w fun e w' => e = .returned (.bool true) ∧ Nx w w' := by
  have := sameInts_c A A2 c c2 B xs w h h2 hB (by omega)
  rw [hl] at this
  exact this
theorem content8_c (A : Option Addr) (c B : Nat) (xs : List Int) (w : World) (hc : contB xs = true) (h : Ins w B A xs) (hB : B ≤ w.heap.size) :
    Calls Try.prog 18 #[.slice A 8 c] w fun e w' => e = .returned (.bool true) ∧ Nx w w' := by
  have := implContentOK_c A c B xs w h hB (len8 hc)
  rw [(contB_yes hc).1, hc] at this
  exact this
set_option maxRecDepth 100000 in
set_option maxHeartbeats 8000000 in
theorem lawUndo (A1 : Option Addr) (n1 c1 : Nat) (ys1 : List Nat) (A2 : Option Addr) (n2 c2 : Nat) (ys2 : List Nat) (w : World) (h1 : U8s w w.heap.size A1 n1 ys1) (hn1 : n1 ≤ 2 ^ 63 - 1) (h2 : U8s w w.heap.size A2 n2 ys2) (hn2 : n2 ≤ 2 ^ 63 - 1) :
    Calls Try.prog 3 #[.slice A1 n1 c1, .slice A2 n2 c2] w fun e w' => e = .returned (.bool true) ∧ Nx w w' := by
  by_cases hb1 : n1 ≤ 1048576
  case neg =>
    have d1 : decide (1048576 < (n1 : Int)) = true := by simp; omega
    go_enter Try.func3, Try.ntmps3
    go_wp2
    go_ret
    exact ⟨rfl, Nx.refl _⟩
  have d1 : decide (1048576 < (n1 : Int)) = false := by simp; omega
  by_cases hb2 : n2 ≤ 1048576
  case neg =>
    have d2 : decide (1048576 < (n2 : Int)) = true := by simp; omega
    go_enter Try.func3, Try.ntmps3
    go_wp2
    go_ret
    exact ⟨rfl, Nx.refl _⟩
  have d2 : decide (1048576 < (n2 : Int)) = false := by simp; omega
  go_enter Try.func3, Try.ntmps3
  go_wp2_with fail
  refine (contentDrawn_c A1 n1 c1 ys1 _ h1 hb1).mono ?_
  rintro e w1 ⟨Ac, cc, c0, rfl, hl8, hsm, hC, hx1⟩
  have hcont := hsm.cont hl8
  have HL8 := Lib.hid hl8
  clear hl8 hsm d1 d2
  go_wp2_with fail
  refine (chainDrawn_c A2 n2 c2 ys2 3 Ac cc c0 _ ((h2.below hx1 (Nat.le_refl _)).more hx1.size) hb2 hC.row hcont (by omega)).mono ?_
  rintro e w2 ⟨A', c', gs, rfl, h9, hS, hI, _, _, hx2⟩
  replace hC := hC.nx hx2
  have hX := hx1.trans hx2
  replace hS := hS.low hx1.size
  clear hx1 hx2
  obtain ⟨n, Hn⟩ : ∃ n, Hid (gs.length = n) := ⟨_, rfl⟩
  rw [Hn.out] at h9 ⊢
  have hSr := hS.sgs
  go_wp2_with fail
  go_loopw [7, 8] (fun xv iv wr => ∃ (k : Nat) (Ax : Option Addr) (cx : Nat), k ≤ n ∧ iv = .int .i64 k ∧ xv = .slice Ax 8 cx ∧ SlI wr w.heap.size Ax (ctK c0 gs k) ∧ Nx w2 wr) (fun _ iv _ => n - (intOf iv).toNat)
  case atStart => exact ⟨0, Ac, cc, Nat.zero_le _, rfl, rfl, hC, Nx.refl _⟩
  case round =>
    obtain ⟨k, Ax, cx, hk, rfl, rfl, hx, hnx⟩ := hrel
    by_cases hlt : k < n
    case neg =>
      obtain rfl : n = k := by omega
      go_wp2_with fail
      go_loopw [7, 15] (fun xv iv wr => ∃ (k : Nat) (Ax : Option Addr) (cx : Nat), k ≤ n ∧ iv = .int .i64 ((k : Int) - 1) ∧ xv = .slice Ax 8 cx ∧ SlI wr w.heap.size Ax (ctK c0 gs k) ∧ Nx w2 wr) (fun _ iv _ => (intOf iv + 1).toNat)
      case atStart => exact ⟨_, Ax, cx, Nat.le_refl _, rfl, rfl, hx, hnx⟩
      case round =>
        obtain ⟨k, Ax, cx, hk, rfl, rfl, hx, hnx⟩ := hrel
        rcases k with _ | j
        · have hx0 : SlI wr w.heap.size Ax c0 := hx
          go_wp2_with fail
          refine (same8_c Ax Ac cx cc _ c0 _ HL8.out hx0.row (hC.nx hnx).row (Nat.le_refl _)).mono ?_
          rintro e u1 ⟨rfl, hu1⟩
          replace hnx := hnx.trans hu1
          go_wp2_with fail
          have hco := implChainOK_c 3 A' c' _ gs u1 (hS.nx hnx).sgs (Nat.le_refl _) (by rw [Hn.out]; omega) (fun k hk => by have := chsB_len (segB_chs (hI k hk).seg); omega)
          have hch3 : chainB 3 gs = true := hI.chain hcont (by decide) (by rw [Hn.out]; omega)
          rw [Hn.out, hch3] at hco
          refine hco.mono ?_
          rintro e u2 ⟨rfl, hu2⟩
          replace hnx := hnx.trans hu2
          go_wp2_with fail
          refine (content8_c Ac cc _ c0 _ hcont (hC.nx hnx).row (Nat.le_refl _)).mono ?_
          rintro e u3 ⟨rfl, hu3⟩
          go_wp2
          go_ret
          exact ⟨rfl, hX.trans (hnx.trans hu3)⟩
        rw [show (((j + 1 : Nat) : Int) - 1) = (j : Int) by omega]
        have hzw : w.heap.size ≤ wr.heap.size := Nat.le_trans hX.size hnx.size
        have hlk : j < gs.length := by rw [Hn.out]; omega
        have hjn : (j : Int) < (n : Int) := by omega
        have hj0 : decide (0 ≤ (j : Int)) = true := by simp
        obtain ⟨b, off, hA', hb, p0, p1, p2, p3⟩ := ((hS.nx hnx).sgs).row.at4 hlk
        subst hA'
        have hch := (hS.nx hnx).chs j hlk
        have hsg := (hI j hlk).seg
        have hck1 := hI.cont hcont (j + 1) hlk
        have hun := hI.undo hcont hlk
        obtain ⟨⟨f, t, m, A3, c3, cs⟩, Hs⟩ : ∃ s, Hid (gs.getD j sgZ = s) := ⟨_, rfl⟩
        rw [Hs.out] at p0 p1 p2 p3 hch hsg hun
        simp only at p0 p1 p2 p3 hch hsg hun
        have Hun := Lib.hid hun
        clear hun
        go_wp2_with fail
        refine (backward_yes Ax cx _ (ctK c0 gs (j + 1)) f t m A3 c3 cs.length cs _ rfl hx.row hch.row (Nat.le_refl _) hck1 hsg).mono ?_
        rintro e w3 ⟨A4, c4, rfl, hS4, hx3⟩
        rw [Hun.out] at hS4
        go_wp2
        go_roundw
        case rel => exact ⟨j, A4, c4, by omega, by go_num, rfl, hS4.low hzw, hnx.trans hx3⟩
        case measure => simp [intOf] <;> omega
    have hzw : w.heap.size ≤ wr.heap.size := Nat.le_trans hX.size hnx.size
    have hlk : k < gs.length := by rw [Hn.out]; exact hlt
    obtain ⟨b, off, hA', hb, p0, p1, p2, p3⟩ := ((hS.nx hnx).sgs).row.at4 hlk
    subst hA'
    have hbw : b < wr.heap.size := hb
    have hch := (hS.nx hnx).chs k hlk
    have hsg := (hI k hlk).seg
    have hck := hI.cont hcont k (by omega)
    have hcs : ctK c0 gs (k + 1) = app pN (ctK c0 gs k) (gs.getD k sgZ).cs := rfl
    have hck1 := hI.cont hcont (k + 1) hlk
    have hun := hI.undo hcont hlk
    obtain ⟨⟨f, t, m, A3, c3, cs⟩, Hs⟩ : ∃ s, Hid (gs.getD k sgZ = s) := ⟨_, rfl⟩
    rw [Hs.out] at p0 p1 p2 p3 hch hsg hcs hun
    simp only at p0 p1 p2 p3 hch hsg hcs hun
    obtain ⟨x, Hx⟩ : ∃ x, Hid (ctK c0 gs k = x) := ⟨_, rfl⟩
    obtain ⟨y, Hy⟩ : ∃ y, Hid (ctK c0 gs (k + 1) = y) := ⟨_, rfl⟩
    rw [Hx.out] at hx hck hun hcs
    rw [Hy.out] at hck1 hun hcs
    have Hcs := Lib.hid hcs
    have Hun := Lib.hid hun
    clear hcs hun
    go_wp2_with fail
    refine (forward_yes Ax cx _ x f t m A3 c3 cs.length cs _ rfl hx.row hch.row (Nat.le_refl _) hck hsg).mono ?_
    rintro e w3 ⟨A4, c4, rfl, hS4, hx3⟩
    rw [← Hcs.out] at hS4
    replace hx := hx.nx hx3
    replace hch := hch.nx hx3
    replace p0 := (hx3.cell (p := ⟨b, off + k * 4, none⟩) hbw).trans p0
    replace p1 := (hx3.cell (p := ⟨b, off + k * 4 + 1, none⟩) hbw).trans p1
    replace p2 := (hx3.cell (p := ⟨b, off + k * 4 + 2, none⟩) hbw).trans p2
    replace p3 := (hx3.cell (p := ⟨b, off + k * 4 + 3, none⟩) hbw).trans p3
    replace hbw : b < w3.heap.size := Nat.lt_of_lt_of_le hbw hx3.size
    replace hnx := hnx.trans hx3
    clear hx3
    go_wp2_with fail
    refine (specForward_yes Ax cx _ x f t m A3 c3 cs.length cs _ rfl hx.row hch.row (Nat.le_refl _) hck hsg).mono ?_
    rintro e w4 ⟨A5, c5, rfl, hS5, hx4⟩
    rw [← Hcs.out] at hS5
    replace hx := hx.nx hx4
    replace hch := hch.nx hx4
    replace hS4 := hS4.nx hx4
    replace p0 := (hx4.cell (p := ⟨b, off + k * 4, none⟩) hbw).trans p0
    replace p1 := (hx4.cell (p := ⟨b, off + k * 4 + 1, none⟩) hbw).trans p1
    replace p2 := (hx4.cell (p := ⟨b, off + k * 4 + 2, none⟩) hbw).trans p2
    replace p3 := (hx4.cell (p := ⟨b, off + k * 4 + 3, none⟩) hbw).trans p3
    replace hbw : b < w4.heap.size := Nat.lt_of_lt_of_le hbw hx4.size
    replace hnx := hnx.trans hx4
    clear hx4
    go_wp2_with fail
    refine (backward_yes A4 c4 _ y f t m A3 c3 cs.length cs _ rfl hS4.row hch.row (Nat.le_refl _) hck1 hsg).mono ?_
    rintro e w5 ⟨A6, c6, rfl, hS6, hx5⟩
    rw [Hun.out] at hS6
    replace hx := hx.nx hx5
    replace hch := hch.nx hx5
    replace hS4 := hS4.nx hx5
    replace hS5 := hS5.nx hx5
    replace p0 := (hx5.cell (p := ⟨b, off + k * 4, none⟩) hbw).trans p0
    replace p1 := (hx5.cell (p := ⟨b, off + k * 4 + 1, none⟩) hbw).trans p1
    replace p2 := (hx5.cell (p := ⟨b, off + k * 4 + 2, none⟩) hbw).trans p2
    replace p3 := (hx5.cell (p := ⟨b, off + k * 4 + 3, none⟩) hbw).trans p3
    replace hbw : b < w5.heap.size := Nat.lt_of_lt_of_le hbw hx5.size
    replace hnx := hnx.trans hx5
    clear hx5
    go_wp2_with fail
    refine (same8_c A4 A5 c4 c5 _ y _ (contB_yes hck1).1 hS4.row hS5.row (Nat.le_refl _)).mono ?_
    rintro e w6 ⟨rfl, hx6⟩
    replace hx := hx.nx hx6
    replace hS4 := hS4.nx hx6
    replace hS6 := hS6.nx hx6
    replace hnx := hnx.trans hx6
    clear hx6
    go_wp2_with fail
    refine (same8_c A6 Ax c6 cx _ x _ (contB_yes hck).1 hS6.row hx.row (Nat.le_refl _)).mono ?_
    rintro e w7 ⟨rfl, hx7⟩
    replace hS4 := hS4.nx hx7
    replace hnx := hnx.trans hx7
    clear hx7
    go_wp2_with fail
    refine (content8_c A4 c4 _ y _ hck1 hS4.row (Nat.le_refl _)).mono ?_
    rintro e w8 ⟨rfl, hx8⟩
    replace hS4 := hS4.nx hx8
    replace hnx := hnx.trans hx8
    clear hx8
    go_wp2
    go_roundw
    case rel => exact ⟨k + 1, A4, c4, by omega, by go_num, rfl, by rw [Hy.out]; exact hS4.low hzw, hnx⟩
    case measure => simp [intOf]; omega
end Go.Proofs.Ytckekkhfjcaclaa
