/-
  Texts of the proof, put together in their order: Chm, Ops, Lch, Vlm, Vix, Vls, Vst.
  Conditions: those of each.
-/
import Derived.Test.YtihpadelfpogmaaMv5
import Derived.Lib.SmallJoins
/- Contract of ChainOK, as the model has it: the walk. Conditions: the segments can be read, and have at most 1048576 changes each. -/
namespace Go.Proofs.Ytihpadelfpogmaa
set_option linter.unusedVariables false
set_option maxRecDepth 100000
open Go.RowKit
theorem last0 {w : World} {g : Nat} (h : Box w g 3 #[.int .i64 (-1), .int .i64 (-1), .int .i64 (-1), .int .i64 (-1), .int .i64 (-1), .int .i64 (-1), .int .i64 (-1), .int .i64 (-1)]) : Own w g 3 8 (lsAt noM) := h.own.congr fun i hi => by
  match i, hi with
  | 0, _ => rfl
  | 1, _ => rfl
  | 2, _ => rfl
  | 3, _ => rfl
  | 4, _ => rfl
  | 5, _ => rfl
  | 6, _ => rfl
  | 7, _ => rfl
theorem ls_set {M N : Int → Option Chg} {n0 : Nat} {q1 q2 : Int} (h : N = fun x => if x = ((n0 : Int), q1, q2).1 then some ((n0 : Int), q1, q2) else M x) : ∀ i, i < 8 → (if i = n0 then Value.int .i64 q1 else lsAt M i) = lsAt N i := by
  intro i _
  rw [h]
  unfold lsAt lastV
  by_cases e : i = n0
  · rw [if_pos e]
    simp [e]
  · rw [if_neg e]
    have : ¬ (i : Int) = (n0 : Int) := by omega
    simp [this]
set_option maxRecDepth 100000 in
set_option maxHeartbeats 4000000 in
theorem specChainOK_c (base : Int) (A : Option Addr) (c B : Nat) (gs : List SgR) (w : World) (h : Sgs w B A gs) (hB : B ≤ w.heap.size) (hn : gs.length ≤ 1048576) (hm : ∀ k, k < gs.length → (gs.getD k sgZ).cs.length ≤ 1048576) :
    Calls Try.prog 60 #[.int .i64 base, .slice A gs.length c] w fun e w' => e = .returned (.bool (chainB base gs)) ∧ Nx w w' := by
  obtain ⟨n, Hn⟩ : ∃ n, Hid (gs.length = n) := ⟨_, rfl⟩
  rw [Hn.out] at hn ⊢
  by_cases hl : n ≤ 4096
  case neg =>
    have HR := Lib.hid (chainB_long (base := base) (gs := gs) (by rw [Hn.out]; exact hl))
    have hd : decide (4096 < (n : Int)) = true := by simp; omega
    go_enter Try.func60, Try.ntmps60
    go_wp2
    go_ret
    exact ⟨by rw [HR.out]; rfl, Nx.refl _⟩
  have hd : decide (4096 < (n : Int)) = false := by simp; omega
  have hb0 := Box.new w 3 #[.int .i64 (-1), .int .i64 (-1), .int .i64 (-1), .int .i64 (-1), .int .i64 (-1), .int .i64 (-1), .int .i64 (-1), .int .i64 (-1)]
  have hown0 := last0 hb0
  have hx0 := (Nx.refl w).alloc (.cells #[.int .i64 (-1), .int .i64 (-1), .int .i64 (-1), .int .i64 (-1), .int .i64 (-1), .int .i64 (-1), .int .i64 (-1), .int .i64 (-1)] 3)
  clear hb0
  go_enter Try.func60, Try.ntmps60
  go_wp2_with fail
  generalize w.alloc (.cells #[.int .i64 (-1), .int .i64 (-1), .int .i64 (-1), .int .i64 (-1), .int .i64 (-1), .int .i64 (-1), .int .i64 (-1), .int .i64 (-1)] 3) = W at *
  go_loopw [0, 6] (fun a0 i wr => ∃ k : Nat, k ≤ n ∧ i = .int .i64 k ∧ a0 = .int .i64 (atK base gs k) ∧ Own wr w.heap.size 3 8 (lsAt (mpK gs k)) ∧ LnTo base gs k ∧ Nx w wr) (fun _ i _ => n - (intOf i).toNat)
  case atStart => exact ⟨0, Nat.zero_le _, rfl, rfl, hown0, LnTo.zero _ _, hx0⟩
  case round =>
    obtain ⟨k, hk, rfl, rfl, hown, hln, hnx⟩ := hrel
    obtain ⟨wo, hwo⟩ : ∃ x, x = wr := ⟨_, rfl⟩
    subst hwo
    clear hown0 hx0
    by_cases hlt : k < n
    case neg =>
      obtain rfl : k = n := by omega
      have HR := Lib.hid (show inB 0 999999 (atK base gs k) = chainB base gs by rw [LnTo.chain (by rw [Hn.out]; exact hln) (by rw [Hn.out]; exact hl)]; exact hln.end_)
      go_wp2_with fail
      refine (l01In_c _ _ _ _).mono ?_
      rintro e w' ⟨rfl, rfl⟩
      rw [HR.out]
      go_wp2
      go_ret
      exact ⟨rfl, hnx⟩
    have hlk : k < gs.length := by rw [Hn.out]; exact hlt
    obtain ⟨b, off, rfl, hb, p0, p1, p2, p3⟩ := (h.below hnx hB).row.at4 hlk
    have hrow := (h.below hnx hB).row
    have hch := (h.below hnx hB).chs k hlk
    have hmk' := hm k hlk
    have HNo := Lib.hid (fun (hh : lnk base gs k = false) => chainB_no hlk hh)
    have HYes := Lib.hid (fun (hh : lnk base gs k = true) => hln.succ hh)
    have HA := Lib.hid (show atK base gs (k + 1) = (gs.getD k sgZ).t from rfl)
    have HM := Lib.hid (show mpK gs (k + 1) = noteM (mpK gs k) (gs.getD k sgZ).cs from rfl)
    have HNN := Lib.hid (LnTo.nonN k hln)
    have HPr : ∀ j, k = j + 1 → wo.cell? ⟨b, off + j * 4 + 2, none⟩ = some (.int .i64 (tmK gs k)) := by
      rintro j rfl
      obtain ⟨b', off', e, _, _, _, q2, _⟩ := hrow.at4 (k := j) (by omega)
      injection e with e
      injection e with e1 e2 _
      subst e1 e2
      exact q2
    clear hln hrow
    obtain ⟨⟨f, t, m, A2, cc, cs⟩, Hs⟩ : ∃ s, Hid (gs.getD k sgZ = s) := ⟨_, rfl⟩
    rw [Hs.out] at p0 p1 p2 p3 hch hmk' HA HM
    simp only at p0 p1 p2 p3 hch hmk'
    have bG := Box.new wo 54 #[.int .i64 f, .int .i64 t, .int .i64 m, .slice A2 cs.length cc]
    have hxa := (Nx.refl wo).alloc (.cells #[.int .i64 f, .int .i64 t, .int .i64 m, .slice A2 cs.length cc] 54)
    have hltw := hown.lt
    obtain ⟨a0, Ha⟩ : ∃ q, Hid (atK base gs k = q) := ⟨_, rfl⟩
    obtain ⟨t0, Ht⟩ : ∃ q, Hid (tmK gs k = q) := ⟨_, rfl⟩
    obtain ⟨M, HMk⟩ : ∃ q, Hid (mpK gs k = q) := ⟨_, rfl⟩
    rw [Ha.out]
    rw [HMk.out] at hown HM HNN
    have HBad := Lib.hid (fun hh => HNo.out (lnk_bad (base := base) Hs.out hh))
    have HGood := Lib.hid (fun h1 h2 h3 h4 => HYes.out (lnk_yes (base := base) Hs.out h1 h2 h3 h4))
    rw [Ha.out, Ht.out, HMk.out] at HBad HGood
    rw [Ht.out] at HPr
    have HT0 : k = 0 → inB 0 999999 m = true → t0 ≤ m := by
      rintro rfl hh
      rw [← Ht.out]
      exact tmK_zero hh
    clear HNo HYes hm
    go_wp2_with fail
    generalize hWa : wo.alloc (.cells #[.int .i64 f, .int .i64 t, .int .i64 m, .slice A2 cs.length cc] 54) = wa at *
    clear hWa p0 p1 p2 p3
    have hszB0 := Nat.le_trans hB hnx.size
    have hch0 := h.chs k hlk
    rw [Hs.out] at hch0
    simp only at hch0
    have hnxa : Nx w wa.drew := (hnx.trans hxa).drew
    have hszB : B ≤ wa.drew.heap.size := Nat.le_trans hB hnxa.size
    have hchd : Chs wa.drew B A2 cs := hch0.below hnxa hB
    replace hown : Own wa.drew w.heap.size 3 8 (lsAt M) := hown.nx (hxa.drew)
    have hbw : b < wa.drew.heap.size := by have : wa.drew.heap.size = wa.heap.size := rfl; have := hxa.size; omega
    have hPr1 : ∀ j, k = j + 1 → wa.drew.cell? ⟨b, off + j * 4 + 2, none⟩ = some (.int .i64 t0) := fun j hj => (hxa.cell (p := ⟨b, off + j * 4 + 2, none⟩) (by simp; omega)).trans (HPr j hj)
    replace bG : Box wa.drew wo.heap.size 54 #[.int .i64 f, .int .i64 t, .int .i64 m, .slice A2 cs.length cc] := bG
    have hwr : wo.heap.size < wa.drew.heap.size := bG.lt
    clear HPr hch
    cases hsb : segB f t m cs
    · have HSB := Lib.hid hsb
      have HR := Lib.hid (HBad.out (.inl hsb))
      clear hsb HBad HGood
      refine wp_region_lex [false, true, false, false, false, false, false, false, false, false, false, false, false, false, false, false, false, false, false, false, false, false, false, false] (fun w' => (w'.cell? ⟨wo.heap.size, 0, none⟩ = some (.int .i64 f) ∧ w'.cell? ⟨wo.heap.size, 1, none⟩ = some (.int .i64 t) ∧ w'.cell? ⟨wo.heap.size, 2, none⟩ = some (.int .i64 m) ∧ w'.cell? ⟨wo.heap.size, 3, none⟩ = some (.slice A2 cs.length cc))) (by kernel_rfl) (by kernel_rfl) rfl (by kernel_rfl) (fun _ _ d _ _ h => by cases d <;> exact h) (by exact bG.d4) ?_
      repeat (first | (refine HL.take (v := ?_) (by rfl) ?_ ?_; rotate_left; (· (intro w hSw; (try dsimp only at hSw); go_simp; try with_reducible rfl)); (try simp only [Act.put, List.setIfInBounds_toArray, List.set_cons_zero, List.set_cons_succ])) | (refine HL.skip (by rfl) ?_; (try simp only [Act.put, List.setIfInBounds_toArray, List.set_cons_zero, List.set_cons_succ])))
      refine HL.call (by rfl) (fun K hK => ?_)
      go_simp
      refine (specSegOK_c f t m A2 cc B cs _ hchd hszB hmk').mono ?_; rintro e w1 ⟨rfl, hx1⟩; rw [HSB.out]
      go_wp2_with fail
      refine hK.out _ _ (by exact (bG.nx hx1).d4) ?_
      clear hK K
      try simp only [Act.put, List.setIfInBounds_toArray, List.set_cons_zero, List.set_cons_succ]
      repeat (first | (refine HL.take (v := ?_) (by rfl) ?_ ?_; rotate_left; (· (intro w hSw; (try dsimp only at hSw); go_simp; try with_reducible rfl)); (try simp only [Act.put, List.setIfInBounds_toArray, List.set_cons_zero, List.set_cons_succ])) | (refine HL.skip (by rfl) ?_; (try simp only [Act.put, List.setIfInBounds_toArray, List.set_cons_zero, List.set_cons_succ])))
      refine HL.done ?_
      go_wp2
      go_ret
      exact ⟨by rw [HR.out]; rfl, hnxa.trans hx1⟩
    have HSB := Lib.hid hsb
    have hok : chsB cs = true := segB_chs hsb
    have hmr := (segB_range hsb).2.2.1
    clear hsb
    by_cases hfa : f = a0
    case neg =>
      have HR := Lib.hid (HBad.out (.inr (.inl hfa)))
      have hd1 : (f != a0) = true := by simp [hfa]
      clear HBad HGood hfa
      refine wp_region_lex [false, true, false, false, false, false, false, false, false, false, false, false, false, false, false, false, false, false, false, false, false, false, false, false] (fun w' => (w'.cell? ⟨wo.heap.size, 0, none⟩ = some (.int .i64 f) ∧ w'.cell? ⟨wo.heap.size, 1, none⟩ = some (.int .i64 t) ∧ w'.cell? ⟨wo.heap.size, 2, none⟩ = some (.int .i64 m) ∧ w'.cell? ⟨wo.heap.size, 3, none⟩ = some (.slice A2 cs.length cc))) (by kernel_rfl) (by kernel_rfl) rfl (by kernel_rfl) (fun _ _ d _ _ h => by cases d <;> exact h) (by exact bG.d4) ?_
      repeat (first | (refine HL.take (v := ?_) (by rfl) ?_ ?_; rotate_left; (· (intro w hSw; (try dsimp only at hSw); go_simp; try with_reducible rfl)); (try simp only [Act.put, List.setIfInBounds_toArray, List.set_cons_zero, List.set_cons_succ])) | (refine HL.skip (by rfl) ?_; (try simp only [Act.put, List.setIfInBounds_toArray, List.set_cons_zero, List.set_cons_succ])))
      refine HL.call (by rfl) (fun K hK => ?_)
      go_simp
      refine (specSegOK_c f t m A2 cc B cs _ hchd hszB hmk').mono ?_; rintro e w1 ⟨rfl, hx1⟩; rw [HSB.out]
      go_wp2_with fail
      refine hK.out _ _ (by exact (bG.nx hx1).d4) ?_
      clear hK K
      try simp only [Act.put, List.setIfInBounds_toArray, List.set_cons_zero, List.set_cons_succ]
      repeat (first | (refine HL.take (v := ?_) (by rfl) ?_ ?_; rotate_left; (· (intro w hSw; (try dsimp only at hSw); go_simp; try with_reducible rfl)); (try simp only [Act.put, List.setIfInBounds_toArray, List.set_cons_zero, List.set_cons_succ])) | (refine HL.skip (by rfl) ?_; (try simp only [Act.put, List.setIfInBounds_toArray, List.set_cons_zero, List.set_cons_succ])))
      refine HL.done ?_
      go_wp2
      go_ret
      exact ⟨by rw [HR.out]; rfl, hnxa.trans hx1⟩
    have hd1 : (f != a0) = false := by simp [hfa]
    have HFA := Lib.hid hfa
    clear hfa
    rcases Nat.eq_zero_or_pos k with hk0 | hk0
    · have HTM := Lib.hid (HT0 hk0 hmr)
      have hd2 : decide (0 < k) = false := by simp; omega
      have HGd := Lib.hid (fun h4 => HGood.out HSB.out HFA.out HTM.out h4)
      have HBd := Lib.hid (fun h4 => HBad.out (.inr (.inr (.inr h4))))
      clear HBad HGood HT0 hPr1 hk0
      refine wp_region_lex [false, true, false, false, false, false, false, false, false, false, false, false, false, false, false, false, false, false, false, false, false, false, false, false] (fun w' => (w'.cell? ⟨wo.heap.size, 0, none⟩ = some (.int .i64 f) ∧ w'.cell? ⟨wo.heap.size, 1, none⟩ = some (.int .i64 t) ∧ w'.cell? ⟨wo.heap.size, 2, none⟩ = some (.int .i64 m) ∧ w'.cell? ⟨wo.heap.size, 3, none⟩ = some (.slice A2 cs.length cc))) (by kernel_rfl) (by kernel_rfl) rfl (by kernel_rfl) (fun _ _ d _ _ h => by cases d <;> exact h) (by exact bG.d4) ?_
      repeat (first | (refine HL.take (v := ?_) (by rfl) ?_ ?_; rotate_left; (· (intro w hSw; (try dsimp only at hSw); go_simp; try with_reducible rfl)); (try simp only [Act.put, List.setIfInBounds_toArray, List.set_cons_zero, List.set_cons_succ])) | (refine HL.skip (by rfl) ?_; (try simp only [Act.put, List.setIfInBounds_toArray, List.set_cons_zero, List.set_cons_succ])))
      refine HL.call (by rfl) (fun K hK => ?_)
      go_simp
      refine (specSegOK_c f t m A2 cc B cs _ hchd hszB hmk').mono ?_; rintro e w1 ⟨rfl, hx1⟩; rw [HSB.out]
      go_wp2_with fail
      refine hK.out _ _ (by exact (bG.nx hx1).d4) ?_
      clear hK K
      try simp only [Act.put, List.setIfInBounds_toArray, List.set_cons_zero, List.set_cons_succ]
      repeat (first | (refine HL.take (v := ?_) (by rfl) ?_ ?_; rotate_left; (· (intro w hSw; (try dsimp only at hSw); go_simp; try with_reducible rfl)); (try simp only [Act.put, List.setIfInBounds_toArray, List.set_cons_zero, List.set_cons_succ])) | (refine HL.skip (by rfl) ?_; (try simp only [Act.put, List.setIfInBounds_toArray, List.set_cons_zero, List.set_cons_succ])))
      refine HL.done ?_
      have hX1 := hnxa.trans hx1
      have bG1 := bG.nx hx1
      have hown1 := hown.nx hx1
      clear bG hown hchd hnxa hx1 hszB hbw
      obtain ⟨c0, c1, c2, c3⟩ := bG1.d4
      go_wp2_with fail
      go_loopw [8] (fun i ws => ∃ j2 : Nat, j2 ≤ cs.length ∧ i = .int .i64 j2 ∧ Own ws w.heap.size 3 8 (lsAt (noteM M (cs.take j2))) ∧ Box ws wo.heap.size 54 #[.int .i64 f, .int .i64 t, .int .i64 m, .slice A2 cs.length cc] ∧ OnTo M cs j2 ∧ Nx w ws) (fun i _ => cs.length - (intOf i).toNat)
      case atStart => exact ⟨0, Nat.zero_le _, rfl, hown1, bG1, OnTo.zero _ _, hX1⟩
      case round =>
        obtain ⟨j2, hj2, rfl, hown, bG, hon, hnx2⟩ := hrel
        obtain ⟨ws, hws⟩ : ∃ x, x = wr := ⟨_, rfl⟩
        subst hws
        clear c0 c1 c2 c3 hX1 bG1 hown1
        obtain ⟨c0, c1, c2, c3⟩ := bG.d4
        by_cases hlt2 : j2 < cs.length
        case neg =>
          obtain rfl : j2 = cs.length := by omega
          have HL2 := Lib.hid (HGd.out hon.all)
          rw [List.take_length] at hown
          go_wp2
          go_roundw
          case rel => exact ⟨k + 1, by omega, by go_num, by rw [HA.out], by rw [HM.out]; exact hown, HL2.out, hnx2⟩
          case measure => simp [intOf]; omega
        obtain ⟨b2, off2, rfl, hb2, k0, k1, k2⟩ := (hch0.below hnx2 hB).at_ hlt2
        obtain ⟨hr0, hr1⟩ := (chsB_to hok).rise j2 hlt2
        have HNt := Lib.hid (noteM_at M (chsB_to hok) hlt2)
        have HNs := Lib.hid (noteM_succ M cs hlt2)
        have HoN := Lib.hid (fun (hh : onC M (cs.getD j2 chZ) = false) => HBd.out (onB_no hlt2 hh))
        have HoY := Lib.hid (fun (hh : onC M (cs.getD j2 chZ) = true) => hon.succ hh)
        obtain ⟨⟨q0, q1, q2⟩, Hq⟩ : ∃ q, Hid (cs.getD j2 chZ = q) := ⟨_, rfl⟩
        rw [Hq.out] at k0 k1 k2 hr0 hr1 HNt HNs HoN HoY
        rw [onC_val HNN.out] at HoN HoY
        simp only at hr0 hr1 k0 k1 k2
        obtain ⟨n0, rfl⟩ : ∃ n : Nat, q0 = n := ⟨q0.toNat, by omega⟩
        have hn0 : n0 < 8 := by omega
        have hn1 : (n0 : Int) < 8 := by omega
        obtain ⟨x, Hx⟩ : ∃ x, Hid (lastV M (n0 : Int) = x) := ⟨_, rfl⟩
        rw [Hx.out] at HoN HoY
        have hv : ws.cell? ⟨w.heap.size, n0, none⟩ = some (.int .i64 x) := by
          have h1 := hown.cell hn0
          unfold lsAt lastV at h1
          rw [HNt.out] at h1
          rw [← Hx.out]
          exact h1
        clear hon hr0 hr1 HNt
        have bC := Box.new ws 84 #[.int .i64 (n0 : Int), .int .i64 q1, .int .i64 q2]
        have hxc := (Nx.refl ws).alloc (.cells #[.int .i64 (n0 : Int), .int .i64 q1, .int .i64 q2] 84)
        go_wp2_with fail
        have hownS := hown
        have bGS := bG
        have hwl := hown.lt
        have hv1 : (ws.alloc (.cells #[.int .i64 (n0 : Int), .int .i64 q1, .int .i64 q2] 84)).drew.cell? ⟨w.heap.size, n0, none⟩ = some (.int .i64 x) := (hxc.cell (p := ⟨w.heap.size, n0, none⟩) hown.lt).trans hv
        replace hown : Own (ws.alloc (.cells #[.int .i64 (n0 : Int), .int .i64 q1, .int .i64 q2] 84)).drew w.heap.size 3 8 (lsAt (noteM M (cs.take j2))) := hown.nx hxc.drew
        replace bG : Box (ws.alloc (.cells #[.int .i64 (n0 : Int), .int .i64 q1, .int .i64 q2] 84)).drew wo.heap.size 54 #[.int .i64 f, .int .i64 t, .int .i64 m, .slice (some ⟨b2, off2, none⟩) cs.length cc] := bG.nx hxc.drew
        replace bC : Box (ws.alloc (.cells #[.int .i64 (n0 : Int), .int .i64 q1, .int .i64 q2] 84)).drew ws.heap.size 84 #[.int .i64 (n0 : Int), .int .i64 q1, .int .i64 q2] := bC
        have hnx3 : Nx w (ws.alloc (.cells #[.int .i64 (n0 : Int), .int .i64 q1, .int .i64 q2] 84)).drew := (hnx2.trans hxc).drew
        clear c0 c1 c2 c3 k0 k1 k2 hv
        by_cases hx0 : x < 0
        · have hd5 : decide (0 ≤ x) = false := by simp; omega
          have HO := Lib.hid (HoY.out (by rw [decide_eq_true hx0]; rfl))
          clear hx0 HoN HoY
          refine wp_region_lex [false, false, false, false, false, false, false, false, false, false, false, false, false, false, false, false] (fun w' => (w'.cell? ⟨ws.heap.size, 0, none⟩ = some (.int .i64 (n0 : Int)) ∧ w'.cell? ⟨ws.heap.size, 1, none⟩ = some (.int .i64 q1) ∧ w'.cell? ⟨ws.heap.size, 2, none⟩ = some (.int .i64 q2)) ∧ w'.cell? ⟨w.heap.size, n0, none⟩ = some (.int .i64 x)) (by kernel_rfl) (by kernel_rfl) rfl (by kernel_rfl) (fun _ _ d _ _ h => by cases d <;> exact h) (by exact ⟨bC.d3, hv1⟩) ?_
          repeat (first | (refine HL.take (v := ?_) (by rfl) ?_ ?_; rotate_left; (· (intro w hSw; (try dsimp only at hSw); go_simp; try with_reducible rfl)); (try simp only [Act.put, List.setIfInBounds_toArray, List.set_cons_zero, List.set_cons_succ])) | (refine HL.skip (by rfl) ?_; (try simp only [Act.put, List.setIfInBounds_toArray, List.set_cons_zero, List.set_cons_succ])))
          refine HL.done ?_
          obtain ⟨e0, e1, e2⟩ := bC.d3
          have hz := hown.frozen n0
          clear hown bG hnx3
          go_wp2
          go_roundw
          case rel =>
            refine ⟨j2 + 1, by omega, by go_num, ?_, (bGS.far (p := ⟨w.heap.size, n0, none⟩) (by simp; omega) _).alloc _, HO.out, ((hnx2.setCell (p := ⟨w.heap.size, n0, none⟩) (Nat.le_refl _) _).alloc _).drew⟩
            exact ((hownS.set hn0 (.int .i64 q1)).alloc _).congr (ls_set HNs.out)
          case measure => simp [intOf]; omega
        have hd5 : decide (0 ≤ x) = true := by simp; omega
        by_cases hxq : x = q2
        · have hd6 : (x != q2) = false := by simp [hxq]
          have HO := Lib.hid (HoY.out (by rw [decide_eq_true hxq]; simp))
          clear hx0 hxq HoN HoY
          refine wp_region_lex [false, false, false, false, false, false, false, false, false, false, false, false, false, false, false, false] (fun w' => (w'.cell? ⟨ws.heap.size, 0, none⟩ = some (.int .i64 (n0 : Int)) ∧ w'.cell? ⟨ws.heap.size, 1, none⟩ = some (.int .i64 q1) ∧ w'.cell? ⟨ws.heap.size, 2, none⟩ = some (.int .i64 q2)) ∧ w'.cell? ⟨w.heap.size, n0, none⟩ = some (.int .i64 x)) (by kernel_rfl) (by kernel_rfl) rfl (by kernel_rfl) (fun _ _ d _ _ h => by cases d <;> exact h) (by exact ⟨bC.d3, hv1⟩) ?_
          repeat (first | (refine HL.take (v := ?_) (by rfl) ?_ ?_; rotate_left; (· (intro w hSw; (try dsimp only at hSw); go_simp; try with_reducible rfl)); (try simp only [Act.put, List.setIfInBounds_toArray, List.set_cons_zero, List.set_cons_succ])) | (refine HL.skip (by rfl) ?_; (try simp only [Act.put, List.setIfInBounds_toArray, List.set_cons_zero, List.set_cons_succ])))
          refine HL.done ?_
          obtain ⟨e0, e1, e2⟩ := bC.d3
          have hz := hown.frozen n0
          clear hown bG hnx3
          go_wp2
          go_roundw
          case rel =>
            refine ⟨j2 + 1, by omega, by go_num, ?_, (bGS.far (p := ⟨w.heap.size, n0, none⟩) (by simp; omega) _).alloc _, HO.out, ((hnx2.setCell (p := ⟨w.heap.size, n0, none⟩) (Nat.le_refl _) _).alloc _).drew⟩
            exact ((hownS.set hn0 (.int .i64 q1)).alloc _).congr (ls_set HNs.out)
          case measure => simp [intOf]; omega
        · have hd6 : (x != q2) = true := by simp [hxq]
          have HO := Lib.hid (HoN.out (by rw [decide_eq_false hx0, decide_eq_false hxq]; rfl))
          clear hx0 hxq HoN HoY
          refine wp_region_lex [false, false, false, false, false, false, false, false, false, false, false, false, false, false, false, false] (fun w' => (w'.cell? ⟨ws.heap.size, 0, none⟩ = some (.int .i64 (n0 : Int)) ∧ w'.cell? ⟨ws.heap.size, 1, none⟩ = some (.int .i64 q1) ∧ w'.cell? ⟨ws.heap.size, 2, none⟩ = some (.int .i64 q2)) ∧ w'.cell? ⟨w.heap.size, n0, none⟩ = some (.int .i64 x)) (by kernel_rfl) (by kernel_rfl) rfl (by kernel_rfl) (fun _ _ d _ _ h => by cases d <;> exact h) (by exact ⟨bC.d3, hv1⟩) ?_
          repeat (first | (refine HL.take (v := ?_) (by rfl) ?_ ?_; rotate_left; (· (intro w hSw; (try dsimp only at hSw); go_simp; try with_reducible rfl)); (try simp only [Act.put, List.setIfInBounds_toArray, List.set_cons_zero, List.set_cons_succ])) | (refine HL.skip (by rfl) ?_; (try simp only [Act.put, List.setIfInBounds_toArray, List.set_cons_zero, List.set_cons_succ])))
          refine HL.done ?_
          go_wp2
          go_ret
          exact ⟨by rw [HO.out]; rfl, hnx3⟩
    obtain ⟨j, Hj⟩ : ∃ j, Hid (k = j + 1) := ⟨k - 1, Lib.hid (by omega)⟩
    have hPr := hPr1 j Hj.out
    have hd3 : decide (0 < k) = true := by have := Hj.out; simp; omega
    have hsub : (k : Int) - 1 = (j : Int) := by have := Hj.out; omega
    have hjn : (j : Int) < (n : Int) := by have := Hj.out; omega
    have hwj : IntKind.i64.wrap (j : Int) = (j : Int) := IntWalk.i64_in _ (by omega)
    clear hPr1 HT0 hk0
    by_cases htm : t0 ≤ m
    case neg =>
      have HR := Lib.hid (HBad.out (.inr (.inr (.inl (by omega)))))
      have hd2 : decide (m < t0) = true := by simp; omega
      clear HBad HGood htm
      refine wp_region_lex [false, true, false, false, false, false, false, false, false, false, false, false, false, false, false, false, false, false, false, false, false, false, false, false] (fun w' => (w'.cell? ⟨wo.heap.size, 0, none⟩ = some (.int .i64 f) ∧ w'.cell? ⟨wo.heap.size, 1, none⟩ = some (.int .i64 t) ∧ w'.cell? ⟨wo.heap.size, 2, none⟩ = some (.int .i64 m) ∧ w'.cell? ⟨wo.heap.size, 3, none⟩ = some (.slice A2 cs.length cc)) ∧ w'.cell? ⟨b, off + j * 4 + 2, none⟩ = some (.int .i64 t0)) (by kernel_rfl) (by kernel_rfl) rfl (by kernel_rfl) (fun _ _ d _ _ h => by cases d <;> exact h) (by exact ⟨bG.d4, hPr⟩) ?_
      repeat (first | (refine HL.take (v := ?_) (by rfl) ?_ ?_; rotate_left; (· (intro w hSw; (try dsimp only at hSw); go_simp; try with_reducible rfl)); (try simp only [Act.put, List.setIfInBounds_toArray, List.set_cons_zero, List.set_cons_succ])) | (refine HL.skip (by rfl) ?_; (try simp only [Act.put, List.setIfInBounds_toArray, List.set_cons_zero, List.set_cons_succ])))
      refine HL.call (by rfl) (fun K hK => ?_)
      go_simp
      refine (specSegOK_c f t m A2 cc B cs _ hchd hszB hmk').mono ?_; rintro e w1 ⟨rfl, hx1⟩; rw [HSB.out]
      go_wp2_with fail
      refine hK.out _ _ (by exact ⟨(bG.nx hx1).d4, (hx1.cell (p := ⟨b, off + j * 4 + 2, none⟩) hbw).trans hPr⟩) ?_
      clear hK K
      try simp only [Act.put, List.setIfInBounds_toArray, List.set_cons_zero, List.set_cons_succ]
      repeat (first | (refine HL.take (v := ?_) (by rfl) ?_ ?_; rotate_left; (· (intro w hSw; (try dsimp only at hSw); go_simp; try with_reducible rfl)); (try simp only [Act.put, List.setIfInBounds_toArray, List.set_cons_zero, List.set_cons_succ])) | (refine HL.skip (by rfl) ?_; (try simp only [Act.put, List.setIfInBounds_toArray, List.set_cons_zero, List.set_cons_succ])))
      refine HL.done ?_
      go_wp2
      go_ret
      exact ⟨by rw [HR.out]; rfl, hnxa.trans hx1⟩
    have hd2 : decide (m < t0) = false := by simp; omega
    have HGd := Lib.hid (fun h4 => HGood.out HSB.out HFA.out htm h4)
    have HBd := Lib.hid (fun h4 => HBad.out (.inr (.inr (.inr h4))))
    clear HBad HGood htm
    refine wp_region_lex [false, true, false, false, false, false, false, false, false, false, false, false, false, false, false, false, false, false, false, false, false, false, false, false] (fun w' => (w'.cell? ⟨wo.heap.size, 0, none⟩ = some (.int .i64 f) ∧ w'.cell? ⟨wo.heap.size, 1, none⟩ = some (.int .i64 t) ∧ w'.cell? ⟨wo.heap.size, 2, none⟩ = some (.int .i64 m) ∧ w'.cell? ⟨wo.heap.size, 3, none⟩ = some (.slice A2 cs.length cc)) ∧ w'.cell? ⟨b, off + j * 4 + 2, none⟩ = some (.int .i64 t0)) (by kernel_rfl) (by kernel_rfl) rfl (by kernel_rfl) (fun _ _ d _ _ h => by cases d <;> exact h) (by exact ⟨bG.d4, hPr⟩) ?_
    repeat (first | (refine HL.take (v := ?_) (by rfl) ?_ ?_; rotate_left; (· (intro w hSw; (try dsimp only at hSw); go_simp; try with_reducible rfl)); (try simp only [Act.put, List.setIfInBounds_toArray, List.set_cons_zero, List.set_cons_succ])) | (refine HL.skip (by rfl) ?_; (try simp only [Act.put, List.setIfInBounds_toArray, List.set_cons_zero, List.set_cons_succ])))
    refine HL.call (by rfl) (fun K hK => ?_)
    go_simp
    refine (specSegOK_c f t m A2 cc B cs _ hchd hszB hmk').mono ?_; rintro e w1 ⟨rfl, hx1⟩; rw [HSB.out]
    go_wp2_with fail
    refine hK.out _ _ (by exact ⟨(bG.nx hx1).d4, (hx1.cell (p := ⟨b, off + j * 4 + 2, none⟩) hbw).trans hPr⟩) ?_
    clear hK K
    try simp only [Act.put, List.setIfInBounds_toArray, List.set_cons_zero, List.set_cons_succ]
    repeat (first | (refine HL.take (v := ?_) (by rfl) ?_ ?_; rotate_left; (· (intro w hSw; (try dsimp only at hSw); go_simp; try with_reducible rfl)); (try simp only [Act.put, List.setIfInBounds_toArray, List.set_cons_zero, List.set_cons_succ])) | (refine HL.skip (by rfl) ?_; (try simp only [Act.put, List.setIfInBounds_toArray, List.set_cons_zero, List.set_cons_succ])))
    refine HL.done ?_
    have hX1 := hnxa.trans hx1
    have bG1 := bG.nx hx1
    have hown1 := hown.nx hx1
    clear bG hown hchd hnxa hx1 hszB hbw
    obtain ⟨c0, c1, c2, c3⟩ := bG1.d4
    go_wp2_with fail
    go_loopw [8] (fun i ws => ∃ j2 : Nat, j2 ≤ cs.length ∧ i = .int .i64 j2 ∧ Own ws w.heap.size 3 8 (lsAt (noteM M (cs.take j2))) ∧ Box ws wo.heap.size 54 #[.int .i64 f, .int .i64 t, .int .i64 m, .slice A2 cs.length cc] ∧ OnTo M cs j2 ∧ Nx w ws) (fun i _ => cs.length - (intOf i).toNat)
    case atStart => exact ⟨0, Nat.zero_le _, rfl, hown1, bG1, OnTo.zero _ _, hX1⟩
    case round =>
      obtain ⟨j2, hj2, rfl, hown, bG, hon, hnx2⟩ := hrel
      obtain ⟨ws, hws⟩ : ∃ x, x = wr := ⟨_, rfl⟩
      subst hws
      clear c0 c1 c2 c3 hX1 bG1 hown1
      obtain ⟨c0, c1, c2, c3⟩ := bG.d4
      by_cases hlt2 : j2 < cs.length
      case neg =>
        obtain rfl : j2 = cs.length := by omega
        have HL2 := Lib.hid (HGd.out hon.all)
        rw [List.take_length] at hown
        go_wp2
        go_roundw
        case rel => exact ⟨k + 1, by omega, by go_num, by rw [HA.out], by rw [HM.out]; exact hown, HL2.out, hnx2⟩
        case measure => simp [intOf]; omega
      obtain ⟨b2, off2, rfl, hb2, k0, k1, k2⟩ := (hch0.below hnx2 hB).at_ hlt2
      obtain ⟨hr0, hr1⟩ := (chsB_to hok).rise j2 hlt2
      have HNt := Lib.hid (noteM_at M (chsB_to hok) hlt2)
      have HNs := Lib.hid (noteM_succ M cs hlt2)
      have HoN := Lib.hid (fun (hh : onC M (cs.getD j2 chZ) = false) => HBd.out (onB_no hlt2 hh))
      have HoY := Lib.hid (fun (hh : onC M (cs.getD j2 chZ) = true) => hon.succ hh)
      obtain ⟨⟨q0, q1, q2⟩, Hq⟩ : ∃ q, Hid (cs.getD j2 chZ = q) := ⟨_, rfl⟩
      rw [Hq.out] at k0 k1 k2 hr0 hr1 HNt HNs HoN HoY
      rw [onC_val HNN.out] at HoN HoY
      simp only at hr0 hr1 k0 k1 k2
      obtain ⟨n0, rfl⟩ : ∃ n : Nat, q0 = n := ⟨q0.toNat, by omega⟩
      have hn0 : n0 < 8 := by omega
      have hn1 : (n0 : Int) < 8 := by omega
      obtain ⟨x, Hx⟩ : ∃ x, Hid (lastV M (n0 : Int) = x) := ⟨_, rfl⟩
      rw [Hx.out] at HoN HoY
      have hv : ws.cell? ⟨w.heap.size, n0, none⟩ = some (.int .i64 x) := by
        have h1 := hown.cell hn0
        unfold lsAt lastV at h1
        rw [HNt.out] at h1
        rw [← Hx.out]
        exact h1
      clear hon hr0 hr1 HNt
      have bC := Box.new ws 84 #[.int .i64 (n0 : Int), .int .i64 q1, .int .i64 q2]
      have hxc := (Nx.refl ws).alloc (.cells #[.int .i64 (n0 : Int), .int .i64 q1, .int .i64 q2] 84)
      go_wp2_with fail
      have hownS := hown
      have bGS := bG
      have hwl := hown.lt
      have hv1 : (ws.alloc (.cells #[.int .i64 (n0 : Int), .int .i64 q1, .int .i64 q2] 84)).drew.cell? ⟨w.heap.size, n0, none⟩ = some (.int .i64 x) := (hxc.cell (p := ⟨w.heap.size, n0, none⟩) hown.lt).trans hv
      replace hown : Own (ws.alloc (.cells #[.int .i64 (n0 : Int), .int .i64 q1, .int .i64 q2] 84)).drew w.heap.size 3 8 (lsAt (noteM M (cs.take j2))) := hown.nx hxc.drew
      replace bG : Box (ws.alloc (.cells #[.int .i64 (n0 : Int), .int .i64 q1, .int .i64 q2] 84)).drew wo.heap.size 54 #[.int .i64 f, .int .i64 t, .int .i64 m, .slice (some ⟨b2, off2, none⟩) cs.length cc] := bG.nx hxc.drew
      replace bC : Box (ws.alloc (.cells #[.int .i64 (n0 : Int), .int .i64 q1, .int .i64 q2] 84)).drew ws.heap.size 84 #[.int .i64 (n0 : Int), .int .i64 q1, .int .i64 q2] := bC
      have hnx3 : Nx w (ws.alloc (.cells #[.int .i64 (n0 : Int), .int .i64 q1, .int .i64 q2] 84)).drew := (hnx2.trans hxc).drew
      clear c0 c1 c2 c3 k0 k1 k2 hv
      by_cases hx0 : x < 0
      · have hd5 : decide (0 ≤ x) = false := by simp; omega
        have HO := Lib.hid (HoY.out (by rw [decide_eq_true hx0]; rfl))
        clear hx0 HoN HoY
        refine wp_region_lex [false, false, false, false, false, false, false, false, false, false, false, false, false, false, false, false] (fun w' => (w'.cell? ⟨ws.heap.size, 0, none⟩ = some (.int .i64 (n0 : Int)) ∧ w'.cell? ⟨ws.heap.size, 1, none⟩ = some (.int .i64 q1) ∧ w'.cell? ⟨ws.heap.size, 2, none⟩ = some (.int .i64 q2)) ∧ w'.cell? ⟨w.heap.size, n0, none⟩ = some (.int .i64 x)) (by kernel_rfl) (by kernel_rfl) rfl (by kernel_rfl) (fun _ _ d _ _ h => by cases d <;> exact h) (by exact ⟨bC.d3, hv1⟩) ?_
        repeat (first | (refine HL.take (v := ?_) (by rfl) ?_ ?_; rotate_left; (· (intro w hSw; (try dsimp only at hSw); go_simp; try with_reducible rfl)); (try simp only [Act.put, List.setIfInBounds_toArray, List.set_cons_zero, List.set_cons_succ])) | (refine HL.skip (by rfl) ?_; (try simp only [Act.put, List.setIfInBounds_toArray, List.set_cons_zero, List.set_cons_succ])))
        refine HL.done ?_
        obtain ⟨e0, e1, e2⟩ := bC.d3
        have hz := hown.frozen n0
        clear hown bG hnx3
        go_wp2
        go_roundw
        case rel =>
          refine ⟨j2 + 1, by omega, by go_num, ?_, (bGS.far (p := ⟨w.heap.size, n0, none⟩) (by simp; omega) _).alloc _, HO.out, ((hnx2.setCell (p := ⟨w.heap.size, n0, none⟩) (Nat.le_refl _) _).alloc _).drew⟩
          exact ((hownS.set hn0 (.int .i64 q1)).alloc _).congr (ls_set HNs.out)
        case measure => simp [intOf]; omega
      have hd5 : decide (0 ≤ x) = true := by simp; omega
      by_cases hxq : x = q2
      · have hd6 : (x != q2) = false := by simp [hxq]
        have HO := Lib.hid (HoY.out (by rw [decide_eq_true hxq]; simp))
        clear hx0 hxq HoN HoY
        refine wp_region_lex [false, false, false, false, false, false, false, false, false, false, false, false, false, false, false, false] (fun w' => (w'.cell? ⟨ws.heap.size, 0, none⟩ = some (.int .i64 (n0 : Int)) ∧ w'.cell? ⟨ws.heap.size, 1, none⟩ = some (.int .i64 q1) ∧ w'.cell? ⟨ws.heap.size, 2, none⟩ = some (.int .i64 q2)) ∧ w'.cell? ⟨w.heap.size, n0, none⟩ = some (.int .i64 x)) (by kernel_rfl) (by kernel_rfl) rfl (by kernel_rfl) (fun _ _ d _ _ h => by cases d <;> exact h) (by exact ⟨bC.d3, hv1⟩) ?_
        repeat (first | (refine HL.take (v := ?_) (by rfl) ?_ ?_; rotate_left; (· (intro w hSw; (try dsimp only at hSw); go_simp; try with_reducible rfl)); (try simp only [Act.put, List.setIfInBounds_toArray, List.set_cons_zero, List.set_cons_succ])) | (refine HL.skip (by rfl) ?_; (try simp only [Act.put, List.setIfInBounds_toArray, List.set_cons_zero, List.set_cons_succ])))
        refine HL.done ?_
        obtain ⟨e0, e1, e2⟩ := bC.d3
        have hz := hown.frozen n0
        clear hown bG hnx3
        go_wp2
        go_roundw
        case rel =>
          refine ⟨j2 + 1, by omega, by go_num, ?_, (bGS.far (p := ⟨w.heap.size, n0, none⟩) (by simp; omega) _).alloc _, HO.out, ((hnx2.setCell (p := ⟨w.heap.size, n0, none⟩) (Nat.le_refl _) _).alloc _).drew⟩
          exact ((hownS.set hn0 (.int .i64 q1)).alloc _).congr (ls_set HNs.out)
        case measure => simp [intOf]; omega
      · have hd6 : (x != q2) = true := by simp [hxq]
        have HO := Lib.hid (HoN.out (by rw [decide_eq_false hx0, decide_eq_false hxq]; rfl))
        clear hx0 hxq HoN HoY
        refine wp_region_lex [false, false, false, false, false, false, false, false, false, false, false, false, false, false, false, false] (fun w' => (w'.cell? ⟨ws.heap.size, 0, none⟩ = some (.int .i64 (n0 : Int)) ∧ w'.cell? ⟨ws.heap.size, 1, none⟩ = some (.int .i64 q1) ∧ w'.cell? ⟨ws.heap.size, 2, none⟩ = some (.int .i64 q2)) ∧ w'.cell? ⟨w.heap.size, n0, none⟩ = some (.int .i64 x)) (by kernel_rfl) (by kernel_rfl) rfl (by kernel_rfl) (fun _ _ d _ _ h => by cases d <;> exact h) (by exact ⟨bC.d3, hv1⟩) ?_
        repeat (first | (refine HL.take (v := ?_) (by rfl) ?_ ?_; rotate_left; (· (intro w hSw; (try dsimp only at hSw); go_simp; try with_reducible rfl)); (try simp only [Act.put, List.setIfInBounds_toArray, List.set_cons_zero, List.set_cons_succ])) | (refine HL.skip (by rfl) ?_; (try simp only [Act.put, List.setIfInBounds_toArray, List.set_cons_zero, List.set_cons_succ])))
        refine HL.done ?_
        go_wp2
        go_ret
        exact ⟨by rw [HO.out]; rfl, hnx3⟩
end Go.Proofs.Ytihpadelfpogmaa
/- A list of segments that comes in, opened. Conditions: none. -/
namespace Go.Proofs.Ytihpadelfpogmaa
set_option linter.unusedVariables false
set_option maxRecDepth 100000
open Go.Joins Go.ChangeShapes Go.WideShapes Go.RowKit Go.Deep
section
variable {H : Type} {enc : TypeId × Value → H} {w : World} {base : Nat} {spare : Nat → Bool} {held : Bool}
set_option maxRecDepth 100000 in
theorem open_segs_ {fuel : Nat} {v : Value} {x : DataW H × List MemPlace} (h : DataW.trod enc Try.prog w base spare held fuel 26 [v] = some x) :
    ∃ (A : Option Addr) (c : Nat) (gs : List SgR), v = .slice A gs.length c ∧ Sgs w w.heap.size A gs ∧ gs.length ≤ 2 ^ 63 - 1 ∧ ∀ k, k < gs.length → (gs.getD k sgZ).cs.length ≤ 2 ^ 63 - 1 := by
  rcases open_slice Try.underlying26 h with ⟨hcs, _⟩ | ⟨a, len, cap, m, n, D, Pl, hcs, _, hl, hm, hmm, _, hi⟩
  · exact ⟨none, 0, [], by simpa using hcs, ⟨fun hn => absurd hn (by simp), fun k hk => absurd hk (by simp)⟩, by simp, fun k hk => absurd hk (by simp)⟩
  · have hle : len ≤ m := by rw [hmm]; split <;> omega
    unfold maxLen at hm
    have key : ∀ i, ∃ p : SgR, i < m → w.cell? (a.add (i * 4)) = some (.int .i64 p.f) ∧ w.cell? ((a.add (i * 4)).add 1) = some (.int .i64 p.t) ∧ w.cell? ((a.add (i * 4)).add 2) = some (.int .i64 p.m) ∧ w.cell? ((a.add (i * 4)).add 3) = some (.slice p.A p.cs.length p.c) ∧ Chs w w.heap.size p.A p.cs ∧ p.cs.length ≤ 2 ^ 63 - 1 := by
      intro i
      by_cases him : i < m
      · obtain ⟨cs', hc, ht⟩ := hi i him
        rw [cLG] at hc
        obtain ⟨_, hcl, hat⟩ := World.cells?_some hc
        obtain ⟨y0, y1, y2, y3, k, _, _, t0, t1, t2, t3⟩ := trod_struct4 Try.underlying138 ht
        match cs', hcl with
        | [u0, u1, u2, u3], _ =>
          have e0 : ∃ q, [u0] = [Value.int .i64 q] := by
            obtain ⟨q, e, _, _⟩ := DataW.trod_int (k := .i64) Try.underlying3 t0
            rw [ci_] at e
            exact ⟨q, e⟩
          have e1 : ∃ q, [u1] = [Value.int .i64 q] := by
            obtain ⟨q, e, _, _⟩ := DataW.trod_int (k := .i64) Try.underlying3 t1
            rw [ci_] at e
            exact ⟨q, e⟩
          have e2 : ∃ q, [u2] = [Value.int .i64 q] := by
            obtain ⟨q, e, _, _⟩ := DataW.trod_int (k := .i64) Try.underlying3 t2
            rw [ci_] at e
            exact ⟨q, e⟩
          have cS : Try.prog.cellsOf 136 = 1 := by kernel_rfl
          rw [cS] at t3
          obtain ⟨A3, c3, cs3, e3, hS3, hn3⟩ := open_chs_ (v := u3) t3
          obtain ⟨q0, e0⟩ := e0
          obtain ⟨q1, e1⟩ := e1
          obtain ⟨q2, e2⟩ := e2
          simp only [List.cons.injEq, and_true] at e0 e1 e2
          subst e0 e1 e2 e3
          refine ⟨⟨q0, q1, q2, A3, c3, cs3⟩, fun _ => ⟨?_, hat 1 (by omega), hat 2 (by omega), hat 3 (by omega), hS3, hn3⟩⟩
          have := hat 0 (by omega)
          simpa [Addr.add] using this
      · exact ⟨sgZ, fun h => absurd h him⟩
    obtain ⟨g, hg⟩ := Classical.skolem.1 key
    have hget : ∀ k, k < len → ((List.range len).map g).getD k sgZ = g k := by
      intro k hk
      rw [List.getD_eq_getElem?_getD, List.getElem?_map, List.getElem?_range hk]; rfl
    have hlen : ((List.range len).map g).length = len := by simp
    refine ⟨some a, cap, (List.range len).map g, by simpa using hcs, ⟨fun hn => ?_, fun k hk => ?_⟩, by simp; omega, fun k hk => ?_⟩
    · rw [hlen] at hn
      have h0 := (hg 0 (by omega)).1
      rw [Nat.zero_mul] at h0
      obtain ⟨b, off, rfl, hb⟩ := addr_plain h0
      refine ⟨b, off, rfl, hb, fun i hi => ?_⟩
      rw [hlen] at hi
      obtain ⟨h1, h2, h3, h4, _, _⟩ := hg (i / 4) (by omega)
      rw [addr_add] at h1 h2 h3 h4
      rw [addr_add] at h2 h3 h4
      unfold sgAt
      rw [hget _ (by omega)]
      by_cases hp : i % 4 = 0
      · rw [if_pos hp, show off + i = off + i / 4 * 4 by omega]
        exact h1
      · by_cases hp2 : i % 4 = 1
        · rw [if_neg hp, if_pos hp2, show off + i = off + i / 4 * 4 + 1 by omega]
          exact h2
        · by_cases hp3 : i % 4 = 2
          · rw [if_neg hp, if_neg hp2, if_pos hp3, show off + i = off + i / 4 * 4 + 2 by omega]
            exact h3
          · rw [if_neg hp, if_neg hp2, if_neg hp3, show off + i = off + i / 4 * 4 + 3 by omega]
            exact h4
    · rw [hlen] at hk
      rw [hget k hk]
      exact (hg k (by omega)).2.2.2.2.1
    · rw [hlen] at hk
      rw [hget k hk]
      exact (hg k (by omega)).2.2.2.2.2
theorem open_segs {r : Reach} {b0 : Nat} {v : Value} {d : DataW H} {p : List MemPlace} (hv : Value.okWide Try.prog w r b0 26 v) (h : DataW.Trod enc Try.prog w base spare held 26 v d p) :
    ∃ (A : Option Addr) (c : Nat) (gs : List SgR), v = .slice A gs.length c ∧ Sgs w w.heap.size A gs ∧ gs.length ≤ 2 ^ 63 - 1 ∧ ∀ k, k < gs.length → (gs.getD k sgZ).cs.length ≤ 2 ^ 63 - 1 := by
  obtain ⟨a0, len0, cap0, rfl⟩ := okWide_slice Try.underlying26 hv
  obtain ⟨fuel, hf⟩ := h
  exact open_segs_ hf
end
end Go.Proofs.Ytihpadelfpogmaa
/- The walk of the law FnExactChainOK. Conditions: the list that comes in can be read. -/
namespace Go.Proofs.Ytihpadelfpogmaa
set_option linter.unusedVariables false
set_option maxRecDepth 100000
open Go.RowKit
theorem v_parts {gs hs : List SgR} (h : gs.map SgR.v = hs.map SgR.v) (k : Nat) : (gs.getD k sgZ).f = (hs.getD k sgZ).f ∧ (gs.getD k sgZ).t = (hs.getD k sgZ).t ∧ (gs.getD k sgZ).m = (hs.getD k sgZ).m ∧ (gs.getD k sgZ).cs = (hs.getD k sgZ).cs := by
  have := v_at h k
  unfold SgR.v at this
  simp only [Prod.mk.injEq] at this
  exact this
theorem atK_v {gs hs : List SgR} (h : gs.map SgR.v = hs.map SgR.v) (base : Int) : ∀ k, atK base gs k = atK base hs k
  | 0 => rfl
  | k + 1 => (v_parts h k).2.1
theorem tmK_v {gs hs : List SgR} (h : gs.map SgR.v = hs.map SgR.v) : ∀ k, tmK gs k = tmK hs k
  | 0 => rfl
  | k + 1 => (v_parts h k).2.2.1
theorem mpK_v {gs hs : List SgR} (h : gs.map SgR.v = hs.map SgR.v) : ∀ k, mpK gs k = mpK hs k
  | 0 => rfl
  | k + 1 => by
    show noteM (mpK gs k) (gs.getD k sgZ).cs = noteM (mpK hs k) (hs.getD k sgZ).cs
    rw [mpK_v h k, (v_parts h k).2.2.2]
theorem lnk_v {gs hs : List SgR} (h : gs.map SgR.v = hs.map SgR.v) (base : Int) (k : Nat) : lnk base gs k = lnk base hs k := by
  obtain ⟨h1, h2, h3, h4⟩ := v_parts h k
  unfold lnk sgB
  rw [h1, h2, h3, h4, atK_v h, tmK_v h, mpK_v h]
theorem chainB_v {gs hs : List SgR} (h : gs.map SgR.v = hs.map SgR.v) (base : Int) : chainB base gs = chainB base hs := by
  unfold chainB
  rw [v_len h, show lnk base gs = lnk base hs from funext (lnk_v h base)]
theorem v_cs {gs hs : List SgR} (h : gs.map SgR.v = hs.map SgR.v) {n : Nat} (hm : ∀ k, k < hs.length → (hs.getD k sgZ).cs.length ≤ n) : ∀ k, k < gs.length → (gs.getD k sgZ).cs.length ≤ n := fun k hk => by
  rw [(v_parts h k).2.2.2]; exact hm k (by rw [← v_len h]; exact hk)
end Go.Proofs.Ytihpadelfpogmaa
/- Vaults in memory; contracts of the laws' functions that count, make and compare vaults; a vault that comes in, opened. Conditions: what is read can be read; copied or compared: at most 1048576 elements of a kind. -/
namespace Go.Proofs.Ytihpadelfpogmaa
set_option linter.unusedVariables false
set_option maxRecDepth 100000
open Go.Joins Go.ChangeShapes Go.WideShapes Go.RowKit Go.Deep

/-- A vault in memory: its super's numbers, and where its lists lie. -/
structure Vl where
  g : Int
  b : Int
  p : Int
  t : Int
  A : Option Addr
  c : Nat
  xs : List Int
  A2 : Option Addr
  c2 : Nat
  ms : List Mrk
  A3 : Option Addr
  c3 : Nat
  gs : List SgR
  A4 : Option Addr
  c4 : Nat
  im : List Int
def Vl.cells (V : Vl) : Array Value := #[.int .i64 V.g, .int .i64 V.b, .int .i64 V.p, .int .i64 V.t, .slice V.A V.xs.length V.c, .slice V.A2 V.ms.length V.c2, .slice V.A3 V.gs.length V.c3, .slice V.A4 V.im.length V.c4]
def Vl.v (V : Vl) : Value := .agg V.cells
/-- What a vault is. -/
def Vl.ok (V : Vl) : Bool := vltB V.g V.b V.p V.t V.xs V.ms V.gs V.im
/-- A vault that is read. -/
structure Vlt (w : World) (B : Nat) (V : Vl) : Prop where
  tab : Ins w B V.A V.xs
  mks : Mks w B V.A2 V.ms
  sgs : Sgs w B V.A3 V.gs
  img : Ins w B V.A4 V.im
theorem Vlt.below {w w' : World} {B B' : Nat} {V : Vl} (h : Vlt w B V) (hb : Below B' w w') (hB : B ≤ B') : Vlt w' B V := ⟨h.tab.below hb hB, h.mks.below hb hB, h.sgs.below hb hB, h.img.below hb hB⟩
theorem Sgs.more {w : World} {B B' : Nat} {A : Option Addr} {gs : List SgR} (h : Sgs w B A gs) (hB : B ≤ B') : Sgs w B' A gs := ⟨h.row.more hB, fun k hk => (h.chs k hk).more hB⟩
theorem Vlt.more {w : World} {B B' : Nat} {V : Vl} (h : Vlt w B V) (hB : B ≤ B') : Vlt w B' V := ⟨h.tab.more hB, h.mks.more hB, h.sgs.more hB, h.img.more hB⟩
/-- How large it is at most. -/
structure VlN (V : Vl) (n : Nat) : Prop where
  xs : V.xs.length ≤ n
  ms : V.ms.length ≤ n
  gs : V.gs.length ≤ n
  cs : ∀ k, k < V.gs.length → (V.gs.getD k sgZ).cs.length ≤ n
  im : V.im.length ≤ n
/-- A vault of the call's own. -/
structure VlO (w : World) (lo : Nat) (V : Vl) : Prop where
  tab : SlI w lo V.A V.xs
  mks : SlM w lo V.A2 V.ms
  sgs : SgO w lo V.A3 V.gs
  img : SlI w lo V.A4 V.im
  cap : V.xs.length ≤ V.c
  cap3 : V.gs.length ≤ V.c3
theorem VlO.nx {w w' : World} {lo : Nat} {V : Vl} (h : VlO w lo V) (hb : Nx w w') : VlO w' lo V := ⟨h.tab.nx hb, h.mks.nx hb, h.sgs.nx hb, h.img.nx hb, h.cap, h.cap3⟩
theorem VlO.low {w : World} {lo lo' : Nat} {V : Vl} (h : VlO w lo V) (hl : lo' ≤ lo) : VlO w lo' V := ⟨h.tab.low hl, h.mks.low hl, h.sgs.low hl, h.img.low hl, h.cap, h.cap3⟩
theorem VlO.vlt {w : World} {lo : Nat} {V : Vl} (h : VlO w lo V) : Vlt w w.heap.size V := ⟨h.tab.row, h.mks.row, h.sgs.sgs, h.img.row⟩
theorem Sl.far_sg {w : World} {lo : Nat} {A : Option Addr} {gs : List SgR} (h : SgO w lo A gs) {p : Addr} (hp : p.block < lo) (v : Value) : SgO (w.setCell p v) lo A gs := ⟨h.row.far hp v, fun k hk => (h.chs k hk).far hp v⟩
/-- Alike in all that they tell. -/
structure VlS (V V' : Vl) : Prop where
  g : V'.g = V.g
  b : V'.b = V.b
  p : V'.p = V.p
  t : V'.t = V.t
  xs : V'.xs = V.xs
  ms : V'.ms = V.ms
  gs : V'.gs.map SgR.v = V.gs.map SgR.v
  im : V'.im = V.im
theorem VlS.len {V V' : Vl} (h : VlS V V') : V'.gs.length = V.gs.length := v_len h.gs
theorem VlS.n {V V' : Vl} {n : Nat} (h : VlS V V') (hn : VlN V n) : VlN V' n := ⟨by rw [h.xs]; exact hn.xs, by rw [h.ms]; exact hn.ms, by rw [h.len]; exact hn.gs, v_cs h.gs hn.cs, by rw [h.im]; exact hn.im⟩
theorem VlS.symm {V V' : Vl} (h : VlS V V') : VlS V' V := ⟨h.g.symm, h.b.symm, h.p.symm, h.t.symm, h.xs.symm, h.ms.symm, h.gs.symm, h.im.symm⟩
theorem VlS.trans {V V' V2 : Vl} (h : VlS V V') (k : VlS V' V2) : VlS V V2 := ⟨k.g.trans h.g, k.b.trans h.b, k.p.trans h.p, k.t.trans h.t, k.xs.trans h.xs, k.ms.trans h.ms, k.gs.trans h.gs, k.im.trans h.im⟩
def RetVl (w : World) (V : Vl) (e : Ending) (w' : World) : Prop := ∃ V' : Vl, e = .returned V'.v ∧ VlS V V' ∧ VlO w' w.heap.size V' ∧ Nx w w'
def costV (V : Vl) : Int := costU V.xs V.ms + ((V.gs.length : Int) + (ssum V.gs V.gs.length : Int)) + V.im.length
theorem Box.e8 {w : World} {g : Nat} {t : TypeId} {v0 v1 v2 v3 v4 v5 v6 v7 : Value} (h : Box w g t #[v0, v1, v2, v3, v4, v5, v6, v7]) : w.cell? ⟨g, 0, none⟩ = some v0 ∧ w.cell? ⟨g, 1, none⟩ = some v1 ∧ w.cell? ⟨g, 2, none⟩ = some v2 ∧ w.cell? ⟨g, 3, none⟩ = some v3 ∧ w.cell? ⟨g, 4, none⟩ = some v4 ∧ w.cell? ⟨g, 5, none⟩ = some v5 ∧ w.cell? ⟨g, 6, none⟩ = some v6 ∧ w.cell? ⟨g, 7, none⟩ = some v7 :=
  ⟨h.cell 0, h.cell 1, h.cell 2, h.cell 3, h.cell 4, h.cell 5, h.cell 6, h.cell 7⟩

set_option maxHeartbeats 2000000 in
theorem szVault_c (V : Vl) (B : Nat) (left : Int) (w : World) (h : Vlt w B V) (hB : B ≤ w.heap.size) (hm : AllM V.ms) (hn : VlN V (2 ^ 63 - 1)) (h0 : 0 ≤ left) (h1 : left ≤ 1048576) :
    Calls Try.prog 14 #[V.v, .int .i64 left] w fun e w' => e = .returned (.int .i64 (szR left (costV V))) ∧ Nx w w' := by
  obtain ⟨g, b, p, t, A, c, xs, A2, c2, ms, A3, c3, gs, A4, c4, im⟩ := V
  obtain ⟨h, h2, h3, h4⟩ := h
  obtain ⟨hn, hn2, hn3, hn4, hn5⟩ := hn
  simp only [Vl.v, Vl.cells] at *
  have HC : Hid (costV ⟨g, b, p, t, A, c, xs, A2, c2, ms, A3, c3, gs, A4, c4, im⟩ = costU xs ms + ((gs.length : Int) + (ssum gs gs.length : Int)) + im.length) := Lib.hid rfl
  obtain ⟨C, HCo⟩ : ∃ C, Hid (costV ⟨g, b, p, t, A, c, xs, A2, c2, ms, A3, c3, gs, A4, c4, im⟩ = C) := ⟨_, rfl⟩
  have HU : Hid (0 ≤ costU xs ms) := Lib.hid (by unfold costU; omega)
  rw [HCo.out] at HC ⊢
  have b0 := Box.new w 28 #[.int .i64 g, .int .i64 b, .int .i64 p, .int .i64 t, .slice A xs.length c, .slice A2 ms.length c2, .slice A3 gs.length c3, .slice A4 im.length c4]
  have hx0 := (Nx.refl w).alloc (.cells #[.int .i64 g, .int .i64 b, .int .i64 p, .int .i64 t, .slice A xs.length c, .slice A2 ms.length c2, .slice A3 gs.length c3, .slice A4 im.length c4] 28)
  go_enter Try.func14, Try.ntmps14
  go_wp2_with fail
  generalize w.alloc (.cells #[.int .i64 g, .int .i64 b, .int .i64 p, .int .i64 t, .slice A xs.length c, .slice A2 ms.length c2, .slice A3 gs.length c3, .slice A4 im.length c4] 28) = W at *
  refine (szSuper_c g b p t A A2 c c2 B xs ms _ _ (h2.below hx0 hB) (Nat.le_trans hB hx0.size) hm hn hn2 h0 h1).mono ?_
  rintro e w1 ⟨rfl, hnx1⟩
  have hx1 := hx0.trans hnx1
  have b1 := b0.nx hnx1
  obtain ⟨_, _, _, _, _, _, y6, y7⟩ := b1.e8
  clear b0 hx0 hnx1
  obtain ⟨cu, Hcu⟩ : ∃ q, Hid (costU xs ms = q) := ⟨_, rfl⟩
  rw [Hcu.out] at HU HC ⊢
  by_cases hle : cu ≤ left
  case neg =>
    rw [← szR_no (by omega)]
    go_wp2
    go_ret
    exact ⟨ret_int (szR_no (by have := HC.out; omega)), hx1⟩
  rw [← szR_yes hle]
  have hd : decide (left - cu < 0) = false := by simp; omega
  go_wp2_with fail
  refine (szSegS_c A3 c3 B gs _ _ (h3.below hx1 hB).row (Nat.le_trans hB hx1.size) hn3 hn4 (by omega) (by have := HU.out; omega)).mono ?_
  rintro e w2 ⟨rfl, hnx2⟩
  have hx2 := hx1.trans hnx2
  have b2 := b1.nx hnx2
  obtain ⟨_, _, _, _, _, _, _, z7⟩ := b2.e8
  clear b1 hx1 hnx2 y6 y7
  obtain ⟨cg, Hcg⟩ : ∃ q, Hid ((gs.length : Int) + (ssum gs gs.length : Int) = q) := ⟨_, rfl⟩
  have hcg : 0 ≤ cg := by have := Hcg.out; omega
  rw [Hcg.out] at HC ⊢
  by_cases hle2 : cg ≤ left - cu
  case neg =>
    rw [← szR_no (by omega)]
    go_wp2
    go_ret
    exact ⟨ret_int (szR_no (by have := HC.out; omega)), hx2⟩
  rw [← szR_yes hle2]
  have hd2 : decide (left - cu - cg < 0) = false := by simp; omega
  go_wp2_with fail
  refine (szIntS_c A4 im.length c4 _ _ hn5 (by omega) (by have := HU.out; omega)).mono ?_
  rintro e w3 ⟨rfl, rfl⟩
  by_cases hle3 : (im.length : Int) ≤ left - cu - cg
  case neg =>
    rw [← szR_no (by omega)]
    go_wp2
    go_ret
    exact ⟨ret_int (szR_no (by have := HC.out; omega)), hx2⟩
  rw [← szR_yes hle3]
  have hd3 : decide (left - cu - cg - (im.length : Int) < 0) = false := by simp; omega
  go_wp2
  go_ret
  refine ⟨ret_int ?_, hx2⟩
  rw [← szR_yes (by have := HC.out; omega)]
  have := HC.out
  omega

set_option maxHeartbeats 4000000 in
theorem eqVault_c (V V' : Vl) (B : Nat) (w : World) (h : Vlt w B V) (h' : Vlt w B V') (hs : VlS V V') (hB : B ≤ w.heap.size) (hn : VlN V 1048576) :
    Calls Try.prog 18 #[V.v, V'.v] w fun e w' => e = .returned (.bool true) ∧ Nx w w' := by
  obtain ⟨g, b, p, t, A, c, xs, A2, c2, ms, A3, c3, gs, A4, c4, im⟩ := V
  obtain ⟨g', b', p', t', A', c', xs', A2', c2', ms', A3', c3', gs', A4', c4', im'⟩ := V'
  obtain ⟨h, h2, h3, h4⟩ := h
  obtain ⟨k, k2, k3, k4⟩ := h'
  obtain ⟨hn, hn2, hn3, hn4, hn5⟩ := hn
  obtain ⟨e1, e2, e3, e4, e5, e6, e7, e8⟩ := hs
  simp only [Vl.v, Vl.cells] at *
  replace e1 := e1.symm
  replace e2 := e2.symm
  replace e3 := e3.symm
  replace e4 := e4.symm
  replace e5 := e5.symm
  replace e6 := e6.symm
  replace e8 := e8.symm
  subst e1 e2 e3 e4 e5 e6 e8
  have b0 := (Box.new w 36 #[.int .i64 g, .int .i64 b, .int .i64 p, .int .i64 t, .slice A xs.length c, .slice A2 ms.length c2, .slice A3 gs.length c3, .slice A4 im.length c4]).alloc (.cells #[.int .i64 g, .int .i64 b, .int .i64 p, .int .i64 t, .slice A' xs.length c', .slice A2' ms.length c2', .slice A3' gs'.length c3', .slice A4' im.length c4'] 36)
  have b1 := Box.new (w.alloc (.cells #[.int .i64 g, .int .i64 b, .int .i64 p, .int .i64 t, .slice A xs.length c, .slice A2 ms.length c2, .slice A3 gs.length c3, .slice A4 im.length c4] 36)) 36 #[.int .i64 g, .int .i64 b, .int .i64 p, .int .i64 t, .slice A' xs.length c', .slice A2' ms.length c2', .slice A3' gs'.length c3', .slice A4' im.length c4']
  have hx0 := ((Nx.refl w).alloc (.cells #[.int .i64 g, .int .i64 b, .int .i64 p, .int .i64 t, .slice A xs.length c, .slice A2 ms.length c2, .slice A3 gs.length c3, .slice A4 im.length c4] 36)).alloc (.cells #[.int .i64 g, .int .i64 b, .int .i64 p, .int .i64 t, .slice A' xs.length c', .slice A2' ms.length c2', .slice A3' gs'.length c3', .slice A4' im.length c4'] 36)
  simp only [World.size_alloc] at b1
  go_enter Try.func18, Try.ntmps18
  go_wp2_with fail
  generalize (w.alloc (.cells #[.int .i64 g, .int .i64 b, .int .i64 p, .int .i64 t, .slice A xs.length c, .slice A2 ms.length c2, .slice A3 gs.length c3, .slice A4 im.length c4] 36)).alloc (.cells #[.int .i64 g, .int .i64 b, .int .i64 p, .int .i64 t, .slice A' xs.length c', .slice A2' ms.length c2', .slice A3' gs'.length c3', .slice A4' im.length c4'] 36) = W at *
  refine (eqSuper_c _ _ _ _ A A2 A' A2' c c2 c' c2' B _ _ _ (h.below hx0 hB) (h2.below hx0 hB) (k.below hx0 hB) (k2.below hx0 hB) (Nat.le_trans hB hx0.size) hn hn2).mono ?_
  rintro e w1 ⟨rfl, hnx1⟩
  have hx1 := hx0.trans hnx1
  have d0 := b0.nx hnx1
  have d1 := b1.nx hnx1
  obtain ⟨_, _, _, _, _, _, y6, y7⟩ := d0.e8
  obtain ⟨_, _, _, _, _, _, z6, z7⟩ := d1.e8
  clear b0 b1 hx0 hnx1
  go_wp2_with fail
  refine (eqSegS_c A3 A3' c3 c3' B gs gs' _ (h3.below hx1 hB) (k3.below hx1 hB) e7.symm (Nat.le_trans hB hx1.size) hn3 hn4).mono ?_
  rintro e w2 ⟨rfl, hnx2⟩
  have hx2 := hx1.trans hnx2
  have f0 := d0.nx hnx2
  have f1 := d1.nx hnx2
  clear y6 y7 z6 z7 d0 d1 hx1 hnx2
  obtain ⟨_, _, _, _, _, _, _, y7⟩ := f0.e8
  obtain ⟨_, _, _, _, _, _, _, z7⟩ := f1.e8
  go_wp2_with fail
  refine (eqIntS_c A4 A4' c4 c4' B _ _ (h4.below hx2 hB) (k4.below hx2 hB) (Nat.le_trans hB hx2.size) hn5).mono ?_
  rintro e w3 ⟨rfl, hnx3⟩
  go_wp2
  go_ret
  exact ⟨rfl, hx2.trans hnx3⟩
end Go.Proofs.Ytihpadelfpogmaa
/- Where a number stands in a list, as the library's Index tells it; rows of ints with one element. Conditions: at most 1048576 elements. -/
namespace Go.Proofs.Ytihpadelfpogmaa
set_option linter.unusedVariables false
set_option maxRecDepth 100000
open Go.RowKit

theorem idx_not {xs : List Int} {x : Int} : ∀ {k : Nat}, NotTo xs k x → k ≤ xs.length → k ≤ idx xs x := by
  induction xs with
  | nil => intro k _ hk; simp at hk; omega
  | cons y xs ih =>
    intro k h hk
    rw [idx_cons]
    match k with
    | 0 => exact Nat.zero_le _
    | k + 1 =>
      have h0 := h 0 (by omega)
      rw [if_neg (by simpa using h0)]
      have := ih (k := k) (fun j hj => by have := h (j + 1) (by omega); simpa using this) (by rw [List.length_cons] at hk; omega)
      omega
theorem idx_hit {xs : List Int} {x : Int} {k : Nat} (h : NotTo xs k x) (hk : k < xs.length) (he : xs.getD k 0 = x) : idx xs x = k := by
  have h1 := idx_not h (by omega)
  have h2 := idx_lt hk he
  omega
theorem hasB_idx (xs : List Int) (x : Int) : hasB xs xs.length x = decide (idx xs x < xs.length) := by
  by_cases h : idx xs x < xs.length
  · rw [decide_eq_true h]; exact hasB_yes h h (idx_at h)
  · rw [decide_eq_false h]
    refine hasB_no fun j hj he => ?_
    have := idx_lt hj he
    omega
theorem isRet_hasB {b : Int} {gs : List SgR} {x : Int} {k : Nat} (hk : k = gs.length + 1) : hasB (retL b gs) k x = isRet b gs x := by
  subst hk
  have := hasB_idx (retL b gs) x
  rw [retL_len] at this
  exact this
/-- As Index tells it. -/
def idxI (xs : List Int) (x : Int) : Int := if idx xs x < xs.length then (idx xs x : Int) else -1
theorem idxI_hit {xs : List Int} {x : Int} {k : Nat} (h : NotTo xs k x) (hk : k < xs.length) (he : xs.getD k 0 = x) : (k : Int) = idxI xs x := by
  unfold idxI
  rw [idx_hit h hk he, if_pos hk]
theorem idxI_none {xs : List Int} {x : Int} (h : NotTo xs xs.length x) : -1 = idxI xs x := by
  unfold idxI
  have := idx_not h (Nat.le_refl _)
  rw [if_neg (by omega)]
theorem idxI_ahd {b : Int} {gs : List SgR} {x : Int} (h : isRet b gs x = true) : idxI (retL b gs) x = (ahd b gs x : Int) := by
  unfold isRet at h
  simp only [decide_eq_true_eq] at h
  unfold idxI
  rw [retL_len, if_pos h]; rfl
set_option maxHeartbeats 1000000 in
theorem indexI_c (A : Option Addr) (n c B : Nat) (xs : List Int) (x : Int) (w : World) (h : Ins w B A xs) (hl : n = xs.length) (hn : xs.length ≤ 1048576) :
    Calls Try.prog 158 #[.slice A n c, .int .i64 x] w fun e w' => e = .returned (.int .i64 (idxI xs x)) ∧ w = w' := by
  have Hl := Lib.hid hl
  have hn' : n ≤ 1048576 := by omega
  clear hl
  go_enter Try.func158, Try.ntmps158
  go_wp2
  go_loop [8] (fun i => ∃ k : Nat, k ≤ n ∧ i = .int .i64 k ∧ NotTo xs k x) (fun i => n - (intOf i).toNat)
  case atStart => exact ⟨0, Nat.zero_le _, rfl, NotTo.zero _ _⟩
  case round =>
    obtain ⟨k, hk, rfl, hto⟩ := hrel
    by_cases hlt : k < n
    · obtain ⟨b, off, rfl, hb, hc⟩ := h.at_ (k := k) (by have := Hl.out; omega)
      obtain ⟨y, Hy⟩ : ∃ y, Hid (xs.getD k 0 = y) := ⟨_, rfl⟩
      rw [Hy.out] at hc
      by_cases he : y = x
      · have hd : (x == y) = true := by simp [he]
        have HR := Lib.hid (idxI_hit hto (by have := Hl.out; omega) (Hy.out.trans he))
        clear he
        go_wp2
        go_ret
        exact ⟨ret_int HR.out, rfl⟩
      · have hd : (x == y) = false := by rw [beq_eq_false_iff_ne]; exact fun h => he h.symm
        have HT := Lib.hid (hto.succ (by rw [Hy.out]; exact he))
        clear he
        go_wp2
        go_round
        case rel => exact ⟨k + 1, by omega, by go_num, HT.out⟩
        case measure => simp [intOf]; omega
    · obtain rfl : k = n := by omega
      have HR := Lib.hid (idxI_none (xs := xs) (x := x) (by rw [← Hl.out]; exact hto))
      go_wp2
      go_ret
      exact ⟨ret_int HR.out, rfl⟩
theorem RowI.one (w : World) {B : Nat} (hB : B ≤ w.heap.size) (x : Int) : RowI (w.alloc (.cells #[.int .i64 x] 3)) B (.slice (some ⟨w.heap.size, 0, none⟩) 1 1) [x] :=
  ⟨rfl, .inr ⟨_, 1, #[.int .i64 x], rfl, hB, heap_alloc_new w _, by simp, by unfold maxLen; omega, rfl, rfl⟩⟩
/-- The first k of what is retained. -/
def retTo (b : Int) (gs : List SgR) (k : Nat) : List Int := b :: (gs.take k).map SgR.t
theorem retTo_zero (b : Int) (gs : List SgR) : retTo b gs 0 = [b] := rfl
theorem retTo_succ {b : Int} {gs : List SgR} {k : Nat} (h : k < gs.length) : retTo b gs (k + 1) = retTo b gs k ++ [(gs.getD k sgZ).t] := by
  unfold retTo
  rw [List.take_succ_eq_append_getElem h, List.map_append, List.getD_eq_getElem?_getD, List.getElem?_eq_getElem h]; rfl
theorem retTo_len {b : Int} {gs : List SgR} {k : Nat} (h : k ≤ gs.length) : (retTo b gs k).length = k + 1 := by
  unfold retTo; simp; omega
theorem retTo_all (b : Int) (gs : List SgR) : retTo b gs gs.length = retL b gs := by
  unfold retTo retL; rw [List.take_length]
end Go.Proofs.Ytihpadelfpogmaa
/- Contracts of the model: what is retained, contents that are alike. Conditions: what is read can be read, and holds at most 1048576 elements of a kind. -/
namespace Go.Proofs.Ytihpadelfpogmaa
set_option linter.unusedVariables false
set_option maxRecDepth 100000
open Go.RowKit

set_option maxHeartbeats 2000000 in
theorem l05Retained_c (V : Vl) (B : Nat) (w : World) (h : Vlt w B V) (hB : B ≤ w.heap.size) (hn : VlN V 1048576) :
    Calls Try.prog 82 #[V.v] w (RetIc w (retL V.b V.gs)) := by
  obtain ⟨g, b, p, t, A, c, xs, A2, c2, ms, A3, c3, gs, A4, c4, im⟩ := V
  obtain ⟨h, h2, h3, h4⟩ := h
  obtain ⟨hn, hn2, hn3, hn4, hn5⟩ := hn
  simp only [Vl.v, Vl.cells] at *
  obtain ⟨n, Hn⟩ : ∃ n, Hid (gs.length = n) := ⟨_, rfl⟩
  have HS := Lib.hid (fun k (hk : k < n) => retTo_succ (b := b) (gs := gs) (k := k) (by rw [Hn.out]; exact hk))
  have HL := Lib.hid (fun k (hk : k ≤ n) => retTo_len (b := b) (gs := gs) (k := k) (by rw [Hn.out]; exact hk))
  have HA := Lib.hid (retTo_all b gs)
  have h3' : ∀ k, k < n → _ := fun k hk w' B' hw hB' => ((h3.below (w' := w') (B' := B') hw hB').row.at4 (k := k) (by rw [Hn.out]; exact hk))
  rw [Hn.out] at hn3 HA ⊢
  have b0 := (Box.new w 36 #[.int .i64 g, .int .i64 b, .int .i64 p, .int .i64 t, .slice A xs.length c, .slice A2 ms.length c2, .slice A3 n c3, .slice A4 im.length c4]).alloc (.cells #[.int .i64 b] 3)
  have hx0 := (Nx.refl w).alloc (.cells #[.int .i64 g, .int .i64 b, .int .i64 p, .int .i64 t, .slice A xs.length c, .slice A2 ms.length c2, .slice A3 n c3, .slice A4 im.length c4] 36)
  have hrow0 := RowI.one (w.alloc (.cells #[.int .i64 g, .int .i64 b, .int .i64 p, .int .i64 t, .slice A xs.length c, .slice A2 ms.length c2, .slice A3 n c3, .slice A4 im.length c4] 36)) (B := w.heap.size + 1) (by simp) b
  rw [World.size_alloc] at hrow0
  have hx1 := hx0.alloc (.cells #[.int .i64 b] 3)
  have hz1 : w.heap.size + 1 ≤ ((w.alloc (.cells #[.int .i64 g, .int .i64 b, .int .i64 p, .int .i64 t, .slice A xs.length c, .slice A2 ms.length c2, .slice A3 n c3, .slice A4 im.length c4] 36)).alloc (.cells #[.int .i64 b] 3)).heap.size := by simp
  clear hx0
  go_enter Try.func82, Try.ntmps82
  go_wp2_with fail
  generalize (w.alloc (.cells #[.int .i64 g, .int .i64 b, .int .i64 p, .int .i64 t, .slice A xs.length c, .slice A2 ms.length c2, .slice A3 n c3, .slice A4 im.length c4] 36)).alloc (.cells #[.int .i64 b] 3) = W at *
  go_loopw [3, 4] (fun v i wr => ∃ (k : Nat), k ≤ n ∧ i = .int .i64 k ∧ (∃ u, u = v ∧ RowI wr (w.heap.size + 1) u (retTo b gs k)) ∧ Nx w wr ∧ Box wr w.heap.size 36 #[.int .i64 g, .int .i64 b, .int .i64 p, .int .i64 t, .slice A xs.length c, .slice A2 ms.length c2, .slice A3 n c3, .slice A4 im.length c4] ∧ w.heap.size + 1 ≤ wr.heap.size) (fun _ i _ => n - (intOf i).toNat)
  case atStart => exact ⟨0, by omega, rfl, ⟨_, rfl, hrow0⟩, hx1, b0, hz1⟩
  case round =>
    obtain ⟨k, hk, rfl, ⟨u, rfl, hrow⟩, hnx, hb, hsz⟩ := hrel
    clear hrow0 hx1 hz1 b0
    obtain ⟨_, _, _, _, _, _, c6, _⟩ := hb.e8
    by_cases hlt : k < n
    case neg =>
      obtain rfl : k = n := by omega
      rw [HA.out] at hrow
      obtain ⟨A', c', rfl, hc', hS⟩ := hrow.slc
      go_wp2
      go_ret
      exact ⟨A', c', rfl, hc', hS.low (by omega), hnx⟩
    obtain ⟨bb, off, rfl, hbb, p0, p1, p2, p3⟩ := h3' k hlt _ _ hnx hB
    have HS' := Lib.hid (HS.out k hlt)
    have HLk := Lib.hid (HL.out k (by omega))
    obtain ⟨q, Hq⟩ : ∃ q, Hid ((gs.getD k sgZ).t = q) := ⟨_, rfl⟩
    rw [Hq.out] at p1 HS'
    clear p0 p2 p3
    have hx2 := (Nx.refl wr).alloc (.cells #[.int .i64 q] 3)
    have hbx := Box.new wr 3 #[.int .i64 q]
    have hrow1 := hrow.nx hx2
    have hnx2 := hnx.trans hx2
    have hb2 := hb.nx hx2
    have hsz2 := Nat.le_trans hsz hx2.size
    have HR := Lib.hid hrow1
    have HB := Lib.hid hbx
    clear hrow hrow1 hbx
    go_wp2_with (at_builtin; refine wpList_addI rfl _ _ rfl (w.heap.size + 1) wr.heap.size _ (retTo b gs k) q rfl rfl HR.out HB.out (by have := HLk.out; omega) hsz2 ?_)
    intro A' k' w' hr' hg'
    have hnx3 := hg'.nx w hnx2 (by omega)
    have hb3 := hg'.box _ _ _ (by decide) hb2
    have hsz3 := Nat.le_trans hsz2 hg'.size
    go_wp2
    go_roundw
    case rel => exact ⟨k + 1, by omega, by go_num, ⟨_, rfl, by rw [HS'.out]; exact hr'⟩, hnx3, hb3, hsz3⟩
    case measure => simp [intOf]; omega

set_option maxHeartbeats 1000000 in
theorem l05Is_c (V : Vl) (x : Int) (B : Nat) (w : World) (h : Vlt w B V) (hB : B ≤ w.heap.size) (hn : VlN V 1048576) (hN : V.gs.length ≤ 4096) :
    Calls Try.prog 73 #[V.v, .int .i64 x] w fun e w' => e = .returned (.bool (isRet V.b V.gs x)) ∧ Nx w w' := by
  have hR := l05Retained_c V B
  obtain ⟨g, b, p, t, A, c, xs, A2, c2, ms, A3, c3, gs, A4, c4, im⟩ := V
  simp only [Vl.v, Vl.cells] at *
  have hx0 := (Nx.refl w).alloc (.cells #[.int .i64 g, .int .i64 b, .int .i64 p, .int .i64 t, .slice A xs.length c, .slice A2 ms.length c2, .slice A3 gs.length c3, .slice A4 im.length c4] 36)
  have HR := Lib.hid hR
  clear hR
  go_enter Try.func73, Try.ntmps73
  go_wp2_with fail
  generalize w.alloc (.cells #[.int .i64 g, .int .i64 b, .int .i64 p, .int .i64 t, .slice A xs.length c, .slice A2 ms.length c2, .slice A3 gs.length c3, .slice A4 im.length c4] 36) = W at *
  refine (HR.out W (h.below hx0 hB) (Nat.le_trans hB hx0.size) hn).mono ?_
  rintro e w1 ⟨A9, c9, rfl, _, hS, hx1⟩
  have hl := retL_len b gs
  have HI := Lib.hid (isRet_hasB (b := b) (gs := gs) (x := x) hl)
  obtain ⟨m, Hm⟩ : ∃ m, Hid ((retL b gs).length = m) := ⟨_, rfl⟩
  have Hl := Lib.hid hl
  clear hl
  rw [Hm.out] at HI ⊢
  go_wp2_with fail
  refine (l04In_c A9 m c9 _ (retL b gs) x _ hS.row (by rw [Hm.out]; exact Nat.le_refl _) (by rw [Hl.out]; omega)).mono ?_
  rintro e w2 ⟨rfl, rfl⟩
  rw [HI.out]
  go_wp2
  go_ret
  exact ⟨rfl, hx0.trans hx1⟩

set_option maxHeartbeats 1000000 in
theorem l05Same_c (A A2 : Option Addr) (c c2 B : Nat) (xs ys : List Int) (w : World) (h : Ins w B A xs) (h2 : Ins w B A2 ys) (hB : B ≤ w.heap.size) (hl : xs.length = 8) (hl2 : ys.length = 8) :
    Calls Try.prog 63 #[.slice A 8 c, .slice A2 8 c2] w fun e w' => e = .returned (.bool (decide (xs = ys))) ∧ Nx w w' := by
  have Hl := Lib.hid hl
  have Hl2 := Lib.hid hl2
  clear hl hl2
  go_enter Try.func63, Try.ntmps63
  go_wp2
  go_loopw [5] (fun i wr => ∃ k : Nat, k ≤ 8 ∧ i = .int .i64 k ∧ (∀ j, j < k → xs.getD j 0 = ys.getD j 0) ∧ Nx w wr) (fun i _ => 8 - (intOf i).toNat)
  case atStart => exact ⟨0, Nat.zero_le _, rfl, fun j hj => absurd hj (by omega), Nx.refl _⟩
  case round =>
    obtain ⟨k, hk, rfl, hto, hnx⟩ := hrel
    by_cases hlt : k < 8
    · obtain ⟨b, off, rfl, hb, hc⟩ := (h.below hnx hB).at_ (k := k) (by rw [Hl.out]; exact hlt)
      obtain ⟨b2, off2, rfl, hb2, hc2⟩ := (h2.below hnx hB).at_ (k := k) (by rw [Hl2.out]; exact hlt)
      have HK := Lib.hid (fun (he : xs.getD k 0 = ys.getD k 0) (j : Nat) (hj : j < k + 1) => if hh : j < k then hto j hh else by obtain rfl : j = k := (by omega); exact he)
      have HNo := Lib.hid (fun (he : xs.getD k 0 ≠ ys.getD k 0) => decide_eq_false (fun hh : xs = ys => he (by rw [hh])))
      clear hto
      obtain ⟨y, Hy⟩ : ∃ y, Hid (xs.getD k 0 = y) := ⟨_, rfl⟩
      obtain ⟨z, Hz⟩ : ∃ z, Hid (ys.getD k 0 = z) := ⟨_, rfl⟩
      rw [Hy.out] at hc
      rw [Hz.out] at hc2
      rw [Hy.out, Hz.out] at HK HNo
      have hk1 : (k : Int) < 8 := by omega
      have hdk : decide (k < 8) = true := decide_eq_true hlt
      go_wp2_with fail
      go_still_tail 8, (by kernel_rfl)
      have hnx1 : Nx w wr.drew := Below.drew hnx
      by_cases he : y = z
      · have hd : (y != z) = false := by simp [he]
        have HT := Lib.hid (HK.out he)
        clear he HK HNo
        try change wpList _ _ _ _ _ wr.drew
        go_wp2
        go_roundw
        case rel => exact ⟨k + 1, by omega, by go_num, HT.out, hnx1⟩
        case measure => simp [intOf]; omega
      · have hd : (y != z) = true := by simp [he]
        have HT := Lib.hid (HNo.out he)
        clear he HK HNo
        try change wpList _ _ _ _ _ wr.drew
        go_wp2
        go_ret
        exact ⟨ret_bool HT.out.symm, hnx1⟩
    · obtain rfl : k = 8 := by omega
      have HT := Lib.hid (decide_eq_true (ext8 Hl.out Hl2.out hto))
      go_wp2
      go_ret
      exact ⟨ret_bool HT.out.symm, hnx⟩
set_option maxHeartbeats 1000000 in
theorem l05Old_c (A2 : Option Addr) (c2 B : Nat) (xs : List Int) (s : SgR) (w : World) (h : Ins w B A2 xs) (hg : Chs w B s.A s.cs) (hB : B ≤ w.heap.size) (hok : chsB s.cs = true) (h8 : xs.length = 8) :
    Calls Try.prog 75 #[.slice A2 8 c2, .agg #[.int .i64 s.f, .int .i64 s.t, .int .i64 s.m, .slice s.A s.cs.length s.c]] w fun e w' => e = .returned (.bool (oldB xs s)) ∧ Nx w w' := by
  obtain ⟨f, t, m, A, c, cs⟩ := s
  simp only at *
  have HO : Hid (oldB xs ⟨f, t, m, A, c, cs⟩ = decide (app pO xs cs = xs)) := Lib.hid rfl
  rw [HO.out]
  have hx0 := (Nx.refl w).alloc (.cells #[.int .i64 f, .int .i64 t, .int .i64 m, .slice A cs.length c] 54)
  have H8 := Lib.hid h8
  clear h8
  go_enter Try.func75, Try.ntmps75
  go_wp2_with fail
  generalize w.alloc (.cells #[.int .i64 f, .int .i64 t, .int .i64 m, .slice A cs.length c] 54) = W at *
  have hbk := l03Backward_c A2 c2 B xs f t m A c cs W (h.below hx0 hB) (hg.below hx0 hB) (Nat.le_trans hB hx0.size) hok H8.out
  rw [H8.out] at hbk
  refine hbk.mono ?_
  rintro e w1 ⟨A9, c9, rfl, hS, hx1⟩
  have hla : (app pO xs cs).length = 8 := by rw [app_len, H8.out]
  have hX := hx0.trans hx1
  have hrow := hS.row
  clear hbk hS
  obtain ⟨ys, Hys⟩ : ∃ ys, Hid (app pO xs cs = ys) := ⟨_, rfl⟩
  rw [Hys.out] at hla hrow ⊢
  rw [hla]
  have Hla := Lib.hid hla
  clear hla
  go_wp2_with fail
  refine (l05Same_c A9 A2 c9 c2 _ ys xs _ hrow ((h.below hX hB).more (Nat.le_trans hB hX.size)) (Nat.le_refl _) Hla.out H8.out).mono ?_
  rintro e w2 ⟨rfl, hx2⟩
  go_wp2
  go_ret
  exact ⟨ret_bool (by rw [Hys.out]), hX.trans hx2⟩
end Go.Proofs.Ytihpadelfpogmaa
/- Contracts of the model: the segment that the next step goes over. Conditions: what is read can be read, and holds at most 1048576 elements of a kind. -/
namespace Go.Proofs.Ytihpadelfpogmaa
set_option linter.unusedVariables false
set_option maxRecDepth 100000
open Go.RowKit

/-- The segment that the next step goes over, and whether forwards. -/
def stI (b p t : Int) (gs : List SgR) : Int × Bool := if p < t then ((ahd b gs p : Int), true) else if t < p then ((ahd b gs p : Int) - 1, false) else (-1, false)
theorem Box.g8 {w : World} {g : Nat} {t : TypeId} {v0 v1 v2 v3 v4 v5 v6 v7 : Value} (h : Box w g t #[v0, v1, v2, v3, v4, v5, v6, v7]) : w.cell? ⟨g, 0, none⟩ = some v0 ∧ w.cell? ⟨g, 1, none⟩ = some v1 ∧ w.cell? ⟨g, 2, none⟩ = some v2 ∧ w.cell? ⟨g, 3, none⟩ = some v3 ∧ w.cell? ⟨g, 4, none⟩ = some v4 ∧ w.cell? ⟨g, 5, none⟩ = some v5 ∧ w.cell? ⟨g, 6, none⟩ = some v6 ∧ w.cell? ⟨g, 7, none⟩ = some v7 := h.e8
set_option maxHeartbeats 4000000 in
theorem l05Step_c (V : Vl) (B : Nat) (w : World) (h : Vlt w B V) (hB : B ≤ w.heap.size) (hn : VlN V 1048576) (hl : Lead V.b V.gs) (hp : isRet V.b V.gs V.p = true) (hd : (V.p < V.t → ahd V.b V.gs V.p < V.gs.length) ∧ (V.t < V.p → 0 < ahd V.b V.gs V.p)) :
    Calls Try.prog 131 #[V.v] w fun e w' => e = .returned (.tuple #[.int .i64 (stI V.b V.p V.t V.gs).1, .bool (stI V.b V.p V.t V.gs).2]) ∧ Nx w w' := by
  obtain ⟨g, b, p, t, A, c, xs, A2, c2, ms, A3, c3, gs, A4, c4, im⟩ := V
  obtain ⟨h, h2, h3, h4⟩ := h
  obtain ⟨hn, hn2, hn3, hn4, hn5⟩ := hn
  simp only [Vl.v, Vl.cells] at *
  obtain ⟨a, Ha⟩ : ∃ a, Hid (ahd b gs p = a) := ⟨_, rfl⟩
  have ha := ahd_at hp
  have HST : Hid (stI b p t gs = if p < t then ((a : Int), true) else if t < p then ((a : Int) - 1, false) else (-1, false)) := Lib.hid (by rw [← Ha.out]; rfl)
  rw [HST.out]
  rw [Ha.out] at ha hd
  obtain ⟨n, Hn⟩ : ∃ n, Hid (gs.length = n) := ⟨_, rfl⟩
  have h3' : ∀ k, k < n → _ := fun k hk w' B' hw hB' => ((h3.below (w' := w') (B' := B') hw hB').row.at4 (k := k) (by rw [Hn.out]; exact hk))
  have HF := Lib.hid (fun k (hk : k < n) => hl.from_ k (by rw [Hn.out]; exact hk))
  have HI := Lib.hid (fun k (hk : k ≤ n) (he : atK b gs k = p) => hl.inj (j := k) (k := a) (by rw [Hn.out]; exact hk) ha.1 (he.trans ha.2.symm))
  have HA := Lib.hid ha.2
  have ha1 := ha.1
  rw [Hn.out] at hn3 hd ha1 ⊢
  have b0 := Box.new w 36 #[.int .i64 g, .int .i64 b, .int .i64 p, .int .i64 t, .slice A xs.length c, .slice A2 ms.length c2, .slice A3 n c3, .slice A4 im.length c4]
  have hx0 := (Nx.refl w).alloc (.cells #[.int .i64 g, .int .i64 b, .int .i64 p, .int .i64 t, .slice A xs.length c, .slice A2 ms.length c2, .slice A3 n c3, .slice A4 im.length c4] 36)
  clear hl hp ha h3
  by_cases hlt : p < t
  · rw [if_pos hlt]
    have hd1 : decide (p < t) = true := decide_eq_true hlt
    have hd2 : decide (t < p) = false := decide_eq_false (by omega)
    have han := hd.1 hlt
    clear hd hlt
    go_enter Try.func131, Try.ntmps131
    go_wp2_with fail
    generalize w.alloc (.cells #[.int .i64 g, .int .i64 b, .int .i64 p, .int .i64 t, .slice A xs.length c, .slice A2 ms.length c2, .slice A3 n c3, .slice A4 im.length c4] 36) = W at *
    go_loopw [4] (fun i wr => ∃ (k : Nat), k ≤ a ∧ i = .int .i64 k ∧ Nx w wr ∧ Box wr w.heap.size 36 #[.int .i64 g, .int .i64 b, .int .i64 p, .int .i64 t, .slice A xs.length c, .slice A2 ms.length c2, .slice A3 n c3, .slice A4 im.length c4]) (fun i _ => n - (intOf i).toNat)
    case atStart => exact ⟨0, by omega, rfl, hx0, b0⟩
    case round =>
      obtain ⟨k, hk, rfl, hnx, hb⟩ := hrel
      clear hx0 b0
      have hkn : k < n := by omega
      obtain ⟨_, _, _, _, _, _, c6, _⟩ := hb.e8
      obtain ⟨bb, off, rfl, hbb, p0, p1, p2, p3⟩ := h3' k hkn _ _ hnx hB
      have hF := HF.out k hkn
      have hT : (gs.getD k sgZ).t = atK b gs (k + 1) := rfl
      obtain ⟨⟨f, t9, m, Ac, cc, cs⟩, Hs⟩ : ∃ s, Hid (gs.getD k sgZ = s) := ⟨_, rfl⟩
      rw [Hs.out] at p0 p1 p2 p3 hF hT
      simp only at p0 p1 p2 p3 hF hT
      have hkc : (k : Int) < (n : Int) := by omega
      have hk0 : (0 : Int) ≤ (k : Int) := by omega
      have hbd : Box wr.drew w.heap.size 36 #[.int .i64 g, .int .i64 b, .int .i64 p, .int .i64 t, .slice A xs.length c, .slice A2 ms.length c2, .slice (some ⟨bb, off, none⟩) n c3, .slice A4 im.length c4] := hb
      by_cases hka : k = a
      · have hfe : (f == p) = true := by rw [beq_iff_eq, hF, hka]; exact HA.out
        have HKA := Lib.hid hka
        clear hF hT hka
        go_wp2_with fail
        refine wp_region_lex [false, false, false, false, false, false, false, false, false, false, false, false, false, false, false, false, false, false, false] (fun w' => (w'.cell? ⟨w.heap.size, 0, none⟩ = some (.int .i64 g) ∧ w'.cell? ⟨w.heap.size, 1, none⟩ = some (.int .i64 b) ∧ w'.cell? ⟨w.heap.size, 2, none⟩ = some (.int .i64 p) ∧ w'.cell? ⟨w.heap.size, 3, none⟩ = some (.int .i64 t) ∧ w'.cell? ⟨w.heap.size, 4, none⟩ = some (.slice A xs.length c) ∧ w'.cell? ⟨w.heap.size, 5, none⟩ = some (.slice A2 ms.length c2) ∧ w'.cell? ⟨w.heap.size, 6, none⟩ = some (.slice (some ⟨bb, off, none⟩) n c3) ∧ w'.cell? ⟨w.heap.size, 7, none⟩ = some (.slice A4 im.length c4)) ∧ w'.cell? ⟨bb, off + k * 4, none⟩ = some (.int .i64 f) ∧ w'.cell? ⟨bb, off + k * 4 + 1, none⟩ = some (.int .i64 t9) ∧ w'.cell? ⟨bb, off + k * 4 + 2, none⟩ = some (.int .i64 m) ∧ w'.cell? ⟨bb, off + k * 4 + 3, none⟩ = some (.slice Ac cs.length cc)) (by kernel_rfl) (by kernel_rfl) rfl (by kernel_rfl) (fun _ _ d _ _ h => by cases d <;> exact h) (by exact ⟨hbd.e8, p0, p1, p2, p3⟩) ?_
        repeat (first | (refine HL.take (v := ?_) (by rfl) ?_ ?_; rotate_left; (· (intro w hSw; (try dsimp only at hSw); go_simp; try with_reducible rfl)); (try simp only [Act.put, List.setIfInBounds_toArray, List.set_cons_zero, List.set_cons_succ])) | (refine HL.skip (by rfl) ?_; (try simp only [Act.put, List.setIfInBounds_toArray, List.set_cons_zero, List.set_cons_succ])))
        refine HL.done ?_
        go_wp2
        exact bodyPost_ret (v := .tuple #[.int .i64 k, .bool true]) (by simp [results, Try.results131, go_sem]) rfl ⟨by rw [HKA.out], hnx.drew⟩
      · have hfe : (f == p) = false := by rw [beq_eq_false_iff_ne, hF]; exact fun he => hka (HI.out k (by omega) he)
        have HKA := Lib.hid hka
        clear hF hT hka
        go_wp2_with fail
        refine wp_region_lex [false, false, false, false, false, false, false, false, false, false, false, false, false, false, false, false, false, false, false] (fun w' => (w'.cell? ⟨w.heap.size, 0, none⟩ = some (.int .i64 g) ∧ w'.cell? ⟨w.heap.size, 1, none⟩ = some (.int .i64 b) ∧ w'.cell? ⟨w.heap.size, 2, none⟩ = some (.int .i64 p) ∧ w'.cell? ⟨w.heap.size, 3, none⟩ = some (.int .i64 t) ∧ w'.cell? ⟨w.heap.size, 4, none⟩ = some (.slice A xs.length c) ∧ w'.cell? ⟨w.heap.size, 5, none⟩ = some (.slice A2 ms.length c2) ∧ w'.cell? ⟨w.heap.size, 6, none⟩ = some (.slice (some ⟨bb, off, none⟩) n c3) ∧ w'.cell? ⟨w.heap.size, 7, none⟩ = some (.slice A4 im.length c4)) ∧ w'.cell? ⟨bb, off + k * 4, none⟩ = some (.int .i64 f) ∧ w'.cell? ⟨bb, off + k * 4 + 1, none⟩ = some (.int .i64 t9) ∧ w'.cell? ⟨bb, off + k * 4 + 2, none⟩ = some (.int .i64 m) ∧ w'.cell? ⟨bb, off + k * 4 + 3, none⟩ = some (.slice Ac cs.length cc)) (by kernel_rfl) (by kernel_rfl) rfl (by kernel_rfl) (fun _ _ d _ _ h => by cases d <;> exact h) (by exact ⟨hbd.e8, p0, p1, p2, p3⟩) ?_
        repeat (first | (refine HL.take (v := ?_) (by rfl) ?_ ?_; rotate_left; (· (intro w hSw; (try dsimp only at hSw); go_simp; try with_reducible rfl)); (try simp only [Act.put, List.setIfInBounds_toArray, List.set_cons_zero, List.set_cons_succ])) | (refine HL.skip (by rfl) ?_; (try simp only [Act.put, List.setIfInBounds_toArray, List.set_cons_zero, List.set_cons_succ])))
        refine HL.done ?_
        have p0 : wr.drew.cell? ⟨bb, off + k * 4, none⟩ = _ := p0
        have p1 : wr.drew.cell? ⟨bb, off + k * 4 + 1, none⟩ = _ := p1
        have p2 : wr.drew.cell? ⟨bb, off + k * 4 + 2, none⟩ = _ := p2
        have p3 : wr.drew.cell? ⟨bb, off + k * 4 + 3, none⟩ = _ := p3
        have hnxd := hnx.drew
        go_wp2_with fail
        generalize wr.drew = wr at *
        have hbd : Box wr.drew w.heap.size 36 #[.int .i64 g, .int .i64 b, .int .i64 p, .int .i64 t, .slice A xs.length c, .slice A2 ms.length c2, .slice (some ⟨bb, off, none⟩) n c3, .slice A4 im.length c4] := hbd
        refine wp_region_lex [false, false, false, false, false, false, false, false, false, false, false, false, false, false, false, false, false, false, false] (fun w' => (w'.cell? ⟨w.heap.size, 0, none⟩ = some (.int .i64 g) ∧ w'.cell? ⟨w.heap.size, 1, none⟩ = some (.int .i64 b) ∧ w'.cell? ⟨w.heap.size, 2, none⟩ = some (.int .i64 p) ∧ w'.cell? ⟨w.heap.size, 3, none⟩ = some (.int .i64 t) ∧ w'.cell? ⟨w.heap.size, 4, none⟩ = some (.slice A xs.length c) ∧ w'.cell? ⟨w.heap.size, 5, none⟩ = some (.slice A2 ms.length c2) ∧ w'.cell? ⟨w.heap.size, 6, none⟩ = some (.slice (some ⟨bb, off, none⟩) n c3) ∧ w'.cell? ⟨w.heap.size, 7, none⟩ = some (.slice A4 im.length c4)) ∧ w'.cell? ⟨bb, off + k * 4, none⟩ = some (.int .i64 f) ∧ w'.cell? ⟨bb, off + k * 4 + 1, none⟩ = some (.int .i64 t9) ∧ w'.cell? ⟨bb, off + k * 4 + 2, none⟩ = some (.int .i64 m) ∧ w'.cell? ⟨bb, off + k * 4 + 3, none⟩ = some (.slice Ac cs.length cc)) (by kernel_rfl) (by kernel_rfl) rfl (by kernel_rfl) (fun _ _ d _ _ h => by cases d <;> exact h) (by exact ⟨hbd.e8, p0, p1, p2, p3⟩) ?_
        repeat (first | (refine HL.take (v := ?_) (by rfl) ?_ ?_; rotate_left; (· (intro w hSw; (try dsimp only at hSw); go_simp; try with_reducible rfl)); (try simp only [Act.put, List.setIfInBounds_toArray, List.set_cons_zero, List.set_cons_succ])) | (refine HL.skip (by rfl) ?_; (try simp only [Act.put, List.setIfInBounds_toArray, List.set_cons_zero, List.set_cons_succ])))
        refine HL.done ?_
        go_wp2
        go_roundw
        case rel => exact ⟨k + 1, by have := HKA.out; omega, by go_num, hnxd.drew, hbd⟩
        case measure => simp [intOf]; omega
  by_cases hgt : t < p
  · rw [if_neg hlt, if_pos hgt]
    have hd1 : decide (p < t) = false := decide_eq_false hlt
    have hd2 : decide (t < p) = true := decide_eq_true hgt
    have han := hd.2 hgt
    clear hd hgt hlt
    go_enter Try.func131, Try.ntmps131
    go_wp2_with fail
    generalize w.alloc (.cells #[.int .i64 g, .int .i64 b, .int .i64 p, .int .i64 t, .slice A xs.length c, .slice A2 ms.length c2, .slice A3 n c3, .slice A4 im.length c4] 36) = W at *
    go_loopw [4] (fun i wr => ∃ (k : Nat), k ≤ (a - 1) ∧ i = .int .i64 k ∧ Nx w wr ∧ Box wr w.heap.size 36 #[.int .i64 g, .int .i64 b, .int .i64 p, .int .i64 t, .slice A xs.length c, .slice A2 ms.length c2, .slice A3 n c3, .slice A4 im.length c4]) (fun i _ => n - (intOf i).toNat)
    case atStart => exact ⟨0, by omega, rfl, hx0, b0⟩
    case round =>
      obtain ⟨k, hk, rfl, hnx, hb⟩ := hrel
      clear hx0 b0
      have hkn : k < n := by omega
      obtain ⟨_, _, _, _, _, _, c6, _⟩ := hb.e8
      obtain ⟨bb, off, rfl, hbb, p0, p1, p2, p3⟩ := h3' k hkn _ _ hnx hB
      have hF := HF.out k hkn
      have hT : (gs.getD k sgZ).t = atK b gs (k + 1) := rfl
      obtain ⟨⟨f, t9, m, Ac, cc, cs⟩, Hs⟩ : ∃ s, Hid (gs.getD k sgZ = s) := ⟨_, rfl⟩
      rw [Hs.out] at p0 p1 p2 p3 hF hT
      simp only at p0 p1 p2 p3 hF hT
      have hkc : (k : Int) < (n : Int) := by omega
      have hk0 : (0 : Int) ≤ (k : Int) := by omega
      have hbd : Box wr.drew w.heap.size 36 #[.int .i64 g, .int .i64 b, .int .i64 p, .int .i64 t, .slice A xs.length c, .slice A2 ms.length c2, .slice (some ⟨bb, off, none⟩) n c3, .slice A4 im.length c4] := hb
      by_cases hka : k + 1 = a
      · have hfe : (t9 == p) = true := by rw [beq_iff_eq, hT, hka]; exact HA.out
        have HKA := Lib.hid hka
        clear hF hT hka
        go_wp2_with fail
        refine wp_region_lex [false, false, false, false, false, false, false, false, false, false, false, false, false, false, false, false, false, false, false] (fun w' => (w'.cell? ⟨w.heap.size, 0, none⟩ = some (.int .i64 g) ∧ w'.cell? ⟨w.heap.size, 1, none⟩ = some (.int .i64 b) ∧ w'.cell? ⟨w.heap.size, 2, none⟩ = some (.int .i64 p) ∧ w'.cell? ⟨w.heap.size, 3, none⟩ = some (.int .i64 t) ∧ w'.cell? ⟨w.heap.size, 4, none⟩ = some (.slice A xs.length c) ∧ w'.cell? ⟨w.heap.size, 5, none⟩ = some (.slice A2 ms.length c2) ∧ w'.cell? ⟨w.heap.size, 6, none⟩ = some (.slice (some ⟨bb, off, none⟩) n c3) ∧ w'.cell? ⟨w.heap.size, 7, none⟩ = some (.slice A4 im.length c4)) ∧ w'.cell? ⟨bb, off + k * 4, none⟩ = some (.int .i64 f) ∧ w'.cell? ⟨bb, off + k * 4 + 1, none⟩ = some (.int .i64 t9) ∧ w'.cell? ⟨bb, off + k * 4 + 2, none⟩ = some (.int .i64 m) ∧ w'.cell? ⟨bb, off + k * 4 + 3, none⟩ = some (.slice Ac cs.length cc)) (by kernel_rfl) (by kernel_rfl) rfl (by kernel_rfl) (fun _ _ d _ _ h => by cases d <;> exact h) (by exact ⟨hbd.e8, p0, p1, p2, p3⟩) ?_
        repeat (first | (refine HL.take (v := ?_) (by rfl) ?_ ?_; rotate_left; (· (intro w hSw; (try dsimp only at hSw); go_simp; try with_reducible rfl)); (try simp only [Act.put, List.setIfInBounds_toArray, List.set_cons_zero, List.set_cons_succ])) | (refine HL.skip (by rfl) ?_; (try simp only [Act.put, List.setIfInBounds_toArray, List.set_cons_zero, List.set_cons_succ])))
        refine HL.done ?_
        have p0 : wr.drew.cell? ⟨bb, off + k * 4, none⟩ = _ := p0
        have p1 : wr.drew.cell? ⟨bb, off + k * 4 + 1, none⟩ = _ := p1
        have p2 : wr.drew.cell? ⟨bb, off + k * 4 + 2, none⟩ = _ := p2
        have p3 : wr.drew.cell? ⟨bb, off + k * 4 + 3, none⟩ = _ := p3
        have hnxd := hnx.drew
        go_wp2_with fail
        generalize wr.drew = wr at *
        have hbd : Box wr.drew w.heap.size 36 #[.int .i64 g, .int .i64 b, .int .i64 p, .int .i64 t, .slice A xs.length c, .slice A2 ms.length c2, .slice (some ⟨bb, off, none⟩) n c3, .slice A4 im.length c4] := hbd
        refine wp_region_lex [false, false, false, false, false, false, false, false, false, false, false, false, false, false, false, false, false, false, false] (fun w' => (w'.cell? ⟨w.heap.size, 0, none⟩ = some (.int .i64 g) ∧ w'.cell? ⟨w.heap.size, 1, none⟩ = some (.int .i64 b) ∧ w'.cell? ⟨w.heap.size, 2, none⟩ = some (.int .i64 p) ∧ w'.cell? ⟨w.heap.size, 3, none⟩ = some (.int .i64 t) ∧ w'.cell? ⟨w.heap.size, 4, none⟩ = some (.slice A xs.length c) ∧ w'.cell? ⟨w.heap.size, 5, none⟩ = some (.slice A2 ms.length c2) ∧ w'.cell? ⟨w.heap.size, 6, none⟩ = some (.slice (some ⟨bb, off, none⟩) n c3) ∧ w'.cell? ⟨w.heap.size, 7, none⟩ = some (.slice A4 im.length c4)) ∧ w'.cell? ⟨bb, off + k * 4, none⟩ = some (.int .i64 f) ∧ w'.cell? ⟨bb, off + k * 4 + 1, none⟩ = some (.int .i64 t9) ∧ w'.cell? ⟨bb, off + k * 4 + 2, none⟩ = some (.int .i64 m) ∧ w'.cell? ⟨bb, off + k * 4 + 3, none⟩ = some (.slice Ac cs.length cc)) (by kernel_rfl) (by kernel_rfl) rfl (by kernel_rfl) (fun _ _ d _ _ h => by cases d <;> exact h) (by exact ⟨hbd.e8, p0, p1, p2, p3⟩) ?_
        repeat (first | (refine HL.take (v := ?_) (by rfl) ?_ ?_; rotate_left; (· (intro w hSw; (try dsimp only at hSw); go_simp; try with_reducible rfl)); (try simp only [Act.put, List.setIfInBounds_toArray, List.set_cons_zero, List.set_cons_succ])) | (refine HL.skip (by rfl) ?_; (try simp only [Act.put, List.setIfInBounds_toArray, List.set_cons_zero, List.set_cons_succ])))
        refine HL.done ?_
        go_wp2
        exact bodyPost_ret (v := .tuple #[.int .i64 k, .bool false]) (by simp [results, Try.results131, go_sem]) rfl ⟨by rw [show (a : Int) - 1 = (k : Int) by have := HKA.out; omega], hnxd.drew⟩
      · have hfe : (t9 == p) = false := by rw [beq_eq_false_iff_ne, hT]; exact fun he => hka (HI.out (k + 1) (by omega) he)
        have HKA := Lib.hid hka
        clear hF hT hka
        go_wp2_with fail
        refine wp_region_lex [false, false, false, false, false, false, false, false, false, false, false, false, false, false, false, false, false, false, false] (fun w' => (w'.cell? ⟨w.heap.size, 0, none⟩ = some (.int .i64 g) ∧ w'.cell? ⟨w.heap.size, 1, none⟩ = some (.int .i64 b) ∧ w'.cell? ⟨w.heap.size, 2, none⟩ = some (.int .i64 p) ∧ w'.cell? ⟨w.heap.size, 3, none⟩ = some (.int .i64 t) ∧ w'.cell? ⟨w.heap.size, 4, none⟩ = some (.slice A xs.length c) ∧ w'.cell? ⟨w.heap.size, 5, none⟩ = some (.slice A2 ms.length c2) ∧ w'.cell? ⟨w.heap.size, 6, none⟩ = some (.slice (some ⟨bb, off, none⟩) n c3) ∧ w'.cell? ⟨w.heap.size, 7, none⟩ = some (.slice A4 im.length c4)) ∧ w'.cell? ⟨bb, off + k * 4, none⟩ = some (.int .i64 f) ∧ w'.cell? ⟨bb, off + k * 4 + 1, none⟩ = some (.int .i64 t9) ∧ w'.cell? ⟨bb, off + k * 4 + 2, none⟩ = some (.int .i64 m) ∧ w'.cell? ⟨bb, off + k * 4 + 3, none⟩ = some (.slice Ac cs.length cc)) (by kernel_rfl) (by kernel_rfl) rfl (by kernel_rfl) (fun _ _ d _ _ h => by cases d <;> exact h) (by exact ⟨hbd.e8, p0, p1, p2, p3⟩) ?_
        repeat (first | (refine HL.take (v := ?_) (by rfl) ?_ ?_; rotate_left; (· (intro w hSw; (try dsimp only at hSw); go_simp; try with_reducible rfl)); (try simp only [Act.put, List.setIfInBounds_toArray, List.set_cons_zero, List.set_cons_succ])) | (refine HL.skip (by rfl) ?_; (try simp only [Act.put, List.setIfInBounds_toArray, List.set_cons_zero, List.set_cons_succ])))
        refine HL.done ?_
        have p0 : wr.drew.cell? ⟨bb, off + k * 4, none⟩ = _ := p0
        have p1 : wr.drew.cell? ⟨bb, off + k * 4 + 1, none⟩ = _ := p1
        have p2 : wr.drew.cell? ⟨bb, off + k * 4 + 2, none⟩ = _ := p2
        have p3 : wr.drew.cell? ⟨bb, off + k * 4 + 3, none⟩ = _ := p3
        have hnxd := hnx.drew
        go_wp2_with fail
        generalize wr.drew = wr at *
        have hbd : Box wr.drew w.heap.size 36 #[.int .i64 g, .int .i64 b, .int .i64 p, .int .i64 t, .slice A xs.length c, .slice A2 ms.length c2, .slice (some ⟨bb, off, none⟩) n c3, .slice A4 im.length c4] := hbd
        refine wp_region_lex [false, false, false, false, false, false, false, false, false, false, false, false, false, false, false, false, false, false, false] (fun w' => (w'.cell? ⟨w.heap.size, 0, none⟩ = some (.int .i64 g) ∧ w'.cell? ⟨w.heap.size, 1, none⟩ = some (.int .i64 b) ∧ w'.cell? ⟨w.heap.size, 2, none⟩ = some (.int .i64 p) ∧ w'.cell? ⟨w.heap.size, 3, none⟩ = some (.int .i64 t) ∧ w'.cell? ⟨w.heap.size, 4, none⟩ = some (.slice A xs.length c) ∧ w'.cell? ⟨w.heap.size, 5, none⟩ = some (.slice A2 ms.length c2) ∧ w'.cell? ⟨w.heap.size, 6, none⟩ = some (.slice (some ⟨bb, off, none⟩) n c3) ∧ w'.cell? ⟨w.heap.size, 7, none⟩ = some (.slice A4 im.length c4)) ∧ w'.cell? ⟨bb, off + k * 4, none⟩ = some (.int .i64 f) ∧ w'.cell? ⟨bb, off + k * 4 + 1, none⟩ = some (.int .i64 t9) ∧ w'.cell? ⟨bb, off + k * 4 + 2, none⟩ = some (.int .i64 m) ∧ w'.cell? ⟨bb, off + k * 4 + 3, none⟩ = some (.slice Ac cs.length cc)) (by kernel_rfl) (by kernel_rfl) rfl (by kernel_rfl) (fun _ _ d _ _ h => by cases d <;> exact h) (by exact ⟨hbd.e8, p0, p1, p2, p3⟩) ?_
        repeat (first | (refine HL.take (v := ?_) (by rfl) ?_ ?_; rotate_left; (· (intro w hSw; (try dsimp only at hSw); go_simp; try with_reducible rfl)); (try simp only [Act.put, List.setIfInBounds_toArray, List.set_cons_zero, List.set_cons_succ])) | (refine HL.skip (by rfl) ?_; (try simp only [Act.put, List.setIfInBounds_toArray, List.set_cons_zero, List.set_cons_succ])))
        refine HL.done ?_
        go_wp2
        go_roundw
        case rel => exact ⟨k + 1, by have := HKA.out; omega, by go_num, hnxd.drew, hbd⟩
        case measure => simp [intOf]; omega
  rw [if_neg hlt, if_neg hgt]
  have hd1 : decide (p < t) = false := decide_eq_false hlt
  have hd2 : decide (t < p) = false := decide_eq_false hgt
  clear hd hlt hgt
  go_enter Try.func131, Try.ntmps131
  go_wp2_with fail
  generalize w.alloc (.cells #[.int .i64 g, .int .i64 b, .int .i64 p, .int .i64 t, .slice A xs.length c, .slice A2 ms.length c2, .slice A3 n c3, .slice A4 im.length c4] 36) = W at *
  go_loopw [4] (fun i wr => ∃ (k : Nat), k ≤ n ∧ i = .int .i64 k ∧ Nx w wr ∧ Box wr w.heap.size 36 #[.int .i64 g, .int .i64 b, .int .i64 p, .int .i64 t, .slice A xs.length c, .slice A2 ms.length c2, .slice A3 n c3, .slice A4 im.length c4]) (fun i _ => n - (intOf i).toNat)
  case atStart => exact ⟨0, by omega, rfl, hx0, b0⟩
  case round =>
    obtain ⟨k, hk, rfl, hnx, hb⟩ := hrel
    clear hx0 b0
    by_cases hkn : k < n
    case neg =>
      obtain rfl : k = n := by omega
      obtain ⟨_, _, _, _, _, _, c6, _⟩ := hb.e8
      go_wp2
      exact bodyPost_ret (v := .tuple #[.int .i64 (-1), .bool false]) (by simp [results, Try.results131, go_sem]) rfl ⟨rfl, hnx⟩
    obtain ⟨_, _, _, _, _, _, c6, _⟩ := hb.e8
    obtain ⟨bb, off, rfl, hbb, p0, p1, p2, p3⟩ := h3' k hkn _ _ hnx hB
    have hF := HF.out k hkn
    have hT : (gs.getD k sgZ).t = atK b gs (k + 1) := rfl
    obtain ⟨⟨f, t9, m, Ac, cc, cs⟩, Hs⟩ : ∃ s, Hid (gs.getD k sgZ = s) := ⟨_, rfl⟩
    rw [Hs.out] at p0 p1 p2 p3 hF hT
    simp only at p0 p1 p2 p3 hF hT
    have hkc : (k : Int) < (n : Int) := by omega
    have hk0 : (0 : Int) ≤ (k : Int) := by omega
    have hbd : Box wr.drew w.heap.size 36 #[.int .i64 g, .int .i64 b, .int .i64 p, .int .i64 t, .slice A xs.length c, .slice A2 ms.length c2, .slice (some ⟨bb, off, none⟩) n c3, .slice A4 im.length c4] := hb
    clear hF hT
    go_wp2_with fail
    refine wp_region_lex [false, false, false, false, false, false, false, false, false, false, false, false, false, false, false, false, false, false, false] (fun w' => (w'.cell? ⟨w.heap.size, 0, none⟩ = some (.int .i64 g) ∧ w'.cell? ⟨w.heap.size, 1, none⟩ = some (.int .i64 b) ∧ w'.cell? ⟨w.heap.size, 2, none⟩ = some (.int .i64 p) ∧ w'.cell? ⟨w.heap.size, 3, none⟩ = some (.int .i64 t) ∧ w'.cell? ⟨w.heap.size, 4, none⟩ = some (.slice A xs.length c) ∧ w'.cell? ⟨w.heap.size, 5, none⟩ = some (.slice A2 ms.length c2) ∧ w'.cell? ⟨w.heap.size, 6, none⟩ = some (.slice (some ⟨bb, off, none⟩) n c3) ∧ w'.cell? ⟨w.heap.size, 7, none⟩ = some (.slice A4 im.length c4)) ∧ w'.cell? ⟨bb, off + k * 4, none⟩ = some (.int .i64 f) ∧ w'.cell? ⟨bb, off + k * 4 + 1, none⟩ = some (.int .i64 t9) ∧ w'.cell? ⟨bb, off + k * 4 + 2, none⟩ = some (.int .i64 m) ∧ w'.cell? ⟨bb, off + k * 4 + 3, none⟩ = some (.slice Ac cs.length cc)) (by kernel_rfl) (by kernel_rfl) rfl (by kernel_rfl) (fun _ _ d _ _ h => by cases d <;> exact h) (by exact ⟨hbd.e8, p0, p1, p2, p3⟩) ?_
    repeat (first | (refine HL.take (v := ?_) (by rfl) ?_ ?_; rotate_left; (· (intro w hSw; (try dsimp only at hSw); go_simp; try with_reducible rfl)); (try simp only [Act.put, List.setIfInBounds_toArray, List.set_cons_zero, List.set_cons_succ])) | (refine HL.skip (by rfl) ?_; (try simp only [Act.put, List.setIfInBounds_toArray, List.set_cons_zero, List.set_cons_succ])))
    refine HL.done ?_
    have p0 : wr.drew.cell? ⟨bb, off + k * 4, none⟩ = _ := p0
    have p1 : wr.drew.cell? ⟨bb, off + k * 4 + 1, none⟩ = _ := p1
    have p2 : wr.drew.cell? ⟨bb, off + k * 4 + 2, none⟩ = _ := p2
    have p3 : wr.drew.cell? ⟨bb, off + k * 4 + 3, none⟩ = _ := p3
    have hnxd := hnx.drew
    go_wp2_with fail
    generalize wr.drew = wr at *
    have hbd : Box wr.drew w.heap.size 36 #[.int .i64 g, .int .i64 b, .int .i64 p, .int .i64 t, .slice A xs.length c, .slice A2 ms.length c2, .slice (some ⟨bb, off, none⟩) n c3, .slice A4 im.length c4] := hbd
    refine wp_region_lex [false, false, false, false, false, false, false, false, false, false, false, false, false, false, false, false, false, false, false] (fun w' => (w'.cell? ⟨w.heap.size, 0, none⟩ = some (.int .i64 g) ∧ w'.cell? ⟨w.heap.size, 1, none⟩ = some (.int .i64 b) ∧ w'.cell? ⟨w.heap.size, 2, none⟩ = some (.int .i64 p) ∧ w'.cell? ⟨w.heap.size, 3, none⟩ = some (.int .i64 t) ∧ w'.cell? ⟨w.heap.size, 4, none⟩ = some (.slice A xs.length c) ∧ w'.cell? ⟨w.heap.size, 5, none⟩ = some (.slice A2 ms.length c2) ∧ w'.cell? ⟨w.heap.size, 6, none⟩ = some (.slice (some ⟨bb, off, none⟩) n c3) ∧ w'.cell? ⟨w.heap.size, 7, none⟩ = some (.slice A4 im.length c4)) ∧ w'.cell? ⟨bb, off + k * 4, none⟩ = some (.int .i64 f) ∧ w'.cell? ⟨bb, off + k * 4 + 1, none⟩ = some (.int .i64 t9) ∧ w'.cell? ⟨bb, off + k * 4 + 2, none⟩ = some (.int .i64 m) ∧ w'.cell? ⟨bb, off + k * 4 + 3, none⟩ = some (.slice Ac cs.length cc)) (by kernel_rfl) (by kernel_rfl) rfl (by kernel_rfl) (fun _ _ d _ _ h => by cases d <;> exact h) (by exact ⟨hbd.e8, p0, p1, p2, p3⟩) ?_
    repeat (first | (refine HL.take (v := ?_) (by rfl) ?_ ?_; rotate_left; (· (intro w hSw; (try dsimp only at hSw); go_simp; try with_reducible rfl)); (try simp only [Act.put, List.setIfInBounds_toArray, List.set_cons_zero, List.set_cons_succ])) | (refine HL.skip (by rfl) ?_; (try simp only [Act.put, List.setIfInBounds_toArray, List.set_cons_zero, List.set_cons_succ])))
    refine HL.done ?_
    go_wp2
    go_roundw
    case rel => exact ⟨k + 1, by omega, by go_num, hnxd.drew, hbd⟩
    case measure => simp [intOf]; omega
end Go.Proofs.Ytihpadelfpogmaa
