/-
  Contract of ChainOK, as the model has it: the walk.
  Conditions: the segments can be read, and have at most 1048576 changes each.
-/
import Derived.Test.YtihpadelfpogmaaChs
namespace Go.Proofs.Ytihpadelfpogmaa
set_option linter.unusedVariables false
set_option maxRecDepth 100000
open Go.RowKit
theorem last0 {w : World} {g : Nat} (h : Box w g 3 #[.int .i64 (-1), .int .i64 (-1), .int .i64 (-1), .int .i64 (-1), .int .i64 (-1), .int .i64 (-1), .int .i64 (-1), .int .i64 (-1)]) : Own w g 3 8 (lsAt noM) := h.own.congr fun i hi => by
  match i, hi with
  | 0, _ => rfl
  | 1, _ => rfl
  | 2, _ => rfl
  | 3, _ => rfl
  | 4, _ => rfl
  | 5, _ => rfl
  | 6, _ => rfl
  | 7, _ => rfl
theorem ls_set {M N : Int → Option Chg} {n0 : Nat} {q1 q2 : Int} (h : N = fun x => if x = ((n0 : Int), q1, q2).1 then some ((n0 : Int), q1, q2) else M x) : ∀ i, i < 8 → (if i = n0 then Value.int .i64 q1 else lsAt M i) = lsAt N i := by
  intro i _
  rw [h]
  unfold lsAt lastV
  by_cases e : i = n0
  · rw [if_pos e]
    simp [e]
  · rw [if_neg e]
    have : ¬ (i : Int) = (n0 : Int) := by omega
    simp [this]
set_option maxRecDepth 100000 in
set_option maxHeartbeats 4000000 in
theorem specChainOK_c (base : Int) (A : Option Addr) (c B : Nat) (gs : List SgR) (w : World) (h : Sgs w B A gs) (hB : B ≤ w.heap.size) (hn : gs.length ≤ 1048576) (hm : ∀ k, k < gs.length → (gs.getD k sgZ).cs.length ≤ 1048576) :
    Calls Try.prog 60 #[.int .i64 base, .slice A gs.length c] w fun e w' => e = .returned (.bool (chainB base gs)) ∧ Nx w w' := by
  obtain ⟨n, Hn⟩ : ∃ n, Hid (gs.length = n) := ⟨_, rfl⟩
  rw [Hn.out] at hn ⊢
  by_cases hl : n ≤ 4096
  case neg =>
    have HR := Lib.hid (chainB_long (base := base) (gs := gs) (by rw [Hn.out]; exact hl))
    have hd : decide (4096 < (n : Int)) = true := by simp; omega
    go_enter Try.func60, Try.ntmps60
    go_wp2
    go_ret
    exact ⟨by rw [HR.out]; rfl, Nx.refl _⟩
  have hd : decide (4096 < (n : Int)) = false := by simp; omega
  have hb0 := Box.new w 3 #[.int .i64 (-1), .int .i64 (-1), .int .i64 (-1), .int .i64 (-1), .int .i64 (-1), .int .i64 (-1), .int .i64 (-1), .int .i64 (-1)]
  have hown0 := last0 hb0
  have hx0 := (Nx.refl w).alloc (.cells #[.int .i64 (-1), .int .i64 (-1), .int .i64 (-1), .int .i64 (-1), .int .i64 (-1), .int .i64 (-1), .int .i64 (-1), .int .i64 (-1)] 3)
  clear hb0
  go_enter Try.func60, Try.ntmps60
  go_wp2_with fail
  generalize w.alloc (.cells #[.int .i64 (-1), .int .i64 (-1), .int .i64 (-1), .int .i64 (-1), .int .i64 (-1), .int .i64 (-1), .int .i64 (-1), .int .i64 (-1)] 3) = W at *
  go_loopw [0, 6] (fun a0 i wr => ∃ k : Nat, k ≤ n ∧ i = .int .i64 k ∧ a0 = .int .i64 (atK base gs k) ∧ Own wr w.heap.size 3 8 (lsAt (mpK gs k)) ∧ LnTo base gs k ∧ Nx w wr) (fun _ i _ => n - (intOf i).toNat)
  case atStart => exact ⟨0, Nat.zero_le _, rfl, rfl, hown0, LnTo.zero _ _, hx0⟩
  case round =>
    obtain ⟨k, hk, rfl, rfl, hown, hln, hnx⟩ := hrel
    obtain ⟨wo, hwo⟩ : ∃ x, x = wr := ⟨_, rfl⟩
    subst hwo
    clear hown0 hx0
    by_cases hlt : k < n
    case neg =>
      obtain rfl : k = n := by omega
      have HR := Lib.hid (show inB 0 999999 (atK base gs k) = chainB base gs by rw [LnTo.chain (by rw [Hn.out]; exact hln) (by rw [Hn.out]; exact hl)]; exact hln.end_)
      go_wp2_with fail
      refine (l01In_c _ _ _ _).mono ?_
      rintro e w' ⟨rfl, rfl⟩
      rw [HR.out]
      go_wp2
      go_ret
      exact ⟨rfl, hnx⟩
    have hlk : k < gs.length := by rw [Hn.out]; exact hlt
    obtain ⟨b, off, rfl, hb, p0, p1, p2, p3⟩ := (h.below hnx hB).row.at4 hlk
    have hrow := (h.below hnx hB).row
    have hch := (h.below hnx hB).chs k hlk
    have hmk' := hm k hlk
    have HNo := Lib.hid (fun (hh : lnk base gs k = false) => chainB_no hlk hh)
    have HYes := Lib.hid (fun (hh : lnk base gs k = true) => hln.succ hh)
    have HA := Lib.hid (show atK base gs (k + 1) = (gs.getD k sgZ).t from rfl)
    have HM := Lib.hid (show mpK gs (k + 1) = noteM (mpK gs k) (gs.getD k sgZ).cs from rfl)
    have HNN := Lib.hid (LnTo.nonN k hln)
    have HPr : ∀ j, k = j + 1 → wo.cell? ⟨b, off + j * 4 + 2, none⟩ = some (.int .i64 (tmK gs k)) := by
      rintro j rfl
      obtain ⟨b', off', e, _, _, _, q2, _⟩ := hrow.at4 (k := j) (by omega)
      injection e with e
      injection e with e1 e2 _
      subst e1 e2
      exact q2
    clear hln hrow
    obtain ⟨⟨f, t, m, A2, cc, cs⟩, Hs⟩ : ∃ s, Hid (gs.getD k sgZ = s) := ⟨_, rfl⟩
    rw [Hs.out] at p0 p1 p2 p3 hch hmk' HA HM
    simp only at p0 p1 p2 p3 hch hmk'
    have bG := Box.new wo 54 #[.int .i64 f, .int .i64 t, .int .i64 m, .slice A2 cs.length cc]
    have hxa := (Nx.refl wo).alloc (.cells #[.int .i64 f, .int .i64 t, .int .i64 m, .slice A2 cs.length cc] 54)
    have hltw := hown.lt
    obtain ⟨a0, Ha⟩ : ∃ q, Hid (atK base gs k = q) := ⟨_, rfl⟩
    obtain ⟨t0, Ht⟩ : ∃ q, Hid (tmK gs k = q) := ⟨_, rfl⟩
    obtain ⟨M, HMk⟩ : ∃ q, Hid (mpK gs k = q) := ⟨_, rfl⟩
    rw [Ha.out]
    rw [HMk.out] at hown HM HNN
    have HBad := Lib.hid (fun hh => HNo.out (lnk_bad (base := base) Hs.out hh))
    have HGood := Lib.hid (fun h1 h2 h3 h4 => HYes.out (lnk_yes (base := base) Hs.out h1 h2 h3 h4))
    rw [Ha.out, Ht.out, HMk.out] at HBad HGood
    rw [Ht.out] at HPr
    have HT0 : k = 0 → inB 0 999999 m = true → t0 ≤ m := by
      rintro rfl hh
      rw [← Ht.out]
      exact tmK_zero hh
    clear HNo HYes hm
    go_wp2_with fail
    generalize hWa : wo.alloc (.cells #[.int .i64 f, .int .i64 t, .int .i64 m, .slice A2 cs.length cc] 54) = wa at *
    clear hWa p0 p1 p2 p3
    have hszB0 := Nat.le_trans hB hnx.size
    have hch0 := h.chs k hlk
    rw [Hs.out] at hch0
    simp only at hch0
    have hnxa : Nx w wa.drew := (hnx.trans hxa).drew
    have hszB : B ≤ wa.drew.heap.size := Nat.le_trans hB hnxa.size
    have hchd : Chs wa.drew B A2 cs := hch0.below hnxa hB
    replace hown : Own wa.drew w.heap.size 3 8 (lsAt M) := hown.nx (hxa.drew)
    have hbw : b < wa.drew.heap.size := by have : wa.drew.heap.size = wa.heap.size := rfl; have := hxa.size; omega
    have hPr1 : ∀ j, k = j + 1 → wa.drew.cell? ⟨b, off + j * 4 + 2, none⟩ = some (.int .i64 t0) := fun j hj => (hxa.cell (p := ⟨b, off + j * 4 + 2, none⟩) (by simp; omega)).trans (HPr j hj)
    replace bG : Box wa.drew wo.heap.size 54 #[.int .i64 f, .int .i64 t, .int .i64 m, .slice A2 cs.length cc] := bG
    have hwr : wo.heap.size < wa.drew.heap.size := bG.lt
    clear HPr hch
    cases hsb : segB f t m cs
    · have HSB := Lib.hid hsb
      have HR := Lib.hid (HBad.out (.inl hsb))
      clear hsb HBad HGood
      refine wp_region_lex [false, true, false, false, false, false, false, false, false, false, false, false, false, false, false, false, false, false, false, false, false, false, false, false] (fun w' => (w'.cell? ⟨wo.heap.size, 0, none⟩ = some (.int .i64 f) ∧ w'.cell? ⟨wo.heap.size, 1, none⟩ = some (.int .i64 t) ∧ w'.cell? ⟨wo.heap.size, 2, none⟩ = some (.int .i64 m) ∧ w'.cell? ⟨wo.heap.size, 3, none⟩ = some (.slice A2 cs.length cc))) (by kernel_rfl) (by kernel_rfl) rfl (by kernel_rfl) (fun _ _ d _ _ h => by cases d <;> exact h) (by exact bG.d4) ?_
      repeat (first | (refine HL.take (v := ?_) (by rfl) ?_ ?_; rotate_left; (· (intro w hSw; (try dsimp only at hSw); go_simp; try with_reducible rfl)); (try simp only [Act.put, List.setIfInBounds_toArray, List.set_cons_zero, List.set_cons_succ])) | (refine HL.skip (by rfl) ?_; (try simp only [Act.put, List.setIfInBounds_toArray, List.set_cons_zero, List.set_cons_succ])))
      refine HL.call (by rfl) (fun K hK => ?_)
      go_simp
      refine (specSegOK_c f t m A2 cc B cs _ hchd hszB hmk').mono ?_; rintro e w1 ⟨rfl, hx1⟩; rw [HSB.out]
      go_wp2_with fail
      refine hK.out _ _ (by exact (bG.nx hx1).d4) ?_
      clear hK K
      try simp only [Act.put, List.setIfInBounds_toArray, List.set_cons_zero, List.set_cons_succ]
      repeat (first | (refine HL.take (v := ?_) (by rfl) ?_ ?_; rotate_left; (· (intro w hSw; (try dsimp only at hSw); go_simp; try with_reducible rfl)); (try simp only [Act.put, List.setIfInBounds_toArray, List.set_cons_zero, List.set_cons_succ])) | (refine HL.skip (by rfl) ?_; (try simp only [Act.put, List.setIfInBounds_toArray, List.set_cons_zero, List.set_cons_succ])))
      refine HL.done ?_
      go_wp2
      go_ret
      exact ⟨by rw [HR.out]; rfl, hnxa.trans hx1⟩
    have HSB := Lib.hid hsb
    have hok : chsB cs = true := segB_chs hsb
    have hmr := (segB_range hsb).2.2.1
    clear hsb
    by_cases hfa : f = a0
    case neg =>
      have HR := Lib.hid (HBad.out (.inr (.inl hfa)))
      have hd1 : (f != a0) = true := by simp [hfa]
      clear HBad HGood hfa
      refine wp_region_lex [false, true, false, false, false, false, false, false, false, false, false, false, false, false, false, false, false, false, false, false, false, false, false, false] (fun w' => (w'.cell? ⟨wo.heap.size, 0, none⟩ = some (.int .i64 f) ∧ w'.cell? ⟨wo.heap.size, 1, none⟩ = some (.int .i64 t) ∧ w'.cell? ⟨wo.heap.size, 2, none⟩ = some (.int .i64 m) ∧ w'.cell? ⟨wo.heap.size, 3, none⟩ = some (.slice A2 cs.length cc))) (by kernel_rfl) (by kernel_rfl) rfl (by kernel_rfl) (fun _ _ d _ _ h => by cases d <;> exact h) (by exact bG.d4) ?_
      repeat (first | (refine HL.take (v := ?_) (by rfl) ?_ ?_; rotate_left; (· (intro w hSw; (try dsimp only at hSw); go_simp; try with_reducible rfl)); (try simp only [Act.put, List.setIfInBounds_toArray, List.set_cons_zero, List.set_cons_succ])) | (refine HL.skip (by rfl) ?_; (try simp only [Act.put, List.setIfInBounds_toArray, List.set_cons_zero, List.set_cons_succ])))
      refine HL.call (by rfl) (fun K hK => ?_)
      go_simp
      refine (specSegOK_c f t m A2 cc B cs _ hchd hszB hmk').mono ?_; rintro e w1 ⟨rfl, hx1⟩; rw [HSB.out]
      go_wp2_with fail
      refine hK.out _ _ (by exact (bG.nx hx1).d4) ?_
      clear hK K
      try simp only [Act.put, List.setIfInBounds_toArray, List.set_cons_zero, List.set_cons_succ]
      repeat (first | (refine HL.take (v := ?_) (by rfl) ?_ ?_; rotate_left; (· (intro w hSw; (try dsimp only at hSw); go_simp; try with_reducible rfl)); (try simp only [Act.put, List.setIfInBounds_toArray, List.set_cons_zero, List.set_cons_succ])) | (refine HL.skip (by rfl) ?_; (try simp only [Act.put, List.setIfInBounds_toArray, List.set_cons_zero, List.set_cons_succ])))
      refine HL.done ?_
      go_wp2
      go_ret
      exact ⟨by rw [HR.out]; rfl, hnxa.trans hx1⟩
    have hd1 : (f != a0) = false := by simp [hfa]
    have HFA := Lib.hid hfa
    clear hfa
    rcases Nat.eq_zero_or_pos k with hk0 | hk0
    · have HTM := Lib.hid (HT0 hk0 hmr)
      have hd2 : decide (0 < k) = false := by simp; omega
      have HGd := Lib.hid (fun h4 => HGood.out HSB.out HFA.out HTM.out h4)
      have HBd := Lib.hid (fun h4 => HBad.out (.inr (.inr (.inr h4))))
      clear HBad HGood HT0 hPr1 hk0
      refine wp_region_lex [false, true, false, false, false, false, false, false, false, false, false, false, false, false, false, false, false, false, false, false, false, false, false, false] (fun w' => (w'.cell? ⟨wo.heap.size, 0, none⟩ = some (.int .i64 f) ∧ w'.cell? ⟨wo.heap.size, 1, none⟩ = some (.int .i64 t) ∧ w'.cell? ⟨wo.heap.size, 2, none⟩ = some (.int .i64 m) ∧ w'.cell? ⟨wo.heap.size, 3, none⟩ = some (.slice A2 cs.length cc))) (by kernel_rfl) (by kernel_rfl) rfl (by kernel_rfl) (fun _ _ d _ _ h => by cases d <;> exact h) (by exact bG.d4) ?_
      repeat (first | (refine HL.take (v := ?_) (by rfl) ?_ ?_; rotate_left; (· (intro w hSw; (try dsimp only at hSw); go_simp; try with_reducible rfl)); (try simp only [Act.put, List.setIfInBounds_toArray, List.set_cons_zero, List.set_cons_succ])) | (refine HL.skip (by rfl) ?_; (try simp only [Act.put, List.setIfInBounds_toArray, List.set_cons_zero, List.set_cons_succ])))
      refine HL.call (by rfl) (fun K hK => ?_)
      go_simp
      refine (specSegOK_c f t m A2 cc B cs _ hchd hszB hmk').mono ?_; rintro e w1 ⟨rfl, hx1⟩; rw [HSB.out]
      go_wp2_with fail
      refine hK.out _ _ (by exact (bG.nx hx1).d4) ?_
      clear hK K
      try simp only [Act.put, List.setIfInBounds_toArray, List.set_cons_zero, List.set_cons_succ]
      repeat (first | (refine HL.take (v := ?_) (by rfl) ?_ ?_; rotate_left; (· (intro w hSw; (try dsimp only at hSw); go_simp; try with_reducible rfl)); (try simp only [Act.put, List.setIfInBounds_toArray, List.set_cons_zero, List.set_cons_succ])) | (refine HL.skip (by rfl) ?_; (try simp only [Act.put, List.setIfInBounds_toArray, List.set_cons_zero, List.set_cons_succ])))
      refine HL.done ?_
      have hX1 := hnxa.trans hx1
      have bG1 := bG.nx hx1
      have hown1 := hown.nx hx1
      clear bG hown hchd hnxa hx1 hszB hbw
      obtain ⟨c0, c1, c2, c3⟩ := bG1.d4
      go_wp2_with fail
      go_loopw [8] (fun i ws => ∃ j2 : Nat, j2 ≤ cs.length ∧ i = .int .i64 j2 ∧ Own ws w.heap.size 3 8 (lsAt (noteM M (cs.take j2))) ∧ Box ws wo.heap.size 54 #[.int .i64 f, .int .i64 t, .int .i64 m, .slice A2 cs.length cc] ∧ OnTo M cs j2 ∧ Nx w ws) (fun i _ => cs.length - (intOf i).toNat)
      case atStart => exact ⟨0, Nat.zero_le _, rfl, hown1, bG1, OnTo.zero _ _, hX1⟩
      case round =>
        obtain ⟨j2, hj2, rfl, hown, bG, hon, hnx2⟩ := hrel
        obtain ⟨ws, hws⟩ : ∃ x, x = wr := ⟨_, rfl⟩
        subst hws
        clear c0 c1 c2 c3 hX1 bG1 hown1
        obtain ⟨c0, c1, c2, c3⟩ := bG.d4
        by_cases hlt2 : j2 < cs.length
        case neg =>
          obtain rfl : j2 = cs.length := by omega
          have HL2 := Lib.hid (HGd.out hon.all)
          rw [List.take_length] at hown
          go_wp2
          go_roundw
          case rel => exact ⟨k + 1, by omega, by go_num, by rw [HA.out], by rw [HM.out]; exact hown, HL2.out, hnx2⟩
          case measure => simp [intOf]; omega
        obtain ⟨b2, off2, rfl, hb2, k0, k1, k2⟩ := (hch0.below hnx2 hB).at_ hlt2
        obtain ⟨hr0, hr1⟩ := (chsB_to hok).rise j2 hlt2
        have HNt := Lib.hid (noteM_at M (chsB_to hok) hlt2)
        have HNs := Lib.hid (noteM_succ M cs hlt2)
        have HoN := Lib.hid (fun (hh : onC M (cs.getD j2 chZ) = false) => HBd.out (onB_no hlt2 hh))
        have HoY := Lib.hid (fun (hh : onC M (cs.getD j2 chZ) = true) => hon.succ hh)
        obtain ⟨⟨q0, q1, q2⟩, Hq⟩ : ∃ q, Hid (cs.getD j2 chZ = q) := ⟨_, rfl⟩
        rw [Hq.out] at k0 k1 k2 hr0 hr1 HNt HNs HoN HoY
        rw [onC_val HNN.out] at HoN HoY
        simp only at hr0 hr1 k0 k1 k2
        obtain ⟨n0, rfl⟩ : ∃ n : Nat, q0 = n := ⟨q0.toNat, by omega⟩
        have hn0 : n0 < 8 := by omega
        have hn1 : (n0 : Int) < 8 := by omega
        obtain ⟨x, Hx⟩ : ∃ x, Hid (lastV M (n0 : Int) = x) := ⟨_, rfl⟩
        rw [Hx.out] at HoN HoY
        have hv : ws.cell? ⟨w.heap.size, n0, none⟩ = some (.int .i64 x) := by
          have h1 := hown.cell hn0
          unfold lsAt lastV at h1
          rw [HNt.out] at h1
          rw [← Hx.out]
          exact h1
        clear hon hr0 hr1 HNt
        have bC := Box.new ws 84 #[.int .i64 (n0 : Int), .int .i64 q1, .int .i64 q2]
        have hxc := (Nx.refl ws).alloc (.cells #[.int .i64 (n0 : Int), .int .i64 q1, .int .i64 q2] 84)
        go_wp2_with fail
        have hownS := hown
        have bGS := bG
        have hwl := hown.lt
        have hv1 : (ws.alloc (.cells #[.int .i64 (n0 : Int), .int .i64 q1, .int .i64 q2] 84)).drew.cell? ⟨w.heap.size, n0, none⟩ = some (.int .i64 x) := (hxc.cell (p := ⟨w.heap.size, n0, none⟩) hown.lt).trans hv
        replace hown : Own (ws.alloc (.cells #[.int .i64 (n0 : Int), .int .i64 q1, .int .i64 q2] 84)).drew w.heap.size 3 8 (lsAt (noteM M (cs.take j2))) := hown.nx hxc.drew
        replace bG : Box (ws.alloc (.cells #[.int .i64 (n0 : Int), .int .i64 q1, .int .i64 q2] 84)).drew wo.heap.size 54 #[.int .i64 f, .int .i64 t, .int .i64 m, .slice (some ⟨b2, off2, none⟩) cs.length cc] := bG.nx hxc.drew
        replace bC : Box (ws.alloc (.cells #[.int .i64 (n0 : Int), .int .i64 q1, .int .i64 q2] 84)).drew ws.heap.size 84 #[.int .i64 (n0 : Int), .int .i64 q1, .int .i64 q2] := bC
        have hnx3 : Nx w (ws.alloc (.cells #[.int .i64 (n0 : Int), .int .i64 q1, .int .i64 q2] 84)).drew := (hnx2.trans hxc).drew
        clear c0 c1 c2 c3 k0 k1 k2 hv
        by_cases hx0 : x < 0
        · have hd5 : decide (0 ≤ x) = false := by simp; omega
          have HO := Lib.hid (HoY.out (by rw [decide_eq_true hx0]; rfl))
          clear hx0 HoN HoY
          refine wp_region_lex [false, false, false, false, false, false, false, false, false, false, false, false, false, false, false, false] (fun w' => (w'.cell? ⟨ws.heap.size, 0, none⟩ = some (.int .i64 (n0 : Int)) ∧ w'.cell? ⟨ws.heap.size, 1, none⟩ = some (.int .i64 q1) ∧ w'.cell? ⟨ws.heap.size, 2, none⟩ = some (.int .i64 q2)) ∧ w'.cell? ⟨w.heap.size, n0, none⟩ = some (.int .i64 x)) (by kernel_rfl) (by kernel_rfl) rfl (by kernel_rfl) (fun _ _ d _ _ h => by cases d <;> exact h) (by exact ⟨bC.d3, hv1⟩) ?_
          repeat (first | (refine HL.take (v := ?_) (by rfl) ?_ ?_; rotate_left; (· (intro w hSw; (try dsimp only at hSw); go_simp; try with_reducible rfl)); (try simp only [Act.put, List.setIfInBounds_toArray, List.set_cons_zero, List.set_cons_succ])) | (refine HL.skip (by rfl) ?_; (try simp only [Act.put, List.setIfInBounds_toArray, List.set_cons_zero, List.set_cons_succ])))
          refine HL.done ?_
          obtain ⟨e0, e1, e2⟩ := bC.d3
          have hz := hown.frozen n0
          clear hown bG hnx3
          go_wp2
          go_roundw
          case rel =>
            refine ⟨j2 + 1, by omega, by go_num, ?_, (bGS.far (p := ⟨w.heap.size, n0, none⟩) (by simp; omega) _).alloc _, HO.out, ((hnx2.setCell (p := ⟨w.heap.size, n0, none⟩) (Nat.le_refl _) _).alloc _).drew⟩
            exact ((hownS.set hn0 (.int .i64 q1)).alloc _).congr (ls_set HNs.out)
          case measure => simp [intOf]; omega
        have hd5 : decide (0 ≤ x) = true := by simp; omega
        by_cases hxq : x = q2
        · have hd6 : (x != q2) = false := by simp [hxq]
          have HO := Lib.hid (HoY.out (by rw [decide_eq_true hxq]; simp))
          clear hx0 hxq HoN HoY
          refine wp_region_lex [false, false, false, false, false, false, false, false, false, false, false, false, false, false, false, false] (fun w' => (w'.cell? ⟨ws.heap.size, 0, none⟩ = some (.int .i64 (n0 : Int)) ∧ w'.cell? ⟨ws.heap.size, 1, none⟩ = some (.int .i64 q1) ∧ w'.cell? ⟨ws.heap.size, 2, none⟩ = some (.int .i64 q2)) ∧ w'.cell? ⟨w.heap.size, n0, none⟩ = some (.int .i64 x)) (by kernel_rfl) (by kernel_rfl) rfl (by kernel_rfl) (fun _ _ d _ _ h => by cases d <;> exact h) (by exact ⟨bC.d3, hv1⟩) ?_
          repeat (first | (refine HL.take (v := ?_) (by rfl) ?_ ?_; rotate_left; (· (intro w hSw; (try dsimp only at hSw); go_simp; try with_reducible rfl)); (try simp only [Act.put, List.setIfInBounds_toArray, List.set_cons_zero, List.set_cons_succ])) | (refine HL.skip (by rfl) ?_; (try simp only [Act.put, List.setIfInBounds_toArray, List.set_cons_zero, List.set_cons_succ])))
          refine HL.done ?_
          obtain ⟨e0, e1, e2⟩ := bC.d3
          have hz := hown.frozen n0
          clear hown bG hnx3
          go_wp2
          go_roundw
          case rel =>
            refine ⟨j2 + 1, by omega, by go_num, ?_, (bGS.far (p := ⟨w.heap.size, n0, none⟩) (by simp; omega) _).alloc _, HO.out, ((hnx2.setCell (p := ⟨w.heap.size, n0, none⟩) (Nat.le_refl _) _).alloc _).drew⟩
            exact ((hownS.set hn0 (.int .i64 q1)).alloc _).congr (ls_set HNs.out)
          case measure => simp [intOf]; omega
        · have hd6 : (x != q2) = true := by simp [hxq]
          have HO := Lib.hid (HoN.out (by rw [decide_eq_false hx0, decide_eq_false hxq]; rfl))
          clear hx0 hxq HoN HoY
          refine wp_region_lex [false, false, false, false, false, false, false, false, false, false, false, false, false, false, false, false] (fun w' => (w'.cell? ⟨ws.heap.size, 0, none⟩ = some (.int .i64 (n0 : Int)) ∧ w'.cell? ⟨ws.heap.size, 1, none⟩ = some (.int .i64 q1) ∧ w'.cell? ⟨ws.heap.size, 2, none⟩ = some (.int .i64 q2)) ∧ w'.cell? ⟨w.heap.size, n0, none⟩ = some (.int .i64 x)) (by kernel_rfl) (by kernel_rfl) rfl (by kernel_rfl) (fun _ _ d _ _ h => by cases d <;> exact h) (by exact ⟨bC.d3, hv1⟩) ?_
          repeat (first | (refine HL.take (v := ?_) (by rfl) ?_ ?_; rotate_left; (· (intro w hSw; (try dsimp only at hSw); go_simp; try with_reducible rfl)); (try simp only [Act.put, List.setIfInBounds_toArray, List.set_cons_zero, List.set_cons_succ])) | (refine HL.skip (by rfl) ?_; (try simp only [Act.put, List.setIfInBounds_toArray, List.set_cons_zero, List.set_cons_succ])))
          refine HL.done ?_
          go_wp2
          go_ret
          exact ⟨by rw [HO.out]; rfl, hnx3⟩
    obtain ⟨j, Hj⟩ : ∃ j, Hid (k = j + 1) := ⟨k - 1, Lib.hid (by omega)⟩
    have hPr := hPr1 j Hj.out
    have hd3 : decide (0 < k) = true := by have := Hj.out; simp; omega
    have hsub : (k : Int) - 1 = (j : Int) := by have := Hj.out; omega
    have hjn : (j : Int) < (n : Int) := by have := Hj.out; omega
    have hwj : IntKind.i64.wrap (j : Int) = (j : Int) := IntWalk.i64_in _ (by omega)
    clear hPr1 HT0 hk0
    by_cases htm : t0 ≤ m
    case neg =>
      have HR := Lib.hid (HBad.out (.inr (.inr (.inl (by omega)))))
      have hd2 : decide (m < t0) = true := by simp; omega
      clear HBad HGood htm
      refine wp_region_lex [false, true, false, false, false, false, false, false, false, false, false, false, false, false, false, false, false, false, false, false, false, false, false, false] (fun w' => (w'.cell? ⟨wo.heap.size, 0, none⟩ = some (.int .i64 f) ∧ w'.cell? ⟨wo.heap.size, 1, none⟩ = some (.int .i64 t) ∧ w'.cell? ⟨wo.heap.size, 2, none⟩ = some (.int .i64 m) ∧ w'.cell? ⟨wo.heap.size, 3, none⟩ = some (.slice A2 cs.length cc)) ∧ w'.cell? ⟨b, off + j * 4 + 2, none⟩ = some (.int .i64 t0)) (by kernel_rfl) (by kernel_rfl) rfl (by kernel_rfl) (fun _ _ d _ _ h => by cases d <;> exact h) (by exact ⟨bG.d4, hPr⟩) ?_
      repeat (first | (refine HL.take (v := ?_) (by rfl) ?_ ?_; rotate_left; (· (intro w hSw; (try dsimp only at hSw); go_simp; try with_reducible rfl)); (try simp only [Act.put, List.setIfInBounds_toArray, List.set_cons_zero, List.set_cons_succ])) | (refine HL.skip (by rfl) ?_; (try simp only [Act.put, List.setIfInBounds_toArray, List.set_cons_zero, List.set_cons_succ])))
      refine HL.call (by rfl) (fun K hK => ?_)
      go_simp
      refine (specSegOK_c f t m A2 cc B cs _ hchd hszB hmk').mono ?_; rintro e w1 ⟨rfl, hx1⟩; rw [HSB.out]
      go_wp2_with fail
      refine hK.out _ _ (by exact ⟨(bG.nx hx1).d4, (hx1.cell (p := ⟨b, off + j * 4 + 2, none⟩) hbw).trans hPr⟩) ?_
      clear hK K
      try simp only [Act.put, List.setIfInBounds_toArray, List.set_cons_zero, List.set_cons_succ]
      repeat (first | (refine HL.take (v := ?_) (by rfl) ?_ ?_; rotate_left; (· (intro w hSw; (try dsimp only at hSw); go_simp; try with_reducible rfl)); (try simp only [Act.put, List.setIfInBounds_toArray, List.set_cons_zero, List.set_cons_succ])) | (refine HL.skip (by rfl) ?_; (try simp only [Act.put, List.setIfInBounds_toArray, List.set_cons_zero, List.set_cons_succ])))
      refine HL.done ?_
      go_wp2
      go_ret
      exact ⟨by rw [HR.out]; rfl, hnxa.trans hx1⟩
    have hd2 : decide (m < t0) = false := by simp; omega
    have HGd := Lib.hid (fun h4 => HGood.out HSB.out HFA.out htm h4)
    have HBd := Lib.hid (fun h4 => HBad.out (.inr (.inr (.inr h4))))
    clear HBad HGood htm
    refine wp_region_lex [false, true, false, false, false, false, false, false, false, false, false, false, false, false, false, false, false, false, false, false, false, false, false, false] (fun w' => (w'.cell? ⟨wo.heap.size, 0, none⟩ = some (.int .i64 f) ∧ w'.cell? ⟨wo.heap.size, 1, none⟩ = some (.int .i64 t) ∧ w'.cell? ⟨wo.heap.size, 2, none⟩ = some (.int .i64 m) ∧ w'.cell? ⟨wo.heap.size, 3, none⟩ = some (.slice A2 cs.length cc)) ∧ w'.cell? ⟨b, off + j * 4 + 2, none⟩ = some (.int .i64 t0)) (by kernel_rfl) (by kernel_rfl) rfl (by kernel_rfl) (fun _ _ d _ _ h => by cases d <;> exact h) (by exact ⟨bG.d4, hPr⟩) ?_
    repeat (first | (refine HL.take (v := ?_) (by rfl) ?_ ?_; rotate_left; (· (intro w hSw; (try dsimp only at hSw); go_simp; try with_reducible rfl)); (try simp only [Act.put, List.setIfInBounds_toArray, List.set_cons_zero, List.set_cons_succ])) | (refine HL.skip (by rfl) ?_; (try simp only [Act.put, List.setIfInBounds_toArray, List.set_cons_zero, List.set_cons_succ])))
    refine HL.call (by rfl) (fun K hK => ?_)
    go_simp
    refine (specSegOK_c f t m A2 cc B cs _ hchd hszB hmk').mono ?_; rintro e w1 ⟨rfl, hx1⟩; rw [HSB.out]
    go_wp2_with fail
    refine hK.out _ _ (by exact ⟨(bG.nx hx1).d4, (hx1.cell (p := ⟨b, off + j * 4 + 2, none⟩) hbw).trans hPr⟩) ?_
    clear hK K
    try simp only [Act.put, List.setIfInBounds_toArray, List.set_cons_zero, List.set_cons_succ]
    repeat (first | (refine HL.take (v := ?_) (by rfl) ?_ ?_; rotate_left; (· (intro w hSw; (try dsimp only at hSw); go_simp; try with_reducible rfl)); (try simp only [Act.put, List.setIfInBounds_toArray, List.set_cons_zero, List.set_cons_succ])) | (refine HL.skip (by rfl) ?_; (try simp only [Act.put, List.setIfInBounds_toArray, List.set_cons_zero, List.set_cons_succ])))
    refine HL.done ?_
    have hX1 := hnxa.trans hx1
    have bG1 := bG.nx hx1
    have hown1 := hown.nx hx1
    clear bG hown hchd hnxa hx1 hszB hbw
    obtain ⟨c0, c1, c2, c3⟩ := bG1.d4
    go_wp2_with fail
    go_loopw [8] (fun i ws => ∃ j2 : Nat, j2 ≤ cs.length ∧ i = .int .i64 j2 ∧ Own ws w.heap.size 3 8 (lsAt (noteM M (cs.take j2))) ∧ Box ws wo.heap.size 54 #[.int .i64 f, .int .i64 t, .int .i64 m, .slice A2 cs.length cc] ∧ OnTo M cs j2 ∧ Nx w ws) (fun i _ => cs.length - (intOf i).toNat)
    case atStart => exact ⟨0, Nat.zero_le _, rfl, hown1, bG1, OnTo.zero _ _, hX1⟩
    case round =>
      obtain ⟨j2, hj2, rfl, hown, bG, hon, hnx2⟩ := hrel
      obtain ⟨ws, hws⟩ : ∃ x, x = wr := ⟨_, rfl⟩
      subst hws
      clear c0 c1 c2 c3 hX1 bG1 hown1
      obtain ⟨c0, c1, c2, c3⟩ := bG.d4
      by_cases hlt2 : j2 < cs.length
      case neg =>
        obtain rfl : j2 = cs.length := by omega
        have HL2 := Lib.hid (HGd.out hon.all)
        rw [List.take_length] at hown
        go_wp2
        go_roundw
        case rel => exact ⟨k + 1, by omega, by go_num, by rw [HA.out], by rw [HM.out]; exact hown, HL2.out, hnx2⟩
        case measure => simp [intOf]; omega
      obtain ⟨b2, off2, rfl, hb2, k0, k1, k2⟩ := (hch0.below hnx2 hB).at_ hlt2
      obtain ⟨hr0, hr1⟩ := (chsB_to hok).rise j2 hlt2
      have HNt := Lib.hid (noteM_at M (chsB_to hok) hlt2)
      have HNs := Lib.hid (noteM_succ M cs hlt2)
      have HoN := Lib.hid (fun (hh : onC M (cs.getD j2 chZ) = false) => HBd.out (onB_no hlt2 hh))
      have HoY := Lib.hid (fun (hh : onC M (cs.getD j2 chZ) = true) => hon.succ hh)
      obtain ⟨⟨q0, q1, q2⟩, Hq⟩ : ∃ q, Hid (cs.getD j2 chZ = q) := ⟨_, rfl⟩
      rw [Hq.out] at k0 k1 k2 hr0 hr1 HNt HNs HoN HoY
      rw [onC_val HNN.out] at HoN HoY
      simp only at hr0 hr1 k0 k1 k2
      obtain ⟨n0, rfl⟩ : ∃ n : Nat, q0 = n := ⟨q0.toNat, by omega⟩
      have hn0 : n0 < 8 := by omega
      have hn1 : (n0 : Int) < 8 := by omega
      obtain ⟨x, Hx⟩ : ∃ x, Hid (lastV M (n0 : Int) = x) := ⟨_, rfl⟩
      rw [Hx.out] at HoN HoY
      have hv : ws.cell? ⟨w.heap.size, n0, none⟩ = some (.int .i64 x) := by
        have h1 := hown.cell hn0
        unfold lsAt lastV at h1
        rw [HNt.out] at h1
        rw [← Hx.out]
        exact h1
      clear hon hr0 hr1 HNt
      have bC := Box.new ws 84 #[.int .i64 (n0 : Int), .int .i64 q1, .int .i64 q2]
      have hxc := (Nx.refl ws).alloc (.cells #[.int .i64 (n0 : Int), .int .i64 q1, .int .i64 q2] 84)
      go_wp2_with fail
      have hownS := hown
      have bGS := bG
      have hwl := hown.lt
      have hv1 : (ws.alloc (.cells #[.int .i64 (n0 : Int), .int .i64 q1, .int .i64 q2] 84)).drew.cell? ⟨w.heap.size, n0, none⟩ = some (.int .i64 x) := (hxc.cell (p := ⟨w.heap.size, n0, none⟩) hown.lt).trans hv
      replace hown : Own (ws.alloc (.cells #[.int .i64 (n0 : Int), .int .i64 q1, .int .i64 q2] 84)).drew w.heap.size 3 8 (lsAt (noteM M (cs.take j2))) := hown.nx hxc.drew
      replace bG : Box (ws.alloc (.cells #[.int .i64 (n0 : Int), .int .i64 q1, .int .i64 q2] 84)).drew wo.heap.size 54 #[.int .i64 f, .int .i64 t, .int .i64 m, .slice (some ⟨b2, off2, none⟩) cs.length cc] := bG.nx hxc.drew
      replace bC : Box (ws.alloc (.cells #[.int .i64 (n0 : Int), .int .i64 q1, .int .i64 q2] 84)).drew ws.heap.size 84 #[.int .i64 (n0 : Int), .int .i64 q1, .int .i64 q2] := bC
      have hnx3 : Nx w (ws.alloc (.cells #[.int .i64 (n0 : Int), .int .i64 q1, .int .i64 q2] 84)).drew := (hnx2.trans hxc).drew
      clear c0 c1 c2 c3 k0 k1 k2 hv
      by_cases hx0 : x < 0
      · have hd5 : decide (0 ≤ x) = false := by simp; omega
        have HO := Lib.hid (HoY.out (by rw [decide_eq_true hx0]; rfl))
        clear hx0 HoN HoY
        refine wp_region_lex [false, false, false, false, false, false, false, false, false, false, false, false, false, false, false, false] (fun w' => (w'.cell? ⟨ws.heap.size, 0, none⟩ = some (.int .i64 (n0 : Int)) ∧ w'.cell? ⟨ws.heap.size, 1, none⟩ = some (.int .i64 q1) ∧ w'.cell? ⟨ws.heap.size, 2, none⟩ = some (.int .i64 q2)) ∧ w'.cell? ⟨w.heap.size, n0, none⟩ = some (.int .i64 x)) (by kernel_rfl) (by kernel_rfl) rfl (by kernel_rfl) (fun _ _ d _ _ h => by cases d <;> exact h) (by exact ⟨bC.d3, hv1⟩) ?_
        repeat (first | (refine HL.take (v := ?_) (by rfl) ?_ ?_; rotate_left; (· (intro w hSw; (try dsimp only at hSw); go_simp; try with_reducible rfl)); (try simp only [Act.put, List.setIfInBounds_toArray, List.set_cons_zero, List.set_cons_succ])) | (refine HL.skip (by rfl) ?_; (try simp only [Act.put, List.setIfInBounds_toArray, List.set_cons_zero, List.set_cons_succ])))
        refine HL.done ?_
        obtain ⟨e0, e1, e2⟩ := bC.d3
        have hz := hown.frozen n0
        clear hown bG hnx3
        go_wp2
        go_roundw
        case rel =>
          refine ⟨j2 + 1, by omega, by go_num, ?_, (bGS.far (p := ⟨w.heap.size, n0, none⟩) (by simp; omega) _).alloc _, HO.out, ((hnx2.setCell (p := ⟨w.heap.size, n0, none⟩) (Nat.le_refl _) _).alloc _).drew⟩
          exact ((hownS.set hn0 (.int .i64 q1)).alloc _).congr (ls_set HNs.out)
        case measure => simp [intOf]; omega
      have hd5 : decide (0 ≤ x) = true := by simp; omega
      by_cases hxq : x = q2
      · have hd6 : (x != q2) = false := by simp [hxq]
        have HO := Lib.hid (HoY.out (by rw [decide_eq_true hxq]; simp))
        clear hx0 hxq HoN HoY
        refine wp_region_lex [false, false, false, false, false, false, false, false, false, false, false, false, false, false, false, false] (fun w' => (w'.cell? ⟨ws.heap.size, 0, none⟩ = some (.int .i64 (n0 : Int)) ∧ w'.cell? ⟨ws.heap.size, 1, none⟩ = some (.int .i64 q1) ∧ w'.cell? ⟨ws.heap.size, 2, none⟩ = some (.int .i64 q2)) ∧ w'.cell? ⟨w.heap.size, n0, none⟩ = some (.int .i64 x)) (by kernel_rfl) (by kernel_rfl) rfl (by kernel_rfl) (fun _ _ d _ _ h => by cases d <;> exact h) (by exact ⟨bC.d3, hv1⟩) ?_
        repeat (first | (refine HL.take (v := ?_) (by rfl) ?_ ?_; rotate_left; (· (intro w hSw; (try dsimp only at hSw); go_simp; try with_reducible rfl)); (try simp only [Act.put, List.setIfInBounds_toArray, List.set_cons_zero, List.set_cons_succ])) | (refine HL.skip (by rfl) ?_; (try simp only [Act.put, List.setIfInBounds_toArray, List.set_cons_zero, List.set_cons_succ])))
        refine HL.done ?_
        obtain ⟨e0, e1, e2⟩ := bC.d3
        have hz := hown.frozen n0
        clear hown bG hnx3
        go_wp2
        go_roundw
        case rel =>
          refine ⟨j2 + 1, by omega, by go_num, ?_, (bGS.far (p := ⟨w.heap.size, n0, none⟩) (by simp; omega) _).alloc _, HO.out, ((hnx2.setCell (p := ⟨w.heap.size, n0, none⟩) (Nat.le_refl _) _).alloc _).drew⟩
          exact ((hownS.set hn0 (.int .i64 q1)).alloc _).congr (ls_set HNs.out)
        case measure => simp [intOf]; omega
      · have hd6 : (x != q2) = true := by simp [hxq]
        have HO := Lib.hid (HoN.out (by rw [decide_eq_false hx0, decide_eq_false hxq]; rfl))
        clear hx0 hxq HoN HoY
        refine wp_region_lex [false, false, false, false, false, false, false, false, false, false, false, false, false, false, false, false] (fun w' => (w'.cell? ⟨ws.heap.size, 0, none⟩ = some (.int .i64 (n0 : Int)) ∧ w'.cell? ⟨ws.heap.size, 1, none⟩ = some (.int .i64 q1) ∧ w'.cell? ⟨ws.heap.size, 2, none⟩ = some (.int .i64 q2)) ∧ w'.cell? ⟨w.heap.size, n0, none⟩ = some (.int .i64 x)) (by kernel_rfl) (by kernel_rfl) rfl (by kernel_rfl) (fun _ _ d _ _ h => by cases d <;> exact h) (by exact ⟨bC.d3, hv1⟩) ?_
        repeat (first | (refine HL.take (v := ?_) (by rfl) ?_ ?_; rotate_left; (· (intro w hSw; (try dsimp only at hSw); go_simp; try with_reducible rfl)); (try simp only [Act.put, List.setIfInBounds_toArray, List.set_cons_zero, List.set_cons_succ])) | (refine HL.skip (by rfl) ?_; (try simp only [Act.put, List.setIfInBounds_toArray, List.set_cons_zero, List.set_cons_succ])))
        refine HL.done ?_
        go_wp2
        go_ret
        exact ⟨by rw [HO.out]; rfl, hnx3⟩
end Go.Proofs.Ytihpadelfpogmaa
